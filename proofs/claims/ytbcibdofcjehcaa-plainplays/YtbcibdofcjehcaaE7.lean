import Derived.Test.YtbcibdofcjehcaaE6
namespace Go.Proofs.Ytbcibdofcjehcaa
open Go.RowKit Go.Arb
set_option linter.unusedVariables false
set_option linter.unusedSimpArgs false

theorem Tr.Wf.up_nodup {T : Tr} (h : T.Wf) (u : Nat) : (T.up u).Nodup := by
  by_cases e : T.par u = -2
  · rw [T.up_gone e]; exact List.nodup_nil
  · exact (h.spec e).nodup
theorem take_hit {l : List Nat} {k i : Nat} (hk : k < l.length) (nd : l.Nodup) (he : l[k] = i) : i ∉ l.take k ∧ i ∈ l.take (k + 1) := by
  subst he
  constructor
  · intro hm
    obtain ⟨j, hj, e⟩ := List.mem_iff_getElem.1 hm
    rw [List.length_take] at hj
    rw [List.getElem_take] at e
    have := (List.getElem_inj nd).1 e
    omega
  · rw [List.take_add_one, List.mem_append]; right; simp [hk]
theorem take_miss {l : List Nat} {k i : Nat} (hk : k < l.length) (he : l[k] ≠ i) : i ∈ l.take (k + 1) ↔ i ∈ l.take k := by
  rw [List.take_add_one, List.mem_append]
  constructor
  · rintro (h | h)
    · exact h
    · simp [hk] at h; exact absurd h.symm he
  · exact .inl
theorem Tr.Wf.tot_pos {T : Tr} (h : T.Wf) {i : Nat} (hi : T.par i ≠ -2) : 0 < T.tot (fun _ => 1) i := by
  rw [← (Tr.subI_tot hi).1, Tr.subI_c hi]
  have : i ∈ T.sub i := by
    rw [Tr.sub, List.mem_filter]
    exact ⟨List.mem_range.2 (h.lt i hi), by simpa using h.self hi⟩
  have := List.length_pos_of_mem this
  omega
theorem tot_step (F : Nat → Int) (m : Nat) (a x : Int) (ha : a = sumTo F m) (hx : x = F m) : a + x = sumTo F (m + 1) := by rw [ha, hx]; rfl

set_option maxHeartbeats 4000000 in
theorem rsub_any (x : Int) (w : World) (q bt bu bw n : Nat) (ft : Nat → Bool) (fu fw : Nat → Int) (T : Tr) (h : RIn w q bt bu bw n ft fu fw) (hs : Says T n ft fu fw) :
    Calls Try.prog 34 #[.pointer (some ⟨q, 0, none⟩), .int .i64 x] w fun e w' => e = .returned (.tuple #[.int .i64 (T.subI x).c, .int .i64 (T.subI x).s, .bool (T.hasI x)]) ∧ Below w.heap.size w w' := by
  have hH := hide (fun (w1 : World) (hb : Below w.heap.size w w1) => rhas_any x w1 q bt bu bw n ft fu fw T (h.below hb) hs)
  cases hh : T.hasI x
  · rw [show T.subI x = zero from by simp [Tr.subI, hh]]
    rw [hh] at hH
    clear h hs hh
    go_enter Try.func34, Try.ntmps34
    go_wp2
    go_loopw [7, 8, 9] (fun a b c w' => a = .int .i64 0 ∧ b = .int .i64 0 ∧ c = .int .i64 0 ∧ Hid (w' = w)) (fun _ _ _ _ => 0)
    case atStart => exact ⟨rfl, rfl, rfl, rfl⟩
    case round =>
      obtain ⟨rfl, rfl, rfl, HW⟩ := hrel
      have e := unhide HW
      subst e
      go_wp2_with fail
      refine (unhide hH _ (Below.refl _ _)).mono ?_
      rintro e w' ⟨rfl, rfl⟩
      go_wp2
      exact bodyPost_ret (v := .tuple #[.int .i64 0, .int .i64 0, .bool false]) (by simp [results, Try.results34, go_sem]) rfl ⟨rfl, Below.refl _ _⟩
  · rw [hh] at hH
    obtain ⟨i, rfl, hi⟩ := Tr.hasI_true hh
    have HA := hide (fun (m : Nat) (w1 : World) (hb : Below w.heap.size w w1) => above_any (m : Int) w1 q bt bu bw n ft fu fw T (h.below hb) hs)
    have hn := hs.le
    obtain ⟨c0, c1, c2⟩ := h.cells
    have hq : q < w.heap.size := blk_lt h.blk
    have hbw : bw < w.heap.size := h.rw.lt
    have HC : Hid (∀ y, y < n → w.cell? ⟨bw, y, none⟩ = some (.int .i64 (fw y)) ∧ (T.par y ≠ -2 → fw y = T.wt y)) := fun y hy => ⟨by rw [h.rw.cell hy, inV], hs.wt y⟩
    have HN := hide hs.wf.up_nodup
    have HWt := hide hs.fit.wt
    have HT : Hid ((T.subI i).c = sumTo (fun u => if i ∈ T.up u then 1 else 0) n ∧ (T.subI i).s = sumTo (fun u => if i ∈ T.up u then T.wt u else 0) n ∧ 0 < (T.subI i).c) := by
      refine ⟨?_, ?_, ?_⟩
      · rw [(Tr.subI_tot hi).1, Tr.tot, hs.nn]
      · rw [(Tr.subI_tot hi).2, Tr.tot, hs.nn]
      · rw [(Tr.subI_tot hi).1]; exact hs.wf.tot_pos hi
    clear h hs hh hi c0
    go_enter Try.func34, Try.ntmps34
    go_wp2
    go_loopw [7, 8, 9] (fun a b c w' => ∃ (m : Nat) (A B : Int), m ≤ n ∧ a = .int .i64 A ∧ b = .int .i64 B ∧ c = .int .i64 (m : Int) ∧ 0 ≤ A ∧ A ≤ m ∧ (m : Int) * (-1099511627776) ≤ B ∧ B ≤ (m : Int) * 1099511627776 ∧ Hid (Below w.heap.size w w' ∧ A = sumTo (fun u => if i ∈ T.up u then 1 else 0) m ∧ B = sumTo (fun u => if i ∈ T.up u then T.wt u else 0) m)) (fun _ _ c _ => n - (intOf c).toNat)
    case atStart => exact ⟨0, 0, 0, by omega, rfl, rfl, rfl, by omega, by omega, by omega, by omega, Below.refl _ _, rfl, rfl⟩
    case round =>
      obtain ⟨m, A, B, hm, rfl, rfl, rfl, a1, a2, b1, b2, HL⟩ := hrel
      have hq2 := hide (unhide hH wr (unhide HL).1)
      have c1' := c1
      rw [← (unhide HL).1.cell (p := ⟨q, 1, none⟩) hq] at c1'
      by_cases hlt : m < n
      · have e1 : (m : Int) < (n : Int) := by omega
        have e2 : (0 : Int) ≤ (m : Int) := by omega
        have hA1 := hide (unhide HA m wr (unhide HL).1)
        go_wp2_with fail
        refine (unhide hq2).mono ?_
        rintro e w' ⟨rfl, rfl⟩
        go_wp2_with fail
        refine (unhide hA1).mono ?_
        rintro e w2 ⟨⟨s1, rfl, r1⟩, b3⟩
        rw [Tr.upI_nat] at r1
        obtain ⟨xl, cl, rfl, p1, p2, p3⟩ := r1.form
        have HB2 := hide ((unhide HL).1.trans (b3.mono (unhide HL).1.size))
        have HP := hide p3
        have HS := hide (unhide HL).2
        have HD := hide (unhide HN m)
        obtain ⟨dw, dw2⟩ := unhide HC m hlt
        have HDW : Hid (i ∈ T.up m → fw m = T.wt m) := fun hm => dw2 (Tr.there hm)
        have hwt := unhide HWt m
        have c2' := c2
        rw [← (unhide HB2).cell (p := ⟨q, 2, none⟩) hq] at c2'
        rw [← (unhide HB2).cell (p := ⟨bw, m, none⟩) hbw] at dw
        have hq9 : q < w2.heap.size := Nat.lt_of_lt_of_le hq (unhide HB2).size
        have hbw9 : bw < w2.heap.size := Nat.lt_of_lt_of_le hbw (unhide HB2).size
        unfold maxLen at p2
        generalize hLl : (T.up m).length = Ll at p1 ⊢
        have HLL := hide hLl
        clear hLl r1 p3 b3 HL hA1 hq2 c1' dw2
        generalize hWm : T.wt m = W at *
        have HWM := hide hWm
        clear hWm
        generalize fw m = W' at *
        go_wp2
        go_loopw [7, 8, 11] (fun a b c w' => ∃ (k : Nat) (A' B' : Int), k ≤ Ll ∧ a = .int .i64 A' ∧ b = .int .i64 B' ∧ c = .int .i64 (k : Int) ∧ Hid (Below w2.heap.size w2 w' ∧ A' = A + (if i ∈ (T.up m).take k then 1 else 0) ∧ B' = B + (if i ∈ (T.up m).take k then W else 0))) (fun _ _ c _ => Ll - (intOf c).toNat)
        case atStart => exact ⟨0, A, B, by omega, rfl, rfl, rfl, Below.refl _ _, by simp, by simp⟩
        case round =>
          obtain ⟨k, A', B', hk, rfl, rfl, rfl, HK⟩ := hrel
          by_cases hkl : k < Ll
          · have e3 : (k : Int) < (Ll : Int) := by omega
            have e4 : (0 : Int) ≤ (k : Int) := by omega
            have hkl' : k < (T.up m).length := by rw [unhide HLL]; exact hkl
            obtain ⟨gm, rfl, hgm, _, cm9⟩ := unhide HP (by omega)
            have dm := cm9 k hkl'
            clear cm9
            rw [← (unhide HK).1.cell (p := ⟨gm, k, none⟩) hgm] at dm
            by_cases he : (T.up m)[k] = i
            · obtain ⟨t1, t2⟩ := take_hit hkl' (unhide HD) he
              have hin : i ∈ T.up m := he ▸ List.getElem_mem hkl'
              have hW := unhide HDW hin
              obtain ⟨k1, k2, k3⟩ := unhide HK
              rw [if_neg t1] at k2 k3
              have hA : A' = A := by omega
              have hB : B' = B := by omega
              rw [he] at dm
              rw [hW] at dw
              rw [← k1.cell (p := ⟨q, 2, none⟩) hq9] at c2'
              rw [← k1.cell (p := ⟨bw, m, none⟩) hbw9] at dw
              have HQ := hide (And.intro k1 t2)
              clear k1 k2 k3 t1 t2 hin HDW HK he hkl' hW
              subst hA
              subst hB
              have v1 : IntKind.i64.wrap (A' + 1) = A' + 1 := IntWalk.i64_in _ (by omega)
              have v2 : IntKind.i64.wrap (B' + W) = B' + W := IntWalk.i64_in _ (by omega)
              go_wp2
              go_quiet (fail)
              go_wp2
              go_roundw
              case rel =>
                refine ⟨k + 1, A' + 1, B' + W, by omega, ?_, ?_, by go_num, below_drewN (unhide HQ).1 _, by rw [if_pos (unhide HQ).2], by rw [if_pos (unhide HQ).2]⟩
                · go_num
                · go_num
              case measure => simp [intOf]; omega
            · have ht := take_miss hkl' he
              have he' : (((T.up m)[k] : Nat) : Int) ≠ (i : Int) := by omega
              generalize (T.up m)[k] = y at *
              have he2 : ((y : Int) == (i : Int)) = false := beq_eq_false_iff_ne.2 he'
              have HQ := hide (And.intro (unhide HK) ht)
              clear HK ht he he'
              go_wp2
              go_roundw
              case rel =>
                obtain ⟨⟨k1, k2, k3⟩, ht⟩ := unhide HQ
                refine ⟨k + 1, A', B', by omega, rfl, rfl, by go_num, k1, ?_, ?_⟩
                · rw [k2]; simp only [ht]
                · rw [k3]; simp only [ht]
              case measure => simp [intOf]; omega
          · have e3 : ¬ (k : Int) < (Ll : Int) := by omega
            obtain ⟨k1, k2, k3⟩ := unhide HK
            rw [List.take_of_length_le (by rw [unhide HLL]; omega)] at k2 k3
            have HQ : Hid (A' = sumTo (fun u => if i ∈ T.up u then 1 else 0) (m + 1)) := by
              show _ = _
              rw [k2]
              exact tot_step _ _ _ _ (unhide HS).1 rfl
            have g1 : 0 ≤ A' ∧ A' ≤ ((m + 1 : Nat) : Int) ∧ ((m + 1 : Nat) : Int) * (-1099511627776) ≤ B' ∧ B' ≤ ((m + 1 : Nat) : Int) * 1099511627776 := by
              split at k2 <;> rename_i hx <;> simp only [hx, if_true, if_false] at k3 <;> omega
            have HG := hide g1
            have HK2 := hide (And.intro k1 k3)
            clear HK k1 k2 k3 g1
            go_wp2
            go_roundw
            case rel =>
              obtain ⟨g1, g2, g3, g4⟩ := unhide HG
              refine ⟨m + 1, A', B', by omega, rfl, rfl, by go_num, g1, g2, g3, g4, (unhide HB2).trans ((unhide HK2).1.mono (unhide HB2).size), unhide HQ, ?_⟩
              rw [(unhide HK2).2]
              exact tot_step _ _ _ _ (unhide HS).2 (by rw [← unhide HWM])
            case measure => simp [intOf]; omega
      · have e1 : ¬ (m : Int) < (n : Int) := by omega
        have hmn : m = n := by omega
        obtain ⟨r1, r2, r3⟩ := unhide HL
        rw [hmn] at r2 r3
        rw [← (unhide HT).1] at r2
        rw [← (unhide HT).2.1] at r3
        have hpos : 0 < A := by rw [r2]; exact (unhide HT).2.2
        have HQ := hide (And.intro r1 (And.intro r2 r3))
        clear r1 r2 r3 HL hmn
        go_wp2_with fail
        refine (unhide hq2).mono ?_
        rintro e w' ⟨rfl, rfl⟩
        go_wp2
        exact bodyPost_ret (v := .tuple #[.int .i64 A, .int .i64 B, .bool true]) (by simp [results, Try.results34, go_sem]) rfl ⟨by rw [(unhide HQ).2.1, (unhide HQ).2.2], (unhide HQ).1⟩

theorem rsize_any (x : Int) (w : World) (q bt bu bw n : Nat) (ft : Nat → Bool) (fu fw : Nat → Int) (T : Tr) (h : RIn w q bt bu bw n ft fu fw) (hs : Says T n ft fu fw) :
    Calls Try.prog 48 #[.pointer (some ⟨q, 0, none⟩), .int .i64 x] w fun e w' => e = .returned (.int .i64 (T.sizeI x)) ∧ Below w.heap.size w w' := by
  have h1 := hide (rroot_any x w q bt bu bw n ft fu fw T h hs)
  have h2 := hide (rsub_any (T.rootI x) w q bt bu bw n ft fu fw T h hs)
  unfold Tr.sizeI
  generalize T.rootI x = r at *
  generalize (T.subI r).c = c at *
  generalize (T.subI r).s = s at *
  generalize T.hasI r = b at *
  clear h hs
  go_enter Try.func48, Try.ntmps48
  go_wp2_with fail
  refine (unhide h1).mono ?_
  rintro e w' ⟨rfl, rfl⟩
  go_wp2_with fail
  refine (unhide h2).mono ?_
  rintro e w' ⟨rfl, hb⟩
  have HB := hide hb
  clear hb
  go_wp2
  go_ret
  exact ⟨rfl, unhide HB⟩
end Go.Proofs.Ytbcibdofcjehcaa
