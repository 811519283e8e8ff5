/- ArenaOnce. -/
import Derived.Test.YtnjnpcimnnmknaaW4
import Derived.Test.YtnjnpcimnnmknaaM3
import Derived.Deep.DeepCutAuto
import Derived.Deep.LoopGhost
import Derived.Deep.RegionLaw
import Derived.Test.YtnjnpcimnnmknaaF3
namespace Go.Proofs.Ytnjnpcimnnmknaa
open Go.RowKit Go.Arb

structure B4 (w W : World) (p : Nat) (A : Ab) (ks : List Nat) (v : Value) (hs : List (Int × Int)) (u : Value) (bs : List (Int × Int)) : Prop where
  bel : Below w.heap.size w W
  ar : ArAt W p A ks
  row : HRow W v hs
  brow : HRow W u bs
  sep : Sep w.heap.size W [ks, own v, own u]

section
variable {w W W' W1 W2 : World} {p : Nat} {A A2 : Ab} {ks ks' : List Nat} {v u : Value} {hs bs : List (Int × Int)}
theorem B4.fst (h : B4 w W p A ks v hs u bs) (hk : Keep ks W W') (ha : ArAt W' p A2 ks') (hg : Grew W ks ks') : B4 w W' p A2 ks' v hs u bs :=
  ⟨hk.below h.bel h.bel.size (h.sep.ge (by simp)), ha, h.row.keep hk (h.sep.off (by simp)), h.brow.keep hk (h.sep.off (by simp)), h.sep.step h.bel.size hk hg ha.lt⟩
theorem B4.below (h : B4 w W p A ks v hs u bs) (hb : Below W.heap.size W W') : B4 w W' p A ks v hs u bs :=
  ⟨h.bel.trans (hb.mono h.bel.size), h.ar.below hb, h.row.keep (Keep.ofBelow hb []) (fun _ _ => by simp), h.brow.keep (Keep.ofBelow hb []) (fun _ _ => by simp), h.sep.up hb.size⟩
theorem B4.alloc (h : B4 w W p A ks v hs u bs) (o : Obj) : B4 w (W.alloc o) p A ks v hs u bs := h.below ((Below.refl _ _).alloc (Nat.le_refl _) _)
theorem B4.drewN (h : B4 w W p A ks v hs u bs) (m : Nat) : B4 w (W.drewN m) p A ks v hs u bs := h.below (below_drewN (Below.refl _ _) m)
theorem B4.drew (h : B4 w W p A ks v hs u bs) : B4 w W.drew p A ks v hs u bs := h.below (Below.refl _ _).drew
/-- The first row has turned into another one. -/
theorem B4.onto (h : B4 w W p A ks v hs u bs) {v' : Value} {hs' : List (Int × Int)} (k1 : Keep (own v) W W2) (k2 : Grew W (own v) (own v')) (hr : HRow W2 v' hs') : B4 w W2 p A ks v' hs' u bs := by
  have hs1 := h.sep.perm (List.Perm.swap _ _ _)
  exact ⟨k1.below h.bel h.bel.size (h.sep.ge (by simp)), h.ar.keep k1 (hs1.off (by simp)), hr, h.brow.keep k1 (hs1.off (by simp)), (hs1.step h.bel.size k1 k2 (row_lt hr)).perm (List.Perm.swap _ _ _)⟩
theorem B4.swap (h : B4 w W p A ks v hs u bs) : B4 w W p A ks u bs v hs :=
  ⟨h.bel, h.ar, h.brow, h.row, h.sep.perm ((List.Perm.swap _ _ _).cons _)⟩
theorem B4.push (h : B4 w W p A ks v hs u bs) {g H n cap : Nat} (x : Int × Int) (hk : Keep [] W W1) (hgrow : W1.grownBy W2 v.ownBlock) (hat : v.ownBlock = some g ∨ g = H) (hH : W.heap.size ≤ H) (hlt : g < W2.heap.size)
    (hn : n = hs.length) (hown : W2.ownsRow 0 29 2 (.slice (some ⟨g, 0, none⟩) (n + 1) cap) (n + 1) (flat hdC hs ++ hdC x)) : B4 w W2 p A ks (.slice (some ⟨g, 0, none⟩) (n + 1) cap) (hs ++ [x]) u bs := by
  subst hn
  obtain ⟨k1, k2, k3⟩ := app_keep hk hgrow hat hH hlt
  refine h.onto k1 k2 ?_
  unfold HRow
  rw [flat_append, flat_one]
  simpa using hown
end

theorem add_none (b off i : Nat) : (⟨b, off, none⟩ : Addr).add i = ⟨b, off + i, none⟩ := by unfold Addr.add; split <;> simp_all

theorem flat_split (hs : List (Int × Int)) (j : Nat) : flat hdC hs = flat hdC (hs.take j) ++ flat hdC (hs.drop j) := by rw [← flat_append, List.take_append_drop]
theorem flat_one' (l : List (Int × Int)) : ∀ u ∈ flat hdC l, u.oneCell' = true := by
  intro u hu
  simp only [flat, List.mem_flatMap, hdC] at hu
  obtain ⟨x, _, hu⟩ := hu
  simp at hu
  rcases hu with rfl | rfl <;> rfl

theorem src_take {W : World} {g n cap : Nat} {hs : List (Int × Int)} (h : HRow W (.slice (some ⟨g, 0, none⟩) n cap) hs) (hn : n = hs.length) (j : Nat) : ∀ l u, (flat hdC (hs.take j))[l]? = some u → W.cell? ((⟨g, 0, none⟩ : Addr).add l) = some u := by
  intro l u hl
  subst hn
  have h1 := lt_of_get hl
  have h2 := flat_length hdC_len (hs.take j)
  have h3 := flat_length hdC_len hs
  have h4 : (hs.take j).length ≤ hs.length := by simp; omega
  rw [add_none, Nat.zero_add, h.cellAt l (by omega), flat_split hs j, List.getElem?_append_left h1]
  exact hl

theorem src_drop {W : World} {g n cap : Nat} {hs : List (Int × Int)} (h : HRow W (.slice (some ⟨g, 0, none⟩) n cap) hs) (hn : n = hs.length) (j : Nat) (hj : j ≤ hs.length) : ∀ l u, (flat hdC (hs.drop j))[l]? = some u → W.cell? ((⟨g, j * 2, none⟩ : Addr).add l) = some u := by
  intro l u hl
  subst hn
  have h1 := lt_of_get hl
  have h2 := flat_length hdC_len (hs.take j)
  have h3 := flat_length hdC_len (hs.drop j)
  have h4 : (hs.take j).length = j := by simp; omega
  have h5 : (hs.drop j).length = hs.length - j := by simp
  rw [h4] at h2
  rw [h5] at h3
  rw [add_none, h.cellAt _ (by omega), flat_split hs j, List.getElem?_append_right (by omega), h2, Nat.add_sub_cancel_left]
  exact hl

theorem nil_row (W : World) : ((W.alloc (.cells #[] 29)).drew).ownsRow 0 29 2 (.slice (some ⟨W.heap.size, 0, none⟩) 0 0) 0 [] :=
  World.ownsRow.drew (World.ownsRow_made W #[] 0 (Nat.zero_le _) (Nat.zero_le _) rfl)

theorem grown_below {B : Nat} {W W1 W2 : World} {row : Option Nat} (h : Below B W W1) (hB : B ≤ W1.heap.size) (hg : W1.grownBy W2 row) (hr : ∀ k, row = some k → B ≤ k) : Below B W W2 := h.grown hg hB hr

theorem first_below {W W6 : World} (g6 : ((W.alloc (.cells #[] 29)).drew).grownBy W6 (Value.slice (some ⟨W.heap.size, 0, none⟩) 0 0).ownBlock) : Below W.heap.size W W6 :=
  Below.grown (((Below.refl _ _).alloc (Nat.le_refl _) _).drew) g6 (by simp) (fun k hk => by simp [Value.ownBlock] at hk; omega)

theorem B4.cut {w W W6 W7 : World} {p : Nat} {A : Ab} {ks : List Nat} {v u v6 v7 : Value} {hs bs hs' : List (Int × Int)} {n : Nat} (h : B4 w W p A ks v hs u bs)
    (g6 : ((W.alloc (.cells #[] 29)).drew).grownBy W6 (Value.slice (some ⟨W.heap.size, 0, none⟩) 0 0).ownBlock) (a6 : v6.ownBlock = (Value.slice (some ⟨W.heap.size, 0, none⟩) 0 0).ownBlock ∨ v6.ownBlock = some ((W.alloc (.cells #[] 29)).drew).heap.size)
    (g7 : W6.grownBy W7 v6.ownBlock) (a7 : v7.ownBlock = v6.ownBlock ∨ v7.ownBlock = some W6.heap.size) (o7 : W7.ownsRow 0 29 2 v7 n (flat hdC hs')) (hn : n = hs'.length) : B4 w W7 p A ks v7 hs' u bs := by
  subst hn
  have b6 := first_below g6
  have h6 : ∀ k, v6.ownBlock = some k → W.heap.size ≤ k := by
    intro k hk
    rcases a6 with e | e
    · rw [hk] at e; simp [Value.ownBlock] at e; omega
    · rw [hk] at e; simp at e; omega
  have b7 : Below W.heap.size W W7 := b6.grown g7 b6.size h6
  refine h.onto (Keep.ofBelow b7 _) (fun k hk => ?_) o7
  right
  rw [mem_own] at hk
  rcases a7 with e | e
  · exact h6 k (by rw [← e]; exact hk)
  · rw [hk] at e; simp at e; have := b6.size; omega

theorem erase_row {W : World} {v : Value} {hs : List (Int × Int)} {z : Nat} (hz : z < hs.length) (h : W.ownsRow 0 29 2 v (0 + z + (hs.length - (z + 1))) ([] ++ flat hdC (hs.take z) ++ flat hdC (hs.drop (z + 1)))) :
    W.ownsRow 0 29 2 v (hs.eraseIdx z).length (flat hdC (hs.eraseIdx z)) := by
  have e1 : (hs.eraseIdx z).length = 0 + z + (hs.length - (z + 1)) := by simp [List.length_eraseIdx, hz]; omega
  rw [e1, List.eraseIdx_eq_take_drop_succ, flat_append]
  simpa using h
theorem src_none (W : World) (ad : Addr) : ∀ (l : Nat) (u : Value), ([] : List Value)[l]? = some u → W.cell? (ad.add l) = some u := by
  intro l u hl; simp at hl
theorem one_none : ∀ u ∈ ([] : List Value), u.oneCell' = true := by simp
theorem erase_last {W : World} {v : Value} {hs : List (Int × Int)} {z : Nat} (hz : z < hs.length) (hc : hs.length ≤ z + 1) (h : W.ownsRow 0 29 2 v (0 + z + 0) ([] ++ flat hdC (hs.take z) ++ [])) :
    W.ownsRow 0 29 2 v (hs.eraseIdx z).length (flat hdC (hs.eraseIdx z)) := by
  refine erase_row hz ?_
  rw [List.drop_of_length_le hc, show hs.length - (z + 1) = 0 from by omega]
  exact h

theorem takeA_room (A : Ab) : (takeA A).room = A.room := by
  unfold takeA
  split
  · rfl
  · split <;> rfl

set_option maxRecDepth 100000 in
set_option maxHeartbeats 4000000 in
theorem once_walk (a0 : Int) (x : Option Addr) (len cap : Nat) (zs : List (Int × Int × Int × Int)) (w : World) (h0 : 0 ≤ a0) (h1 : a0 ≤ 255) (hx : ARow w x len zs) (hlen : len ≤ maxLen) :
    Calls Try.prog 4 #[.int .u8 a0, .slice x len cap] w fun e w' => e = .returned (.bool true) ∧ Below w.heap.size w w' := by
  obtain ⟨i0, hi, hz0, hz1, hz2⟩ := info_parts Try.info29
  obtain ⟨a, rfl⟩ := Int.eq_ofNat_of_zero_le h0
  have HX := hide hx
  clear hx
  unfold maxLen at hlen
  go_enter Try.func4, Try.ntmps4
  go_wp2_with fail
  rw [show ((a : Int) % 61) = ((a % 61 : Nat) : Int) from by omega]
  have hk : a % 61 < 61 := by omega
  generalize a % 61 = k at *
  refine (aNew k _ (by omega)).mono ?_
  rintro e w1 ⟨rfl, n1, nb1, nz1⟩
  have HB : Hid (B4 w w1 w.heap.size (newA k) [w.heap.size] (.slice none 0 0) [] (.slice none 0 0) [] ∧ Once (newA k) [] []) :=
    ⟨⟨nb1, n1, HRow.nil _, HRow.nil _, (Sep.nil _ _).none.none.join (W := w) (Nat.le_refl _) nb1.size (by simp; omega)⟩, once_new k⟩
  clear n1 nb1 nz1
  go_wp2
  go_loopg [7, 8, 9] 200 (fun gk v u i w' => ∃ (m : Nat) (A : Ab) (ks : List Nat) (hs bs : List (Int × Int)), m + gk = 200 ∧ m ≤ len ∧ i = .int .i64 m ∧ A.t ≤ m ∧ A.room = k ∧ hs.length ≤ m ∧ bs.length ≤ m ∧ Hid (B4 w w' w.heap.size A ks v hs u bs ∧ Once A hs bs))
  case atStart => exact ⟨0, newA k, _, [], [], by omega, by omega, rfl, by simp [newA], rfl, by simp, by simp, HB⟩
  case round =>
    obtain ⟨m, A, ks, hs, bs, hm, hml, rfl, hAt, hAr, hhs, hbs, HM⟩ := hrel
    clear HB
    by_cases hcont : m < len ∧ m < 200
    · obtain ⟨hc1, hc2⟩ := hcont
      obtain ⟨b, o, kd, at', s, g, rfl, y0, y1, y2, y3, hb1, hb2, hbd0, hbd1⟩ := (unhide HX).get (unhide HM).1.bel m hc1
      have e1 : (m : Int) < (len : Int) := by omega
      have e2 : (m : Int) < 200 := by omega
      have e6 : (0 : Int) ≤ (m : Int) := by omega
      have HAR := hide hAr
      clear hAr
      go_upto_if 38 with fail
      go_cut [7, 8] (fun v u w' => ∃ (A : Ab) (ks : List Nat) (hs bs : List (Int × Int)), A.t ≤ m + 1 ∧ A.room = k ∧ hs.length ≤ m + 1 ∧ bs.length ≤ m + 1 ∧ Hid (B4 w w' w.heap.size A ks v hs u bs ∧ Once A hs bs))
      case first =>
        obtain ⟨xv, capv, hv7, hvl, hvm, _⟩ := row_form (unhide HM).1.row
        obtain ⟨xu, capu, hu8, hul, hum, _⟩ := row_form (unhide HM).1.brow
        unfold maxLen at hvm hum
        subst hv7
        subst hu8
        by_cases hk0 : kd = 0
        · subst hk0
          go_wp2_with fail
          have H0 := hide ((unhide HM).1.alloc (.cells #[.int .i64 0, .int .i64 at', .int .i64 s, .int .i64 g] 31))
          have HO := hide (unhide HM).2
          clear HM y0 y1 y2 y3
          generalize wr.alloc (.cells #[.int .i64 0, .int .i64 at', .int .i64 s, .int .i64 g] 31) = W0 at *
          refine (aTake _ _ _ _ (unhide H0).ar (by omega)).mono ?_
          rintro e w3 ⟨rfl, ks3, a3, k3, g3⟩
          have hok := takeR_ok (unhide H0).ar.inv (unhide HO)
          rw [unhide HAR] at hok
          by_cases hfull : hs.length < k
          · rw [show decide (hs.length < k) = true from by simpa using hfull] at hok
            have HO3 := hide (once_take (unhide H0).ar.inv (unhide HO) hok)
            have hfr : ∀ z ∈ hs, z.1 ≠ (takeR A).1 := fun z hz => takeR_fresh (unhide H0).ar.inv (unhide HO) hok hz
            have HFR := hide hfr
            rw [hok]
            have H3 := hide ((unhide H0).fst k3 a3 g3)
            clear H0 HO a3 k3 g3 hfr hok
            generalize (takeR A).1 = rs at *
            generalize (takeR A).2.1 = rg at *
            have x3 : HdAt (w3.alloc (.cells #[.int .i64 rs, .int .i64 rg] 29)) w3.heap.size rs rg := heap_alloc_new w3 _
            have HX3 := hide (And.intro x3 ((unhide H3).alloc (.cells #[.int .i64 rs, .int .i64 rg] 29)))
            clear x3 H3
            have f0 : (hs.length : Int) < (k : Int) := by omega
            go_wp2
            generalize w3.alloc (.cells #[.int .i64 rs, .int .i64 rg] 29) = W3 at *
            generalize w3.heap.size = X at *
            go_loopw [13] (fun j w' => ∃ t : Nat, t ≤ hs.length ∧ j = .int .i64 t ∧ Hid (HdAt w' X rs rg ∧ B4 w w' w.heap.size (takeA A) ks3 (.slice xv hs.length capv) hs (.slice xu bs.length capu) bs)) (fun j _ => hs.length - (intOf j).toNat)
            case atStart => exact ⟨0, Nat.zero_le _, rfl, HX3⟩
            case round =>
              obtain ⟨t, ht, rfl, HT⟩ := hrel
              clear HX3
              obtain ⟨cx0, cx1⟩ := (unhide HT).1.cells
              by_cases htl : t < hs.length
              · obtain ⟨gu, capu', hgu, _, _, hgl, d0, d1⟩ := (unhide HT).2.row.at t htl
                simp only [Value.slice.injEq, true_and] at hgu
                obtain ⟨rfl, rfl⟩ := hgu
                have hne := (unhide HFR) _ (List.getElem_mem htl)
                generalize hs[t] = z at *
                obtain ⟨zs', zg⟩ := z
                dsimp only at d0 d1 hne
                have hne' : (zs' == rs) = false := by rw [beq_eq_false_iff_ne]; exact hne
                have f1 : (t : Int) < (hs.length : Int) := by omega
                have f2 : (0 : Int) ≤ (t : Int) := by omega
                go_wp2
                go_quiet (fail)
                go_wp2
                go_roundw
                case rel => exact ⟨t + 1, by omega, by go_num, (unhide HT).1, (unhide HT).2.drewN _⟩
                case measure => simp [intOf]; omega
              · have f1 : (hs.length : Int) ≤ (t : Int) := by omega
                have hrow := (unhide HT).2.row
                unfold HRow at hrow
                go_wp2_with (at_builtin; refine wpList_append_lies _ rfl _ _ 27 rfl 0 29 i0 (.agg #[.int .i64 0, .int .i64 0]) 2 16 Try.underlying27 hi hz0 hz1 hz2 rfl (by decide) _ _ _ rfl (hrow.alloc _) ⟨wr.heap.size, 0, none⟩ 1 1 [.int .i64 rs, .int .i64 rg] rfl rfl (news_at _ _ _ _ (by simp)) (one2 _ _) (by omega) (by unfold maxLen; omega) (by omega) (Nat.zero_le _) (wr.heap.size + 1) (by simp) ?_)
                intro g' cap' w5 hown hgrow hat hlt'
                have H5 := hide ((unhide HT).2.push (rs, rg) ((Keep.refl [] _).alloc _) hgrow hat (by simp) hlt' rfl hown)
                clear hown hgrow hat hlt' HT hrow cx0 cx1
                go_wp2_with fail
                go_meet
                case rel => exact ⟨takeA A, ks3, hs ++ [(rs, rg)], bs, Nat.le_trans (takeA_t A) (by omega), (takeA_room A).trans (unhide HAR), by simp; omega, by omega, unhide H5, unhide HO3⟩
          · rw [show decide (hs.length < k) = false from by simpa using hfull] at hok
            have hta := once_full hok
            rw [hta] at a3
            rw [hok]
            have H3 := hide ((unhide H0).fst k3 a3 g3)
            clear H0 a3 k3 g3 hok hta
            generalize (takeR A).1 = rs at *
            generalize (takeR A).2.1 = rg at *
            have HX3 := hide ((unhide H3).alloc (.cells #[.int .i64 rs, .int .i64 rg] 29))
            clear H3
            have f0 : ¬ (hs.length : Int) < (k : Int) := by omega
            go_wp2
            generalize w3.alloc (.cells #[.int .i64 rs, .int .i64 rg] 29) = W3 at *
            generalize w3.heap.size = X at *
            go_loopw [13] (fun j w' => ∃ t : Nat, t ≤ hs.length ∧ j = .int .i64 t ∧ Hid (B4 w w' w.heap.size A ks3 (.slice xv hs.length capv) hs (.slice xu bs.length capu) bs)) (fun j _ => hs.length - (intOf j).toNat)
            case atStart => exact ⟨0, Nat.zero_le _, rfl, HX3⟩
            case round =>
              obtain ⟨t, ht, rfl, HT⟩ := hrel
              clear HX3
              by_cases htl : t < hs.length
              · have f1 : (t : Int) < (hs.length : Int) := by omega
                have f2 : (0 : Int) ≤ (t : Int) := by omega
                go_wp2
                go_quiet (fail)
                go_wp2
                go_roundw
                case rel => exact ⟨t + 1, by omega, by go_num, (unhide HT).drewN _⟩
                case measure => simp [intOf]; omega
              · have f1 : (hs.length : Int) ≤ (t : Int) := by omega
                go_wp2_with fail
                go_meet
                case rel => exact ⟨A, ks3, hs, bs, by omega, unhide HAR, by omega, by omega, unhide HT, unhide HO⟩
        · have hkz : (kd == 0) = false := by rw [beq_eq_false_iff_ne]; exact hk0
          rcases Nat.eq_zero_or_pos hs.length with hz | hpos
          · have f0 : (hs.length : Int) ≤ 0 := by omega
            have H0 := hide ((unhide HM).1.alloc (.cells #[.int .i64 kd, .int .i64 at', .int .i64 s, .int .i64 g] 31))
            have HO := hide (unhide HM).2
            clear HM y0 y1 y2 y3
            go_wp2_with fail
            go_meet
            case rel => exact ⟨A, ks, hs, bs, by omega, unhide HAR, by omega, by omega, unhide H0, unhide HO⟩
          · have hposI : (0 : Int) < (hs.length : Int) := by omega
            obtain ⟨z, hzl, hix⟩ := u64_index at' hs.length hpos (by omega)
            obtain ⟨gu, capv', hgu, _, _, hgl, dz0, dz1⟩ := (unhide HM).1.row.at z hzl
            simp only [Value.slice.injEq, true_and] at hgu
            obtain ⟨rfl, rfl⟩ := hgu
            obtain ⟨zi, hzi, hzs⟩ := (unhide HM).2.on _ (List.getElem_mem hzl)
            obtain ⟨zg, hzg⟩ : ∃ zg, hs[z].2 = zg := ⟨_, rfl⟩
            rw [hzi] at dz0
            rw [hzg] at dz1 hzs
            have hze : hs[z] = ((zi : Int), zg) := Prod.ext hzi hzg
            have HZ := hide (And.intro hze hzs)
            clear hzi hzg hze hzs
            have H0 := hide ((unhide HM).1.alloc (.cells #[.int .i64 kd, .int .i64 at', .int .i64 s, .int .i64 g] 31))
            have HO := hide (unhide HM).2
            have f1 : (0 : Int) ≤ (z : Int) := by omega
            have f2 : (z : Int) < (hs.length : Int) := by omega
            clear HM
            go_wp2_with fail
            generalize wr.alloc (.cells #[.int .i64 kd, .int .i64 at', .int .i64 s, .int .i64 g] 31) = W0 at *
            clear dz0 dz1 y0 y1 y2 y3
            refine (aGive_yes _ _ _ _ _ _ (unhide H0).ar (unhide HZ).2).mono ?_
            rintro e w3 ⟨rfl, a3, k3⟩
            have H3 := hide ((unhide H0).fst k3 a3 (Grew.refl _ _))
            clear a3 k3 H0
            have HO3 := hide (once_give (unhide HO) hzl (unhide HZ).1 (unhide HZ).2)
            obtain ⟨gu', capv', hgu, _, _, hgl', dz0, dz1⟩ := (unhide H3).row.at z hzl
            simp only [Value.slice.injEq, Option.some.injEq, Addr.mk.injEq, and_true, true_and] at hgu
            obtain ⟨rfl, rfl⟩ := hgu
            rw [(unhide HZ).1] at dz0 dz1
            dsimp only at dz0 dz1
            have HL := hide (liveA_not (g := zg) (giveA_off (unhide HZ).2))
            go_wp2_with fail
            refine (aGive_no _ _ _ _ _ _ (unhide H3).ar (unhide HL)).mono ?_
            rintro e w4 ⟨rfl, b4⟩
            have H4 := hide ((unhide H3).below b4)
            clear H3 b4 HL HO dz0 dz1
            obtain ⟨gu', capv', hgu, _, _, hgl', dz0, dz1⟩ := (unhide H4).row.at z hzl
            simp only [Value.slice.injEq, Option.some.injEq, Addr.mk.injEq, and_true, true_and] at hgu
            obtain ⟨rfl, rfl⟩ := hgu
            have hrow := (unhide H4).brow
            unfold HRow at hrow
            rw [(unhide HZ).1] at dz0 dz1
            dsimp only at dz0 dz1
            go_wp2_with (at_builtin; refine wpList_append_lies _ rfl _ _ 27 rfl 0 29 i0 (.agg #[.int .i64 0, .int .i64 0]) 2 16 Try.underlying27 hi hz0 hz1 hz2 rfl (by decide) _ _ _ rfl (hrow.alloc _) ⟨w4.heap.size, 0, none⟩ 1 1 [.int .i64 (zi : Int), .int .i64 zg] rfl rfl (news_at _ _ _ _ (by simp)) (one2 _ _) (by omega) (by unfold maxLen; omega) (by omega) (Nat.zero_le _) (w4.heap.size + 1) (by simp) ?_)
            intro g' cap' w5 hown hgrow hat hlt'
            have H5 := hide ((unhide H4).swap.push ((zi : Int), zg) ((Keep.refl [] _).alloc _) hgrow hat (by simp) hlt' rfl hown).swap
            clear hown hgrow hat hlt' hrow dz0 dz1 H4
            go_wp2_with fail
            have c1 : (0 : Int) ≤ (hs.length : Int) := by omega
            have c2 : (hs.length : Int) ≤ (capv : Int) := by omega
            have c3 : (z : Int) ≤ (hs.length : Int) := by omega
            have c4 : (z : Int) ≤ (capv : Int) := by omega
            have c5 : (z : Int) + 1 ≤ (hs.length : Int) := by omega
            have c6 : (z : Int) + 1 ≤ (capv : Int) := by omega
            have c7 : (0 : Int) ≤ (z : Int) + 1 := by omega
            have W1 : IntKind.i64.wrap ((z : Int) + 1) = (z : Int) + 1 := IntWalk.i64_in _ (by omega)
            have hrow5 := ((unhide H5).alloc (.cells #[] 29)).drew.row
            have hlt5 : (hs.take z).length = z := by simp; omega
            have hld5 : (hs.drop (z + 1)).length = hs.length - (z + 1) := by simp
            have L1 : (flat hdC (hs.take z)).length = z * 2 := by rw [flat_length hdC_len, hlt5]
            have L2 : (flat hdC (hs.drop (z + 1))).length = (hs.length - (z + 1)) * 2 := by rw [flat_length hdC_len, hld5]
            have S1 := src_take hrow5 rfl z
            have B1 : 0 + z ≤ maxLen := by unfold maxLen; omega
            have B2 : (0 + z) * 16 ≤ 140737488355328 := by omega
            have B3 : 0 + z + (hs.length - (z + 1)) ≤ maxLen := by unfold maxLen; omega
            have B4' : (0 + z + (hs.length - (z + 1))) * 16 ≤ 140737488355328 := by omega
            have HS := hide (And.intro L1 (And.intro L2 (And.intro S1 (And.intro B1 (And.intro B2 (And.intro B3 B4'))))))
            clear hlt5 hld5 L1 L2 S1 B1 B2 B3 B4'
            rcases Nat.lt_or_ge (z + 1) capv with hcap | hcap
            · have hne : ¬ capv = z + 1 := by omega
              go_region_law
                ((first
                  | (refine step_append_any _ (by rfl) (.tmp 105) (.tmp 108) 27 (by rfl) 0 29 i0 (.agg #[.int .i64 0, .int .i64 0]) 2 16 Try.underlying27 hi hz0 hz1 hz2 rfl (by decide) (.slice (some ⟨w5.heap.size, 0, none⟩) 0 0) 0 [] (by rfl) (nil_row w5) ⟨gu, 0, none⟩ z capv (flat hdC (hs.take z)) (by rfl) (unhide HS).1 (unhide HS).2.2.1 (flat_one' _) (unhide HS).2.2.2.1 (unhide HS).2.2.2.2.1 (Nat.zero_le _) ?_; intro v6 w6 o6 g6 a6; have hr6 := ((unhide H5).below (first_below g6)).row)
                  | (refine step_append_any _ (by rfl) (.tmp 109) (.tmp 113) 27 (by rfl) 0 29 i0 (.agg #[.int .i64 0, .int .i64 0]) 2 16 Try.underlying27 hi hz0 hz1 hz2 rfl (by decide) v6 (0 + z) _ (by rfl) o6 ⟨gu, (z + 1) * 2, none⟩ (hs.length - (z + 1)) (capv - (z + 1)) (flat hdC (hs.drop (z + 1))) (by rfl) (unhide HS).2.1 (src_drop hr6 rfl (z + 1) (by omega)) (flat_one' _) (unhide HS).2.2.2.2.2.1 (unhide HS).2.2.2.2.2.2 (Nat.zero_le _) ?_; intro v7 w7 o7 g7 a7)))
              have H7 := hide ((unhide H5).cut g6 a6 g7 a7 (erase_row hzl o7) rfl)
              clear o6 g6 a6 o7 g7 a7 hr6 hrow5 HS H5
              go_wp2_with fail
              go_meet
              case rel => exact ⟨giveA A zi, ks, hs.eraseIdx z, bs ++ [((zi : Int), zg)], by simp only [giveA]; omega, (unhide HAR), by simp [List.length_eraseIdx, hzl]; omega, by simp; omega, unhide H7, unhide HO3⟩
            · obtain rfl : capv = z + 1 := by omega
              have c8 : (z : Int) ≤ (z : Int) + 1 := by omega
              have c9 : (hs.length : Int) ≤ (z : Int) + 1 := by omega
              have hc9 : hs.length ≤ z + 1 := by omega
              go_region_law
                ((first
                  | (refine step_append_any _ (by rfl) (.tmp 105) (.tmp 108) 27 (by rfl) 0 29 i0 (.agg #[.int .i64 0, .int .i64 0]) 2 16 Try.underlying27 hi hz0 hz1 hz2 rfl (by decide) (.slice (some ⟨w5.heap.size, 0, none⟩) 0 0) 0 [] (by rfl) (nil_row w5) ⟨gu, 0, none⟩ z (z + 1) (flat hdC (hs.take z)) (by rfl) (unhide HS).1 (unhide HS).2.2.1 (flat_one' _) (unhide HS).2.2.2.1 (unhide HS).2.2.2.2.1 (Nat.zero_le _) ?_; intro v6 w6 o6 g6 a6)
                  | (refine step_append_any _ (by rfl) (.tmp 109) (.tmp 113) 27 (by rfl) 0 29 i0 (.agg #[.int .i64 0, .int .i64 0]) 2 16 Try.underlying27 hi hz0 hz1 hz2 rfl (by decide) v6 (0 + z) _ (by rfl) o6 ⟨gu, 0, none⟩ 0 0 [] (by rfl) rfl (src_none _ _) one_none (unhide HS).2.2.2.1 (unhide HS).2.2.2.2.1 (Nat.zero_le _) ?_; intro v7 w7 o7 g7 a7)))
              have H7 := hide ((unhide H5).cut g6 a6 g7 a7 (erase_last hzl hc9 o7) rfl)
              clear o6 g6 a6 o7 g7 a7 hrow5 HS H5
              go_wp2_with fail
              go_meet
              case rel => exact ⟨giveA A zi, ks, hs.eraseIdx z, bs ++ [((zi : Int), zg)], by simp only [giveA]; omega, (unhide HAR), by simp [List.length_eraseIdx, hzl]; omega, by simp; omega, unhide H7, unhide HO3⟩
      case rest =>
        obtain ⟨A2, ks2, hs2, bs2, hAt2, hAr2, hhs2, hbs2, HC⟩ := hcut
        clear HM HAR y0 y1 y2 y3 hhs hbs hAt
        have HAR2 := hide hAr2
        clear hAr2
        obtain ⟨xv, capv, hv7, hvl, hvm, _⟩ := row_form (unhide HC).1.row
        obtain ⟨xu, capu, hu8, hul, hum, _⟩ := row_form (unhide HC).1.brow
        unfold maxLen at hvm hum
        subst hv7
        subst hu8
        go_wp2
        go_loopw [15] (fun j w' => ∃ t : Nat, t ≤ bs2.length ∧ j = .int .i64 t ∧ Hid (B4 w w' w.heap.size A2 ks2 (.slice xv hs2.length capv) hs2 (.slice xu bs2.length capu) bs2)) (fun j _ => bs2.length - (intOf j).toNat)
        case atStart => exact ⟨0, Nat.zero_le _, rfl, (unhide HC).1⟩
        case round =>
          obtain ⟨t, ht, rfl, HT⟩ := hrel
          by_cases htl : t < bs2.length
          · obtain ⟨gu, capu', hgu, _, _, hgl, d0, d1⟩ := (unhide HT).brow.at t htl
            simp only [Value.slice.injEq, true_and] at hgu
            obtain ⟨rfl, rfl⟩ := hgu
            have HL := hide ((unhide HC).2.gone (List.getElem_mem htl))
            generalize bs2[t] = z at *
            obtain ⟨zs', zg⟩ := z
            dsimp only at d0 d1 HL
            have f1 : (t : Int) < (bs2.length : Int) := by omega
            have f2 : (0 : Int) ≤ (t : Int) := by omega
            go_wp2_with fail
            refine (aLive _ _ _ _ _ _ (unhide HT).ar).mono ?_
            rw [unhide HL]
            rintro e w4 ⟨rfl, b4⟩
            have H4 := hide ((unhide HT).below b4)
            clear HT b4 d0 d1 HL
            go_wp2
            go_roundw
            case rel => exact ⟨t + 1, by omega, by go_num, H4⟩
            case measure => simp [intOf]; omega
          · have f1 : (bs2.length : Int) ≤ (t : Int) := by omega
            have HC' := hide (And.intro (unhide HT) (unhide HC).2)
            clear HT HC
            go_wp2
            go_loopw [16] (fun j w' => ∃ t : Nat, t ≤ hs2.length ∧ j = .int .i64 t ∧ Hid (B4 w w' w.heap.size A2 ks2 (.slice xv hs2.length capv) hs2 (.slice xu bs2.length capu) bs2)) (fun j _ => hs2.length - (intOf j).toNat)
            case atStart => exact ⟨0, Nat.zero_le _, rfl, (unhide HC').1⟩
            case round =>
              obtain ⟨r, hr, rfl, HT⟩ := hrel
              by_cases hrl : r < hs2.length
              · obtain ⟨gu, capu', hgu, _, _, hgl, d0, d1⟩ := (unhide HT).row.at r hrl
                simp only [Value.slice.injEq, true_and] at hgu
                obtain ⟨rfl, rfl⟩ := hgu
                have HL := hide ((unhide HC').2.live (List.getElem_mem hrl))
                have hrg := (unhide HC').2.range (unhide HT).ar.inv (List.getElem_mem hrl)
                rw [unhide HAR2] at hrg
                generalize hs2[r] = z at *
                obtain ⟨zs', zg⟩ := z
                dsimp only at d0 d1 HL hrg
                obtain ⟨hrg0, hrg1⟩ := hrg
                have f1 : (r : Int) < (hs2.length : Int) := by omega
                have f2 : (0 : Int) ≤ (r : Int) := by omega
                go_wp2_with fail
                refine (aLive _ _ _ _ _ _ (unhide HT).ar).mono ?_
                rw [unhide HL]
                rintro e w4 ⟨rfl, b4⟩
                have H4 := hide ((unhide HT).below b4)
                have d0' : w4.cell? ⟨gu, r * 2, none⟩ = some (.int .i64 zs') := by rw [b4.cell (p := ⟨gu, r * 2, none⟩) hgl]; exact d0
                clear HT b4 d0 d1 HL
                go_wp2
                go_roundw
                case rel => exact ⟨r + 1, by omega, by go_num, H4⟩
                case measure => simp [intOf]; omega
              · have f3 : (hs2.length : Int) ≤ (r : Int) := by omega
                have HL := hide (unhide HC').2.len
                go_wp2_with fail
                refine (aLen _ _ _ _ (unhide HT).ar).mono ?_
                rw [unhide HL]
                rintro e w5 ⟨rfl, hw⟩
                subst hw
                have HF := hide (And.intro (unhide HT) (unhide HC').2)
                clear HT HC'
                go_wp2
                go_roundg (gk - 1)
                case measure => omega
                case rel => exact ⟨m + 1, A2, ks2, hs2, bs2, by omega, by omega, by go_num, hAt2, unhide HAR2, hhs2, hbs2, HF⟩
    · have hcases : (len : Int) ≤ (m : Int) ∨ ((m : Int) < (len : Int) ∧ 200 ≤ (m : Int)) := by omega
      clear hcont
      rcases hcases with hc | ⟨hc, hc'⟩
      all_goals
        go_wp2_with fail
        refine (awake_any _).mono ?_
        rintro e w6 ⟨rfl, b6⟩
        have H6 := hide ((unhide HM).1.below b6)
        clear HM b6
        go_wp2
        go_ret
        exact ⟨rfl, (unhide H6).bel⟩
end Go.Proofs.Ytnjnpcimnnmknaa
