/- ..Many: as many cuts and joinings as one likes. -/
import Derived.Test.YtbkneonbpcmepaaA3
namespace Go.Proofs.Ytbkneonbpcmepaa
open Go.RowKit Go.Arb
set_option linter.unusedVariables false
set_option linter.unusedSimpArgs false

set_option maxRecDepth 100000 in
set_option maxHeartbeats 4000000 in
theorem many_walk (a : Nat) (ha : a ≤ 255) (x : Option Addr) (lx cx : Nat) (us : List Int) (w : World) (hx : IRow .u16 w x lx us) (hlx : lx ≤ maxLen) :
    Calls Try.prog 6 #[.int .u8 (a : Int), .slice x lx cx] w fun e w' => e = .returned (.bool true) ∧ Below w.heap.size w w' := by
  have HX := hide hx
  have hlx' := hlx
  unfold maxLen at hlx'
  clear hx hlx
  obtain ⟨k, hk⟩ : ∃ k : Nat, k = 1 + a := ⟨_, rfl⟩
  have hk0 : 0 < k := by omega
  have hk2 : k ≤ 256 := by omega
  have e1 : (1 + (a : Int)) = (k : Int) := by omega
  have E1 := hide e1
  clear e1 hk
  go_enter Try.func6, Try.ntmps6
  go_wp2_with fail
  rw [unhide E1]
  clear E1
  refine (laid_any (w := w) (js := []) k none 0 0 [] w (Below.refl _ _) (by simp) (by omega) (IRow.none _ _) (by decide)).mono ?_
  rintro e W0 ⟨p, rfl, h, _⟩
  rw [ln, ln_pos (by omega)] at h
  generalize gW k (wF []) = g at *
  have H0 := hide h
  clear h
  go_wp2
  go_loopw [7] (fun i w' => ∃ m : Nat, m ≤ 100 ∧ i = .int .i64 (m : Int) ∧ Hid (∃ l, l.Perm (rg 0 k) ∧ Ob w w' p (st k [l] g) [])) (fun i _ => 100 - (intOf i).toNat)
  case atStart => exact ⟨0, by omega, rfl, rg 0 k, List.Perm.refl _, unhide H0⟩
  case round =>
    clear H0
    obtain ⟨m, hm, rfl, HH⟩ := hrel
    obtain ⟨l, hL, h⟩ := HH.out
    have HL := hide hL
    have H0 := hide h
    clear hL h HH
    by_cases hlt : m < lx ∧ m < 100
    · obtain ⟨hl1, hl2⟩ := hlt
      have q1 : (m : Int) < (lx : Int) := by omega
      have q2 : (m : Int) < 100 := by omega
      have q3 : (0 : Int) ≤ (m : Int) := by omega
      obtain ⟨bx, ox, rfl, hbx, dx⟩ := (unhide HX).get (unhide H0).bel (i := m) hl1
      have hbu := bounds_u16 (getD_wf (unhide HX) (i := m) hl1)
      obtain ⟨hb0, hb1⟩ := hbu
      have HEX : Hid (∃ bn : Nat, us.getD m 0 = (bn : Int)) := ⟨(us.getD m 0).toNat, by omega⟩
      obtain ⟨bn, hbn⟩ := HEX.out
      rw [hbn] at dx hb1
      clear hb0 hbn HEX
      have q4 : ((k : Int) == 0) = false := by rw [beq_eq_false_iff_ne]; omega
      have hvk : bn % k < k := Nat.mod_lt _ (by omega)
      go_wp2_with fail
      clear dx
      rw [show ((bn : Int) % (k : Int)) = ((bn % k : Nat) : Int) from rfl]
      generalize bn % k = v at *
      have f1 : (st k [l] g).atI (v : Int) 0 = ((l.getD 0 0 : Nat) : Int) := many_at (j := 0) (unhide HL) hvk (by omega)
      refine ((unhide H0).call fun _ ha => aAt _ _ ha).mono ?_
      rw [f1]
      rintro e W1 ⟨rfl, h, k⟩
      have H1 := hide h
      clear h k H0
      clear f1
      by_cases hr : l.idxOf v = 0
      · obtain ⟨f2, t2⟩ := many_no (g := g) (unhide HL) hvk hr
        go_wp2_with fail
        refine ((unhide H1).call fun _ ha => aBefore _ ha).mono ?_
        rw [f2, t2]
        rintro e W2 ⟨rfl, h, k⟩
        have H2 := hide h
        clear h k H1
        go_wp2
        go_roundw
        case rel => exact ⟨m + 1, by omega, by go_num, l, unhide HL, unhide H2⟩
        case measure => simp [intOf]; omega
      · obtain ⟨f2, t2, f3, t3, p3⟩ := many_cut (g := g) (unhide HL) hvk (show 0 < l.idxOf v by omega)
        have P3 := hide p3
        clear p3
        generalize l.getD 0 0 = z at *
        go_wp2_with fail
        refine ((unhide H1).call fun _ ha => aBefore _ ha).mono ?_
        rw [f2, t2]
        rintro e W2 ⟨rfl, h, k⟩
        have H2 := hide h
        clear h k H1
        go_wp2_with fail
        refine ((unhide H2).call fun _ ha => aJoin _ _ ha).mono ?_
        rw [f3, t3]
        rintro e W3 ⟨rfl, h, k⟩
        have H3 := hide h
        clear h k H2
        clear f2 t2 f3 t3
        go_wp2
        go_roundw
        case rel => exact ⟨m + 1, by omega, by go_num, _, unhide P3, unhide H3⟩
        case measure => simp [intOf]; omega
    · have hmk := make_bools k (by omega)
      have Sn := hide (Seen.new wr k)
      have HB := hide (unhide H0).bel.size
      have H0p := hide ((unhide H0).push (.cells (madeCells #[.bool false] k) 4))
      clear H0
      by_cases hl1 : m < lx
      · have q1 : (m : Int) < (lx : Int) := by omega
        have q2 : ¬ (m : Int) < 100 := by omega
        go_wp2
        clear hmk
        generalize wr.alloc (.cells (madeCells #[.bool false] k) 4) = WS at *
        generalize wr.heap.size = bs at *
        go_loopw [11] (fun i w' => ∃ j : Nat, j ≤ k ∧ i = .int .i64 (j : Int) ∧ Hid (Ob w w' p (st k [l] g) [bs]) ∧ Hid (Seen w' bs k (fun v => decide (l.idxOf v < j)))) (fun i _ => k - (intOf i).toNat)
        case atStart => exact ⟨0, by omega, rfl, H0p, hide (by simpa using unhide Sn)⟩
        case round =>
          clear H0p Sn
          obtain ⟨j, hj, rfl, H0, Sn⟩ := hrel
          by_cases hjk : j < k
          · have q5 : (j : Int) < (k : Int) := by omega
            have f1 : (st k [l] g).atI 0 (j : Int) = ((l.getD j 0 : Nat) : Int) := many_at (v := 0) (unhide HL) (by omega) hjk
            have f2 := many_rank (g := g) (unhide HL) hjk
            have hxk := many_lt (unhide HL) hjk
            have HIX := hide (many_idx (unhide HL) hjk)
            generalize hz : l.getD j 0 = z at *
            have HZ := hide hz
            clear hz
            have q6 : ¬ (z : Int) < 0 := by omega
            have q7 : (z : Int) < (k : Int) := by omega
            have q8 : (0 : Int) ≤ (z : Int) := by omega
            go_wp2_with fail
            refine ((unhide H0).call fun _ ha => aAt _ _ ha).mono ?_
            rw [f1]
            rintro e W1 ⟨rfl, h, k⟩
            have H1 := hide h
            replace Sn := hide ((unhide Sn).kept k (by simp))
            clear h k H0
            clear f1
            have d1 := (unhide Sn z hxk).1
            dsimp only at d1
            rw [show decide (l.idxOf z < j) = false by rw [unhide HIX]; simp] at d1
            go_wp2_with fail
            refine ((unhide H1).call fun _ ha => aRank _ ha).mono ?_
            rw [f2]
            rintro e W2 ⟨rfl, h, k⟩
            have H2 := hide h
            replace Sn := hide ((unhide Sn).kept k (by simp))
            clear h k H1
            clear f2 d1
            obtain ⟨d1, d2⟩ := unhide Sn z hxk
            dsimp only at d1
            have H3 := hide ((unhide H2).store (b := bs) (by simp) (unhide HB) z (.bool true))
            have S3 := hide ((unhide Sn).put (f' := fun v => decide (l.idxOf v < j + 1)) hxk (by simp [unhide HIX]) (fun i hi hne => by
              have : l.idxOf i ≠ j := fun e => hne (by
                have h1 := get_idx ((perm_mem (unhide HL)).2 hi)
                rw [e, unhide HZ] at h1
                exact h1.symm)
              simp only [decide_eq_decide]
              omega))
            clear H2 Sn
            go_wp2
            go_roundw
            case rel => exact ⟨j + 1, by omega, by go_num, H3, S3⟩
            case measure => simp [intOf]; omega
          · obtain rfl : j = k := by omega
            have q5 : ¬ (j : Int) < (j : Int) := by omega
            have f1 : (st j [l] g).lenI 0 = (j : Int) := many_len (v := 0) (unhide HL) (by omega)
            have f2 : (st j [l] g).atI 0 (j : Int) = -1 := many_end (v := 0) (unhide HL) (by omega)
            clear Sn
            go_wp2_with fail
            refine (awake_any _).mono ?_
            rintro e W1 ⟨rfl, hb⟩
            obtain ⟨h, k⟩ := (unhide H0).below hb
            have H1 := hide h
            clear h k hb H0
            go_wp2_with fail
            refine ((unhide H1).call fun _ ha => aLen _ ha).mono ?_
            rw [f1]
            rintro e W2 ⟨rfl, h, k⟩
            have H2 := hide h
            clear h k H1
            go_wp2_with fail
            refine ((unhide H2).call fun _ ha => aAt _ _ ha).mono ?_
            rw [f2]
            rintro e W3 ⟨rfl, h, k⟩
            have H3 := hide h
            clear h k H2
            go_wp2_with fail
            refine ((unhide H3).call fun _ ha => aCheck ha).mono ?_
            rintro e W4 ⟨rfl, h, k⟩
            have H4 := hide h
            clear h k H3
            go_wp2
            go_ret
            exact ⟨rfl, (unhide H4).bel⟩
      · have q1 : ¬ (m : Int) < (lx : Int) := by omega
        go_wp2
        clear hmk
        generalize wr.alloc (.cells (madeCells #[.bool false] k) 4) = WS at *
        generalize wr.heap.size = bs at *
        go_loopw [11] (fun i w' => ∃ j : Nat, j ≤ k ∧ i = .int .i64 (j : Int) ∧ Hid (Ob w w' p (st k [l] g) [bs]) ∧ Hid (Seen w' bs k (fun v => decide (l.idxOf v < j)))) (fun i _ => k - (intOf i).toNat)
        case atStart => exact ⟨0, by omega, rfl, H0p, hide (by simpa using unhide Sn)⟩
        case round =>
          clear H0p Sn
          obtain ⟨j, hj, rfl, H0, Sn⟩ := hrel
          by_cases hjk : j < k
          · have q5 : (j : Int) < (k : Int) := by omega
            have f1 : (st k [l] g).atI 0 (j : Int) = ((l.getD j 0 : Nat) : Int) := many_at (v := 0) (unhide HL) (by omega) hjk
            have f2 := many_rank (g := g) (unhide HL) hjk
            have hxk := many_lt (unhide HL) hjk
            have HIX := hide (many_idx (unhide HL) hjk)
            generalize hz : l.getD j 0 = z at *
            have HZ := hide hz
            clear hz
            have q6 : ¬ (z : Int) < 0 := by omega
            have q7 : (z : Int) < (k : Int) := by omega
            have q8 : (0 : Int) ≤ (z : Int) := by omega
            go_wp2_with fail
            refine ((unhide H0).call fun _ ha => aAt _ _ ha).mono ?_
            rw [f1]
            rintro e W1 ⟨rfl, h, k⟩
            have H1 := hide h
            replace Sn := hide ((unhide Sn).kept k (by simp))
            clear h k H0
            clear f1
            have d1 := (unhide Sn z hxk).1
            dsimp only at d1
            rw [show decide (l.idxOf z < j) = false by rw [unhide HIX]; simp] at d1
            go_wp2_with fail
            refine ((unhide H1).call fun _ ha => aRank _ ha).mono ?_
            rw [f2]
            rintro e W2 ⟨rfl, h, k⟩
            have H2 := hide h
            replace Sn := hide ((unhide Sn).kept k (by simp))
            clear h k H1
            clear f2 d1
            obtain ⟨d1, d2⟩ := unhide Sn z hxk
            dsimp only at d1
            have H3 := hide ((unhide H2).store (b := bs) (by simp) (unhide HB) z (.bool true))
            have S3 := hide ((unhide Sn).put (f' := fun v => decide (l.idxOf v < j + 1)) hxk (by simp [unhide HIX]) (fun i hi hne => by
              have : l.idxOf i ≠ j := fun e => hne (by
                have h1 := get_idx ((perm_mem (unhide HL)).2 hi)
                rw [e, unhide HZ] at h1
                exact h1.symm)
              simp only [decide_eq_decide]
              omega))
            clear H2 Sn
            go_wp2
            go_roundw
            case rel => exact ⟨j + 1, by omega, by go_num, H3, S3⟩
            case measure => simp [intOf]; omega
          · obtain rfl : j = k := by omega
            have q5 : ¬ (j : Int) < (j : Int) := by omega
            have f1 : (st j [l] g).lenI 0 = (j : Int) := many_len (v := 0) (unhide HL) (by omega)
            have f2 : (st j [l] g).atI 0 (j : Int) = -1 := many_end (v := 0) (unhide HL) (by omega)
            clear Sn
            go_wp2_with fail
            refine (awake_any _).mono ?_
            rintro e W1 ⟨rfl, hb⟩
            obtain ⟨h, k⟩ := (unhide H0).below hb
            have H1 := hide h
            clear h k hb H0
            go_wp2_with fail
            refine ((unhide H1).call fun _ ha => aLen _ ha).mono ?_
            rw [f1]
            rintro e W2 ⟨rfl, h, k⟩
            have H2 := hide h
            clear h k H1
            go_wp2_with fail
            refine ((unhide H2).call fun _ ha => aAt _ _ ha).mono ?_
            rw [f2]
            rintro e W3 ⟨rfl, h, k⟩
            have H3 := hide h
            clear h k H2
            go_wp2_with fail
            refine ((unhide H3).call fun _ ha => aCheck ha).mono ?_
            rintro e W4 ⟨rfl, h, k⟩
            have H4 := hide h
            clear h k H3
            go_wp2
            go_ret
            exact ⟨rfl, (unhide H4).bel⟩
theorem many_int (a : Int) (ha0 : 0 ≤ a) (ha : a ≤ 255) (x : Option Addr) (lx cx : Nat) (us : List Int) (w : World) (hx : IRow .u16 w x lx us) (hlx : lx ≤ maxLen) :
    Calls Try.prog 6 #[.int .u8 a, .slice x lx cx] w fun e w' => e = .returned (.bool true) ∧ Below w.heap.size w w' := by
  obtain ⟨a, rfl⟩ := Int.eq_ofNat_of_zero_le ha0
  exact many_walk a (by omega) x lx cx us w hx hlx
end Go.Proofs.Ytbkneonbpcmepaa
