/- PlainSubs: what is at or below a node, kid by kid; all trees together. -/
import Derived.Test.YtjnkgakajenoaaaL11
import Derived.Test.YtjnkgakajenoaaaL12
namespace Go.Proofs.Ytjnkgakajenoaaa
open Go.RowKit Go.Arb
set_option linter.unusedVariables false
set_option linter.unusedSimpArgs false

set_option maxRecDepth 100000 in
set_option maxHeartbeats 4000000 in
theorem subs_walk (x y : Option Addr) (lx cx ly cy : Nat) (us ws : List Int)  (w : World) (hx : IRow .u8 w x lx us) (hy : IRow .i16 w y ly ws) (hlx : lx ≤ maxLen) (hly : ly ≤ maxLen) :
    Calls Try.prog 7 #[.slice x lx cx, .slice y ly cy] w fun e w' => e = .returned (.bool true) ∧ Below w.heap.size w w' := by
  have LF := hide (upF_low (us := us) fun z hz => (bounds_u8 (hx.2.2 z hz)).1)
  have WF := hide (wF_fit (ws := ws) fun z hz => bounds_i16 (hy.2.2 z hz))
  have HX := hide hx
  have HY := hide hy
  have HLL := hide (And.intro hlx hly)
  have hlx' := hlx
  unfold maxLen at hlx'
  clear hx hy hlx hly
  have HEN : Hid (∃ n, min lx 30 = n) := ⟨_, rfl⟩
  obtain ⟨n, hnn⟩ := HEN.out
  have hn : n ≤ 30 := by omega
  have hnl : n ≤ lx := by omega
  have hmn : (lx ≤ 30 ∧ n = lx) ∨ (30 < lx ∧ n = 30) := by omega
  have HNN := hide (And.intro hnn hmn)
  clear hnn hmn HEN
  go_enter Try.func7, Try.ntmps7
  go_upto_region 1 with fail
  go_cut [5] (fun a w' => a = .int .i64 (n : Int) ∧ w' = w)
  case first =>
    rcases (unhide HNN).2 with ⟨h1, h2⟩ | ⟨h1, h2⟩
    · have h3 : (lx : Int) ≤ 30 := by omega
      have h4 : ¬ (30 : Int) < (lx : Int) := by omega
      have H2 := hide h2
      clear h2
      go_wp2
      go_meet
      exact ⟨by rw [unhide H2], rfl⟩
    · have h3 : ¬ (lx : Int) ≤ 30 := by omega
      have h4 : (30 : Int) < (lx : Int) := by omega
      have H2 := hide h2
      clear h2
      go_wp2
      go_meet
      exact ⟨by rw [unhide H2]; rfl, rfl⟩
  obtain ⟨rfl, hwc⟩ := hcut
  obtain rfl : w = wc := hwc.symm
  clear hwc
  go_wp2_with fail
  refine (grown_any (w := w) (js := []) n x y lx cx ly cy us ws w (Below.refl _ _) (by simp) (by omega) hnl (unhide HX) (unhide HY) (unhide HLL).2 (unhide HLL).1).mono ?_
  rintro e W0 ⟨p, rfl, h, kk⟩
  have hW := h.wf
  have hth : ∀ i, i < n → (gr n n (upF us) (wF ws)).par i ≠ -2 := fun i hi => gr_there (unhide LF) hi
  have hTn : (gr n n (upF us) (wF ws)).n = n := rfl
  have hwb : ∀ u, -32768 ≤ (gr n n (upF us) (wF ws)).wt u ∧ (gr n n (upF us) (wF ws)).wt u ≤ 32767 := fun u => by
    have := unhide WF u
    simp only [gr]; split <;> omega
  have H0 := hide h
  clear h kk LF WF HX HY HLL HNN
  generalize gr n n (upF us) (wF ws) = T at *
  have HW := hide (And.intro hW (And.intro hth (And.intro hTn hwb)))
  clear hW hth hTn hwb
  by_cases hn0 : n = 0
  · subst hn0
    go_wp2_with fail
    refine (awake_any _).mono ?_
    rintro e W1 ⟨rfl, hb⟩
    obtain ⟨h, k⟩ := (unhide H0).below hb
    have H1 := hide h
    clear h k hb H0
    go_wp2
    go_ret
    exact ⟨rfl, (unhide H1).bel⟩
  · have hnz : ((n : Int) == 0) = false := by rw [beq_eq_false_iff_ne]; omega
    go_wp2
    go_loopw [7, 8] (fun a i w' => ∃ (m : Nat) (A : Int), m ≤ n ∧ a = .int .i64 A ∧ i = .int .i64 (m : Int) ∧ 0 ≤ A ∧ A ≤ 900 ∧ Hid (A = sumTo (rootC T) m) ∧ Hid (Ob w w' p T [])) (fun _ i _ => n - (intOf i).toNat)
    case atStart => exact ⟨0, 0, by omega, rfl, rfl, by omega, by omega, rfl, H0⟩
    case round =>
      clear H0
      obtain ⟨m, A, hm, rfl, rfl, hA0, hA1, HA, H0⟩ := hrel
      by_cases hlt : m < n
      · have e1 : (m : Int) < (n : Int) := by omega
        obtain ⟨hW, hth, hTn, hwb⟩ := unhide HW
        have hct := hth m hlt
        have fh := Tr.hasI_there hct
        have hgt : T.getI m = T.wt m := by simp [Tr.getI, fh]
        have hkids := hW.sub_kids (fun u hu => hth u (by omega)) (v := m) (by omega)
        obtain ⟨hs0, hs1, hs2, hs3⟩ := Tr.sub_bd (by omega) hwb hct
        have hwm := hwb m
        have HB := hide (And.intro hkids (And.intro hct hlt))
        have hroot : Hid ((T.par m = -1 ∧ T.rootI m = m ∧ T.sizeI m = (T.subI m).c) ∨ (T.par m ≠ -1 ∧ T.rootI m ≠ m)) := by
          by_cases hr : T.par m = -1
          · exact .inl ⟨hr, hW.root_self hr, hW.size_root hr⟩
          · exact .inr ⟨hr, hW.root_ne hct hr⟩
        clear hW hth hTn hwb hkids hct
        have HEX : Hid (∃ s, T.subI m = s) := ⟨_, rfl⟩
        obtain ⟨s, hs⟩ := HEX.out
        rw [hs] at hs0 hs1 hs2 hs3 hroot HB
        have HSS := hide hs
        obtain ⟨sc, ss, sa, sb⟩ := s
        have HEX2 : Hid (∃ z, T.wt m = z) := ⟨_, rfl⟩
        obtain ⟨wm, hz⟩ := HEX2.out
        rw [hz] at hwm hgt HB
        obtain ⟨hwm0, hwm1⟩ := hwm
        clear HEX HEX2 hz
        dsimp only at *
        go_wp2_with fail
        refine ((unhide H0).call fun _ ha => aSub _ ha).mono ?_
        rw [hs, fh]
        dsimp only
        rintro e W1 ⟨rfl, h, k⟩
        have H1 := hide h
        clear h k H0
        go_wp2_with fail
        refine ((unhide H1).call fun _ ha => aGet _ ha).mono ?_
        rw [hgt, fh]
        rintro e W2 ⟨rfl, h, k⟩
        have H2 := hide h
        clear h k H1
        clear hs fh hgt
        go_wp2
        go_loopw [14, 15, 16] (fun c s i w' => ∃ (j : Nat) (C S : Int), j ≤ n ∧ c = .int .i64 C ∧ s = .int .i64 S ∧ i = .int .i64 (j : Int) ∧ 0 ≤ C ∧ C ≤ 1000 ∧ -40000000 ≤ S ∧ S ≤ 40000000 ∧ Hid (C = 1 + sumTo (kidC T m) j ∧ S = wm + sumTo (kidS T m) j) ∧ Hid (Ob w w' p T [])) (fun _ _ i _ => n - (intOf i).toNat)
        case atStart => exact ⟨0, 1, wm, by omega, rfl, rfl, rfl, by omega, by omega, by omega, by omega, ⟨by simp [sumTo], by simp [sumTo]⟩, H2⟩
        case round =>
          clear H2
          obtain ⟨j, C, S, hj, rfl, rfl, rfl, hC0, hC1, hS0, hS1, HC, H0⟩ := hrel
          by_cases hjn : j < n
          · have e2 : (j : Int) < (n : Int) := by omega
            obtain ⟨hW, hth, hTn, hwb⟩ := unhide HW
            have hjt := hth j hjn
            have fh := Tr.hasI_there hjt
            have hpj := parI_nat hjt
            obtain ⟨ht0, ht1, ht2, ht3⟩ := Tr.sub_bd (by omega) hwb hjt
            obtain ⟨⟨g0, g1⟩, ⟨g2, g3⟩, _⟩ := Tr.kid_bd (v := m) (by omega) hwb (fun u hu => hth u (by omega)) (m := j + 1) (by omega)
            have hwm := hwb m
            have hstep : Hid (sumTo (kidC T m) (j + 1) = sumTo (kidC T m) j + kidC T m j ∧ sumTo (kidS T m) (j + 1) = sumTo (kidS T m) j + kidS T m j) := ⟨rfl, rfl⟩
            clear hW hth hTn hwb hjt
            by_cases hpm : T.par j = (m : Int)
            · have hk : Hid (kidC T m j = (T.subI j).c ∧ kidS T m j = (T.subI j).s) := ⟨by simp [kidC, hpm], by simp [kidS, hpm]⟩
              have hC2 := (unhide HC).1
              have hS2 := (unhide HC).2
              have hst := unhide hstep
              have hkk := unhide hk
              have hC3 : 0 ≤ C + (T.subI j).c ∧ C + (T.subI j).c ≤ 1000 := by omega
              have hS3 : -40000000 ≤ S + (T.subI j).s ∧ S + (T.subI j).s ≤ 40000000 := by omega
              obtain ⟨hC3, hC4⟩ := hC3
              obtain ⟨hS3, hS4⟩ := hS3
              have HN : Hid (C + (T.subI j).c = 1 + sumTo (kidC T m) (j + 1) ∧ S + (T.subI j).s = wm + sumTo (kidS T m) (j + 1)) := by
                show _ ∧ _
                omega
              rw [hpm] at hpj
              clear hC2 hS2 hst hkk hk hstep HC hpm g0 g1 g2 g3 hwm
              have HEX : Hid (∃ s, T.subI j = s) := ⟨_, rfl⟩
              obtain ⟨s, hs⟩ := HEX.out
              rw [hs] at ht0 ht1 ht2 ht3 HN hC3 hC4 hS3 hS4
              obtain ⟨tc, ts, ta, tb⟩ := s
              clear HEX
              dsimp only at *
              go_wp2_with fail
              refine ((unhide H0).call fun _ ha => aParent _ ha).mono ?_
              rw [hpj]
              rintro e W1 ⟨rfl, h, k⟩
              have H1 := hide h
              clear h k H0
              go_wp2_with fail
              refine ((unhide H1).call fun _ ha => aSub _ ha).mono ?_
              rw [hs, fh]
              dsimp only
              rintro e W2 ⟨rfl, h, k⟩
              have H2 := hide h
              clear h k H1
              clear hs fh hpj
              go_wp2
              go_roundw
              case rel => exact ⟨j + 1, C + tc, S + ts, by omega, by go_num, by go_num, by go_num, hC3, hC4, hS3, hS4, HN, H2⟩
              case measure => simp [intOf]; omega
            · have hk : Hid (kidC T m j = 0 ∧ kidS T m j = 0) := ⟨by simp [kidC, hpm], by simp [kidS, hpm]⟩
              have hC2 := (unhide HC).1
              have hS2 := (unhide HC).2
              have hst := unhide hstep
              have hkk := unhide hk
              have HN : Hid (C = 1 + sumTo (kidC T m) (j + 1) ∧ S = wm + sumTo (kidS T m) (j + 1)) := by
                show _ ∧ _
                omega
              have hpm' : (T.par j == (m : Int)) = false := by rw [beq_eq_false_iff_ne]; exact hpm
              clear hC2 hS2 hst hkk hk hstep HC hpm g0 g1 g2 g3 hwm
              generalize T.par j = y at *
              go_wp2_with fail
              refine ((unhide H0).call fun _ ha => aParent _ ha).mono ?_
              rw [hpj]
              rintro e W1 ⟨rfl, h, k⟩
              have H1 := hide h
              clear h k H0
              clear fh hpj
              go_wp2
              go_roundw
              case rel => exact ⟨j + 1, C, S, by omega, by go_num, by go_num, by go_num, hC0, hC1, hS0, hS1, HN, H1⟩
              case measure => simp [intOf]; omega
          · have e2 : ¬ (j : Int) < (n : Int) := by omega
            have hjn2 : j = n := by omega
            obtain ⟨hC2, hS2⟩ := unhide HC
            obtain ⟨⟨hk1, hk2⟩, _⟩ := unhide HB
            obtain ⟨_, _, hTn, _⟩ := unhide HW
            rw [hTn, ← hjn2] at hk1 hk2
            have hCe : C = sc := by omega
            have hSe : S = ss := by omega
            clear hC2 hS2 hk1 hk2 hTn hC0 hC1 hS0 hS1 HC
            subst hCe
            subst hSe
            have HJ := hide hjn2
            clear hjn2
            rcases unhide hroot with ⟨hr1, hr2, hr3⟩ | ⟨hr1, hr2⟩
            · have hstep : Hid (sumTo (rootC T) (m + 1) = A + C) := by
                show sumTo (rootC T) m + rootC T m = A + C
                rw [← unhide HA]
                unfold rootC
                rw [if_pos hr1, unhide HSS]
              have hbd := (Tr.kid_bd (v := m) (T := T) (by have := (unhide HW).2.2.1; omega) (unhide HW).2.2.2 (fun u hu => (unhide HW).2.1 u (by have := (unhide HW).2.2.1; omega)) (m := m + 1) (by have := (unhide HW).2.2.1; omega)).2.2
              rw [unhide hstep] at hbd
              obtain ⟨hb0, hb1⟩ := hbd
              clear hroot hr1
              go_wp2_with fail
              refine ((unhide H0).call fun _ ha => aRoot _ ha).mono ?_
              rw [hr2]
              rintro e W1 ⟨rfl, h, k⟩
              have H1 := hide h
              clear h k H0
              go_wp2_with fail
              refine ((unhide H1).call fun _ ha => aSize _ ha).mono ?_
              rw [hr3]
              rintro e W2 ⟨rfl, h, k⟩
              have H2 := hide h
              clear h k H1
              clear hr2 hr3
              go_wp2
              go_roundw
              case rel => exact ⟨m + 1, A + C, by omega, by go_num, by go_num, hb0, hb1, (unhide hstep).symm, H2⟩
              case measure => simp [intOf]; omega
            · have hstep : Hid (sumTo (rootC T) (m + 1) = A) := by
                show sumTo (rootC T) m + rootC T m = A
                rw [← unhide HA]
                unfold rootC
                rw [if_neg hr1]
                omega
              have hr2' : (T.rootI m == (m : Int)) = false := by rw [beq_eq_false_iff_ne]; exact hr2
              clear hroot hr1 hr2
              generalize hrz : T.rootI m = rz at *
              go_wp2_with fail
              refine ((unhide H0).call fun _ ha => aRoot _ ha).mono ?_
              rw [hrz]
              rintro e W1 ⟨rfl, h, k⟩
              have H1 := hide h
              clear h k H0
              clear hrz
              go_wp2
              go_roundw
              case rel => exact ⟨m + 1, A, by omega, by go_num, by go_num, hA0, hA1, (unhide hstep).symm, H1⟩
              case measure => simp [intOf]; omega
      · have e1 : ¬ (m : Int) < (n : Int) := by omega
        have hmn : m = n := by omega
        have hAn : A = (n : Int) := by
          obtain ⟨hW, hth, hTn, hwb⟩ := unhide HW
          have := hW.sub_roots (fun u hu => hth u (by omega))
          rw [hTn] at this
          rw [unhide HA, hmn, this]
        clear hA0 hA1 HA
        subst hAn
        have HMN := hide hmn
        clear hmn
        go_wp2_with fail
        refine (awake_any _).mono ?_
        rintro e W1 ⟨rfl, hb⟩
        obtain ⟨h, k⟩ := (unhide H0).below hb
        have H1 := hide h
        clear h k hb H0
        go_wp2
        go_ret
        exact ⟨by simp, (unhide H1).bel⟩
end Go.Proofs.Ytjnkgakajenoaaa
