/- PlainBounds: three nodes in a line, of the greatest, any small and the least weight. -/
import Derived.Test.YtjnkgakajenoaaaL11
namespace Go.Proofs.Ytjnkgakajenoaaa
open Go.RowKit Go.Arb
set_option linter.unusedVariables false
set_option linter.unusedSimpArgs false

abbrev bd3 (m : Int) : Tr := (((Tr.new 3).add 0 1099511627776).add 1 m).add 2 (-1099511627776)
abbrev bd5 (m : Int) : Tr := ((bd3 m).link 1 0).link 2 1
theorem raise_zero (T : Tr) (l : List Nat) : T.raise l 0 = T := by
  cases T
  simp only [Tr.raise]
  congr 1
  funext u
  simp [raiseF]
theorem pathAdd_zero (T : Tr) (a b : Int) : T.pathAdd a b 0 = T := by
  unfold Tr.pathAdd
  split
  · exact raise_zero _ _
  · rfl
theorem pathAdd_no {T : Tr} {a b n : Int} (h : T.raiseB a b n = false) : T.pathAdd a b n = T := by simp [Tr.pathAdd, h]
theorem bd_raise (m n : Int) (h0 : -32768 ≤ m) (h1 : m ≤ 32767) : (bd5 m).raiseB 0 2 n = (n == 0) ∧ (bd5 m).pathAdd 0 2 n = bd5 m := by
  have hw : (bd5 m).wayI 0 2 = [0, 2, 1] := rfl
  have hs : (bd5 m).sameI 0 2 = true := rfl
  have e : (bd5 m).raiseB 0 2 n = (n == 0) := by
    rw [Tr.raiseB, hw, hs]
    have w0 : (bd5 m).wt 0 = 1099511627776 := rfl
    have w1 : (bd5 m).wt 1 = m := rfl
    have w2 : (bd5 m).wt 2 = -1099511627776 := rfl
    simp only [List.all_cons, List.all_nil, w0, w1, w2, Bool.true_and, Bool.and_true]
    rw [Bool.eq_iff_iff]
    simp only [addB, fitB, inB, Bool.and_eq_true, decide_eq_true_eq, beq_iff_eq]
    constructor <;> intro h <;> omega
  refine ⟨e, ?_⟩
  by_cases hn : n = 0
  · subst hn; exact pathAdd_zero _ _ _
  · exact pathAdd_no (by rw [e]; simpa using hn)
theorem bd_path (m : Int) (h0 : -32768 ≤ m) (h1 : m ≤ 32767) : (bd5 m).pathI 0 2 = ⟨3, m, -1099511627776, 1099511627776⟩ := by
  have hw : (bd5 m).wayI 0 2 = [0, 2, 1] := rfl
  have w0 : (bd5 m).wt 0 = 1099511627776 := rfl
  have w1 : (bd5 m).wt 1 = m := rfl
  have w2 : (bd5 m).wt 2 = -1099511627776 := rfl
  rw [Tr.pathI, hw]
  simp only [List.map_cons, List.map_nil, w0, w1, w2]
  rw [ofL_eq]
  simp only [ofR, jn, one, zero]
  refine Sm.same ?_ ?_ ?_ ?_ <;> simp <;> omega

set_option maxHeartbeats 400000 in
theorem new_no (n : Int) (w : World) (h : n < 0 ∨ 1048576 < n) : Calls Try.prog 14 #[.int .i64 n] w fun e w' => e = .returned (.pointer none) ∧ w = w' := by
  rcases h with h | h
  · go_enter Try.func14, Try.ntmps14
    go_wp2
    go_ret
    exact ⟨rfl, rfl⟩
  · have h' : ¬ n < 0 := by omega
    go_enter Try.func14, Try.ntmps14
    go_wp2
    go_ret
    exact ⟨rfl, rfl⟩
set_option maxRecDepth 100000 in
set_option maxHeartbeats 4000000 in
theorem bounds_walk (n m : Int) (w : World) (h0 : -32768 ≤ m) (h1 : m ≤ 32767) (hn0 : -9223372036854775808 ≤ n) (hn1 : n ≤ 9223372036854775807) :
    Calls Try.prog 8 #[.int .i64 n, .int .i16 m] w fun e w' => e = .returned (.bool true) ∧ Below w.heap.size w w' := by
  have f1 : (Tr.new 3).addB 0 1099511627776 = true := by decide
  have t1 : (Tr.new 3).addI 0 1099511627776 = (Tr.new 3).add 0 1099511627776 := addI_yes f1
  have hfm : fitB m = true := by simp [fitB]; omega
  have f2 : ((Tr.new 3).add 0 1099511627776).addB 1 m = true := by rw [Tr.addB, hfm]; rfl
  have t2 : ((Tr.new 3).add 0 1099511627776).addI 1 m = ((Tr.new 3).add 0 1099511627776).add 1 m := addI_yes f2
  have f3 : (((Tr.new 3).add 0 1099511627776).add 1 m).addB 2 (-1099511627776) = true := rfl
  have t3 : (((Tr.new 3).add 0 1099511627776).add 1 m).addI 2 (-1099511627776) = bd3 m := addI_yes f3
  have f4 : (bd3 m).linkB 1 0 = true := rfl
  have t4 : (bd3 m).linkI 1 0 = (bd3 m).link 1 0 := linkI_yes f4
  have f5 : ((bd3 m).link 1 0).linkB 2 1 = true := rfl
  have t5 : ((bd3 m).link 1 0).linkI 2 1 = bd5 m := linkI_yes f5
  obtain ⟨f6, t6⟩ := bd_raise m n h0 h1
  have f7 : ((bd5 m).hasI 1 && fitB 1099511627777) = false := rfl
  have t7 : (bd5 m).setI 1 1099511627777 = bd5 m := setI_no f7
  have f8 : ((bd5 m).hasI 1 && fitB (-1099511627777)) = false := rfl
  have t8 : (bd5 m).setI 1 (-1099511627777) = bd5 m := setI_no f8
  have f9 : (bd5 m).addB 3 0 = false := rfl
  have t9 : (bd5 m).addI 3 0 = bd5 m := addI_no f9
  have f10 : (bd5 m).addB (-1) 0 = false := rfl
  have t10 : (bd5 m).addI (-1) 0 = bd5 m := addI_no f10
  have f11 : (bd5 m).addB 0 0 = false := rfl
  have t11 : (bd5 m).addI 0 0 = bd5 m := addI_no f11
  have f12 := bd_path m h0 h1
  have f13 : (bd5 m).sameI 0 2 = true := rfl
  go_enter Try.func8, Try.ntmps8
  go_wp2_with fail
  refine (oNew (js := []) 3 w (Below.refl _ _) (by simp) (by decide)).mono ?_
  rintro e W1 ⟨p, rfl, h, _⟩
  have H1 := hide h
  clear h
  go_wp2_with fail
  refine ((unhide H1).call fun _ ha => aAdd _ _ ha).mono ?_
  rw [f1, t1]
  rintro e W2 ⟨rfl, h, k⟩
  have H2 := hide h
  clear h k H1
  go_wp2_with fail
  refine ((unhide H2).call fun _ ha => aAdd _ _ ha).mono ?_
  rw [f2, t2]
  rintro e W3 ⟨rfl, h, k⟩
  have H3 := hide h
  clear h k H2
  go_wp2_with fail
  refine ((unhide H3).call fun _ ha => aAdd _ _ ha).mono ?_
  rw [f3, t3]
  rintro e W4 ⟨rfl, h, k⟩
  have H4 := hide h
  clear h k H3
  go_wp2_with fail
  refine ((unhide H4).call fun _ ha => aLink _ _ ha).mono ?_
  rw [f4, t4]
  rintro e W5 ⟨rfl, h, k⟩
  have H5 := hide h
  clear h k H4
  go_wp2_with fail
  refine ((unhide H5).call fun _ ha => aLink _ _ ha).mono ?_
  rw [f5, t5]
  rintro e W6 ⟨rfl, h, k⟩
  have H6 := hide h
  clear h k H5
  clear t1 t2 t3 t4 t5 f1 f2 f3 f4 f5 hfm
  go_wp2_with fail
  refine ((unhide H6).call fun _ ha => aPathAdd _ _ _ ha).mono ?_
  rw [f6, t6]
  rintro e W7 ⟨rfl, h, k⟩
  have H7 := hide h
  clear h k H6
  go_wp2_with fail
  refine ((unhide H7).call fun _ ha => aSet _ _ ha).mono ?_
  rw [f7, t7]
  rintro e W8 ⟨rfl, h, k⟩
  have H8 := hide h
  clear h k H7
  go_wp2_with fail
  refine ((unhide H8).call fun _ ha => aSet _ _ ha).mono ?_
  rw [f8, t8]
  rintro e W9 ⟨rfl, h, k⟩
  have H9 := hide h
  clear h k H8
  go_wp2_with fail
  refine ((unhide H9).call fun _ ha => aAdd _ _ ha).mono ?_
  rw [f9, t9]
  rintro e W10 ⟨rfl, h, k⟩
  have H10 := hide h
  clear h k H9
  go_wp2_with fail
  refine ((unhide H10).call fun _ ha => aAdd _ _ ha).mono ?_
  rw [f10, t10]
  rintro e W11 ⟨rfl, h, k⟩
  have H11 := hide h
  clear h k H10
  go_wp2_with fail
  refine ((unhide H11).call fun _ ha => aAdd _ _ ha).mono ?_
  rw [f11, t11]
  rintro e W12 ⟨rfl, h, k⟩
  have H12 := hide h
  clear h k H11
  clear t6 t7 t8 t9 t10 t11 f6 f7 f8 f9 f10 f11
  go_wp2_with fail
  refine ((unhide H12).call fun _ ha => aPath _ _ ha).mono ?_
  rw [f12, f13]
  unfold smV
  dsimp only
  rintro e W13 ⟨rfl, h, k⟩
  have H13 := hide h
  clear h k H12
  have S := hide (SumAt.new W13 34 3 m (-1099511627776) 1099511627776)
  replace H13 := hide ((unhide H13).push (.cells #[.int .i64 3, .int .i64 m, .int .i64 (-1099511627776), .int .i64 1099511627776] 34))
  go_wp2_with fail
  generalize W13.alloc (.cells #[.int .i64 3, .int .i64 m, .int .i64 (-1099511627776), .int .i64 1099511627776] 34) = WW13 at *
  generalize W13.heap.size = b at *
  refine (awake_any _).mono ?_
  rintro e W20 ⟨rfl, hb⟩
  obtain ⟨h, kk⟩ := (unhide H13).below hb
  have H20 := hide h
  obtain ⟨⟨q0, q1, q2, q3⟩, _⟩ := (unhide S).kept kk (by simp)
  clear h kk hb H13 S
  go_wp2_with fail
  refine (has_nil _ _).mono ?_
  rintro e w' ⟨rfl, rfl⟩
  go_wp2_with fail
  refine (add_nil _ _ _).mono ?_
  rintro e w' ⟨rfl, rfl⟩
  go_wp2_with fail
  refine (root_nil _ _).mono ?_
  rintro e w' ⟨rfl, rfl⟩
  go_wp2_with fail
  refine (parent_nil _ _).mono ?_
  rintro e w' ⟨rfl, rfl⟩
  go_wp2_with fail
  refine (lca_nil _ _ _).mono ?_
  rintro e w' ⟨rfl, rfl⟩
  go_wp2_with fail
  refine (size_nil _ _).mono ?_
  rintro e w' ⟨rfl, rfl⟩
  go_wp2_with fail
  refine (check_nil _).mono ?_
  rintro e w' ⟨rfl, rfl⟩
  go_wp2_with fail
  refine (new_no _ _ (by omega)).mono ?_
  rintro e w' ⟨rfl, rfl⟩
  go_wp2_with fail
  refine (new_no _ _ (by omega)).mono ?_
  rintro e w' ⟨rfl, rfl⟩
  go_wp2
  go_ret
  exact ⟨rfl, (unhide H20).bel⟩
end Go.Proofs.Ytjnkgakajenoaaa
