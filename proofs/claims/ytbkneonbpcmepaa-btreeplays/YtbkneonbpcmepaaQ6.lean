/- The pool: At, span. -/
import Derived.Test.YtbkneonbpcmepaaQ5
namespace Go.Proofs.Ytbkneonbpcmepaa
open Go.RowKit Go.Arb
set_option linter.unusedVariables false
set_option linter.unusedSimpArgs false

section
variable {w w' : World} {p : Nat} {v : Value} {xs : List Value} {ad : Nat → Nat} {F F' : List Tp} {A : Se}
theorem at_nil (x k : Int) (w : World) : Calls Try.prog 35 #[.pointer none, .int .i64 x, .int .i64 k] w fun e w' => e = .returned (.int .i64 (-1)) ∧ Below w.heap.size w w' := by
  have L := hide (len_nil x w)
  by_cases h0 : k < 0
  · clear L
    go_enter Try.func35, Try.ntmps35
    go_wp2
    go_ret
    exact ⟨rfl, Below.refl _ _⟩
  · go_enter Try.func35, Try.ntmps35
    go_wp2_with fail
    refine (unhide L).mono ?_
    rintro e w1 ⟨rfl, hb⟩
    have HB := hide hb
    clear hb L
    have h0' : 0 ≤ k := by omega
    go_wp2
    go_ret
    exact ⟨rfl, unhide HB⟩
theorem Se.lenI_no {x : Int} (h : A.hasI x = false) : A.lenI x = 0 := by simp [Se.lenI, Se.seqI, h]
set_option maxRecDepth 100000 in
theorem pat_any (x k : Int) (h : PB w p v xs ad F A) : Calls Try.prog 35 #[.pointer (some ⟨p, 0, none⟩), .int .i64 x, .int .i64 k] w fun e w' => e = .returned (.int .i64 (A.atI x k)) ∧ Below w.heap.size w w' := by
  have L := hide (len_any x h)
  by_cases h0 : k < 0
  · rw [show A.atI x k = -1 from by rw [Se.atI, if_neg (by omega)]]
    clear L h
    go_enter Try.func35, Try.ntmps35
    go_wp2
    go_ret
    exact ⟨rfl, Below.refl _ _⟩
  by_cases h1 : A.lenI x ≤ k
  · rw [show A.atI x k = -1 from by rw [Se.atI, if_neg (by omega)]]
    generalize A.lenI x = n at *
    clear h
    go_enter Try.func35, Try.ntmps35
    go_wp2_with fail
    refine (unhide L).mono ?_
    rintro e w1 ⟨rfl, hb⟩
    have HB := hide hb
    clear hb L
    go_wp2
    go_ret
    exact ⟨rfl, unhide HB⟩
  · cases hh : A.hasI x
    · rw [Se.lenI_no hh] at h1; omega
    obtain ⟨u, rfl, hu⟩ := Se.hasI_true hh
    have hl : A.lenI u = ((A.seq u).length : Nat) := by rw [Se.lenI, Se.seqI_nat hu]
    obtain ⟨k, rfl⟩ := Int.eq_ofNat_of_zero_le (by omega : 0 ≤ k)
    have hk : k < (A.seq u).length := by omega
    have e0 : A.atI u k = ((A.seq u).getD k 0 : Nat) := by
      rw [Se.atI, if_pos (by omega), Se.seqI_nat hu]
      simp
    rw [e0]
    have H2 := hide (fun w1 (hb : Below w.heap.size w w1) => by
      have h2 := h.below hb
      obtain ⟨T, F1, d, c, z, q⟩ := h2.ctx hu
      obtain ⟨g, cap, hv, e1, x1, x2, x3⟩ := h2.cell hu
      obtain ⟨_, c1, _, _⟩ := h2.head
      have T1 := q.top
      have hti : its T.h T.t = itw A.W ad (A.seq u) := q.ti
      have A1 := at_any T.h T.t (.pointer none) k w1 q.own.mem (by rw [hti, itw_length]; exact hk) q.own.len (by have := height_le q.own.wf (Nat.le_refl _) q.own.len; omega) ⟨2, q.own.wf⟩
      have e5 : ((ids (its T.h T.t)).getD k (0, 0)).1 = (A.seq u).getD k 0 := by
        rw [hti, ids_itw, List.getD_eq_getElem?_getD, List.getElem?_map, List.getElem?_eq_getElem hk, List.getD_eq_getElem?_getD, List.getElem?_eq_getElem hk]
        rfl
      rw [e5] at A1
      unfold ptr at A1
      exact (⟨adr T.h T.t, g, cap, hv, c1, e1, x1, T1, A1⟩ : ∃ B g cap, v = .slice (some ⟨g, 0, none⟩) xs.length cap ∧ w1.cell? ⟨p, 1, none⟩ = some v ∧ w1.cell? ⟨g, u, none⟩ = some (.pointer (some ⟨ad u, 0, none⟩)) ∧ u < xs.length ∧
        (Calls Try.prog 52 #[.pointer (some ⟨ad u, 0, none⟩)] w1 fun e w' => e = .returned (.pointer (some ⟨B, 0, none⟩)) ∧ w' = w1) ∧ Calls Try.prog 63 #[.pointer (some ⟨B, 0, none⟩), .int .i64 (k : Int)] w1 fun e w' => e = .returned (.int .i64 ((A.seq u).getD k 0 : Nat)) ∧ w' = w1))
    have h1' : ¬ A.lenI u ≤ (k : Int) := h1
    have h0' : ¬ (k : Int) < 0 := by omega
    generalize A.lenI u = n at *
    generalize (A.seq u).getD k 0 = Z at *
    clear h hh hu e0 hl hk h1 h0
    go_enter Try.func35, Try.ntmps35
    go_wp2_with fail
    refine (unhide L).mono ?_
    rintro e w1 ⟨rfl, hb⟩
    have HB := hide hb
    obtain ⟨B, g, cap, rfl, c1, e1, x1, T1, A1⟩ := unhide H2 w1 hb
    have TT := hide T1
    have AA := hide A1
    have i1 : (u : Int) < (xs.length : Int) := by omega
    clear hb L T1 A1 H2
    go_wp2_with fail
    refine (unhide TT).mono ?_
    rintro e w2 ⟨rfl, rfl⟩
    clear TT
    go_wp2_with fail
    refine (unhide AA).mono ?_
    rintro e w2 ⟨rfl, rfl⟩
    go_wp2
    go_ret
    exact ⟨rfl, unhide HB⟩

theorem span_nil (a b : Int) (w : World) : Calls Try.prog 53 #[.pointer none, .int .i64 a, .int .i64 b] w fun e w' => e = .returned (.tuple #[.pointer none, .int .i64 0, .int .i64 0]) ∧ ∃ q, w' = w.drewN q := by
  have R := hide (fun x w => rank_nil x w)
  have S := hide (same_nil a b w)
  go_enter Try.func53, Try.ntmps53
  go_wp2_with fail
  refine (unhide R _ _).mono ?_
  rintro e w1 ⟨rfl, rfl⟩
  go_wp2_with fail
  refine (unhide R _ _).mono ?_
  rintro e w1 ⟨rfl, rfl⟩
  go_wp2_with fail
  refine (unhide S).mono ?_
  rintro e w1 ⟨rfl, q, rfl⟩
  go_wp2
  refine bodyPost_ret (v := .tuple #[.pointer none, .int .i64 0, .int .i64 0]) (by simp [results, Try.results53, go_sem]) rfl ⟨rfl, _, rfl⟩
theorem Se.rankI_bd (h : PB w p v xs ad F A) (x : Int) : -1 ≤ A.rankI x ∧ A.rankI x ≤ 4194304 := by
  cases hh : A.hasI x
  · rw [show A.rankI x = -1 from by simp [Se.rankI, hh]]; omega
  · obtain ⟨u, rfl, hu⟩ := Se.hasI_true hh
    obtain ⟨T, F1, d, c, z, q⟩ := h.ctx hu
    rw [q.rank hu]
    have h1 := q.len
    have h2 := List.idxOf_le_length (l := A.seq u) (a := u)
    rw [q.split.1] at h2
    omega
set_option maxRecDepth 100000 in
theorem span_no (a b : Int) (h : PB w p v xs ad F A) (ho : A.okR a b = false) : Calls Try.prog 53 #[.pointer (some ⟨p, 0, none⟩), .int .i64 a, .int .i64 b] w fun e w' => e = .returned (.tuple #[.pointer none, .int .i64 0, .int .i64 0]) ∧ ∃ q, w' = w.drewN q := by
  have RA := hide (rank_any a h)
  have RB := hide (rank_any b h)
  have S := hide (same_any a b h)
  have b1 := Se.rankI_bd h a
  have b2 := Se.rankI_bd h b
  by_cases hr : A.rankI a ≤ A.rankI b
  · have hs : A.sameI a b = false := by simpa [Se.okR, hr] using ho
    rw [hs] at S
    have hr' : ¬ A.rankI b + 1 ≤ A.rankI a := by omega
    generalize A.rankI a = ra at *
    generalize A.rankI b = rb at *
    clear h ho hs hr
    go_enter Try.func53, Try.ntmps53
    go_wp2_with fail
    refine (unhide RA).mono ?_
    rintro e w1 ⟨rfl, rfl⟩
    go_wp2_with fail
    refine (unhide RB).mono ?_
    rintro e w1 ⟨rfl, rfl⟩
    go_wp2_with fail
    refine (unhide S).mono ?_
    rintro e w1 ⟨rfl, q, rfl⟩
    clear RA RB S
    go_wp2
    refine bodyPost_ret (v := .tuple #[.pointer none, .int .i64 0, .int .i64 0]) (by simp [results, Try.results53, go_sem]) rfl ⟨rfl, _, rfl⟩
  · have hr' : A.rankI b + 1 ≤ A.rankI a := by omega
    generalize A.rankI a = ra at *
    generalize A.rankI b = rb at *
    clear h ho hr S
    go_enter Try.func53, Try.ntmps53
    go_wp2_with fail
    refine (unhide RA).mono ?_
    rintro e w1 ⟨rfl, rfl⟩
    go_wp2_with fail
    refine (unhide RB).mono ?_
    rintro e w1 ⟨rfl, rfl⟩
    clear RA RB
    go_wp2
    refine bodyPost_ret (v := .tuple #[.pointer none, .int .i64 0, .int .i64 0]) (by simp [results, Try.results53, go_sem]) rfl ⟨rfl, 0, rfl⟩
set_option maxRecDepth 100000 in
theorem span_yes {T : Tp} {u d : Nat} {c : Cx d 0} {x : Tr 0} (b : Int) (q : Ctx w p v xs ad T F A u d c x) (hu : u ∈ A.L.flatten) (ho : A.okR u b = true) :
    Calls Try.prog 53 #[.pointer (some ⟨p, 0, none⟩), .int .i64 (u : Int), .int .i64 b] w fun e w' => e = .returned (.tuple #[.pointer (some ⟨adr T.h T.t, 0, none⟩), .int .i64 (A.rankI u), .int .i64 (A.rankI b + 1)]) ∧ ∃ q, w' = w.drewN q := by
  have h := q.pb
  have RA := hide (rank_any (u : Int) h)
  have RB := hide (rank_any b h)
  have S := hide (same_any (u : Int) b h)
  have b1 := Se.rankI_bd h u
  have b2 := Se.rankI_bd h b
  have ho' := ho
  simp only [Se.okR, Bool.and_eq_true, decide_eq_true_eq] at ho'
  obtain ⟨hs, hr⟩ := ho'
  rw [hs] at S
  have hr' : ¬ A.rankI b + 1 ≤ A.rankI u := by omega
  obtain ⟨g, cap, rfl, e1, x1, x2, x3⟩ := h.cell hu
  obtain ⟨_, c1, _, _⟩ := h.head
  have T1 := hide (fun k => (q.drewN k).top)
  have i1 : (u : Int) < (xs.length : Int) := by omega
  generalize A.rankI u = ra at *
  generalize A.rankI b = rb at *
  generalize adr T.h T.t = B at *
  generalize ad u = B2 at *
  clear h ho hs hr q hu
  go_enter Try.func53, Try.ntmps53
  go_wp2_with fail
  refine (unhide RA).mono ?_
  rintro e w1 ⟨rfl, rfl⟩
  go_wp2_with fail
  refine (unhide RB).mono ?_
  rintro e w1 ⟨rfl, rfl⟩
  go_wp2_with fail
  refine (unhide S).mono ?_
  rintro e w1 ⟨rfl, q, rfl⟩
  clear RA RB S
  go_wp2_with fail
  refine (unhide T1 _).mono ?_
  rintro e w1 ⟨rfl, rfl⟩
  clear T1
  go_wp2
  refine bodyPost_ret (v := .tuple #[.pointer (some ⟨B, 0, none⟩), .int .i64 ra, .int .i64 (rb + 1)]) (by simp [results, Try.results53, go_sem]) rfl ⟨rfl, _, rfl⟩
end
end Go.Proofs.Ytbkneonbpcmepaa
