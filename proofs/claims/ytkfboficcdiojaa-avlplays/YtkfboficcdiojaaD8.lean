import Derived.Test.YtkfboficcdiojaaD7
import Derived.Test.YtkfboficcdiojaaD6
import Derived.Test.YtkfboficcdiojaaD5
namespace Go.Proofs.Ytkfboficcdiojaa
open Go.RowKit Go.Arb
set_option linter.unusedVariables false
set_option linter.unusedSimpArgs false

section
variable {w w' : World} {p g n cap : Nat} {S S' : Ss} {A : Se}
/-- The sum of the places of a span. -/
theorem span_sum {a b : Int} {u r : Nat} (h : PA w p g n cap S A) (ho : A.okR a b = true) (sp : Spn S A a b u r) : SumTo p g n cap A.n r (A.rankI a) (A.rankI b + 1) S (A.rangeI a b) := by
  obtain ⟨b1, b2⟩ := Se.rankI_bd h.iv a
  obtain ⟨b3', b4⟩ := Se.rankI_bd h.iv b
  have fe := sp.fe
  have f0 := sp.f0
  have el := sp.el
  have e : A.rangeI a b = smL (slc (A.rankI a) (A.rankI b + 1) (its A.W (A.seq u))) := by
    rw [Se.rangeI, if_pos ho, A.part_slc a b f0 (by omega), sp.sq, its, slc_map]
    exact (smL_its A.W _).symm
  rw [e]
  have hl := sp.tr.len
  rw [its_length] at hl
  exact sumOf_any p g n cap A.n S h.iv.z h.n0 _ r _ _ _ 0 (Nat.le_refl _) sp.tr.pt (.inl (by rw [its_length]; omega)) (by omega) (by omega) (by omega) (by rw [its_length]; omega) (by omega) (fun x hx => sp.tr.pt.ltn h.po h.iv.z x hx) sp.tr.len

set_option maxHeartbeats 1000000 in
theorem range_nil (a b : Int) (w : World) : Calls Try.prog 25 #[.pointer none, .int .i64 a, .int .i64 b] w fun e w' => e = .returned (.tuple #[smV zero, .bool false]) ∧ Below w.heap.size w w' := by
  go_enter Try.func25, Try.ntmps25
  go_wp2_with (go_at_call 56; refine (span_nil _ _ _).mono ?_; rintro e w' ⟨rfl, rfl⟩)
  refine bodyPost_ret (v := .tuple #[smV zero, .bool false]) ?_ rfl ⟨rfl, (Below.refl _ _).alloc (Nat.le_refl _) _⟩
  simp [results, Try.results25, go_sem, smV, zero]
set_option maxHeartbeats 4000000 in
theorem range_any (a b : Int) (h : PA w p g n cap S A) : Calls Try.prog 25 #[.pointer (some ⟨p, 0, none⟩), .int .i64 a, .int .i64 b] w fun e w' => e = .returned (.tuple #[smV (A.rangeI a b), .bool (A.okR a b)]) ∧ Below w.heap.size w w' := by
  have h0 := SumAt.zero0 w 33
  have HS := hide h0
  have HB := hide ((Below.refl w.heap.size w).alloc (Nat.le_refl _) (.cells #[.int .i64 0, .int .i64 0, .int .i64 0, .int .i64 0] 33))
  have H1 := hide (h.below (unhide HB))
  clear h0
  cases ho : A.okR a b
  · have SP := hide (span_no a b (unhide H1) ho)
    rw [show A.rangeI a b = zero from by simp [Se.rangeI, ho]]
    clear h ho
    go_enter Try.func25, Try.ntmps25
    go_wp2_with fail
    generalize w.alloc (.cells #[.int .i64 0, .int .i64 0, .int .i64 0, .int .i64 0] 33) = W0 at *
    generalize hB : w.heap.size = B at *
    have HBB := hide hB
    clear hB
    refine (unhide SP).mono ?_
    rintro e w1 ⟨rfl, hb⟩
    have hBl : B < W0.heap.size := by
      have := (unhide HS).1.1
      exact Classical.byContradiction fun hn => by simp [World.cell?, Array.getElem?_eq_none (show W0.heap.size ≤ B by omega)] at this
    have S1 := hide ((unhide HS).below hb hBl)
    have B1 := hide ((unhide HB).trans (hb.mono (unhide HB |>.size |> fun _ => by omega)))
    clear hb SP
    obtain ⟨⟨q0, q1, q2, q3⟩, f0, f1, f2, f3⟩ := unhide S1
    dsimp only [zero] at q0 q1 q2 q3
    go_wp2
    obtain ⟨⟨p0, p1, p2, p3⟩, _⟩ := SumAt.put (x := zero) (unhide S1)
    refine bodyPost_ret (v := .tuple #[smV zero, .bool false]) ?_ rfl ⟨rfl, by rw [unhide HBB]; exact below_put (x := zero) (unhide B1) (Nat.le_refl _)⟩
    simp only [putSum, zero] at p0 p1 p2 p3
    simp [results, Try.results25, go_sem, p0, p1, p2, p3, smV, zero]
  · obtain ⟨u, r, sp⟩ := h.iv.span ho
    have SP := hide (span_yes a b u r (unhide H1) ho sp)
    have SU := hide (span_sum h ho sp)
    have r0 := sp.tr.r0
    have r1 : ((r : Int) == 0) = false := by rw [beq_eq_false_iff_ne]; omega
    clear h ho sp
    generalize A.rankI a = ra at *
    generalize A.rankI b = rb at *
    generalize A.rangeI a b = y at *
    obtain ⟨yc, ys, ya, yb⟩ := y
    go_enter Try.func25, Try.ntmps25
    go_wp2_with fail
    generalize w.alloc (.cells #[.int .i64 0, .int .i64 0, .int .i64 0, .int .i64 0] 33) = W0 at *
    generalize hB : w.heap.size = B at *
    have HBB := hide hB
    clear hB
    refine (unhide SP).mono ?_
    rintro e w1 ⟨rfl, hb⟩
    have hBl : B < W0.heap.size := by
      have := (unhide HS).1.1
      exact Classical.byContradiction fun hn => by simp [World.cell?, Array.getElem?_eq_none (show W0.heap.size ≤ B by omega)] at this
    have S1 := hide (And.intro ((unhide HS).below hb hBl) (show B < w1.heap.size from Nat.lt_of_lt_of_le hBl hb.size))
    have B1 := hide ((unhide HB).trans (hb.mono (by omega)))
    have H2 := hide ((unhide H1).below hb)
    clear hb SP
    go_wp2_with fail
    refine (unhide SU _ (unhide H2).po).mono ?_
    rintro e w2 ⟨rfl, hb⟩
    have S2 := hide ((unhide S1).1.below hb (unhide S1).2)
    have B2 := hide ((unhide B1).trans (hb.mono (by have := (unhide S1).2; omega)))
    clear hb SU
    obtain ⟨⟨q0, q1, q2, q3⟩, f0, f1, f2, f3⟩ := unhide S2
    dsimp only [zero] at q0 q1 q2 q3
    go_wp2
    obtain ⟨⟨p0, p1, p2, p3⟩, _⟩ := SumAt.put (x := ⟨yc, ys, ya, yb⟩) (unhide S2)
    refine bodyPost_ret (v := .tuple #[smV ⟨yc, ys, ya, yb⟩, .bool true]) ?_ rfl ⟨rfl, by rw [unhide HBB]; exact below_put (x := ⟨yc, ys, ya, yb⟩) (unhide B2) (Nat.le_refl _)⟩
    simp only [putSum] at p0 p1 p2 p3
    simp [results, Try.results25, go_sem, p0, p1, p2, p3, smV]
end
end Go.Proofs.Ytkfboficcdiojaa
