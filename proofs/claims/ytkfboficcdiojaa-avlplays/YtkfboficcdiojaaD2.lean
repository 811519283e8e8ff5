import Derived.Test.YtkfboficcdiojaaD1
namespace Go.Proofs.Ytkfboficcdiojaa
open Go.RowKit Go.Arb
set_option linter.unusedVariables false
set_option linter.unusedSimpArgs false

section
variable {w w' : World} {p g n cap : Nat} {S : Ss} {A : Se}
theorem below_drew {B : Nat} {w w' : World} (h : Below B w w') : Below B w w'.drew := ⟨h.os, h.tape, h.output, h.size, h.block⟩
theorem SumAt.zero0 (w : World) (t : TypeId) : SumAt (w.alloc (.cells #[.int .i64 0, .int .i64 0, .int .i64 0, .int .i64 0] t)) w.heap.size zero := by simp [SumAt, zero, go_sem]
theorem Se.allI_no {x : Int} (h : A.hasI x = false) : A.allI x = zero := by simp [Se.allI, Se.seqI, h, ofR]

set_option maxHeartbeats 1000000 in
theorem all_nil (x : Int) (w : World) : Calls Try.prog 39 #[.pointer none, .int .i64 x] w fun e w' => e = .returned (smV zero) ∧ Below w.heap.size w w' := by
  go_enter Try.func39, Try.ntmps39
  go_wp2_with (go_at_call 51; refine (find_nil _ _).mono ?_; rintro e w' ⟨rfl, rfl⟩)
  refine bodyPost_ret (v := smV zero) ?_ rfl ⟨rfl, (Below.refl _ _).alloc (Nat.le_refl _) _⟩
  simp [results, Try.results39, go_sem, smV, zero]
set_option maxHeartbeats 4000000 in
theorem all_any (x : Int) (h : PA w p g n cap S A) : Calls Try.prog 39 #[.pointer (some ⟨p, 0, none⟩), .int .i64 x] w fun e w' => e = .returned (smV (A.allI x)) ∧ Below w.heap.size w w' := by
  have F := hide (fun W (hW : PA W p g n cap S A) => find_any x hW)
  have h0 := SumAt.zero0 w 33
  have HS := hide h0
  have HB := hide ((Below.refl w.heap.size w).alloc (Nat.le_refl _) (.cells #[.int .i64 0, .int .i64 0, .int .i64 0, .int .i64 0] 33))
  have H1 := hide (h.below (unhide HB))
  cases hh : A.hasI x
  · rw [Se.allI_no hh]
    rw [show A.findI x = 0 from by simp [Se.findI, hh]] at F
    clear h hh h0
    go_enter Try.func39, Try.ntmps39
    go_wp2_with (go_at_call 51; refine (unhide F _ (unhide H1)).mono ?_; rintro e w' ⟨rfl, rfl⟩)
    refine bodyPost_ret (v := smV zero) ?_ rfl ⟨rfl, unhide HB⟩
    simp [results, Try.results39, go_sem, smV, zero]
  · obtain ⟨v, rfl, hv⟩ := Se.hasI_true hh
    rw [show A.findI v = v + 1 from by simp [Se.findI, hh]] at F
    obtain ⟨r, t⟩ := h.iv.tree hv
    have hr := t.pt.ltn h.po h.iv.z r (t.pt.mem t.r0)
    have T := hide (fun W (hW : PA W p g n cap S A) => top_any (v + 1) r _ A.n hW.po h.iv.z t.pt t.up t.mem)
    have hsm := t.pt.sm h.iv.z
    rw [smL_its] at hsm
    rw [show A.allI v = ofR ((A.seq v).map A.W) from by rw [Se.allI, Se.seqI_nat hv], ← hsm]
    have H2 := hide (show PA _ p g n cap S A from ⟨(unhide H1).po.drew, (unhide H1).iv, (unhide H1).n0, (unhide H1).nn⟩)
    have i1 : (0 : Int) ≤ (r : Int) := by omega
    have i2 : (r : Int) < (n : Int) := by omega
    have hgw : ¬ g = w.heap.size := by have := h.po.lt; omega
    have hgw' : ¬ w.heap.size = g := by have := h.po.lt; omega
    have hpw : ¬ p = w.heap.size := by have := h.po.lt; omega
    have hpw' : ¬ w.heap.size = p := by have := h.po.lt; omega
    have nz : ((v : Int) + 1 == 0) = false := by rw [beq_eq_false_iff_ne]; omega
    clear h hh t hsm hv h0
    generalize hy : (S r).sm = y at *
    have HY := hide hy
    clear hy
    obtain ⟨yc, ys, ya, yb⟩ := y
    go_enter Try.func39, Try.ntmps39
    go_wp2_with fail
    generalize w.alloc (.cells #[.int .i64 0, .int .i64 0, .int .i64 0, .int .i64 0] 33) = W0 at *
    generalize hB : w.heap.size = B at *
    have HBB := hide hB
    clear hB
    refine (unhide F _ (unhide H1)).mono ?_
    rintro e w' ⟨rfl, rfl⟩
    obtain ⟨⟨q0, q1, q2, q3⟩, f0, f1, f2, f3⟩ := unhide HS
    obtain ⟨_, c1, _, _, k1, k2⟩ := (unhide H1).po.head
    obtain ⟨_, _, _, _, _, _, e6, e7, e8, e9⟩ := (unhide H1).po.slot hr
    rw [unhide HY] at e6 e7 e8 e9
    dsimp only [zero] at *
    go_wp2
    go_region_held3 (fun w' => w'.cell? ⟨p, 1, none⟩ = some (.slice (some ⟨g, 0, none⟩) n cap) ∧ w'.cell? ⟨g, r * 10 + 6, none⟩ = some (.int .i64 yc) ∧ w'.cell? ⟨g, r * 10 + 7, none⟩ = some (.int .i64 ys) ∧ w'.cell? ⟨g, r * 10 + 8, none⟩ = some (.int .i64 ya) ∧ w'.cell? ⟨g, r * 10 + 9, none⟩ = some (.int .i64 yb))
      (simp [go_sem, *])
      (first
        | (go_at_call 53; refine (unhide T _ (unhide H2)).mono ?_; rintro e w' ⟨rfl, hw⟩; subst hw))
    all_goals
      go_wp2
      obtain ⟨⟨p0, p1, p2, p3⟩, _⟩ := SumAt.put (x := ⟨yc, ys, ya, yb⟩) (unhide HS)
      refine bodyPost_ret (v := smV ⟨yc, ys, ya, yb⟩) ?_ rfl ⟨rfl, by rw [unhide HBB]; exact below_drew (below_put (x := ⟨yc, ys, ya, yb⟩) (unhide HB) (Nat.le_refl _))⟩
      simp only [putSum] at p0 p1 p2 p3
      simp [results, Try.results39, go_sem, p0, p1, p2, p3, smV]

theorem fld0 (c s a b : Int) : ∀ w : World, (Instr.field 33 (.agg #[.int .i64 c, .int .i64 s, .int .i64 a, .int .i64 b]) 0).run Try.prog w = .ok (.int .i64 c) w := fun _ => by kernel_rfl
theorem fld1 (c s a b : Int) : ∀ w : World, (Instr.field 33 (.agg #[.int .i64 c, .int .i64 s, .int .i64 a, .int .i64 b]) 1).run Try.prog w = .ok (.int .i64 s) w := fun _ => by kernel_rfl
set_option maxHeartbeats 1000000 in
theorem len_nil (x : Int) (w : World) : Calls Try.prog 31 #[.pointer none, .int .i64 x] w fun e w' => e = .returned (.int .i64 0) ∧ Below w.heap.size w w' := by
  have hf := fld0 0 0 0 0
  have F := hide (all_nil x w)
  unfold smV zero at F
  go_enter Try.func31, Try.ntmps31
  go_wp2_with fail
  refine (unhide F).mono ?_
  rintro e w1 ⟨rfl, hb⟩
  have HB := hide hb
  clear hb F
  go_wp2
  go_ret
  exact ⟨rfl, unhide HB⟩
theorem Se.lenI_c (A : Se) (x : Int) : (A.allI x).c = A.lenI x := by rw [Se.allI, ofR_c, Se.lenI]; simp
set_option maxHeartbeats 1000000 in
theorem len_any (x : Int) (h : PA w p g n cap S A) : Calls Try.prog 31 #[.pointer (some ⟨p, 0, none⟩), .int .i64 x] w fun e w' => e = .returned (.int .i64 (A.lenI x)) ∧ Below w.heap.size w w' := by
  rw [← A.lenI_c]
  have F := hide (all_any x h)
  clear h
  generalize A.allI x = y at *
  obtain ⟨yc, ys, ya, yb⟩ := y
  unfold smV at F
  dsimp only at *
  have hf := fld0 yc ys ya yb
  go_enter Try.func31, Try.ntmps31
  go_wp2_with fail
  refine (unhide F).mono ?_
  rintro e w1 ⟨rfl, hb⟩
  have HB := hide hb
  clear hb F
  go_wp2
  go_ret
  exact ⟨rfl, unhide HB⟩
end
end Go.Proofs.Ytkfboficcdiojaa
