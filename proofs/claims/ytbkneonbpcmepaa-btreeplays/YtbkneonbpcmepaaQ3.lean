/- The pool: Has, All, Len. -/
import Derived.Test.YtbkneonbpcmepaaQ2
namespace Go.Proofs.Ytbkneonbpcmepaa
open Go.RowKit Go.Arb
set_option linter.unusedVariables false
set_option linter.unusedSimpArgs false

section
variable {w w' : World} {p : Nat} {v : Value} {xs : List Value} {ad : Nat → Nat} {F F' : List Tp} {A : Se}
theorem has_nil (x : Int) (w : World) : Calls Try.prog 29 #[.pointer none, .int .i64 x] w fun e w' => e = .returned (.bool false) ∧ w = w' := by
  go_enter Try.func29, Try.ntmps29
  go_wp2_with (go_at_call 60; refine (find_nil _ _).mono ?_; rintro e w' ⟨rfl, rfl⟩)
  go_ret
  exact ⟨rfl, rfl⟩
theorem findV_no (ad : Nat → Nat) {x : Int} (h : A.hasI x = false) : A.findV ad x = .pointer none := by simp [Se.findV, h]
theorem findV_yes (ad : Nat → Nat) {u : Nat} (h : A.hasI (u : Int) = true) : A.findV ad (u : Int) = .pointer (some ⟨ad u, 0, none⟩) := by simp [Se.findV, h, ptr]
theorem has_any (x : Int) (h : PB w p v xs ad F A) : Calls Try.prog 29 #[.pointer (some ⟨p, 0, none⟩), .int .i64 x] w fun e w' => e = .returned (.bool (A.hasI x)) ∧ w = w' := by
  have F := hide (find_any x h)
  clear h
  cases hh : A.hasI x
  · rw [findV_no ad hh] at F
    clear hh
    go_enter Try.func29, Try.ntmps29
    go_wp2_with (go_at_call 60; refine (unhide F).mono ?_; rintro e w' ⟨rfl, rfl⟩)
    go_ret
    exact ⟨rfl, rfl⟩
  · obtain ⟨u, rfl, hu⟩ := Se.hasI_true hh
    rw [findV_yes ad hh] at F
    clear hh hu
    generalize ad u = a at *
    go_enter Try.func29, Try.ntmps29
    go_wp2_with (go_at_call 60; refine (unhide F).mono ?_; rintro e w' ⟨rfl, rfl⟩)
    go_ret
    exact ⟨rfl, rfl⟩
theorem SumAt.zero0 (w : World) (t : TypeId) : SumAt (w.alloc (.cells #[.int .i64 0, .int .i64 0, .int .i64 0, .int .i64 0] t)) w.heap.size zero := by simp [SumAt, zero, go_sem]
theorem smL_itw (W : Nat → Int) (ad : Nat → Nat) (l : List Nat) : smL (itw W ad l) = ofR (l.map W) := by simp [smL, itw, Function.comp_def]
theorem itw_length (W : Nat → Int) (ad : Nat → Nat) (l : List Nat) : (itw W ad l).length = l.length := by simp [itw]

section
variable {T : Tp} {u d : Nat} {c : Cx d 0} {x : Tr 0}
theorem Ctx.own (q : Ctx w p v xs ad T F A u d c x) : Own1 w T := q.pb.ow T (by simp)
theorem Ctx.below (q : Ctx w p v xs ad T F A u d c x) (hb : Below w.heap.size w w') : Ctx w' p v xs ad T F A u d c x := ⟨q.pb.below hb, q.ti, q.rest, q.pl, q.v, q.a, q.mem, q.inL⟩
theorem Ctx.drewN (q : Ctx w p v xs ad T F A u d c x) (k : Nat) : Ctx (w.drewN k) p v xs ad T F A u d c x := ⟨q.pb.drewN k, q.ti, q.rest, q.pl, q.v, q.a, q.mem, q.inL⟩
theorem Ctx.top (q : Ctx w p v xs ad T F A u d c x) : Calls Try.prog 52 #[.pointer (some ⟨ad u, 0, none⟩)] w fun e w' => e = .returned (.pointer (some ⟨adr T.h T.t, 0, none⟩)) ∧ w' = w := by
  have h := top_any T w q.own.mem d 0 c x q.pl
  rw [q.a] at h
  exact h
theorem Ctx.kn (q : Ctx w p v xs ad T F A u d c x) : Kn w (adr T.h T.t) (.pointer none) (rowOf T.h T.t) T.h (itm T.h T.t) (wt T.h T.t) (ofR ((A.seq u).map A.W)) := by
  have h := q.own.mem.root
  have e : sm T.h T.t = ofR ((A.seq u).map A.W) := by
    rw [← smL_itw _ ad, ← q.ti]; rfl
  unfold Root at h
  rw [e] at h
  exact h
end
theorem all_nil (x : Int) (w : World) : Calls Try.prog 39 #[.pointer none, .int .i64 x] w fun e w' => e = .returned (smV zero) ∧ Below w.heap.size w w' := by
  go_enter Try.func39, Try.ntmps39
  go_wp2_with (go_at_call 60; refine (find_nil _ _).mono ?_; rintro e w' ⟨rfl, rfl⟩)
  refine bodyPost_ret (v := smV zero) ?_ rfl ⟨rfl, (Below.refl _ _).alloc (Nat.le_refl _) _⟩
  simp [results, Try.results39, go_sem, smV, zero]
set_option maxHeartbeats 4000000 in
theorem all_any (x : Int) (h : PB w p v xs ad F A) : Calls Try.prog 39 #[.pointer (some ⟨p, 0, none⟩), .int .i64 x] w fun e w' => e = .returned (smV (A.allI x)) ∧ Below w.heap.size w w' := by
  have hB : Below w.heap.size w (w.alloc (.cells #[.int .i64 0, .int .i64 0, .int .i64 0, .int .i64 0] 33)) := (Below.refl w.heap.size w).alloc (Nat.le_refl _) (.cells #[.int .i64 0, .int .i64 0, .int .i64 0, .int .i64 0] 33)
  have F1 := hide (find_any x (h.below hB))
  have s1 := SumAt.zero0 w 33
  cases hh : A.hasI x
  · rw [Se.allI_no hh]
    rw [findV_no ad hh] at F1
    have HB := hide hB
    clear h hh s1 hB
    go_enter Try.func39, Try.ntmps39
    go_wp2_with (go_at_call 60; refine (unhide F1).mono ?_; rintro e w' ⟨rfl, rfl⟩)
    refine bodyPost_ret (v := smV zero) ?_ rfl ⟨rfl, unhide HB⟩
    simp [results, Try.results39, go_sem, smV, zero]
  · obtain ⟨u, rfl, hu⟩ := Se.hasI_true hh
    rw [findV_yes ad hh] at F1
    obtain ⟨T, F', d, c, x, q⟩ := (h.below hB).ctx hu
    have T1 := hide q.top
    have e : A.allI u = ofR ((A.seq u).map A.W) := by rw [Se.allI, Se.seqI_nat hu]
    rw [e]
    have k := q.kn
    obtain ⟨_, _, _, _, _, q5, q6, q7, q8⟩ := k.cells
    generalize ofR ((A.seq u).map A.W) = s at *
    have T := hide (And.intro (SumAt.put (x := s) s1) (below_put (x := s) hB (Nat.le_refl _)))
    obtain ⟨⟨p0, p1, p2, p3⟩, f0, f1, f2, f3⟩ := s1
    clear h hh hu q e hB k
    generalize adr _ _ = B1 at *
    generalize ad u = B2 at *
    unfold putSum at T
    go_enter Try.func39, Try.ntmps39
    go_wp2_with fail
    generalize w.alloc (.cells #[.int .i64 0, .int .i64 0, .int .i64 0, .int .i64 0] 33) = W at *
    generalize hBB : w.heap.size = B at *
    have HB := hide hBB
    clear hBB
    refine (unhide F1).mono ?_
    rintro e w2 ⟨rfl, rfl⟩
    clear F1
    go_wp2_with fail
    refine (unhide T1).mono ?_
    rintro e w2 ⟨rfl, rfl⟩
    clear T1
    go_wp2
    obtain ⟨⟨⟨z0, z1, z2, z3⟩, _⟩, hb⟩ := unhide T
    refine bodyPost_ret (v := smV s) ?_ rfl ⟨rfl, by rw [unhide HB]; exact hb⟩
    simp [results, Try.results39, go_sem, z0, z1, z2, z3, smV]
theorem fld0 (c s a b : Int) : ∀ w : World, (Instr.field 33 (.agg #[.int .i64 c, .int .i64 s, .int .i64 a, .int .i64 b]) 0).run Try.prog w = .ok (.int .i64 c) w := fun _ => by kernel_rfl
theorem fld1 (c s a b : Int) : ∀ w : World, (Instr.field 33 (.agg #[.int .i64 c, .int .i64 s, .int .i64 a, .int .i64 b]) 1).run Try.prog w = .ok (.int .i64 s) w := fun _ => by kernel_rfl
set_option maxHeartbeats 1000000 in
theorem len_nil (x : Int) (w : World) : Calls Try.prog 31 #[.pointer none, .int .i64 x] w fun e w' => e = .returned (.int .i64 0) ∧ Below w.heap.size w w' := by
  have hf := fld0 0 0 0 0
  have F := hide (all_nil x w)
  unfold smV zero at F
  go_enter Try.func31, Try.ntmps31
  go_wp2_with fail
  refine (unhide F).mono ?_
  rintro e w1 ⟨rfl, hb⟩
  have HB := hide hb
  clear hb F
  go_wp2
  go_ret
  exact ⟨rfl, unhide HB⟩
set_option maxHeartbeats 1000000 in
theorem len_any (x : Int) (h : PB w p v xs ad F A) : Calls Try.prog 31 #[.pointer (some ⟨p, 0, none⟩), .int .i64 x] w fun e w' => e = .returned (.int .i64 (A.lenI x)) ∧ Below w.heap.size w w' := by
  rw [← A.lenI_c]
  have F := hide (all_any x h)
  clear h
  generalize A.allI x = y at *
  obtain ⟨yc, ys, ya, yb⟩ := y
  unfold smV at F
  dsimp only at *
  have hf := fld0 yc ys ya yb
  go_enter Try.func31, Try.ntmps31
  go_wp2_with fail
  refine (unhide F).mono ?_
  rintro e w1 ⟨rfl, hb⟩
  have HB := hide hb
  clear hb F
  go_wp2
  go_ret
  exact ⟨rfl, unhide HB⟩
end
end Go.Proofs.Ytbkneonbpcmepaa
