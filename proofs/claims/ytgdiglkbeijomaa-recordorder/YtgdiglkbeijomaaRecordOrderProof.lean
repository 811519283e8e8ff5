/- For every two nodes the law RecordOrder returns true and leaves its arguments as they were. Conditions: none. -/
import Derived.Test.YtgdiglkbeijomaaRows
import Derived.WalkKit
import Derived.ProofKit
import Derived.OpenShut
import Derived.ShutString
import Derived.ChangeOld
import Derived.Below
import Derived.Lib.SmallJoins
import Derived.Test.YtgdiglkbeijomaaW4
namespace Go.Proofs.Ytgdiglkbeijomaa.recordOrder
open Go.ChangeShapes Go.WideShapes Go.ChangeAt Go.RowKit Go.Joins


theorem own : ownKnob Try.prog.godebug = none := by kernel_rfl
theorem laidOut : laidOutB Try.prog = true := by kernel_rfl

set_option maxRecDepth 100000 in
theorem lifted (os : Os) (started : os.Started) (H : Type) (enc : TypeId × Value → H) :
    ReturnsInHanded {} Try.checked os 6 .any (Rows.recordOrderSpec.pre6 enc Try.prog Try.f6 Rows.recordOrderRow.domain false) (Rows.recordOrderSpec.post enc Try.prog Try.f6 false true false false) := by
  refine returnsInHanded_of_change (C := Try.checked) own started (by kernel_rfl) Try.func6
    (ChangeSpec.witness6 (enc := enc) (C := Try.checked) false ⟨#[], #[.agg #[.int .i64 0, .int .i64 0, .int .i64 0], .agg #[.int .i64 0, .int .i64 0, .int .i64 0]], []⟩ 8 (by kernel_rfl) (by kernel_rfl) (by kernel_rfl) (by kernel_rfl)) ?_
  intro W base args ds gs before hval0 hW hcnd _
  have hval : ∀ (j : Nat) t v, Try.f6.params[j]? = some t → args[j]? = some v → Value.okWide Try.prog W .any base t v := hval0
  have hW' := hW
  obtain ⟨p, q, hA0, hV, rfl, hfz, hnd⟩ := hW
  have hA : DataW.TrodAll enc Try.prog W 0 (fun _ => true) true Try.f6.params.toList args.toList ds p := hA0
  rw [Try.params6] at hA hval
  obtain ⟨v0, vs0, d0, ds0, p0, q0, hargs, rfl, rfl, h0, r0⟩ := trodAll_cons hA
  obtain ⟨v1, vs1, d1, ds1, p1, q1, rfl, rfl, rfl, h1, r1⟩ := trodAll_cons r0
  obtain ⟨rfl, rfl, rfl⟩ := trodAll_nil r1
  obtain rfl : args = #[v0, v1] := by cases args; simp_all
  obtain ⟨rfl, rfl⟩ := trodVars_none hV
  have k0 := h0
  have lt0 : ∀ x ∈ p0, x.block < W.heap.size := by obtain ⟨m, hm⟩ := k0; exact DataW.trod_lt m _ _ _ hm
  obtain ⟨vI0, vU0, vW0, yI0, yU0, yW0, m0, rfl, _, _, hI0, hU0, hW0⟩ := open_agg3 Try.underlying23 (by kernel_rfl) (by kernel_rfl) (hval 0 23 v0 rfl rfl) h0
  obtain ⟨i0, eI0, _⟩ := DataW.trod_int Try.underlying3 hI0
  obtain ⟨u0, eU0, _⟩ := DataW.trod_int Try.underlying3 hU0
  obtain ⟨x0, eW0, _⟩ := DataW.trod_int Try.underlying3 hW0
  obtain rfl : vI0 = .int .i64 i0 := by simpa using eI0
  obtain rfl : vU0 = .int .i64 u0 := by simpa using eU0
  obtain rfl : vW0 = .int .i64 x0 := by simpa using eW0
  have k1 := h1
  have lt1 : ∀ x ∈ p1, x.block < W.heap.size := by obtain ⟨m, hm⟩ := k1; exact DataW.trod_lt m _ _ _ hm
  obtain ⟨vI1, vU1, vW1, yI1, yU1, yW1, m1, rfl, _, _, hI1, hU1, hW1⟩ := open_agg3 Try.underlying23 (by kernel_rfl) (by kernel_rfl) (hval 1 23 v1 rfl rfl) h1
  obtain ⟨i1, eI1, _⟩ := DataW.trod_int Try.underlying3 hI1
  obtain ⟨u1, eU1, _⟩ := DataW.trod_int Try.underlying3 hU1
  obtain ⟨x1, eW1, _⟩ := DataW.trod_int Try.underlying3 hW1
  obtain rfl : vI1 = .int .i64 i1 := by simpa using eI1
  obtain rfl : vU1 = .int .i64 u1 := by simpa using eU1
  obtain rfl : vW1 = .int .i64 x1 := by simpa using eW1
  clear hA0 hval0
  refine (order_walk i0 u0 x0 i1 u1 x1 W).mono fun e W' ⟨he, bel⟩ => ?_
  subst he
  exact ⟨_, rfl, _, _, _, [], _, [], hW', trodAll_mk1 (shut_bool Try.underlying4 _), (trodAll_cons_mk (Below.trod laidOut (by kernel_rfl) (of_decide_eq_true (by kernel_rfl)) k0 bel lt0) (trodAll_cons_mk (Below.trod laidOut (by kernel_rfl) (of_decide_eq_true (by kernel_rfl)) k1 bel lt1) trodAll_mk0)), rfl, bel.frame _, fun h => by cases h⟩

theorem over : Rows.recordOrderRow.holds Try.pinned (OpenSpec.ofChange Rows.recordOrderSpec) :=
  OpenClaim.holds_of_wide 6 Try.f6 rfl rfl rfl rfl rfl rfl rfl ⟨rfl, rfl, rfl, rfl, rfl⟩ rfl rfl rfl rfl rfl (by kernel_rfl) Try.func6 (by kernel_rfl)
    (of_decide_eq_true (by kernel_rfl)) (by unfold Func.isWrapper; first | (rw [if_pos (by decide +kernel)]; kernel_rfl) | (rw [if_neg (by decide +kernel)]; exact ⟨rfl, rfl⟩))
    (fun os started H enc _ => lifted os started H enc)

theorem proved : Rows.RecordOrderSaid := over
end Go.Proofs.Ytgdiglkbeijomaa.recordOrder
namespace Go.Proofs.Ytgdiglkbeijomaa
/-- The given statement. -/
theorem recordOrder_holds : Rows.RecordOrderSaid := recordOrder.proved
#print axioms recordOrder_holds
end Go.Proofs.Ytgdiglkbeijomaa
