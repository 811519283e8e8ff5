import Derived.Test.YtbcibdofcjehcaaC8
namespace Go.Proofs.Ytbcibdofcjehcaa
open Go.RowKit Go.Arb
set_option linter.unusedVariables false

theorem Meet.way_nodup {T : Tr} (h : T.Wf) {i j t : Nat} {a b c : List Nat} (hm : Meet (T.up i) (T.up j) t a b c) : (t :: (a ++ b)).Nodup ∧ ∀ x ∈ t :: (a ++ b), T.par x ≠ -2 := by
  have h1 := h.spec (v := i) (Tr.there (x := t) (by rw [hm.el]; simp))
  have h2 := h.spec (v := j) (Tr.there (x := t) (by rw [hm.em]; simp))
  have n1 := h1.nodup
  have n2 := h2.nodup
  have m1 := h1.mem
  have m2 := h2.mem
  have na := hm.na
  have nb := hm.nb
  rw [hm.el] at n1 m1
  rw [hm.em] at n2 m2
  refine ⟨List.nodup_cons.2 ⟨by simp [na, nb], List.nodup_append.2 ⟨(List.nodup_append.1 n1).1, (List.nodup_append.1 n2).1, fun x hx y hy e => ?_⟩⟩, fun x hx => ?_⟩
  · subst e; exact hm.ha x hx (by rw [hm.em]; simp [hy])
  · simp only [List.mem_cons, List.mem_append] at hx
    rcases hx with rfl | hx | hx
    · exact m1 x (by simp)
    · exact m1 x (by simp [hx])
    · exact m2 x (by simp [hx])
theorem NRow.at {B : Nat} {w : World} {v : Value} {l : List Nat} (h : NRow B w v l) (hl : 0 < l.length) :
    ∃ g cap, v = .slice (some ⟨g, 0, none⟩) l.length cap ∧ l.length ≤ cap ∧ cap ≤ maxLen ∧ g < w.heap.size ∧ B ≤ g ∧ own v = [g] ∧ ∀ k, (hk : k < l.length) → w.cell? ⟨g, k, none⟩ = some (.int .i64 ((l[k] : Nat) : Int)) := by
  have hge := row_ge h
  obtain ⟨x, cap, hv, h1, h2, h3⟩ := row_form h
  obtain ⟨g, rfl, hg, how, hc⟩ := h3 hl
  refine ⟨g, cap, hv, h1, h2, hg, hge g (by rw [how]; simp), how, fun k hk => ?_⟩
  have := (hc k (by omega)).1
  rw [this]
  simp [nums, nats, hk]

theorem way_no' (x y : Int) (w : World) (p : Nat) (u v : Value) (F : Fo) (h : FoIn w p u v F) (ho : Ok F) (hs : F.tr.sameI x y = false) (w1 : World) (hb : Below w.heap.size w w1) :
    Calls Try.prog 58 #[.pointer (some ⟨p, 0, none⟩), .int .i64 x, .int .i64 y] w1 fun e w' => e = .returned (.slice none 0 0) ∧ w1 = w' := way_no x y w1 p u v F (h.below hb) ho hs

set_option maxHeartbeats 2000000 in
theorem path_no (x y : Int) (w : World) (p : Nat) (u v : Value) (F : Fo) (h : FoIn w p u v F) (ho : Ok F) (hs : F.tr.sameI x y = false) :
    Calls Try.prog 31 #[.pointer (some ⟨p, 0, none⟩), .int .i64 x, .int .i64 y] w fun e w' => e = .returned (.tuple #[.agg #[.int .i64 0, .int .i64 0, .int .i64 0, .int .i64 0], .bool false]) ∧ Below w.heap.size w w' := by
  have h1 := hide (way_no' x y w p u v F h ho hs)
  clear hs h ho
  go_enter Try.func31, Try.ntmps31
  go_wp2_with fail
  refine (unhide h1 _ (b2 _ _ _)).mono ?_
  rintro e w1 ⟨rfl, rfl⟩
  go_wp2
  go_loopw [16] (fun i w' => i = .int .i64 0 ∧ Hid (Below w.heap.size w w' ∧ SumAt w' (w.heap.size + 1) zero ∧ SumAt w' w.heap.size zero)) (fun i _ => 0)
  case atStart => exact ⟨rfl, b2 _ _ _, by simp [SumAt, zero, go_sem], by simp [SumAt, zero, go_sem]⟩
  case round =>
    obtain ⟨rfl, HK⟩ := hrel
    obtain ⟨hb, hs1, hs0⟩ := unhide HK
    obtain ⟨⟨q0, q1, q2, q3⟩, f0, f1, f2, f3⟩ := hs1
    obtain ⟨⟨p0, p1, p2, p3⟩, g0, g1, g2, g3⟩ := hs0
    clear hb
    dsimp only [zero] at q0 q1 q2 q3 p0 p1 p2 p3
    go_wp2
    go_region
    all_goals
      go_wp2
      obtain ⟨hb, hs1, hs0⟩ := unhide HK
      have hp := SumAt.put (x := zero) (hs0)
      obtain ⟨⟨p0, p1, p2, p3⟩, g0, g1, g2, g3⟩ := hp
      refine bodyPost_ret (v := .tuple #[.agg #[.int .i64 0, .int .i64 0, .int .i64 0, .int .i64 0], .bool false]) ?_ rfl ⟨rfl, ?_⟩
      · simp only [putSum, zero] at p0 p1 p2 p3
        simp [results, Try.results31, go_sem, p0, p1, p2, p3]
      · exact below_drewN (below_put (x := zero) hb (Nat.le_refl _)) _
end Go.Proofs.Ytbcibdofcjehcaa
