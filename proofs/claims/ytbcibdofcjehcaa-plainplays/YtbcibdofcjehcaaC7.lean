import Derived.Test.YtbcibdofcjehcaaC6
import Derived.Test.YtbcibdofcjehcaaT3
namespace Go.Proofs.Ytbcibdofcjehcaa
open Go.RowKit Go.Arb
set_option linter.unusedVariables false

theorem FoIn.parAt {w : World} {p g n cap : Nat} {v : Value} {F : Fo} (h : FoIn w p (.slice (some ⟨g, 0, none⟩) n cap) v F) (i : Nat) (hi : i < F.ps.length) : w.cell? ⟨g, i, none⟩ = some (.int .i64 (F.tr.par i)) ∧ w.frozen? ⟨g, i, none⟩ = false := by
  obtain ⟨g', cap', e, _, _, _, _, _, k⟩ := h.par i hi
  simp only [Value.slice.injEq, Option.some.injEq, Addr.mk.injEq, and_true] at e
  obtain ⟨rfl, _, _⟩ := e
  exact k i hi
theorem FoIn.wtAt {w : World} {p g n cap : Nat} {u : Value} {F : Fo} (h : FoIn w p u (.slice (some ⟨g, 0, none⟩) n cap) F) (i : Nat) (hi : i < F.ws.length) : w.cell? ⟨g, i, none⟩ = some (.int .i64 (F.tr.wt i)) ∧ w.frozen? ⟨g, i, none⟩ = false := by
  obtain ⟨g', cap', e, _, _, _, _, _, k⟩ := h.wt i hi
  simp only [Value.slice.injEq, Option.some.injEq, Addr.mk.injEq, and_true] at e
  obtain ⟨rfl, _, _⟩ := e
  exact k i hi

set_option maxHeartbeats 2000000 in
theorem lca_no (x y : Int) (w : World) (p : Nat) (u v : Value) (F : Fo) (h : FoIn w p u v F) (ho : Ok F) (hs : F.tr.sameI x y = false) :
    Calls Try.prog 45 #[.pointer (some ⟨p, 0, none⟩), .int .i64 x, .int .i64 y] w fun e w' => e = .returned (.int .i64 (-1)) ∧ w = w' := by
  have h1 := hide (same_any x y w p u v F h ho)
  rw [hs] at h1
  clear hs h ho
  go_enter Try.func45, Try.ntmps45
  go_wp2_with fail
  refine (unhide h1).mono ?_
  rintro e w' ⟨rfl, rfl⟩
  go_wp2
  go_ret
  exact ⟨rfl, rfl⟩

set_option maxHeartbeats 2000000 in
theorem lca_yes (i j t : Nat) (a0 b0 c : List Nat) (w : World) (p : Nat) (u v : Value) (F : Fo) (h : FoIn w p u v F) (ho : Ok F) (hi : F.tr.par i ≠ -2) (hj : F.tr.par j ≠ -2) (hm : Meet (F.tr.up i) (F.tr.up j) t a0 b0 c) :
    Calls Try.prog 45 #[.pointer (some ⟨p, 0, none⟩), .int .i64 (i : Int), .int .i64 (j : Int)] w fun e w' => e = .returned (.int .i64 (t : Int)) ∧ Below w.heap.size w w' := by
  have h1 := hide (same_any i j w p u v F h ho)
  rw [ho.wf.same_nat hm] at h1
  have hua := ho.wf.spec hi
  have hub := ho.wf.spec hj
  have hla := ho.wf.len hua
  have hlb := ho.wf.len hub
  have hn := ho.fit.n
  have h2 := hide (depth_any i _ w p u v F h hua (by omega))
  have h3 := hide (depth_any j _ w p u v F h hub (by omega))
  rw [hm.el] at h2 hla
  rw [hm.em] at h3 hlb
  rw [show (((a0 ++ t :: c).length : Nat) : Int) - 1 = ((a0.length + c.length : Nat) : Int) from by simp; omega] at h2
  rw [show (((b0 ++ t :: c).length : Nat) : Int) - 1 = ((b0.length + c.length : Nat) : Int) from by simp; omega] at h3
  have hla' : a0.length + c.length ≤ 1048576 := by simp at hla; omega
  have hlb' : b0.length + c.length ≤ 1048576 := by simp at hlb; omega
  have HL := hide (hm.lv ho.wf hi hj)
  obtain ⟨c0, c1, c2, _⟩ := h.cells
  have hlt := Fo.par_lt hi
  obtain ⟨g, cap, rfl, k1, k2, k3, k4, _, k5⟩ := h.par i hlt
  have HF := hide h
  have HP := hide (fun j (hj : F.tr.par j ≠ -2) => Fo.par_lt hj)
  have HC := hide k5
  generalize hpar : F.tr.par = par at *
  have HPP := hide hpar
  clear hua hub hla hlb hn hm ho hi hj h k5 hpar
  generalize hnn : F.ps.length = n at *
  have HN := hide hnn
  clear hnn
  have hp : p < w.heap.size := blk_lt (unhide HF).blk
  unfold maxLen at k2
  generalize hA : a0.length + c.length = A at *
  generalize hB : b0.length + c.length = B at *
  have HA := hide hA
  have HB := hide hB
  clear hA hB
  go_enter Try.func45, Try.ntmps45
  go_wp2_with fail
  refine (unhide h1).mono ?_
  rintro e w' ⟨rfl, rfl⟩
  go_wp2_with fail
  refine (unhide h2).mono ?_
  rintro e w' ⟨rfl, rfl⟩
  go_wp2_with fail
  refine (unhide h3).mono ?_
  rintro e w' ⟨rfl, rfl⟩
  go_wp2
  go_loopg [1, 7] a0.length (fun gk a d w' => ∃ (x D : Nat) (a' : List Nat), a = .int .i64 (x : Int) ∧ d = .int .i64 (D : Int) ∧ w' = w ∧ D ≤ 1048576 ∧ Hid (Lv par x j t a' b0 c ∧ a'.length + c.length = D ∧ a'.length = gk))
  case atStart => exact ⟨i, A, a0, rfl, rfl, rfl, hla', unhide HL, unhide HA, rfl⟩
  case round =>
    obtain ⟨x, D, a', rfl, rfl, rfl, hD, HK⟩ := hrel
    by_cases hlt : B < D
    · obtain ⟨q1, q2, q3⟩ := unhide HK
      obtain ⟨z, a'', rfl⟩ : ∃ z a'', a' = z :: a'' := by
        cases a' with
        | nil => have := unhide HB; simp at q2; omega
        | cons z a'' => exact ⟨z, a'', rfl⟩
      obtain ⟨q, e, q4⟩ := q1.stepA
      have hxn := unhide HP x (by omega)
      obtain ⟨d, _⟩ := unhide HC x hxn
      rw [e] at d
      have HQ := hide (And.intro q4 (And.intro q2 q3))
      have hI : (B : Int) < (D : Int) := by omega
      have e1 : (0 : Int) ≤ (x : Int) := by omega
      have e2 : (x : Int) < (n : Int) := by omega
      clear HK q1 q2 q3 q4 e
      go_wp2
      go_roundg (gk - 1)
      case rel =>
        obtain ⟨q1, q2, q3⟩ := unhide HQ
        simp at q2 q3
        exact ⟨q, D - 1, a'', rfl, by go_num, rfl, by omega, q1, by omega, by omega⟩
      all_goals
        obtain ⟨q1, q2, q3⟩ := unhide HQ
        simp at q2 q3
        omega
    · have hI : ¬ (B : Int) < (D : Int) := by omega
      obtain ⟨q1, q2, q3⟩ := unhide HK
      have HX := hide (And.intro q1 q2)
      clear q1 q2 q3 HK
      go_wp2
      go_loopg [2, 8] b0.length (fun gk a d w' => ∃ (y E : Nat) (b' : List Nat), a = .int .i64 (y : Int) ∧ d = .int .i64 (E : Int) ∧ w' = wr ∧ E ≤ 1048576 ∧ D ≤ E ∧ Hid (Lv par x y t a' b' c ∧ b'.length + c.length = E ∧ b'.length = gk))
      case atStart => exact ⟨j, B, b0, rfl, rfl, rfl, hlb', by omega, (unhide HX).1, unhide HB, rfl⟩
      case round =>
        obtain ⟨y, E, b', rfl, rfl, rfl, hE, hDE, HK⟩ := hrel
        by_cases hlt2 : D < E
        · obtain ⟨q1, q2, q3⟩ := unhide HK
          obtain ⟨z, b'', rfl⟩ : ∃ z b'', b' = z :: b'' := by
            cases b' with
            | nil => have := (unhide HX).2; simp at q2; omega
            | cons z b'' => exact ⟨z, b'', rfl⟩
          obtain ⟨q, e, q4⟩ := q1.stepB
          have hxn := unhide HP y (by omega)
          obtain ⟨d, _⟩ := unhide HC y hxn
          rw [e] at d
          have HQ := hide (And.intro q4 (And.intro q2 q3))
          have hI : (D : Int) < (E : Int) := by omega
          have e1 : (0 : Int) ≤ (y : Int) := by omega
          have e2 : (y : Int) < (n : Int) := by omega
          clear HK q1 q2 q3 q4 e
          go_wp2
          go_roundg (gk - 1)
          case rel =>
            obtain ⟨q1, q2, q3⟩ := unhide HQ
            simp at q2 q3
            exact ⟨q, E - 1, b'', rfl, by go_num, rfl, by omega, by omega, q1, by omega, by omega⟩
          all_goals
            obtain ⟨q1, q2, q3⟩ := unhide HQ
            simp at q2 q3
            omega
        · have hI2 : ¬ (D : Int) < (E : Int) := by omega
          have hDE' : E = D := by omega
          obtain ⟨q1, q2, q3⟩ := unhide HK
          have HY := hide (And.intro q1 (And.intro (unhide HX).2 (And.intro q2 hDE')))
          clear q1 q2 q3 HK HX hDE'
          rename World => W0
          go_wp2
          go_loopg [1, 2] a'.length (fun gk a b w' => ∃ (x' y' : Nat) (a2 b2 : List Nat), a = .int .i64 (x' : Int) ∧ b = .int .i64 (y' : Int) ∧ Hid (Lv par x' y' t a2 b2 c ∧ a2.length = b2.length ∧ a2.length = gk ∧ Below W0.heap.size W0 w'))
          case atStart =>
            obtain ⟨q1, q2, q3, q4⟩ := unhide HY
            exact ⟨x, y, a', b', rfl, rfl, q1, by omega, rfl, Below.refl _ _⟩
          case round =>
            obtain ⟨x', y', a2, b2, rfl, rfl, HK⟩ := hrel
            obtain ⟨q1, q2, q3, q4⟩ := unhide HK
            have HB4 := hide q4
            by_cases hxy : x' = y'
            · subst hxy
              have HD := hide q1.done.2
              clear q1 q2 q3 q4 HK
              go_wp2
              go_ret
              exact ⟨by rw [← unhide HD]; rfl, unhide HB4⟩
            · obtain ⟨z, a3, z', b3, rfl, rfl⟩ := q1.more hxy q2
              obtain ⟨q, e, q5⟩ := q1.stepA
              obtain ⟨q', e', q6⟩ := q5.stepB
              have hx1 := unhide HP x' (by omega)
              have hy1 := unhide HP y' (by omega)
              obtain ⟨d, _⟩ := unhide HC x' hx1
              obtain ⟨d', _⟩ := unhide HC y' hy1
              rw [e] at d
              rw [e'] at d'
              rw [← q4.cell (p := ⟨g, x', none⟩) k3] at d
              rw [← q4.cell (p := ⟨g, y', none⟩) k3] at d'
              have c1' := c1
              rw [← q4.cell (p := ⟨p, 1, none⟩) hp] at c1'
              have hne : ((x' : Int) == (y' : Int)) = false := by rw [beq_eq_false_iff_ne]; omega
              have HQ := hide (And.intro q6 (And.intro q2 q3))
              have e1 : (0 : Int) ≤ (x' : Int) := by omega
              have e2 : (x' : Int) < (n : Int) := by omega
              have e3 : (0 : Int) ≤ (y' : Int) := by omega
              have e4 : (y' : Int) < (n : Int) := by omega
              clear q1 q2 q3 q4 q5 q6 HK e e' c0 c1 c2
              go_wp2
              go_quiet (fail)
              go_wp2
              go_roundg (gk - 1)
              case rel =>
                obtain ⟨q1, q2, q3⟩ := unhide HQ
                simp at q2 q3
                exact ⟨q, q', a3, b3, rfl, rfl, q1, q2, by omega, below_drewN (unhide HB4) _⟩
              all_goals
                obtain ⟨q1, q2, q3⟩ := unhide HQ
                simp at q2 q3
                omega
end Go.Proofs.Ytbcibdofcjehcaa
