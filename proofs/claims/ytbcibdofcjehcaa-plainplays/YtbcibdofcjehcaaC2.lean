import Derived.Test.YtbcibdofcjehcaaC
namespace Go.Proofs.Ytbcibdofcjehcaa
open Go.RowKit Go.Arb

structure Ok (F : Fo) : Prop where
  len : F.ps.length ≤ F.room
  wl : F.ws.length = F.ps.length
  wf : F.tr.Wf
  fit : F.tr.Fit

set_option maxHeartbeats 400000 in
theorem parent_nil (x : Int) (w : World) : Calls Try.prog 41 #[.pointer none, .int .i64 x] w fun e w' => e = .returned (.int .i64 (-1)) ∧ w = w' := by
  go_enter Try.func41, Try.ntmps41
  go_wp2_with (go_at_call 37; refine (has_nil _ _).mono ?_; rintro e w' ⟨rfl, rfl⟩)
  go_ret
  exact ⟨rfl, rfl⟩

set_option maxHeartbeats 800000 in
theorem parent_any (x : Int) (w : World) (p : Nat) (u v : Value) (F : Fo) (h : FoIn w p u v F) :
    Calls Try.prog 41 #[.pointer (some ⟨p, 0, none⟩), .int .i64 x] w fun e w' => e = .returned (.int .i64 (F.tr.parI x)) ∧ w = w' := by
  have hq := hide (has_any x w p u v F h)
  cases hh : F.tr.hasI x
  · rw [show F.tr.parI x = -1 from by simp [Tr.parI, hh]]
    rw [hh] at hq
    clear h hh
    go_enter Try.func41, Try.ntmps41
    go_wp2_with (go_at_call 37; refine (unhide hq).mono ?_; rintro e w' ⟨rfl, rfl⟩)
    go_ret
    exact ⟨rfl, rfl⟩
  · rw [hh] at hq
    obtain ⟨i, rfl, hi⟩ := Tr.hasI_true hh
    rw [show F.tr.parI i = F.tr.par i from by simp [Tr.parI, hh]]
    obtain ⟨c0, c1, c2, _⟩ := h.cells
    have h1 := Fo.par_lt hi
    obtain ⟨g, cap, rfl, k1, k2, k3, k4, _, k5⟩ := h.par i h1
    have d := (k5 i h1).1
    generalize F.tr.par i = y at *
    generalize F.ps.length = n at *
    unfold maxLen at k2
    have e1 : (0 : Int) ≤ (i : Int) := by omega
    have e2 : (i : Int) < (n : Int) := by omega
    clear h k5 hh
    go_enter Try.func41, Try.ntmps41
    go_wp2_with (go_at_call 37; refine (unhide hq).mono ?_; rintro e w' ⟨rfl, rfl⟩)
    go_ret
    exact ⟨rfl, rfl⟩

set_option maxHeartbeats 800000 in
theorem isRoot_any (x : Int) (w : World) (p : Nat) (u v : Value) (F : Fo) (h : FoIn w p u v F) :
    Calls Try.prog 55 #[.pointer (some ⟨p, 0, none⟩), .int .i64 x] w fun e w' => e = .returned (.bool (F.tr.hasI x && (F.tr.par x.toNat == -1))) ∧ w = w' := by
  have hq := hide (has_any x w p u v F h)
  cases hh : F.tr.hasI x
  · rw [hh] at hq
    clear h hh
    go_enter Try.func55, Try.ntmps55
    go_wp2_with (go_at_call 37; refine (unhide hq).mono ?_; rintro e w' ⟨rfl, rfl⟩)
    go_ret
    exact ⟨rfl, rfl⟩
  · rw [hh] at hq
    obtain ⟨i, rfl, hi⟩ := Tr.hasI_true hh
    obtain ⟨c0, c1, c2, _⟩ := h.cells
    have h1 := Fo.par_lt hi
    obtain ⟨g, cap, rfl, k1, k2, k3, k4, _, k5⟩ := h.par i h1
    have d := (k5 i h1).1
    rw [Int.toNat_natCast]
    generalize F.tr.par i = y at *
    generalize F.ps.length = n at *
    unfold maxLen at k2
    have e1 : (0 : Int) ≤ (i : Int) := by omega
    have e2 : (i : Int) < (n : Int) := by omega
    clear h k5 hh
    go_enter Try.func55, Try.ntmps55
    go_wp2_with (go_at_call 37; refine (unhide hq).mono ?_; rintro e w' ⟨rfl, rfl⟩)
    go_ret
    exact ⟨by simp, rfl⟩

set_option maxHeartbeats 800000 in
theorem get_any (x : Int) (w : World) (p : Nat) (u v : Value) (F : Fo) (h : FoIn w p u v F) (ho : Ok F) :
    Calls Try.prog 35 #[.pointer (some ⟨p, 0, none⟩), .int .i64 x] w fun e w' => e = .returned (.tuple #[.int .i64 (F.tr.getI x), .bool (F.tr.hasI x)]) ∧ w = w' := by
  have hq := hide (has_any x w p u v F h)
  cases hh : F.tr.hasI x
  · rw [show F.tr.getI x = 0 from by simp [Tr.getI, hh]]
    rw [hh] at hq
    clear h hh
    go_enter Try.func35, Try.ntmps35
    go_wp2_with (go_at_call 37; refine (unhide hq).mono ?_; rintro e w' ⟨rfl, rfl⟩)
    go_ret2
    exact ⟨rfl, rfl⟩
  · rw [hh] at hq
    obtain ⟨i, rfl, hi⟩ := Tr.hasI_true hh
    rw [show F.tr.getI i = F.tr.wt i from by simp [Tr.getI, hh]]
    obtain ⟨c0, c1, c2, _⟩ := h.cells
    have h1 : i < F.ws.length := by rw [ho.wl]; exact Fo.par_lt hi
    obtain ⟨g, cap, rfl, k1, k2, k3, k4, _, k5⟩ := h.wt i h1
    have d := (k5 i h1).1
    generalize F.tr.wt i = y at *
    have HO := hide ho
    clear ho
    generalize F.ws.length = n at *
    unfold maxLen at k2
    have e1 : (0 : Int) ≤ (i : Int) := by omega
    have e2 : (i : Int) < (n : Int) := by omega
    clear h k5 hh
    go_enter Try.func35, Try.ntmps35
    go_wp2_with (go_at_call 37; refine (unhide hq).mono ?_; rintro e w' ⟨rfl, rfl⟩)
    go_ret2
    exact ⟨rfl, rfl⟩

set_option maxHeartbeats 400000 in
theorem root_nil (x : Int) (w : World) : Calls Try.prog 39 #[.pointer none, .int .i64 x] w fun e w' => e = .returned (.int .i64 (-1)) ∧ w = w' := by
  go_enter Try.func39, Try.ntmps39
  go_wp2_with (go_at_call 37; refine (has_nil _ _).mono ?_; rintro e w' ⟨rfl, rfl⟩)
  go_ret
  exact ⟨rfl, rfl⟩

set_option maxHeartbeats 800000 in
theorem root_any (x : Int) (w : World) (p : Nat) (u v : Value) (F : Fo) (h : FoIn w p u v F) (ho : Ok F) :
    Calls Try.prog 39 #[.pointer (some ⟨p, 0, none⟩), .int .i64 x] w fun e w' => e = .returned (.int .i64 (F.tr.rootI x)) ∧ w = w' := by
  have hq := hide (has_any x w p u v F h)
  cases hh : F.tr.hasI x
  · rw [Tr.rootI_gone hh]
    rw [hh] at hq
    clear h hh
    go_enter Try.func39, Try.ntmps39
    go_wp2_with (go_at_call 37; refine (unhide hq).mono ?_; rintro e w' ⟨rfl, rfl⟩)
    go_ret
    exact ⟨rfl, rfl⟩
  · rw [hh] at hq
    obtain ⟨i, rfl, hi⟩ := Tr.hasI_true hh
    have hup := ho.wf.spec hi
    rw [show F.tr.rootI i = lastI (F.tr.up i) from by rw [Tr.rootI, Tr.upI_nat]]
    obtain ⟨c0, c1, c2, _⟩ := h.cells
    have h1 := Fo.par_lt hi
    obtain ⟨g, cap, rfl, k1, k2, k3, k4, _, k5⟩ := h.par i h1
    have HC := hide (And.intro k5 (fun j (hj : F.tr.par j ≠ -2) => Fo.par_lt hj))
    generalize F.tr.up i = l0 at *
    generalize F.tr.par = par at *
    have HU := hide hup
    generalize F.ps.length = n at *
    unfold maxLen at k2
    clear h k5 hh hup ho hi
    go_enter Try.func39, Try.ntmps39
    go_wp2_with (go_at_call 37; refine (unhide hq).mono ?_; rintro e w' ⟨rfl, rfl⟩)
    go_loopg [1] l0.length (fun gk a w' => ∃ (y : Nat) (l : List Nat), a = .int .i64 (y : Int) ∧ w' = w ∧ Hid (Up par y l ∧ l.length = gk ∧ lastI l = lastI l0))
    case atStart => exact ⟨i, l0, rfl, rfl, unhide HU, rfl, rfl⟩
    case round =>
      obtain ⟨y, l, rfl, rfl, HY⟩ := hrel
      obtain ⟨hy, hg, hl⟩ := unhide HY
      have hyn := (unhide HC).2 y hy.there
      have d := ((unhide HC).1 y hyn).1
      have e1 : (0 : Int) ≤ (y : Int) := by omega
      have e2 : (y : Int) < (n : Int) := by omega
      obtain ⟨t, rfl⟩ := hy.head
      rcases hy.next with ⟨hr, rfl⟩ | ⟨q, hr, hq'⟩
      · rw [hr] at d
        have HR := hide hl
        clear hl hg hy HY hr
        go_wp2
        go_ret
        exact ⟨by rw [← unhide HR]; rfl, rfl⟩
      · rw [hr] at d
        have hqn : ((q : Int) == -1) = false := by rw [beq_eq_false_iff_ne]; omega
        have HQ := hide (And.intro hq' (And.intro hg hl))
        clear hl hg hy HY hr hq'
        go_wp2
        go_roundg (gk - 1)
        case rel =>
          obtain ⟨q1, q2, q3⟩ := unhide HQ
          exact ⟨q, t, rfl, rfl, q1, by simp at q2; omega, by rw [lastI_cons _ q1.ne] at q3; exact q3⟩
        all_goals
          obtain ⟨q1, q2, q3⟩ := unhide HQ
          simp at q2
          omega
end Go.Proofs.Ytbcibdofcjehcaa
