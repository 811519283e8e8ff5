import Derived.Test.YtbcibdofcjehcaaC2
import Derived.Test.YtbcibdofcjehcaaT2
namespace Go.Proofs.Ytbcibdofcjehcaa
open Go.RowKit Go.Arb
set_option linter.unusedVariables false

theorem row1_set {α : Type} {f : α → Value} {w : World} {base : Nat} {e : TypeId} {g n cap : Nat} {l : List α} (h : w.ownsRow base e 1 (.slice (some ⟨g, 0, none⟩) n cap) l.length (l.map f)) (hn : n = l.length) (i : Nat) (a : α) :
    (w.setCell ⟨g, i, none⟩ (f a)).ownsRow base e 1 (.slice (some ⟨g, 0, none⟩) n cap) (l.set i a).length ((l.set i a).map f) := by
  subst hn
  have := (h.stored i (f a)).1
  simpa using this

section
variable {w w' : World} {p g n cap : Nat} {u v : Value} {F : Fo} {ks : List Nat}
theorem FoIn.setPar (h : FoIn w p (.slice (some ⟨g, 0, none⟩) n cap) v F) (hn : n = F.ps.length) (i : Nat) (x : Int) :
    FoIn (w.setCell ⟨g, i, none⟩ (.int .i64 x)) p (.slice (some ⟨g, 0, none⟩) n cap) v { F with ps := F.ps.set i x } ∧ Keep (fp p (.slice (some ⟨g, 0, none⟩) n cap) v) w (w.setCell ⟨g, i, none⟩ (.int .i64 x)) := by
  have hg : g ∈ own (.slice (some ⟨g, 0, none⟩) n cap) := by simp [own, Value.ownBlock]
  have hne : p ≠ g := fun e => h.nu (e ▸ hg)
  refine ⟨⟨?_, row1_set (f := Value.int .i64) h.rp hn i x, row_keep h.rw (keep_cell _ _ _ _) (off_one (h.uv g hg)), h.nu, h.nv, h.uv⟩, (Keep.refl _ _).setCell (p := ⟨g, i, none⟩) (.inl (by simp [fp, own, Value.ownBlock])) _⟩
  rw [Below.heap_setCell _ _ _ _ hne]; exact h.blk
theorem FoIn.setWt (h : FoIn w p u (.slice (some ⟨g, 0, none⟩) n cap) F) (hn : n = F.ws.length) (i : Nat) (x : Int) :
    FoIn (w.setCell ⟨g, i, none⟩ (.int .i64 x)) p u (.slice (some ⟨g, 0, none⟩) n cap) { F with ws := F.ws.set i x } ∧ Keep (fp p u (.slice (some ⟨g, 0, none⟩) n cap)) w (w.setCell ⟨g, i, none⟩ (.int .i64 x)) := by
  have hg : g ∈ own (.slice (some ⟨g, 0, none⟩) n cap) := by simp [own, Value.ownBlock]
  have hne : p ≠ g := fun e => h.nv (e ▸ hg)
  refine ⟨⟨?_, row_keep h.rp (keep_cell _ _ _ _) (off_one (h.uv.symm g hg)), row1_set (f := Value.int .i64) h.rw hn i x, h.nu, h.nv, h.uv⟩, (Keep.refl _ _).setCell (p := ⟨g, i, none⟩) (.inl (by simp [fp, own, Value.ownBlock])) _⟩
  rw [Below.heap_setCell _ _ _ _ hne]; exact h.blk
end
theorem getD_set {l : List Int} {i : Nat} (hi : i < l.length) (x d : Int) : (fun v => (l.set i x).getD v d) = updF (fun v => l.getD v d) i x := by
  funext v
  by_cases e : v = i
  · subst e; simp [updF, List.getD_eq_getElem?_getD, hi]
  · simp [updF, List.getD_eq_getElem?_getD, e, List.getElem?_set_ne (show i ≠ v from fun h => e h.symm)]
theorem Fo.tr_par {F : Fo} {i : Nat} (hi : i < F.ps.length) (x : Int) : ({ F with ps := F.ps.set i x } : Fo).tr = { F.tr with par := updF F.tr.par i x } := by
  simp only [Fo.tr, getD_set hi]
theorem Fo.tr_wt {F : Fo} {i : Nat} (hi : i < F.ws.length) (x : Int) : ({ F with ws := F.ws.set i x } : Fo).tr = { F.tr with wt := updF F.tr.wt i x } := by
  simp only [Fo.tr, getD_set hi]

set_option maxHeartbeats 800000 in
theorem same_any (x y : Int) (w : World) (p : Nat) (u v : Value) (F : Fo) (h : FoIn w p u v F) (ho : Ok F) :
    Calls Try.prog 43 #[.pointer (some ⟨p, 0, none⟩), .int .i64 x, .int .i64 y] w fun e w' => e = .returned (.bool (F.tr.sameI x y)) ∧ w = w' := by
  have h1 := hide (root_any x w p u v F h ho)
  have h2 := hide (root_any y w p u v F h ho)
  unfold Tr.sameI
  clear h ho
  generalize F.tr.rootI x = a at *
  generalize F.tr.rootI y = b at *
  by_cases ha : a = -1
  · subst ha
    go_enter Try.func43, Try.ntmps43
    go_wp2_with fail
    refine (unhide h1).mono ?_
    rintro e w' ⟨rfl, rfl⟩
    go_wp2
    go_ret
    exact ⟨rfl, rfl⟩
  · have ha' : (a == -1) = false := by rw [beq_eq_false_iff_ne]; exact ha
    go_enter Try.func43, Try.ntmps43
    go_wp2_with fail
    refine (unhide h1).mono ?_
    rintro e w' ⟨rfl, rfl⟩
    go_wp2_with fail
    refine (unhide h2).mono ?_
    rintro e w' ⟨rfl, rfl⟩
    go_wp2
    go_ret
    exact ⟨by simp [bne, ha'], rfl⟩

set_option maxHeartbeats 800000 in
theorem depth_any (i : Nat) (l0 : List Nat) (w : World) (p : Nat) (u v : Value) (F : Fo) (h : FoIn w p u v F) (hup : Up F.tr.par i l0) (hl0 : l0.length ≤ 1048576) :
    Calls Try.prog 68 #[.pointer (some ⟨p, 0, none⟩), .int .i64 (i : Int)] w fun e w' => e = .returned (.int .i64 ((l0.length : Int) - 1)) ∧ w = w' := by
  obtain ⟨c0, c1, c2, _⟩ := h.cells
  have h1 := Fo.par_lt hup.there
  obtain ⟨g, cap, rfl, k1, k2, k3, k4, _, k5⟩ := h.par i h1
  have HC := hide (And.intro k5 (fun j (hj : F.tr.par j ≠ -2) => Fo.par_lt hj))
  generalize F.tr.par = par at *
  have HU := hide hup
  generalize F.ps.length = n at *
  unfold maxLen at k2
  clear h k5 hup
  go_enter Try.func68, Try.ntmps68
  go_wp2
  go_loopg [1, 5] l0.length (fun gk a b w' => ∃ (y s : Nat) (l : List Nat), a = .int .i64 (y : Int) ∧ b = .int .i64 (s : Int) ∧ w' = w ∧ s + gk = l0.length ∧ Hid (Up par y l ∧ l.length = gk))
  case atStart => exact ⟨i, 0, l0, rfl, rfl, rfl, by omega, unhide HU, rfl⟩
  case round =>
    obtain ⟨y, s, l, rfl, rfl, rfl, hs, HY⟩ := hrel
    obtain ⟨hy, hg⟩ := unhide HY
    have hyn := (unhide HC).2 y hy.there
    have d := ((unhide HC).1 y hyn).1
    have e1 : (0 : Int) ≤ (y : Int) := by omega
    have e2 : (y : Int) < (n : Int) := by omega
    obtain ⟨t, rfl⟩ := hy.head
    rcases hy.next with ⟨hr, rfl⟩ | ⟨q, hr, hq'⟩
    · rw [hr] at d
      simp at hg
      subst hg
      clear hy HY hr
      go_wp2
      go_ret
      exact ⟨by rw [show (l0.length : Int) - 1 = (s : Int) from by omega]; rfl, rfl⟩
    · rw [hr] at d
      have hqn : ((q : Int) == -1) = false := by rw [beq_eq_false_iff_ne]; omega
      have HQ := hide (And.intro hq' hg)
      clear hg hy HY hr hq'
      go_wp2
      go_roundg (gk - 1)
      case rel =>
        obtain ⟨q1, q2⟩ := unhide HQ
        simp at q2
        exact ⟨q, s + 1, t, rfl, by go_num, rfl, by omega, q1, by omega⟩
      all_goals
        obtain ⟨q1, q2⟩ := unhide HQ
        simp at q2
        omega

set_option maxHeartbeats 800000 in
theorem cut_no (x : Int) (w : World) (p : Nat) (u v : Value) (F : Fo) (h : FoIn w p u v F) (hp : F.tr.parI x = -1) :
    Calls Try.prog 23 #[.pointer (some ⟨p, 0, none⟩), .int .i64 x] w fun e w' => e = .returned (.bool false) ∧ w = w' := by
  have h1 := hide (parent_any x w p u v F h)
  rw [hp] at h1
  clear h hp
  go_enter Try.func23, Try.ntmps23
  go_wp2_with fail
  refine (unhide h1).mono ?_
  rintro e w' ⟨rfl, rfl⟩
  go_wp2
  go_ret
  exact ⟨rfl, rfl⟩

set_option maxHeartbeats 800000 in
theorem cut_yes (i q : Nat) (w : World) (p : Nat) (u v : Value) (F : Fo) (h : FoIn w p u v F) (hi : F.tr.par i = (q : Int)) :
    Calls Try.prog 23 #[.pointer (some ⟨p, 0, none⟩), .int .i64 (i : Int)] w fun e w' => e = .returned (.bool true) ∧ FoIn w' p u v { F with ps := F.ps.set i (-1) } ∧ Keep (fp p u v) w w' := by
  have h1 := hide (parent_any i w p u v F h)
  have hlt := Fo.par_lt (F := F) (i := i) (by omega)
  rw [show F.tr.parI i = (q : Int) from by simp [Tr.parI, F.tr.hasI_nat, hi]] at h1
  obtain ⟨c0, c1, c2, _⟩ := h.cells
  obtain ⟨g, cap, rfl, k1, k2, k3, k4, _, k5⟩ := h.par i hlt
  obtain ⟨d, fd⟩ := k5 i hlt
  have R := hide (h.setPar rfl i (-1))
  generalize F.ps.length = n at *
  unfold maxLen at k2
  have e1 : (0 : Int) ≤ (i : Int) := by omega
  have e2 : (i : Int) < (n : Int) := by omega
  have hqn : ((q : Int) == -1) = false := by rw [beq_eq_false_iff_ne]; omega
  clear h k5 hi
  go_enter Try.func23, Try.ntmps23
  go_wp2_with fail
  refine (unhide h1).mono ?_
  rintro e w' ⟨rfl, rfl⟩
  go_wp2
  go_ret
  exact ⟨rfl, unhide R⟩
end Go.Proofs.Ytbcibdofcjehcaa
