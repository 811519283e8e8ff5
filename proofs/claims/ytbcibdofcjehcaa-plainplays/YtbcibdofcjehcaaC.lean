/- The program's forest in memory: a block with its three fields, and two rows. -/
import Derived.Test.YtbcibdofcjehcaaS
import Derived.Test.YtbcibdofcjehcaaT
import Derived.Test.YtbcibdofcjehcaaF2
import Derived.Deep.RegionHeld3
import Derived.Deep.RegionWith
import Derived.BigQuiet
import Derived.WalkSmall
import Derived.Deep.QuietTactic
import Derived.Deep.OwnRows
import Derived.Deep.LoopGhost
import Derived.Deep.DeepCutAuto
namespace Go.Proofs.Ytbcibdofcjehcaa
open Go.RowKit Go.Arb

theorem hide {p : Prop} (h : p) : Hid p := h
theorem unhide {p : Prop} (h : Hid p) : p := h

structure Fo where
  room : Nat
  ps : List Int
  ws : List Int
def Fo.tr (F : Fo) : Tr := ⟨F.room, fun v => F.ps.getD v (-2), fun v => F.ws.getD v 0⟩
def nums (l : List Int) : List Value := l.map (Value.int .i64)

structure FoIn (w : World) (p : Nat) (u v : Value) (F : Fo) : Prop where
  blk : w.heap[p]? = some (.cells #[.int .i64 (F.room : Int), u, v] 65 (0, 0))
  rp : w.ownsRow 0 3 1 u F.ps.length (nums F.ps)
  rw : w.ownsRow 0 3 1 v F.ws.length (nums F.ws)
  nu : p ∉ own u
  nv : p ∉ own v
  uv : Off (own u) (own v)

def fp (p : Nat) (u v : Value) : List Nat := p :: (own u ++ own v)

theorem blk_lt {w : World} {p : Nat} {o : Obj} (h : w.heap[p]? = some o) : p < w.heap.size := (Array.getElem?_eq_some_iff.1 h).1
theorem keep_cell (w : World) (b o : Nat) (u : Value) : Keep [b] w (w.setCell ⟨b, o, none⟩ u) := Keep.setCell (ks := [b]) (Keep.refl _ _) (p := ⟨b, o, none⟩) (by simp) _
theorem off_one {ks : List Nat} {b : Nat} (h : b ∉ ks) : Off ks [b] := fun k hk hm => by simp at hm; subst hm; exact h hk

section
variable {w w' : World} {p : Nat} {u v : Value} {F : Fo} {ks : List Nat}
theorem FoIn.lt (h : FoIn w p u v F) : ∀ k ∈ fp p u v, k < w.heap.size := fun k hk => by
  simp only [fp, List.mem_cons, List.mem_append] at hk
  rcases hk with rfl | hk | hk
  · exact blk_lt h.blk
  · exact row_lt h.rp k hk
  · exact row_lt h.rw k hk
theorem FoIn.keep (h : FoIn w p u v F) (hk : Keep ks w w') (ho : Off (fp p u v) ks) : FoIn w' p u v F :=
  ⟨by rw [hk.block p (blk_lt h.blk) (ho p (by simp [fp]))]; exact h.blk, row_keep h.rp hk (fun k h1 => ho k (by simp [fp, h1])), row_keep h.rw hk (fun k h1 => ho k (by simp [fp, h1])), h.nu, h.nv, h.uv⟩
theorem FoIn.below (h : FoIn w p u v F) (hb : Below w.heap.size w w') : FoIn w' p u v F := h.keep (Keep.ofBelow hb []) (fun _ _ => by simp)
theorem FoIn.cells (h : FoIn w p u v F) :
    w.cell? ⟨p, 0, none⟩ = some (.int .i64 (F.room : Int)) ∧ w.cell? ⟨p, 1, none⟩ = some u ∧ w.cell? ⟨p, 2, none⟩ = some v ∧ w.frozen? ⟨p, 0, none⟩ = false ∧ w.frozen? ⟨p, 1, none⟩ = false ∧ w.frozen? ⟨p, 2, none⟩ = false := by
  simp [World.cell?, World.frozen?, h.blk]

theorem ints_form {w : World} {u : Value} {l : List Int} (h : w.ownsRow 0 3 1 u l.length (nums l)) :
    ∃ x cap, u = .slice x l.length cap ∧ l.length ≤ cap ∧ cap ≤ maxLen ∧ (0 < l.length → ∃ g, x = some ⟨g, 0, none⟩ ∧ g < w.heap.size ∧ own u = [g] ∧ ∀ i, (hi : i < l.length) → w.cell? ⟨g, i, none⟩ = some (.int .i64 l[i]) ∧ w.frozen? ⟨g, i, none⟩ = false) := by
  obtain ⟨x, cap, hv, h1, h2, h3⟩ := row_form h
  refine ⟨x, cap, hv, h1, h2, fun h0 => ?_⟩
  obtain ⟨g, rfl, hg, how, hc⟩ := h3 h0
  refine ⟨g, rfl, hg, how, fun i hi => ?_⟩
  have := hc i (by omega)
  exact ⟨by rw [this.1]; simp [nums, hi], this.2⟩
/-- A node's parent, as the walk reads it. -/
theorem FoIn.par (h : FoIn w p u v F) (i : Nat) (hi : i < F.ps.length) :
    ∃ g cap, u = .slice (some ⟨g, 0, none⟩) F.ps.length cap ∧ F.ps.length ≤ cap ∧ cap ≤ maxLen ∧ g < w.heap.size ∧ g ≠ p ∧ own u = [g] ∧ ∀ i, i < F.ps.length → w.cell? ⟨g, i, none⟩ = some (.int .i64 (F.tr.par i)) ∧ w.frozen? ⟨g, i, none⟩ = false := by
  obtain ⟨x, cap, hv, h1, h2, h3⟩ := ints_form h.rp
  obtain ⟨g, rfl, hg, how, hc⟩ := h3 (by omega)
  refine ⟨g, cap, hv, h1, h2, hg, ?_, how, fun i hi => ?_⟩
  · have := h.nu; rw [how] at this; simpa [eq_comm] using this
  · have := hc i hi; simpa [Fo.tr, List.getD_eq_getElem?_getD, hi] using this
theorem FoIn.wt (h : FoIn w p u v F) (i : Nat) (hi : i < F.ws.length) :
    ∃ g cap, v = .slice (some ⟨g, 0, none⟩) F.ws.length cap ∧ F.ws.length ≤ cap ∧ cap ≤ maxLen ∧ g < w.heap.size ∧ g ≠ p ∧ own v = [g] ∧ ∀ i, i < F.ws.length → w.cell? ⟨g, i, none⟩ = some (.int .i64 (F.tr.wt i)) ∧ w.frozen? ⟨g, i, none⟩ = false := by
  obtain ⟨x, cap, hv, h1, h2, h3⟩ := ints_form h.rw
  obtain ⟨g, rfl, hg, how, hc⟩ := h3 (by omega)
  refine ⟨g, cap, hv, h1, h2, hg, ?_, how, fun i hi => ?_⟩
  · have := h.nv; rw [how] at this; simpa [eq_comm] using this
  · have := hc i hi; simpa [Fo.tr, List.getD_eq_getElem?_getD, hi] using this
theorem Fo.par_lt {F : Fo} {i : Nat} (h : F.tr.par i ≠ -2) : i < F.ps.length := Classical.byContradiction fun hn => h (by simp [Fo.tr, List.getD_eq_getElem?_getD, show F.ps.length ≤ i from by omega])
theorem Fo.par_ge {F : Fo} {i : Nat} (h : F.ps.length ≤ i) : F.tr.par i = -2 := by simp [Fo.tr, List.getD_eq_getElem?_getD, h]
end

set_option maxHeartbeats 400000 in
theorem new_no (n : Int) (w : World) (h : n < 0 ∨ 1048576 < n) : Calls Try.prog 14 #[.int .i64 n] w fun e w' => e = .returned (.pointer none) ∧ w = w' := by
  rcases h with h | h
  · go_enter Try.func14, Try.ntmps14
    go_wp2
    go_ret
    exact ⟨rfl, rfl⟩
  · have h' : ¬ n < 0 := by omega
    go_enter Try.func14, Try.ntmps14
    go_wp2
    go_ret
    exact ⟨rfl, rfl⟩

set_option maxHeartbeats 400000 in
theorem new_any (n : Nat) (w : World) (h1 : n ≤ 1048576) :
    Calls Try.prog 14 #[.int .i64 (n : Int)] w fun e w' => e = .returned (.pointer (some ⟨w.heap.size, 0, none⟩)) ∧ FoIn w' w.heap.size (.slice none 0 0) (.slice none 0 0) ⟨n, [], []⟩ ∧ Below w.heap.size w w' ∧ w'.heap.size = w.heap.size + 1 := by
  have h' : ¬ (n : Int) < 0 := by omega
  have h'' : ¬ 1048576 < (n : Int) := by omega
  go_enter Try.func14, Try.ntmps14
  go_wp2
  go_ret
  refine ⟨rfl, ⟨?_, World.ownsRow_nil _ _ _ _, World.ownsRow_nil _ _ _ _, by simp [own, Value.ownBlock], by simp [own, Value.ownBlock], fun k hk => by simp [own, Value.ownBlock] at hk⟩, (Below.refl _ _).alloc (Nat.le_refl _) _, by simp⟩
  exact heap_alloc_new w _

set_option maxHeartbeats 400000 in
theorem has_nil (x : Int) (w : World) : Calls Try.prog 37 #[.pointer none, .int .i64 x] w fun e w' => e = .returned (.bool false) ∧ w = w' := by
  go_enter Try.func37, Try.ntmps37
  go_wp2
  go_ret
  exact ⟨rfl, rfl⟩

set_option maxHeartbeats 800000 in
theorem has_any (x : Int) (w : World) (p : Nat) (u v : Value) (F : Fo) (h : FoIn w p u v F) :
    Calls Try.prog 37 #[.pointer (some ⟨p, 0, none⟩), .int .i64 x] w fun e w' => e = .returned (.bool (F.tr.hasI x)) ∧ w = w' := by
  by_cases h0 : x < 0
  · rw [show F.tr.hasI x = false from by simp [Tr.hasI]; omega]
    have h0' : ¬ 0 ≤ x := by omega
    clear h
    go_enter Try.func37, Try.ntmps37
    go_wp2
    go_ret
    exact ⟨rfl, rfl⟩
  · obtain ⟨i, rfl⟩ := Int.eq_ofNat_of_zero_le (by omega : 0 ≤ x)
    obtain ⟨c0, c1, c2, _⟩ := h.cells
    by_cases h1 : i < F.ps.length
    · obtain ⟨g, cap, rfl, k1, k2, k3, k4, _, k5⟩ := h.par i h1
      have d := (k5 i h1).1
      rw [F.tr.hasI_nat]
      generalize F.tr.par i = y at *
      generalize F.ps.length = n at *
      unfold maxLen at k2
      have e1 : (0 : Int) ≤ (i : Int) := by omega
      have e2 : (i : Int) < (n : Int) := by omega
      clear h k5
      go_enter Try.func37, Try.ntmps37
      go_wp2
      go_ret
      exact ⟨by simp, rfl⟩
    · rw [show F.tr.hasI i = false from by rw [F.tr.hasI_nat, Fo.par_ge (by omega)]; rfl]
      obtain ⟨y, cap, rfl, k1, k2, k9⟩ := ints_form h.rp
      clear k9
      generalize F.ps.length = n at *
      unfold maxLen at k2
      have e1 : (0 : Int) ≤ (i : Int) := by omega
      have e2 : ¬ (i : Int) < (n : Int) := by omega
      clear h
      go_enter Try.func37, Try.ntmps37
      go_wp2
      go_ret
      exact ⟨rfl, rfl⟩
end Go.Proofs.Ytbcibdofcjehcaa
