import Derived.Test.YtnjnpcimnnmknaaE
namespace Go.Proofs.Ytnjnpcimnnmknaa
open Go.RowKit Go.Arb

theorem row_len {w : World} {base : Nat} {e : TypeId} {s n : Nat} {v : Value} {xs : List Value} (h : w.ownsRow base e s v n xs) : ∃ x cap, v = .slice x n cap ∧ n ≤ maxLen := by
  obtain ⟨x, cap, hv, h1, h2, _⟩ := row_form h
  exact ⟨x, cap, hv, by omega⟩

set_option maxHeartbeats 800000 in
theorem rlen_any (w : World) (q : Nat) (vg vb vf : Value) (R : Rs) (h : RsIn w q vg vb vf R) (h0 : 0 ≤ R.next) (h1 : R.next ≤ 1048576) (h2 : R.free.length ≤ 1048576) :
    Calls Try.prog 16 #[.pointer (some ⟨q, 0, none⟩)] w fun e w' => e = .returned (.int .i64 (R.next - R.free.length)) ∧ ∃ n, w' = w.drewN n := by
  obtain ⟨c0, c1, c2, c3, _⟩ := h.cells
  obtain ⟨x, cap, rfl, hm⟩ := row_len h.rf
  clear h
  generalize R.free.length = n at *
  generalize R.next = k at *
  have W1 : IntKind.i64.wrap (k - (n : Int)) = k - (n : Int) := IntWalk.i64_in _ (by omega)
  go_enter Try.func16, Try.ntmps16
  go_wp2
  go_quiet (fail)
  go_wp2
  go_ret
  exact ⟨rfl, _, rfl⟩

set_option maxHeartbeats 800000 in
theorem rlive_neg (s g : Int) (w : World) (q : Nat) (hs : s < 0) : Calls Try.prog 14 #[.pointer (some ⟨q, 0, none⟩), .agg #[.int .i64 s, .int .i64 g]] w fun e w' => e = .returned (.bool false) ∧ Below w.heap.size w w' := by
  have h1 : decide (0 ≤ s) = false := by simp; omega
  go_enter Try.func14, Try.ntmps14
  go_wp2
  go_quiet (fail)
  go_wp2
  go_ret
  exact ⟨rfl, below_drewN ((Below.refl _ _).alloc (Nat.le_refl _) _) _⟩

set_option maxHeartbeats 800000 in
theorem rlive_over (s g : Int) (w : World) (q : Nat) (vg vb vf : Value) (R : Rs) (h : RsIn w q vg vb vf R) (hs : (R.gen.length : Int) ≤ s) : Calls Try.prog 14 #[.pointer (some ⟨q, 0, none⟩), .agg #[.int .i64 s, .int .i64 g]] w fun e w' => e = .returned (.bool false) ∧ Below w.heap.size w w' := by
  obtain ⟨c0, c1, c2, c3, _⟩ := h.cells
  have hq := blk_lt h.blk
  obtain ⟨x, cap, rfl, hm⟩ := row_len h.rg
  clear h
  generalize R.gen.length = n at *
  have h1 : decide (0 ≤ s) = true := by simp; omega
  have h1' : 0 ≤ s := by omega
  have h2 : decide (s < (n : Int)) = false := by simp; omega
  go_enter Try.func14, Try.ntmps14
  go_wp2
  go_quiet (fail)
  go_wp2
  go_ret
  exact ⟨rfl, below_drewN ((Below.refl _ _).alloc (Nat.le_refl _) _) _⟩

set_option maxHeartbeats 800000 in
theorem rlive_off (i : Nat) (g : Int) (w : World) (q : Nat) (vg vb vf : Value) (R : Rs) (h : RsIn w q vg vb vf R) (hi : i < R.gen.length) (hb : R.busy[i]? = some false) : Calls Try.prog 14 #[.pointer (some ⟨q, 0, none⟩), .agg #[.int .i64 (i : Int), .int .i64 g]] w fun e w' => e = .returned (.bool false) ∧ Below w.heap.size w w' := by
  obtain ⟨c0, c1, c2, c3, _⟩ := h.cells
  have hq := blk_lt h.blk
  obtain ⟨hib, hbi⟩ := List.getElem?_eq_some_iff.1 hb
  obtain ⟨x, cap, rfl, hm⟩ := row_len h.rg
  obtain ⟨b, capb, rfl, hb1, hb2, hb3, _, d0, _⟩ := row1 h.rb i hib
  rw [hbi] at d0
  clear h hb hbi
  generalize R.gen.length = n at *
  generalize R.busy.length = m at *
  unfold maxLen at *
  have h1' : (0 : Int) ≤ (i : Int) := by omega
  have h2' : (i : Int) < (n : Int) := by omega
  have h3' : (i : Int) < (m : Int) := by omega
  have h1 : decide (0 ≤ (i : Int)) = true := by simp
  have h2 : decide ((i : Int) < (n : Int)) = true := by simp; omega
  go_enter Try.func14, Try.ntmps14
  go_wp2
  go_quiet (fail)
  go_wp2
  go_ret
  exact ⟨rfl, below_drewN ((Below.refl _ _).alloc (Nat.le_refl _) _) _⟩

set_option maxHeartbeats 800000 in
theorem rlive_on (i : Nat) (g x : Int) (w : World) (q : Nat) (vg vb vf : Value) (R : Rs) (h : RsIn w q vg vb vf R) (hg : R.gen[i]? = some x) (hb : R.busy[i]? = some true) : Calls Try.prog 14 #[.pointer (some ⟨q, 0, none⟩), .agg #[.int .i64 (i : Int), .int .i64 g]] w fun e w' => e = .returned (.bool (x == g)) ∧ Below w.heap.size w w' := by
  obtain ⟨c0, c1, c2, c3, _⟩ := h.cells
  have hq := blk_lt h.blk
  obtain ⟨hib, hbi⟩ := List.getElem?_eq_some_iff.1 hb
  obtain ⟨hi, hgi⟩ := List.getElem?_eq_some_iff.1 hg
  obtain ⟨b, capb, rfl, hb1, hb2, hb3, _, d0, _⟩ := row1 h.rb i hib
  obtain ⟨b', capg, rfl, hg1, hg2, hg3, _, e0, _⟩ := row1 h.rg i hi
  rw [hbi] at d0
  rw [hgi] at e0
  clear h hb hbi hg hgi
  generalize R.gen.length = n at *
  generalize R.busy.length = m at *
  unfold maxLen at *
  have h1' : (0 : Int) ≤ (i : Int) := by omega
  have h2' : (i : Int) < (n : Int) := by omega
  have h3' : (i : Int) < (m : Int) := by omega
  have h1 : decide (0 ≤ (i : Int)) = true := by simp
  have h2 : decide ((i : Int) < (n : Int)) = true := by simp; omega
  go_enter Try.func14, Try.ntmps14
  go_wp2
  go_quiet (fail)
  go_wp2
  go_ret
  exact ⟨rfl, below_drewN ((Below.refl _ _).alloc (Nat.le_refl _) _) _⟩
end Go.Proofs.Ytnjnpcimnnmknaa
