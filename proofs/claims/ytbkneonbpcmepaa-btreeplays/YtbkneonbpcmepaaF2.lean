/- Several objects of the call's own, each apart from the others. Nothing of the dump. -/
import Derived.Test.YtbkneonbpcmepaaF
namespace Go.Arb
open Go.RowKit

structure Sep (B : Nat) (W : World) (l : List (List Nat)) : Prop where
  pw : l.Pairwise Off
  bd : ∀ ks ∈ l, ∀ k ∈ ks, B ≤ k ∧ k < W.heap.size

theorem Sep.step {B : Nat} {W W' : World} {a a' : List Nat} {l : List (List Nat)} (h : Sep B W (a :: l)) (hB : B ≤ W.heap.size) (hk : Keep a W W') (hg : Grew W a a') (hl : ∀ k ∈ a', k < W'.heap.size) : Sep B W' (a' :: l) := by
  obtain ⟨h1, h2⟩ := h
  rw [List.pairwise_cons] at h1
  refine ⟨List.pairwise_cons.2 ⟨fun b hb => ?_, h1.2⟩, fun ks hks k hk' => ?_⟩
  · exact ((h1.1 b hb).symm.grew (w := W) (fun k hk' => (h2 b (List.mem_cons_of_mem _ hb) k hk').2) hg).symm
  · rcases List.mem_cons.1 hks with rfl | hks
    · exact ⟨ge_grew (fun k hk => (h2 a (by simp) k hk).1) hB hg k hk', hl k hk'⟩
    · have := h2 ks (List.mem_cons_of_mem _ hks) k hk'
      exact ⟨this.1, Nat.lt_of_lt_of_le this.2 hk.size⟩
theorem Sep.perm {B : Nat} {W : World} {l l' : List (List Nat)} (h : Sep B W l) (hp : l.Perm l') : Sep B W l' :=
  ⟨(hp.pairwise_iff (fun h => h.symm)).1 h.pw, fun ks hks => h.bd ks (hp.mem_iff.2 hks)⟩
theorem Sep.up {B : Nat} {W W' : World} {l : List (List Nat)} (h : Sep B W l) (hs : W.heap.size ≤ W'.heap.size) : Sep B W' l :=
  ⟨h.pw, fun ks hks k hk => ⟨(h.bd ks hks k hk).1, Nat.lt_of_lt_of_le (h.bd ks hks k hk).2 hs⟩⟩
theorem Sep.off {B : Nat} {W : World} {a b : List Nat} {l : List (List Nat)} (h : Sep B W (a :: l)) (hb : b ∈ l) : Off b a := ((List.pairwise_cons.1 h.pw).1 b hb).symm
theorem Sep.ge {B : Nat} {W : World} {a : List Nat} {l : List (List Nat)} (h : Sep B W l) (ha : a ∈ l) : ∀ k ∈ a, B ≤ k := fun k hk => (h.bd a ha k hk).1
theorem Sep.tail {B : Nat} {W : World} {a : List Nat} {l : List (List Nat)} (h : Sep B W (a :: l)) : Sep B W l := ⟨(List.pairwise_cons.1 h.pw).2, fun ks hks => h.bd ks (List.mem_cons_of_mem _ hks)⟩
/-- A new object joins. -/
theorem Sep.join {B : Nat} {W W' : World} {a : List Nat} {l : List (List Nat)} (h : Sep B W l) (hB : B ≤ W.heap.size) (hs : W.heap.size ≤ W'.heap.size) (ha : ∀ k ∈ a, W.heap.size ≤ k ∧ k < W'.heap.size) : Sep B W' (a :: l) := by
  refine ⟨List.pairwise_cons.2 ⟨fun b hb k hk hkb => ?_, h.pw⟩, fun ks hks k hk => ?_⟩
  · have h1 := ha k hk
    have h2 := h.bd b hb k hkb
    omega
  · rcases List.mem_cons.1 hks with rfl | hks
    · have := ha k hk; exact ⟨by omega, this.2⟩
    · have := h.bd ks hks k hk; exact ⟨this.1, by omega⟩
theorem Sep.nil (B : Nat) (W : World) : Sep B W [] := ⟨List.Pairwise.nil, by simp⟩
theorem Sep.none {B : Nat} {W : World} {l : List (List Nat)} (h : Sep B W l) : Sep B W ([] :: l) := ⟨List.pairwise_cons.2 ⟨fun _ _ _ hk => by simp at hk, h.pw⟩, fun ks hks k hk => by
  rcases List.mem_cons.1 hks with rfl | hks
  · simp at hk
  · exact h.bd ks hks k hk⟩

/-- The cells of a block that was just laid, its number said otherwise. -/
theorem news_at (w : World) (cs : List Value) (t : TypeId) (H : Nat) (hH : w.heap.size = H) : ∀ j u, cs[j]? = some u → (w.alloc (.cells cs.toArray t)).cell? ((⟨H, 0, none⟩ : Addr).add j) = some u := by
  subst hH
  exact fun j u h => news_new w cs.toArray t j u (by simpa using h)
/-- What an append onto a row of the call's own leaves. -/
theorem app_keep {W W1 W2 : World} {v : Value} {g H : Nat} (hk : Keep [] W W1) (hgrow : W1.grownBy W2 v.ownBlock) (hat : v.ownBlock = some g ∨ g = H) (hH : W.heap.size ≤ H) (hlt : g < W2.heap.size) :
    Keep (own v) W W2 ∧ Grew W (own v) [g] ∧ ∀ k ∈ [g], k < W2.heap.size := by
  refine ⟨(hk.mono (js := own v) (by simp)).grown hgrow (fun k hk => .inl (mem_own.2 hk)), fun k hk => ?_, by simpa using hlt⟩
  simp at hk
  subst hk
  rcases hat with h | h
  · exact .inl (mem_own.2 h)
  · right; omega
end Go.Arb
