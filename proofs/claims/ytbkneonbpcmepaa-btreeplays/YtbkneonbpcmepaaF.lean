/- Frames by lists of blocks: what a call may have turned, and what lies elsewhere. Nothing of the dump. -/
import Derived.WalkKit
import Derived.Below
import Derived.Maps.AppendAt
import Derived.Deep.AppendLies
namespace Go.Arb
open Go.RowKit

/-- Only the blocks of 'ks' may have turned, of those that were there. -/
structure Keep (ks : List Nat) (w w' : World) : Prop where
  os : w'.os = w.os
  tape : w'.tape = w.tape
  output : w'.output = w.output
  size : w.heap.size ≤ w'.heap.size
  block : ∀ k, k < w.heap.size → k ∉ ks → w'.heap[k]? = w.heap[k]?

theorem Keep.refl (ks : List Nat) (w : World) : Keep ks w w := ⟨rfl, rfl, rfl, Nat.le_refl _, fun _ _ _ => rfl⟩
theorem Keep.drew {ks : List Nat} {w w' : World} (h : Keep ks w w') : Keep ks w w'.drew := ⟨h.os, h.tape, h.output, h.size, h.block⟩
/-- The second call may turn what the first one may, and what is new since. -/
theorem Keep.trans {ks js : List Nat} {a b c : World} (h : Keep ks a b) (k : Keep js b c) (hj : ∀ i ∈ js, i ∈ ks ∨ a.heap.size ≤ i) : Keep ks a c :=
  ⟨k.os.trans h.os, k.tape.trans h.tape, k.output.trans h.output, Nat.le_trans h.size k.size, fun i hi hn =>
    (k.block i (Nat.lt_of_lt_of_le hi h.size) (fun hm => by rcases hj i hm with h1 | h1; exact hn h1; omega)).trans (h.block i hi hn)⟩
theorem Keep.mono {ks js : List Nat} {w w' : World} (h : Keep ks w w') (hs : ∀ k ∈ ks, k ∈ js ∨ w.heap.size ≤ k) : Keep js w w' :=
  ⟨h.os, h.tape, h.output, h.size, fun k hk hn => h.block k hk (fun hm => by rcases hs k hm with h1 | h1; exact hn h1; omega)⟩
theorem Keep.alloc {ks : List Nat} {a w : World} (h : Keep ks a w) (o : Obj) : Keep ks a (w.alloc o) :=
  h.trans (js := []) ⟨rfl, rfl, rfl, by simp, fun _ hk _ => Below.heap_alloc _ _ _ hk⟩ (by simp)
theorem Keep.setCell {ks : List Nat} {a w : World} (h : Keep ks a w) {p : Addr} (hp : p.block ∈ ks ∨ a.heap.size ≤ p.block) (u : Value) : Keep ks a (w.setCell p u) :=
  h.trans (js := [p.block]) ⟨rfl, rfl, rfl, by simp [World.setCell], fun k _ hn => Below.heap_setCell _ _ _ _ (by simpa using hn)⟩ (by simpa using hp)
theorem Keep.grown {ks : List Nat} {a w w' : World} {row : Option Nat} (h : Keep ks a w) (hg : w.grownBy w' row) (hr : ∀ k, row = some k → k ∈ ks ∨ a.heap.size ≤ k) : Keep ks a w' :=
  h.trans (js := row.toList) ⟨hg.os, hg.tape, hg.output, hg.size, fun k hk hn => hg.block k hk (fun e => hn (by simp [← e]))⟩ (fun i hi => hr i (by simpa using hi))
theorem Keep.below {ks : List Nat} {B : Nat} {a w w' : World} (hb : Below B a w) (h : Keep ks w w') (hB : B ≤ w.heap.size) (hk : ∀ k ∈ ks, B ≤ k) : Below B a w' :=
  hb.trans ⟨h.os, h.tape, h.output, h.size, fun k h1 => h.block k (by omega) (fun hm => by have := hk k hm; omega)⟩
theorem Keep.ofBelow {w w' : World} (h : Below w.heap.size w w') (ks : List Nat) : Keep ks w w' := ⟨h.os, h.tape, h.output, h.size, fun k hk _ => h.block k hk⟩
theorem Keep.cell {ks : List Nat} {w w' : World} (h : Keep ks w w') {p : Addr} (hp : p.block < w.heap.size) (hn : p.block ∉ ks) : w'.cell? p = w.cell? p := World.cell?_of_block (w := w) (h.block p.block hp hn)
theorem Keep.frozen {ks : List Nat} {w w' : World} (h : Keep ks w w') {p : Addr} (hp : p.block < w.heap.size) (hn : p.block ∉ ks) : w'.frozen? p = w.frozen? p := World.frozen?_of_block (w := w) (h.block p.block hp hn)

/-- What an object lay in, and what it lies in now: nothing more but what is new. -/
def Grew (w : World) (ks ks' : List Nat) : Prop := ∀ k ∈ ks', k ∈ ks ∨ w.heap.size ≤ k
theorem Grew.refl (w : World) (ks : List Nat) : Grew w ks ks := fun _ h => .inl h
theorem Grew.trans {w w1 : World} {a b c : List Nat} (h : Grew w a b) (k : Grew w1 b c) (hs : w.heap.size ≤ w1.heap.size) : Grew w a c := fun i hi => by
  rcases k i hi with h1 | h1
  · exact h i h1
  · right; omega
/-- Two objects lie apart. -/
def Off (ks js : List Nat) : Prop := ∀ k ∈ ks, k ∉ js
theorem Off.symm {ks js : List Nat} (h : Off ks js) : Off js ks := fun k hk hj => h k hj hk
/-- One that lies apart stays apart. -/
theorem Off.grew {w : World} {ks js js' : List Nat} (h : Off ks js) (hk : ∀ k ∈ ks, k < w.heap.size) (hg : Grew w js js') : Off ks js' := fun k h1 h2 => by
  rcases hg k h2 with h3 | h3
  · exact h k h1 h3
  · have := hk k h1; omega
theorem ge_grew {w : World} {B : Nat} {ks js : List Nat} (h : ∀ k ∈ ks, B ≤ k) (hB : B ≤ w.heap.size) (hg : Grew w ks js) : ∀ k ∈ js, B ≤ k := fun k hk => by
  rcases hg k hk with h1 | h1
  · exact h k h1
  · omega

/-- The cells of a list of elements. -/
def flat {α : Type} (f : α → List Value) (l : List α) : List Value := l.flatMap f

theorem flat_length {α : Type} {f : α → List Value} {s : Nat} (hf : ∀ a, (f a).length = s) (l : List α) : (flat f l).length = l.length * s := by
  induction l with
  | nil => simp [flat]
  | cons a l ih => simp only [flat, List.flatMap_cons, List.length_append, List.length_cons] at *; rw [ih, hf, Nat.add_mul]; omega
theorem flat_get {α : Type} {f : α → List Value} {s : Nat} (hf : ∀ a, (f a).length = s) (l : List α) (i j : Nat) (hj : j < s) : (flat f l)[i * s + j]? = (l[i]?).bind fun a => (f a)[j]? := by
  induction l generalizing i with
  | nil => simp [flat]
  | cons a l ih =>
    have ha := hf a
    cases i with
    | zero =>
      simp only [flat, List.flatMap_cons, Nat.zero_mul, Nat.zero_add, List.getElem?_cons_zero, Option.bind_some]
      rw [List.getElem?_append_left (by omega)]
    | succ i =>
      simp only [flat, List.flatMap_cons, List.getElem?_cons_succ] at *
      rw [List.getElem?_append_right (by rw [ha, Nat.add_mul]; omega), ← ih i]
      congr 1
      rw [ha, Nat.add_mul]; omega
theorem flat_set {α : Type} {f : α → List Value} {s : Nat} (hf : ∀ a, (f a).length = s) (l : List α) (i j : Nat) (hi : i < l.length) (hj : j < s) (b : α) (u : Value) (hb : f b = (f l[i]).set j u) :
    flat f (l.set i b) = (flat f l).set (i * s + j) u := by
  induction l generalizing i with
  | nil => simp at hi
  | cons a l ih =>
    have ha := hf a
    cases i with
    | zero =>
      simp only [List.getElem_cons_zero] at hb
      simp only [flat, List.set_cons_zero, List.flatMap_cons, Nat.zero_mul, Nat.zero_add]
      rw [List.set_append_left _ _ (by omega), hb]
    | succ i =>
      simp only [List.getElem_cons_succ] at hb
      simp only [flat, List.set_cons_succ, List.flatMap_cons] at *
      rw [List.set_append_right _ _ (by rw [ha, Nat.add_mul]; omega), ih i (by simpa using hi) hb]
      congr 2
      rw [ha, Nat.add_mul]; omega
theorem flat_append {α : Type} (f : α → List Value) (l m : List α) : flat f (l ++ m) = flat f l ++ flat f m := by simp [flat]
theorem flat_one {α : Type} (f : α → List Value) (a : α) : flat f [a] = f a := by simp [flat]

/-- The cells of a block that was just laid. -/
theorem news_new (w : World) (cs : Array Value) (t : TypeId) : ∀ j u, cs.toList[j]? = some u → (w.alloc (.cells cs t)).cell? ((⟨w.heap.size, 0, none⟩ : Addr).add j) = some u :=
  World.news_of_block (heap_alloc_new w _)
/-- What a slice lies in. -/
def own (v : Value) : List Nat := v.ownBlock.toList
theorem mem_own {v : Value} {k : Nat} : k ∈ own v ↔ v.ownBlock = some k := by
  unfold own; cases v.ownBlock <;> simp; exact eq_comm
theorem own_grew {w : World} {v v' : Value} (h : v'.ownBlock = v.ownBlock ∨ v'.ownBlock = some w.heap.size) : Grew w (own v) (own v') := fun k hk => by
  rw [mem_own] at *
  rcases h with h | h
  · left; rw [← h]; exact hk
  · right; rw [h] at hk; cases hk; exact Nat.le_refl _
theorem row_lt {w : World} {base : Nat} {e : TypeId} {s n : Nat} {v : Value} {xs : List Value} (h : w.ownsRow base e s v n xs) : ∀ k ∈ own v, k < w.heap.size := fun k hk => (h.lt k (mem_own.1 hk)).2
theorem row_ge {w : World} {base : Nat} {e : TypeId} {s n : Nat} {v : Value} {xs : List Value} (h : w.ownsRow base e s v n xs) : ∀ k ∈ own v, base ≤ k := fun k hk => (h.lt k (mem_own.1 hk)).1
/-- A row that lies elsewhere is as it was. -/
theorem row_keep {w w' : World} {ks : List Nat} {base : Nat} {e : TypeId} {s n : Nat} {v : Value} {xs : List Value} (h : w.ownsRow base e s v n xs) (hk : Keep ks w w') (ho : Off (own v) ks) : w'.ownsRow base e s v n xs := by
  refine ⟨h.1, ?_⟩
  rcases h.2 with hn | ⟨g, cap, cur, rfl, hb, hg, rest⟩
  · exact .inl hn
  · refine .inr ⟨g, cap, cur, rfl, hb, ?_, rest⟩
    rw [hk.block g (Array.getElem?_eq_some_iff.1 hg).1 (ho g (by simp [own, Value.ownBlock]))]
    exact hg
theorem row_grown {w w' : World} {base : Nat} {e : TypeId} {s n : Nat} {v : Value} {xs : List Value} {row : Option Nat} (h : w.ownsRow base e s v n xs) (hg : w.grownBy w' row) (ho : Off (own v) row.toList) : w'.ownsRow base e s v n xs :=
  row_keep h (Keep.grown (ks := row.toList) (Keep.refl _ _) hg (fun k hk => .inl (by simp [hk]))) ho

/-- A row's value, as the walk takes it: one form for a nil slice and any other. -/
theorem row_form {w : World} {base : Nat} {e : TypeId} {s n : Nat} {v : Value} {xs : List Value} (h : w.ownsRow base e s v n xs) : ∃ x cap, v = .slice x n cap ∧ n ≤ cap ∧ cap ≤ maxLen ∧ (0 < n → ∃ g, x = some ⟨g, 0, none⟩ ∧ g < w.heap.size ∧ own v = [g] ∧ ∀ j, j < n * s → w.cell? ⟨g, j, none⟩ = xs[j]? ∧ w.frozen? ⟨g, j, none⟩ = false) := by
  rcases h.2 with ⟨rfl, rfl⟩ | ⟨g, cap, cur, hv, hb, hg, hn, hm, hc, ht⟩
  · exact ⟨none, 0, rfl, Nat.le_refl _, Nat.zero_le _, fun h0 => by omega⟩
  · subst hv
    exact ⟨_, cap, rfl, hn, hm, fun _ => ⟨g, rfl, (Array.getElem?_eq_some_iff.1 hg).1, rfl, fun j hj => ⟨h.cellAt j hj, h.frozenAt j⟩⟩⟩
end Go.Arb
