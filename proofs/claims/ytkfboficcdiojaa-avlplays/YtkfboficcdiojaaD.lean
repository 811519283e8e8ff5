/- Sequences of items, as plain lists: what a pool holds. -/
import Derived.Test.YtkfboficcdiojaaK5
namespace Go.Proofs.Ytkfboficcdiojaa

structure Se where
  n : Nat
  L : List (List Nat)
  W : Nat → Int

def its (W : Nat → Int) (l : List Nat) : List It := l.map fun v => (v + 1, W v)
theorem its_length (W : Nat → Int) (l : List Nat) : (its W l).length = l.length := by simp [its]
theorem ids_its (W : Nat → Int) (l : List Nat) : ids (its W l) = l.map (· + 1) := by simp [ids, its, Function.comp_def]
theorem mem_its {W : Nat → Int} {l : List Nat} {v : Nat} : v + 1 ∈ ids (its W l) ↔ v ∈ l := by rw [ids_its]; simp
theorem nodup_its {W : Nat → Int} {l : List Nat} : (ids (its W l)).Nodup ↔ l.Nodup := by
  rw [ids_its]
  unfold List.Nodup
  rw [List.pairwise_map]
  constructor
  · intro h
    exact h.imp (fun hab e => hab (by rw [e]))
  · intro h
    exact h.imp (fun hab e => hab (by omega))
theorem its_append (W : Nat → Int) (l m : List Nat) : its W (l ++ m) = its W l ++ its W m := by simp [its]
theorem smL_its (W : Nat → Int) (l : List Nat) : smL (its W l) = ofR (l.map W) := by simp [smL, its, Function.comp_def]
theorem its_congr {W W' : Nat → Int} {l : List Nat} (h : ∀ v ∈ l, W v = W' v) : its W l = its W' l := by
  unfold its
  exact List.map_congr_left (fun v hv => by rw [h v hv])

namespace Se
def hasI (A : Se) (x : Int) : Bool := decide (0 ≤ x) && decide (x.toNat ∈ A.L.flatten)
def seq (A : Se) (v : Nat) : List Nat := (A.L.find? (fun l => decide (v ∈ l))).getD []
def seqI (A : Se) (x : Int) : List Nat := if A.hasI x then A.seq x.toNat else []
def lenI (A : Se) (x : Int) : Int := ((A.seqI x).length : Int)
def rankI (A : Se) (x : Int) : Int := if A.hasI x then ((A.seq x.toNat).idxOf x.toNat : Int) else -1
def atI (A : Se) (x k : Int) : Int := if 0 ≤ k ∧ k < A.lenI x then ((A.seqI x).getD k.toNat 0 : Int) else -1
def sameI (A : Se) (a b : Int) : Bool := A.hasI a && A.hasI b && decide (b.toNat ∈ A.seqI a)
def getI (A : Se) (x : Int) : Int := if A.hasI x then A.W x.toNat else 0
def allI (A : Se) (x : Int) : Sm := ofR ((A.seqI x).map A.W)
def okR (A : Se) (a b : Int) : Bool := A.sameI a b && decide (A.rankI a ≤ A.rankI b)
def part (A : Se) (a b : Int) : List Nat := ((A.seqI a).take ((A.rankI b).toNat + 1)).drop (A.rankI a).toNat
def rangeI (A : Se) (a b : Int) : Sm := if A.okR a b then ofR ((A.part a b).map A.W) else zero
end Se

/-- What a pool's slots say of its sequences. -/
structure Inv (S : Ss) (A : Se) : Prop where
  z : Z S
  nd : A.L.flatten.Nodup
  ne : ∀ l ∈ A.L, l ≠ []
  tr : ∀ l ∈ A.L, ∃ r, Pt S r (its A.W l) ∧ (S r).up = 0
  out : ∀ t, (∀ v ∈ A.L.flatten, v + 1 ≠ t) → S t = Sl.zero
  lt : ∀ v ∈ A.L.flatten, v < A.n
  n : A.n ≤ 4194304

section
variable {S : Ss} {A : Se} {v : Nat} {l : List Nat} {x : Int}
theorem Se.hasI_nat (A : Se) (v : Nat) : A.hasI (v : Int) = decide (v ∈ A.L.flatten) := by simp [Se.hasI]
theorem Se.hasI_true (h : A.hasI x = true) : ∃ v : Nat, x = v ∧ v ∈ A.L.flatten := by
  simp only [Se.hasI, Bool.and_eq_true, decide_eq_true_eq] at h
  exact ⟨x.toNat, by omega, h.2⟩
theorem seq_find {L : List (List Nat)} (hv : v ∈ L.flatten) : ∃ l, L.find? (fun l => decide (v ∈ l)) = some l ∧ l ∈ L ∧ v ∈ l := by
  obtain ⟨l, hl, hv⟩ := List.mem_flatten.1 hv
  cases h : L.find? (fun l => decide (v ∈ l)) with
  | none => rw [List.find?_eq_none] at h; exact absurd (by simpa using hv) (h l hl)
  | some m => exact ⟨m, rfl, List.mem_of_find?_eq_some h, by simpa using List.find?_some h⟩
theorem Se.seq_mem (hv : v ∈ A.L.flatten) : A.seq v ∈ A.L ∧ v ∈ A.seq v := by
  obtain ⟨l, h1, h2, h3⟩ := seq_find hv
  rw [Se.seq, h1]
  exact ⟨h2, h3⟩
theorem Se.seqI_nat (hv : v ∈ A.L.flatten) : A.seqI (v : Int) = A.seq v := by simp [Se.seqI, A.hasI_nat, hv]
theorem nodup_flatten {L : List (List Nat)} (h : L.flatten.Nodup) (hl : l ∈ L) : l.Nodup := by
  rw [List.Nodup, List.pairwise_flatten] at h
  exact h.1 l hl
/-- A list of the sequences that has an item is the item's. -/
theorem one_list {L : List (List Nat)} (h : L.flatten.Nodup) {l m : List Nat} (hl : l ∈ L) (hm : m ∈ L) (h1 : v ∈ l) (h2 : v ∈ m) : l = m := by
  rw [List.Nodup, List.pairwise_flatten] at h
  exact Classical.byContradiction fun hn => by
    obtain ⟨i, hi, rfl⟩ := List.mem_iff_getElem.1 hl
    obtain ⟨j, hj, rfl⟩ := List.mem_iff_getElem.1 hm
    have hne : i ≠ j := fun e => hn (by subst e; rfl)
    rcases Nat.lt_or_gt_of_ne hne with k | k
    · exact List.pairwise_iff_getElem.1 h.2 i j hi hj k v h1 v h2 rfl
    · exact List.pairwise_iff_getElem.1 h.2 j i hj hi k v h2 v h1 rfl
theorem Inv.seq_eq (h : Inv S A) (hl : l ∈ A.L) (hv : v ∈ l) : A.seq v = l := by
  have hf : v ∈ A.L.flatten := List.mem_flatten.2 ⟨l, hl, hv⟩
  exact one_list h.nd (Se.seq_mem hf).1 hl (Se.seq_mem hf).2 hv
theorem Se.seq_eq (h : A.L.flatten.Nodup) (hl : l ∈ A.L) (hv : v ∈ l) : A.seq v = l := by
  have hf : v ∈ A.L.flatten := List.mem_flatten.2 ⟨l, hl, hv⟩
  exact one_list h (Se.seq_mem hf).1 hl (Se.seq_mem hf).2 hv
theorem length_le {l : List Nat} {n : Nat} (hn : l.Nodup) (hb : ∀ v ∈ l, v < n) : l.length ≤ n := by
  have := List.Nodup.length_le_of_subset hn (l₂ := List.range n) (fun v hv => List.mem_range.2 (hb v hv))
  simpa using this
theorem Inv.len (h : Inv S A) (hl : l ∈ A.L) : l.length ≤ A.n := length_le (nodup_flatten h.nd hl) (fun v hv => h.lt v (List.mem_flatten.2 ⟨l, hl, hv⟩))
/-- The tree of an item. -/
structure Tree (S : Ss) (A : Se) (v r : Nat) : Prop where
  pt : Pt S r (its A.W (A.seq v))
  up : (S r).up = 0
  mem : v + 1 ∈ ids (its A.W (A.seq v))
  nd : (ids (its A.W (A.seq v))).Nodup
  len : (its A.W (A.seq v)).length ≤ 4194304
  r0 : r ≠ 0
theorem Inv.tree (h : Inv S A) (hv : v ∈ A.L.flatten) : ∃ r, Tree S A v r := by
  obtain ⟨h1, h2⟩ := Se.seq_mem hv
  obtain ⟨r, p, u⟩ := h.tr _ h1
  refine ⟨r, p, u, mem_its.2 h2, nodup_its.2 (nodup_flatten h.nd h1), ?_, fun e => ?_⟩
  · rw [its_length]; have := h.len h1; have := h.n; omega
  · rw [e] at p
    have := p.of0
    rw [← List.length_eq_zero_iff, its_length, List.length_eq_zero_iff] at this
    rw [this] at h2; simp at h2
theorem Inv.there (h : Inv S A) (hv : v ∈ A.L.flatten) : (S (v + 1)).h ≠ 0 := by
  obtain ⟨r, t⟩ := h.tree hv
  obtain ⟨n, xs, hs⟩ := Sub.ex t.pt (v + 1) t.mem
  have := (hs.pt t.pt).h0 h.z
  omega
theorem Inv.gone (h : Inv S A) (hv : v ∉ A.L.flatten) : S (v + 1) = Sl.zero := h.out _ (fun u hu e => hv ((show u = v by omega) ▸ hu))
end
end Go.Proofs.Ytkfboficcdiojaa
