/- Sequences of items, as plain lists: what a pool holds. -/
import Derived.Test.YtbkneonbpcmepaaW3
namespace Go.Proofs.Ytbkneonbpcmepaa
open Go.RowKit Go.Arb
set_option linter.unusedVariables false
set_option linter.unusedSimpArgs false

structure Se where
  n : Nat
  L : List (List Nat)
  W : Nat → Int

namespace Se
def hasI (A : Se) (x : Int) : Bool := decide (0 ≤ x) && decide (x.toNat ∈ A.L.flatten)
def seq (A : Se) (v : Nat) : List Nat := (A.L.find? (fun l => decide (v ∈ l))).getD []
def seqI (A : Se) (x : Int) : List Nat := if A.hasI x then A.seq x.toNat else []
def lenI (A : Se) (x : Int) : Int := ((A.seqI x).length : Int)
def rankI (A : Se) (x : Int) : Int := if A.hasI x then ((A.seq x.toNat).idxOf x.toNat : Int) else -1
def atI (A : Se) (x k : Int) : Int := if 0 ≤ k ∧ k < A.lenI x then ((A.seqI x).getD k.toNat 0 : Int) else -1
def sameI (A : Se) (a b : Int) : Bool := A.hasI a && A.hasI b && decide (b.toNat ∈ A.seqI a)
def getI (A : Se) (x : Int) : Int := if A.hasI x then A.W x.toNat else 0
def allI (A : Se) (x : Int) : Sm := ofR ((A.seqI x).map A.W)
def okR (A : Se) (a b : Int) : Bool := A.sameI a b && decide (A.rankI a ≤ A.rankI b)
def part (A : Se) (a b : Int) : List Nat := ((A.seqI a).take ((A.rankI b).toNat + 1)).drop (A.rankI a).toNat
def rangeI (A : Se) (a b : Int) : Sm := if A.okR a b then ofR ((A.part a b).map A.W) else zero
end Se

section
variable {A : Se} {v : Nat} {l : List Nat} {x : Int}
theorem Se.hasI_nat (A : Se) (v : Nat) : A.hasI (v : Int) = decide (v ∈ A.L.flatten) := by simp [Se.hasI]
theorem Se.hasI_true (h : A.hasI x = true) : ∃ v : Nat, x = v ∧ v ∈ A.L.flatten := by
  simp only [Se.hasI, Bool.and_eq_true, decide_eq_true_eq] at h
  exact ⟨x.toNat, by omega, h.2⟩
theorem seq_find {L : List (List Nat)} (hv : v ∈ L.flatten) : ∃ l, L.find? (fun l => decide (v ∈ l)) = some l ∧ l ∈ L ∧ v ∈ l := by
  obtain ⟨l, hl, hv⟩ := List.mem_flatten.1 hv
  cases h : L.find? (fun l => decide (v ∈ l)) with
  | none => rw [List.find?_eq_none] at h; exact absurd (by simpa using hv) (h l hl)
  | some m => exact ⟨m, rfl, List.mem_of_find?_eq_some h, by simpa using List.find?_some h⟩
theorem Se.seq_mem (hv : v ∈ A.L.flatten) : A.seq v ∈ A.L ∧ v ∈ A.seq v := by
  obtain ⟨l, h1, h2, h3⟩ := seq_find hv
  rw [Se.seq, h1]
  exact ⟨h2, h3⟩
theorem Se.seqI_nat (hv : v ∈ A.L.flatten) : A.seqI (v : Int) = A.seq v := by simp [Se.seqI, A.hasI_nat, hv]
theorem nodup_flatten {L : List (List Nat)} (h : L.flatten.Nodup) (hl : l ∈ L) : l.Nodup := by
  rw [List.Nodup, List.pairwise_flatten] at h
  exact h.1 l hl
/-- A list of the sequences that has an item is the item's. -/
theorem one_list {L : List (List Nat)} (h : L.flatten.Nodup) {l m : List Nat} (hl : l ∈ L) (hm : m ∈ L) (h1 : v ∈ l) (h2 : v ∈ m) : l = m := by
  rw [List.Nodup, List.pairwise_flatten] at h
  exact Classical.byContradiction fun hn => by
    obtain ⟨i, hi, rfl⟩ := List.mem_iff_getElem.1 hl
    obtain ⟨j, hj, rfl⟩ := List.mem_iff_getElem.1 hm
    have hne : i ≠ j := fun e => hn (by subst e; rfl)
    rcases Nat.lt_or_gt_of_ne hne with k | k
    · exact List.pairwise_iff_getElem.1 h.2 i j hi hj k v h1 v h2 rfl
    · exact List.pairwise_iff_getElem.1 h.2 j i hj hi k v h2 v h1 rfl
theorem Se.seq_eq (h : A.L.flatten.Nodup) (hl : l ∈ A.L) (hv : v ∈ l) : A.seq v = l := by
  have hf : v ∈ A.L.flatten := List.mem_flatten.2 ⟨l, hl, hv⟩
  exact one_list h (Se.seq_mem hf).1 hl (Se.seq_mem hf).2 hv
theorem length_le {l : List Nat} {n : Nat} (hn : l.Nodup) (hb : ∀ v ∈ l, v < n) : l.length ≤ n := by
  have := List.Nodup.length_le_of_subset hn (l₂ := List.range n) (fun v hv => List.mem_range.2 (hb v hv))
  simpa using this
theorem Se.allI_no {x : Int} (h : A.hasI x = false) : A.allI x = zero := by simp [Se.allI, Se.seqI, h, ofR]

theorem Se.lenI_c (A : Se) (x : Int) : (A.allI x).c = A.lenI x := by rw [Se.allI, ofR_c, Se.lenI]; simp
theorem Se.part_slc (A : Se) (a b : Int) (ha : 0 ≤ A.rankI a) (hb : 0 ≤ A.rankI b) : A.part a b = slc (A.rankI a) (A.rankI b + 1) (A.seqI a) := by
  unfold Se.part slc
  rw [show (A.rankI b + 1).toNat = (A.rankI b).toNat + 1 by omega]
theorem Se.sameI_yes {a b : Int} (h : A.sameI a b = true) : ∃ u v : Nat, a = u ∧ b = v ∧ u ∈ A.L.flatten ∧ v ∈ A.L.flatten ∧ v ∈ A.seq u := by
  simp only [Se.sameI, Bool.and_eq_true, decide_eq_true_eq] at h
  obtain ⟨⟨h1, h2⟩, h3⟩ := h
  obtain ⟨u, rfl, hu⟩ := Se.hasI_true h1
  obtain ⟨v, rfl, hv⟩ := Se.hasI_true h2
  rw [Se.seqI_nat hu] at h3
  exact ⟨u, v, rfl, rfl, hu, hv, by simpa using h3⟩

/-- The weights of some items raised. -/
def upW (W : Nat → Int) (l : List Nat) (d : Int) : Nat → Int := fun v => if v ∈ l then W v + d else W v
def Se.liftB (A : Se) (a b d : Int) : Bool := A.okR a b && (addB (A.rangeI a b).a d && addB (A.rangeI a b).b d)
def Se.liftA (A : Se) (a b d : Int) : Se := if A.liftB a b d then { A with W := upW A.W (A.part a b) d } else A

theorem addB_true {x d : Int} (h : addB x d = true) : (-1099511627776 ≤ x ∧ x ≤ 1099511627776) ∧ (-2199023255552 ≤ d ∧ d ≤ 2199023255552) ∧ (-1099511627776 ≤ x + d ∧ x + d ≤ 1099511627776) := by
  simp only [addB, fitB, inB, Bool.and_eq_true, decide_eq_true_eq] at h
  exact ⟨h.1.1, h.1.2, h.2⟩
def Se.addOk (A : Se) (x y : Int) : Bool := ((decide (0 ≤ x) && decide (x < (A.n : Int))) && !A.hasI x) && fitB y
def Se.addA (A : Se) (x y : Int) : Se := if A.addOk x y then { A with L := A.L ++ [[x.toNat]], W := fun v => if v = x.toNat then y else A.W v } else A
def Se.dropB (A : Se) (x : Int) : Bool := A.lenI x == 1
def Se.dropA (A : Se) (x : Int) : Se := if A.dropB x then { A with L := A.L.erase [x.toNat] } else A
def Se.new (n : Nat) : Se := ⟨n, [], fun _ => 0⟩

theorem Se.dropB_true {x : Int} (h : A.dropB x = true) : ∃ v : Nat, x = v ∧ v ∈ A.L.flatten ∧ A.seq v = [v] := by
  have hl : A.lenI x = 1 := by simpa [Se.dropB] using h
  cases hh : A.hasI x
  · rw [Se.lenI, Se.seqI, hh] at hl; simp at hl
  obtain ⟨v, rfl, hv⟩ := Se.hasI_true hh
  rw [Se.lenI, Se.seqI_nat hv] at hl
  have hm := (Se.seq_mem hv).2
  refine ⟨v, rfl, hv, ?_⟩
  obtain ⟨u, hu⟩ := List.length_eq_one_iff.1 (show (A.seq v).length = 1 by omega)
  rw [hu] at hm ⊢
  simp at hm
  rw [hm]
theorem mem_erase_ne {L : List (List Nat)} (hn : L.flatten.Nodup) (hne : ∀ l ∈ L, l ≠ []) {m l : List Nat} (hm : m ∈ L) : l ∈ L.erase m ↔ l ∈ L ∧ l ≠ m := by
  have hnd : L.Nodup := by
    rw [List.Nodup, List.pairwise_flatten] at hn
    refine List.Pairwise.imp_of_mem ?_ hn.2
    intro a b ha hb hab e
    obtain ⟨x, hx⟩ := List.exists_mem_of_ne_nil _ (hne a ha)
    exact hab x hx x (e ▸ hx) rfl
  rw [hnd.mem_erase_iff]
  exact And.comm
theorem flatten_erase {L : List (List Nat)} {m : List Nat} (hm : m ∈ L) : L.flatten.Perm (m ++ (L.erase m).flatten) := by
  have := (List.perm_cons_erase hm).flatten
  simpa using this
def Se.beforeB (A : Se) (x : Int) : Bool := decide (0 < A.rankI x)
def Se.beforeA (A : Se) (x : Int) : Se := if A.beforeB x then { A with L := A.L.erase (A.seqI x) ++ [(A.seqI x).take (A.rankI x).toNat, (A.seqI x).drop (A.rankI x).toNat] } else A
def Se.joinB (A : Se) (a b : Int) : Bool := (A.hasI a && A.hasI b) && !A.sameI a b
def Se.joinA (A : Se) (a b : Int) : Se := if A.joinB a b then { A with L := (A.L.erase (A.seqI a)).erase (A.seqI b) ++ [A.seqI a ++ A.seqI b] } else A

def Se.setB (A : Se) (x y : Int) : Bool := A.hasI x && fitB y
def Se.setA (A : Se) (x y : Int) : Se := if A.setB x y then { A with W := fun v => if v = x.toNat then y else A.W v } else A

end
end Go.Proofs.Ytbkneonbpcmepaa
