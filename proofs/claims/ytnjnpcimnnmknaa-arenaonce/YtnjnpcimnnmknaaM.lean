/- Slots that go and come back, as plain mathematics. -/
import Derived.WalkKit
namespace Go.Proofs.Ytnjnpcimnnmknaa

/-- What went so far: of each slot how often, and whether it is away; those that are back, the last one first; how many there are; a bound of the counts. -/
structure Ab where
  sl : List (Int × Bool)
  fl : List Nat
  room : Nat
  t : Nat

structure Inv (A : Ab) : Prop where
  lenr : A.sl.length ≤ A.room
  roomB : A.room ≤ 1048576
  nodup : A.fl.Nodup
  mem : ∀ i, i ∈ A.fl ↔ ∃ g, A.sl[i]? = some (g, false)
  gen : ∀ x ∈ A.sl, 1 ≤ x.1 ∧ x.1 ≤ A.t
  cnt : A.fl.length + A.sl.countP (·.2) = A.sl.length

def liveA (A : Ab) (s g : Int) : Bool := if 0 ≤ s then (match A.sl[s.toNat]? with | some x => x.2 && x.1 == g | none => false) else false
def genA (A : Ab) (i : Nat) : Int := (A.sl.getD i (0, false)).1
def takeA (A : Ab) : Ab := match A.fl with
  | i :: r => { A with sl := A.sl.set i (genA A i + 1, true), fl := r, t := A.t + 1 }
  | [] => if A.sl.length = A.room then A else { A with sl := A.sl ++ [(1, true)], t := A.t + 1 }
def takeR (A : Ab) : Int × Int × Bool := match A.fl with
  | i :: _ => (i, genA A i + 1, true)
  | [] => if A.sl.length = A.room then (0, 0, false) else (A.sl.length, 1, true)
def giveA (A : Ab) (i : Nat) : Ab := { A with sl := A.sl.set i (genA A i, false), fl := i :: A.fl }
def lenA (A : Ab) : Int := A.sl.length - A.fl.length
def newA (n : Nat) : Ab := ⟨[], [], n, 0⟩

theorem inv_new (n : Nat) (h : n ≤ 1048576) : Inv (newA n) := ⟨by simp [newA], h, by simp [newA], by simp [newA], by simp [newA], by simp [newA]⟩

theorem liveA_nat (A : Ab) (i : Nat) (g : Int) : liveA A i g = true ↔ A.sl[i]? = some (g, true) := by
  unfold liveA
  rw [if_pos (by omega), Int.toNat_natCast]
  cases h : A.sl[i]? with
  | none => simp
  | some x => obtain ⟨a, b⟩ := x; simp; exact ⟨fun h => ⟨h.2, h.1⟩, fun h => ⟨h.2, h.1⟩⟩
theorem liveA_true {A : Ab} {s g : Int} (h : liveA A s g = true) : ∃ i : Nat, s = i ∧ A.sl[i]? = some (g, true) := by
  by_cases h0 : 0 ≤ s
  · obtain ⟨i, rfl⟩ := Int.eq_ofNat_of_zero_le h0
    exact ⟨i, rfl, (liveA_nat A i g).1 h⟩
  · simp [liveA, h0] at h

theorem lt_of_get {α : Type} {l : List α} {i : Nat} {x : α} (h : l[i]? = some x) : i < l.length := (List.getElem?_eq_some_iff.1 h).1
theorem genA_of {A : Ab} {i : Nat} {g : Int} {b : Bool} (h : A.sl[i]? = some (g, b)) : genA A i = g := by simp [genA, List.getD_eq_getElem?_getD, h]

theorem Inv.head {A : Ab} (h : Inv A) {i : Nat} {r : List Nat} (hf : A.fl = i :: r) : ∃ g, A.sl[i]? = some (g, false) := (h.mem i).1 (by rw [hf]; simp)

theorem inv_take {A : Ab} (h : Inv A) : Inv (takeA A) := by
  unfold takeA
  cases hf : A.fl with
  | nil =>
    simp only
    split
    · exact h
    · refine ⟨?_, h.roomB, by simp, ?_, ?_, ?_⟩
      · have := h.lenr; simp; omega
      · intro i
        simp only [List.not_mem_nil, false_iff]
        rintro ⟨g, hg⟩
        rw [List.getElem?_append] at hg
        split at hg
        · have := (h.mem i).2 ⟨g, hg⟩; simp [hf] at this
        · rw [List.getElem?_singleton] at hg
          split at hg <;> simp at hg
      · intro x hx
        rcases List.mem_append.1 hx with hx | hx
        · have := h.gen x hx; exact ⟨this.1, by show x.1 ≤ ((A.t + 1 : Nat) : Int); omega⟩
        · simp at hx; subst hx; exact ⟨by simp, by show (1 : Int) ≤ ((A.t + 1 : Nat) : Int); omega⟩
      · have := h.cnt; simp [hf] at *; omega
  | cons i r =>
    simp only
    obtain ⟨g, hg⟩ := h.head hf
    have hlt := lt_of_get hg
    have hgi := (List.getElem?_eq_some_iff.1 hg).2
    have hnd := h.nodup
    rw [hf, List.nodup_cons] at hnd
    rw [genA_of hg]
    refine ⟨by simpa using h.lenr, h.roomB, hnd.2, ?_, ?_, ?_⟩
    · intro j
      simp only
      rw [List.getElem?_set]
      by_cases hij : i = j
      · subst hij
        simp [hlt, hnd.1]
      · rw [if_neg hij, ← h.mem j, hf]
        simp [Ne.symm hij]
    · intro x hx
      rcases List.mem_or_eq_of_mem_set hx with hx | rfl
      · have := h.gen x hx; exact ⟨this.1, by show x.1 ≤ ((A.t + 1 : Nat) : Int); omega⟩
      · have := h.gen _ (List.mem_of_getElem? hg); exact ⟨by simp; omega, by show g + 1 ≤ ((A.t + 1 : Nat) : Int); simp at this; omega⟩
    · have := h.cnt
      rw [List.countP_set hlt, hgi]
      rw [hf] at this
      simp at *; omega

theorem inv_give {A : Ab} (h : Inv A) {i : Nat} {g : Int} (hg : A.sl[i]? = some (g, true)) : Inv (giveA A i) := by
  have hlt := lt_of_get hg
  have hgi := (List.getElem?_eq_some_iff.1 hg).2
  unfold giveA
  rw [genA_of hg]
  refine ⟨by simpa using h.lenr, h.roomB, ?_, ?_, ?_, ?_⟩
  · rw [List.nodup_cons]
    refine ⟨fun hm => ?_, h.nodup⟩
    obtain ⟨g', hg'⟩ := (h.mem i).1 hm
    rw [hg] at hg'; simp at hg'
  · intro j
    simp only
    rw [List.getElem?_set]
    by_cases hij : i = j
    · subst hij; simp [hlt]
    · rw [if_neg hij, ← h.mem j]; simp [Ne.symm hij]
  · intro x hx
    rcases List.mem_or_eq_of_mem_set hx with hx | rfl
    · exact h.gen x hx
    · exact h.gen (g, true) (List.mem_of_getElem? hg)
  · have := h.cnt
    have hpos : 0 < A.sl.countP (·.2) := List.countP_pos_iff.2 ⟨_, List.mem_of_getElem? hg, rfl⟩
    have e : (A.sl.set i (g, false)).countP (·.2) = A.sl.countP (·.2) - 1 := by rw [List.countP_set hlt, hgi]; simp
    rw [e]
    simp only [List.length_cons, List.length_set]
    omega

theorem Inv.lenA_bd {A : Ab} (h : Inv A) : 0 ≤ lenA A ∧ lenA A ≤ A.room := by
  have := h.cnt; have := h.lenr
  unfold lenA; omega
theorem Inv.full {A : Ab} (h : Inv A) : lenA A = A.room ↔ A.fl = [] ∧ A.sl.length = A.room := by
  have := h.cnt; have := h.lenr
  unfold lenA
  constructor
  · intro h1
    have h2 : A.fl.length = 0 := by omega
    exact ⟨List.eq_nil_of_length_eq_zero h2, by omega⟩
  · rintro ⟨h1, h2⟩; simp [h1]; omega

/-- The free slots lead from one to the next. -/
def chain (l : List Int) : Int → List Nat → Prop
  | f, [] => f = -1
  | f, i :: r => f = i ∧ i < l.length ∧ chain l (l.getD i 0) r

theorem chain_set {l : List Int} {i : Nat} {x : Int} : ∀ {f : Int} {r : List Nat}, i ∉ r → chain l f r → chain (l.set i x) f r
  | _, [], _, h => h
  | _, j :: r, hn, ⟨h1, h2, h3⟩ => by
    simp only [List.mem_cons, not_or] at hn
    refine ⟨h1, by simpa using h2, ?_⟩
    have e : (l.set i x).getD j 0 = l.getD j 0 := by simp [List.getD_eq_getElem?_getD, hn.1]
    rw [e]
    exact chain_set hn.2 h3
theorem chain_append {l m : List Int} : ∀ {f : Int} {r : List Nat}, chain l f r → chain (l ++ m) f r
  | _, [], h => h
  | _, j :: r, ⟨h1, h2, h3⟩ => by
    refine ⟨h1, by simp; omega, ?_⟩
    have e : (l ++ m).getD j 0 = l.getD j 0 := by simp [List.getD_eq_getElem?_getD, List.getElem?_append, h2]
    rw [e]
    exact chain_append h3
end Go.Proofs.Ytnjnpcimnnmknaa
