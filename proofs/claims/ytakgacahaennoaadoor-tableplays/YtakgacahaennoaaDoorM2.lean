/- Ids with their numbers, rising: what a table is, as a plain list. Nothing of the dump. -/
import Derived.Test.YtakgacahaennoaaDoorM
namespace Go.Arb

/-- Ids rise, and each may be one. -/
structure Ris (S : List Cell) : Prop where
  up : S.Pairwise (fun a b => a.1 < b.1)
  bd : ∀ c ∈ S, 0 ≤ c.1 ∧ c.1 ≤ 2147483647
  len : S.length ≤ 1048576

/-- Where an id stands, or would stand. -/
def plc : List Cell → Int → Nat
  | [], _ => 0
  | c :: S, id => if c.1 < id then plc S id + 1 else 0

theorem plc_le (S : List Cell) (id : Int) : plc S id ≤ S.length := by
  induction S with
  | nil => simp [plc]
  | cons c S ih => simp only [plc]; split <;> simp <;> omega
theorem plc_lt (S : List Cell) (id : Int) (j : Nat) (hj : j < S.length) (h : j < plc S id) : S[j].1 < id := by
  induction S generalizing j with
  | nil => simp at hj
  | cons c S ih =>
    simp only [plc] at h
    split at h
    · rename_i hc
      cases j with
      | zero => simpa using hc
      | succ j => simpa using ih j (by simpa using hj) (by omega)
    · omega
theorem plc_ge (S : List Cell) (id : Int) (h : plc S id < S.length) : ¬ S[plc S id].1 < id := by
  induction S with
  | nil => simp at h
  | cons c S ih =>
    simp only [plc] at h ⊢
    by_cases hc : c.1 < id
    · simp only [hc, if_true] at h ⊢
      simp only [List.getElem_cons_succ]
      exact ih (by simpa using h)
    · simp [hc]

def getS (S : List Cell) (id : Int) : Option Int := match S[plc S id]? with
  | some c => if c.1 = id then some c.2 else none
  | none => none

theorem getS_in {S : List Cell} {id : Int} (h : plc S id < S.length) (he : S[plc S id].1 = id) : getS S id = some S[plc S id].2 := by
  unfold getS; rw [List.getElem?_eq_getElem h]; simp [he]
theorem getS_ne {S : List Cell} {id : Int} (h : plc S id < S.length) (he : S[plc S id].1 ≠ id) : getS S id = none := by
  unfold getS; rw [List.getElem?_eq_getElem h]; simp [he]
theorem getS_over {S : List Cell} {id : Int} (h : plc S id = S.length) : getS S id = none := by
  unfold getS; rw [List.getElem?_eq_none (by omega)]
theorem getS_mem {S : List Cell} {id n : Int} (h : getS S id = some n) : plc S id < S.length ∧ S[plc S id]? = some (id, n) ∧ (id, n) ∈ S := by
  unfold getS at h
  cases he : S[plc S id]? with
  | none => rw [he] at h; cases h
  | some c =>
    rw [he] at h
    simp only at h
    split at h
    · rename_i hc
      obtain ⟨c1, c2⟩ := c
      simp at h hc
      subst h; subst hc
      exact ⟨(List.getElem?_eq_some_iff.1 he).1, rfl, List.mem_of_getElem? he⟩
    · cases h
theorem Ris.lt {S : List Cell} (h : Ris S) {i j : Nat} (hi : i < S.length) (hj : j < S.length) (hij : i < j) : S[i].1 < S[j].1 := List.pairwise_iff_getElem.1 h.up i j hi hj hij
theorem mem_getS {S : List Cell} (hr : Ris S) {id n : Int} (h : (id, n) ∈ S) : getS S id = some n := by
  obtain ⟨j, hj, he⟩ := List.mem_iff_getElem.1 h
  have h1 := plc_le S id
  have h2 := plc_ge S id
  have hp : plc S id = j := by
    rcases Nat.lt_trichotomy (plc S id) j with hl | hl | hl
    · have h3 := h2 (by omega)
      have h4 := hr.lt (by omega) hj hl
      rw [he] at h4; exact absurd h4 h3
    · exact hl
    · have := plc_lt S id j hj hl
      rw [he] at this; simp at this
  unfold getS
  rw [hp, List.getElem?_eq_getElem hj, he]
  simp
theorem getS_iff {S : List Cell} (hr : Ris S) {id n : Int} : getS S id = some n ↔ (id, n) ∈ S := ⟨fun h => (getS_mem h).2.2, mem_getS hr⟩
theorem getS_none {S : List Cell} (hr : Ris S) {id : Int} : getS S id = none ↔ ∀ n, (id, n) ∉ S := by
  constructor
  · intro h n hn; rw [mem_getS hr hn] at h; cases h
  · intro h
    cases he : getS S id with
    | none => rfl
    | some n => exact absurd (getS_mem he).2.2 (h n)
theorem getS_out {S : List Cell} (hr : Ris S) {id : Int} (h : id < 0 ∨ 2147483647 < id) : getS S id = none := (getS_none hr).2 fun n hn => by
  have := hr.bd _ hn; simp at this; omega

def putS (S : List Cell) (id n : Int) : List Cell := S.take (plc S id) ++ (id, n) :: S.drop (plc S id)
def dropS (S : List Cell) (id : Int) : List Cell := match getS S id with
  | some _ => S.take (plc S id) ++ S.drop (plc S id + 1)
  | none => S
/-- May the id come? -/
def putB (S : List Cell) (id : Int) : Bool := decide (0 ≤ id) && decide (id ≤ 2147483647) && decide (S.length < 1048576) && (getS S id).isNone
def putZ (S : List Cell) (id n : Int) : List Cell := if putB S id = true then putS S id n else S

theorem putS_perm (S : List Cell) (id n : Int) : ((id, n) :: S).Perm (putS S id n) := by
  unfold putS
  have := (List.perm_middle (a := (id, n)) (l₁ := S.take (plc S id)) (l₂ := S.drop (plc S id))).symm
  rw [List.take_append_drop] at this
  exact this
theorem putS_len (S : List Cell) (id n : Int) : (putS S id n).length = S.length + 1 := by rw [← (putS_perm S id n).length_eq]; simp
theorem dropS_perm {S : List Cell} {id n : Int} (h : getS S id = some n) : S.Perm ((id, n) :: dropS S id) := by
  obtain ⟨h1, h2, _⟩ := getS_mem h
  unfold dropS
  rw [h]
  have h3 : S = S.take (plc S id) ++ (id, n) :: S.drop (plc S id + 1) := by
    obtain ⟨_, h4⟩ := List.getElem?_eq_some_iff.1 h2
    conv => lhs; rw [← List.take_append_drop (plc S id) S, List.drop_eq_getElem_cons h1, h4]
  conv => lhs; rw [h3]
  exact List.perm_middle
theorem dropS_len {S : List Cell} {id n : Int} (h : getS S id = some n) : S.length = (dropS S id).length + 1 := by rw [(dropS_perm h).length_eq]; simp
theorem dropS_sub (S : List Cell) (id : Int) : (dropS S id).Sublist S := by
  unfold dropS
  split
  · rw [← List.eraseIdx_eq_take_drop_succ]; exact List.eraseIdx_sublist _ _
  · exact List.Sublist.refl _
theorem Ris.sub {S S' : List Cell} (h : Ris S) (hs : S'.Sublist S) : Ris S' := ⟨h.up.sublist hs, fun c hc => h.bd c (hs.subset hc), by have := hs.length_le; have := h.len; omega⟩
theorem Ris.drop {S : List Cell} (h : Ris S) (id : Int) : Ris (dropS S id) := h.sub (dropS_sub S id)
theorem ris_nil : Ris [] := ⟨List.Pairwise.nil, by simp, by simp⟩

theorem Ris.put {S : List Cell} (h : Ris S) {id : Int} (n : Int) (h0 : 0 ≤ id) (h1 : id ≤ 2147483647) (hl : S.length < 1048576) (hg : getS S id = none) : Ris (putS S id n) := by
  refine ⟨?_, fun c hc => ?_, by rw [putS_len]; omega⟩
  · unfold putS
    rw [List.pairwise_append, List.pairwise_cons]
    have hle := plc_le S id
    refine ⟨h.up.sublist (List.take_sublist _ _), ⟨fun b hb => ?_, h.up.sublist (List.drop_sublist _ _)⟩, fun a ha b hb => ?_⟩
    · obtain ⟨j, hj, rfl⟩ := List.mem_iff_getElem.1 hb
      rw [List.length_drop] at hj
      rw [List.getElem_drop]
      have h2 := plc_ge S id (by omega)
      have h3 : S[plc S id].1 ≠ id := fun e => by
        rw [getS_in (by omega) e] at hg; cases hg
      have h4 : S[plc S id].1 ≤ (S[plc S id + j]'(by omega)).1 := by
        cases j with
        | zero => exact Int.le_refl _
        | succ j => exact Int.le_of_lt (h.lt (by omega) (by omega) (by omega))
      show id < _
      omega
    · obtain ⟨j, hj, rfl⟩ := List.mem_iff_getElem.1 ha
      rw [List.length_take] at hj
      rw [List.getElem_take]
      have h2 := plc_lt S id j (by omega) (by omega)
      rcases List.mem_cons.1 hb with rfl | hb
      · exact h2
      · obtain ⟨i, hi, rfl⟩ := List.mem_iff_getElem.1 hb
        rw [List.length_drop] at hi
        rw [List.getElem_drop]
        exact h.lt (by omega) (by omega) (by omega)
  · rcases List.mem_cons.1 ((putS_perm S id n).mem_iff.2 hc) with rfl | hm
    · exact ⟨h0, h1⟩
    · exact h.bd c hm
theorem putB_iff {S : List Cell} {id : Int} : putB S id = true ↔ 0 ≤ id ∧ id ≤ 2147483647 ∧ S.length < 1048576 ∧ getS S id = none := by
  unfold putB; simp [and_assoc]
theorem Ris.putZ {S : List Cell} (h : Ris S) (id n : Int) : Ris (putZ S id n) := by
  unfold Arb.putZ
  split
  · rename_i hb
    obtain ⟨h0, h1, h2, h3⟩ := putB_iff.1 hb
    exact h.put n h0 h1 h2 h3
  · exact h

def idsS (S : List Cell) : List Int := S.map (·.1)
theorem idsS_up {S : List Cell} (h : Ris S) : (idsS S).Pairwise (· < ·) := by unfold idsS; rw [List.pairwise_map]; exact h.up

/-- Sorted, whatever stands in the cells is what is rising. -/
theorem sort_ids {S L : List Cell} (h : Ris S) (hp : L.Perm S) : ((idsS L).mergeSort fun x y => decide (x ≤ y)) = idsS S := by
  have h1 : ((idsS L).mergeSort fun x y => decide (x ≤ y)).Perm (idsS S) := (List.mergeSort_perm _ _).trans (hp.map _)
  have h2 : ((idsS L).mergeSort fun x y => decide (x ≤ y)).Pairwise (fun a b => decide (a ≤ b) = true) :=
    List.pairwise_mergeSort (fun a b c h1 h2 => by simp at *; omega) (fun a b => by simp; omega) _
  have h3 : (idsS S).Pairwise (fun a b => decide (a ≤ b) = true) := (idsS_up h).imp (fun h => by simp; omega)
  exact h1.eq_of_pairwise (fun a b _ _ h1 h2 => by simp at *; omega) h2 h3
end Go.Arb
