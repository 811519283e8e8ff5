/- More of ids with their numbers, rising. Nothing of the dump. -/
import Derived.Test.YtakgacahaennoaaDoorM2
namespace Go.Arb

theorem putB_true {S : List Cell} {id : Int} (h0 : 0 ≤ id) (h1 : id ≤ 2147483647) (hl : S.length < 1048576) (hg : getS S id = none) : putB S id = true := putB_iff.2 ⟨h0, h1, hl, hg⟩
theorem putB_there {S : List Cell} {id n : Int} (hg : getS S id = some n) : putB S id = false := by unfold putB; rw [hg]; simp
theorem putZ_yes {S : List Cell} {id : Int} (n : Int) (h : putB S id = true) : putZ S id n = putS S id n := by unfold putZ; rw [if_pos h]
theorem putZ_no {S : List Cell} {id : Int} (n : Int) (h : putB S id = false) : putZ S id n = S := by unfold putZ; rw [h]; rfl
theorem mem_putS {S : List Cell} {id n : Int} {c : Cell} : c ∈ putS S id n ↔ c = (id, n) ∨ c ∈ S := by rw [← (putS_perm S id n).mem_iff, List.mem_cons]
theorem mem_putZ {S : List Cell} (id n : Int) {c : Cell} (h : c ∈ S) : c ∈ putZ S id n := by
  unfold putZ; split
  · exact mem_putS.2 (.inr h)
  · exact h
theorem dropS_of {S : List Cell} {id n : Int} (h : getS S id = some n) : dropS S id = S.take (plc S id) ++ S.drop (plc S id + 1) := by unfold dropS; rw [h]
theorem dropS_no {S : List Cell} {id : Int} (h : getS S id = none) : dropS S id = S := by unfold dropS; rw [h]
theorem getS_drop_self {S : List Cell} (hr : Ris S) (id : Int) : getS (dropS S id) id = none := by
  cases hg : getS S id with
  | none => rw [dropS_no hg]; exact hg
  | some n =>
    rw [getS_none (hr.drop id), dropS_of hg]
    intro m hm
    obtain ⟨hk, hk', _⟩ := getS_mem hg
    obtain ⟨_, hke⟩ := List.getElem?_eq_some_iff.1 hk'
    rcases List.mem_append.1 hm with h | h
    · obtain ⟨j, hj, he⟩ := List.mem_iff_getElem.1 h
      rw [List.length_take] at hj
      rw [List.getElem_take] at he
      have := plc_lt S id j (by omega) (by omega)
      rw [he] at this
      simp at this
    · obtain ⟨j, hj, he⟩ := List.mem_iff_getElem.1 h
      rw [List.length_drop] at hj
      rw [List.getElem_drop] at he
      have := hr.lt hk (by omega : plc S id + 1 + j < S.length) (by omega)
      rw [he, hke] at this
      simp at this
theorem mem_dropS {S : List Cell} (hr : Ris S) {id : Int} {c : Cell} : c ∈ dropS S id ↔ c ∈ S ∧ c.1 ≠ id := by
  constructor
  · intro h
    refine ⟨(dropS_sub S id).subset h, fun e => ?_⟩
    have := (getS_none (hr.drop id)).1 (getS_drop_self hr id) c.2
    subst e
    exact this h
  · rintro ⟨h, hne⟩
    cases hg : getS S id with
    | none => rw [dropS_no hg]; exact h
    | some n =>
      rcases List.mem_cons.1 ((dropS_perm hg).mem_iff.1 h) with h1 | h1
      · exact absurd (by rw [h1]) hne
      · exact h1
theorem idsS_len (S : List Cell) : (idsS S).length = S.length := by simp [idsS]
theorem idsS_lt {S : List Cell} (hr : Ris S) (t : Nat) (h : t + 1 < (idsS S).length) : (idsS S)[t] < (idsS S)[t + 1] := by
  rw [idsS_len] at h
  simp only [idsS, List.getElem_map]
  exact hr.lt (by omega) h (by omega)
end Go.Arb
