/- Handles of slots that are away, and of slots that came back. -/
import Derived.Test.YtnjnpcimnnmknaaM
namespace Go.Proofs.Ytnjnpcimnnmknaa

structure Once (A : Ab) (hs bs : List (Int × Int)) : Prop where
  on : ∀ h ∈ hs, ∃ i : Nat, h.1 = i ∧ A.sl[i]? = some (h.2, true)
  nd : (hs.map (·.1)).Nodup
  cnt : hs.length + A.fl.length = A.sl.length
  dead : ∀ h ∈ bs, ∃ i : Nat, h.1 = i ∧ ∃ g b, A.sl[i]? = some (g, b) ∧ (h.2 < g ∨ (h.2 = g ∧ b = false))

theorem once_new (n : Nat) : Once (newA n) [] [] := ⟨by simp, by simp, by simp [newA], by simp⟩

theorem Once.live {A : Ab} {hs bs : List (Int × Int)} (h : Once A hs bs) {x : Int × Int} (hx : x ∈ hs) : liveA A x.1 x.2 = true := by
  obtain ⟨i, h1, h2⟩ := h.on x hx
  rw [h1, liveA_nat]; exact h2
theorem Once.gone {A : Ab} {hs bs : List (Int × Int)} (h : Once A hs bs) {x : Int × Int} (hx : x ∈ bs) : liveA A x.1 x.2 = false := by
  obtain ⟨i, h1, g, b, h2, h3⟩ := h.dead x hx
  rw [h1]
  cases hl : liveA A i x.2 with
  | false => rfl
  | true =>
    rw [liveA_nat, h2] at hl
    simp at hl
    rcases h3 with h3 | h3
    · omega
    · rw [h3.2] at hl; simp at hl
theorem Once.range {A : Ab} {hs bs : List (Int × Int)} (h : Once A hs bs) (hi : Inv A) {x : Int × Int} (hx : x ∈ hs) : 0 ≤ x.1 ∧ x.1 < A.room := by
  obtain ⟨i, h1, h2⟩ := h.on x hx
  have := lt_of_get h2; have := hi.lenr
  omega
theorem Once.len {A : Ab} {hs bs : List (Int × Int)} (h : Once A hs bs) : lenA A = hs.length := by
  have := h.cnt; unfold lenA; omega
theorem takeR_ok {A : Ab} (hi : Inv A) {hs bs : List (Int × Int)} (h : Once A hs bs) : (takeR A).2.2 = decide (hs.length < A.room) := by
  have h1 := h.cnt; have h2 := hi.lenr
  unfold takeR
  cases hf : A.fl with
  | nil =>
    rw [hf] at h1
    simp at h1
    simp only
    split
    · simp; omega
    · simp; omega
  | cons i r =>
    rw [hf] at h1
    simp at h1
    simp; omega

/-- A slot that goes is none of those that are away. -/
theorem takeR_fresh {A : Ab} (hi : Inv A) {hs bs : List (Int × Int)} (h : Once A hs bs) (hok : (takeR A).2.2 = true) {x : Int × Int} (hx : x ∈ hs) : x.1 ≠ (takeR A).1 := by
  obtain ⟨j, h1, h2⟩ := h.on x hx
  rw [h1]
  unfold takeR at *
  cases hf : A.fl with
  | nil =>
    simp only [hf] at *
    split at hok
    · cases hok
    · rename_i hne; rw [if_neg hne]; have := lt_of_get h2; simp; omega
  | cons i r =>
    simp only
    obtain ⟨g, hg⟩ := hi.head hf
    intro e
    have e' : j = i := by omega
    subst e'
    rw [h2] at hg; simp at hg

theorem once_take {A : Ab} (hi : Inv A) {hs bs : List (Int × Int)} (h : Once A hs bs) (hok : (takeR A).2.2 = true) : Once (takeA A) (hs ++ [((takeR A).1, (takeR A).2.1)]) bs := by
  have hfr := fun {x} => takeR_fresh hi h hok (x := x)
  have hc := h.cnt
  cases hf : A.fl with
  | nil =>
    have hne : ¬ A.sl.length = A.room := by intro e; simp [takeR, hf, e] at hok
    have htr : takeR A = ((A.sl.length : Int), 1, true) := by simp [takeR, hf, hne]
    have hta : takeA A = { A with sl := A.sl ++ [(1, true)], t := A.t + 1 } := by simp [takeA, hf, hne]
    rw [htr] at hfr ⊢
    rw [hta]
    refine ⟨?_, ?_, ?_, ?_⟩
    · intro x hx
      rcases List.mem_append.1 hx with hx | hx
      · obtain ⟨j, h1, h2⟩ := h.on x hx
        exact ⟨j, h1, by rw [List.getElem?_append_left (lt_of_get h2)]; exact h2⟩
      · simp at hx; subst hx; exact ⟨A.sl.length, rfl, by simp⟩
    · rw [List.map_append, List.nodup_append]
      refine ⟨h.nd, by simp, ?_⟩
      intro a ha b hb
      simp at hb
      subst hb
      obtain ⟨x, hx, rfl⟩ := List.mem_map.1 ha
      exact hfr hx
    · simp; omega
    · intro x hx
      obtain ⟨j, h1, g, b, h2, h3⟩ := h.dead x hx
      exact ⟨j, h1, g, b, by rw [List.getElem?_append_left (lt_of_get h2)]; exact h2, h3⟩
  | cons i r =>
    obtain ⟨g, hg⟩ := hi.head hf
    have hlt := lt_of_get hg
    have htr : takeR A = ((i : Int), g + 1, true) := by simp [takeR, hf, genA_of hg]
    have hta : takeA A = { A with sl := A.sl.set i (g + 1, true), fl := r, t := A.t + 1 } := by simp [takeA, hf, genA_of hg]
    rw [htr] at hfr ⊢
    rw [hta]
    refine ⟨?_, ?_, ?_, ?_⟩
    · intro x hx
      rcases List.mem_append.1 hx with hx | hx
      · obtain ⟨j, h1, h2⟩ := h.on x hx
        have hne := hfr hx
        simp only at hne
        refine ⟨j, h1, ?_⟩
        rw [List.getElem?_set, if_neg (by omega)]; exact h2
      · simp at hx; subst hx; exact ⟨i, rfl, by simp [hlt]⟩
    · rw [List.map_append, List.nodup_append]
      refine ⟨h.nd, by simp, ?_⟩
      intro a ha b hb
      simp at hb
      subst hb
      obtain ⟨x, hx, rfl⟩ := List.mem_map.1 ha
      exact hfr hx
    · rw [hf] at hc; simp at *; omega
    · intro x hx
      obtain ⟨j, h1, g', b, h2, h3⟩ := h.dead x hx
      by_cases hij : i = j
      · subst hij
        rw [hg] at h2
        simp at h2
        refine ⟨i, h1, g + 1, true, by simp [hlt], .inl ?_⟩
        rcases h3 with h3 | h3 <;> omega
      · exact ⟨j, h1, g', b, by rw [List.getElem?_set, if_neg hij]; exact h2, h3⟩

theorem once_full {A : Ab} (hok : (takeR A).2.2 = false) : takeA A = A := by
  unfold takeR at hok
  unfold takeA
  cases hf : A.fl with
  | nil =>
    simp only [hf] at *
    split at hok
    · rename_i he; rw [if_pos he]
    · cases hok
  | cons i r => simp [hf] at hok

theorem once_give {A : Ab} {hs bs : List (Int × Int)} (h : Once A hs bs) {j : Nat} (hj : j < hs.length) {i : Nat} {g : Int} (he : hs[j] = ((i : Int), g)) (hi : A.sl[i]? = some (g, true)) : Once (giveA A i) (hs.eraseIdx j) (bs ++ [((i : Int), g)]) := by
  have hlt := lt_of_get hi
  have hc := h.cnt
  unfold giveA
  rw [genA_of hi]
  refine ⟨?_, ?_, ?_, ?_⟩
  · intro x hx
    obtain ⟨l, hl, hne, rfl⟩ := List.mem_eraseIdx_iff_getElem.1 hx
    obtain ⟨m, h1, h2⟩ := h.on hs[l] (List.getElem_mem hl)
    have hmi : i ≠ m := by
      rintro rfl
      have hnd := h.nd
      have : (hs.map (·.1))[l]'(by simpa using hl) = (hs.map (·.1))[j]'(by simpa using hj) := by simp [he, h1]
      exact hne ((List.getElem_inj hnd).1 this)
    exact ⟨m, h1, by simp only; rw [List.getElem?_set, if_neg hmi]; exact h2⟩
  · exact h.nd.sublist ((List.eraseIdx_sublist hs j).map _)
  · simp [List.length_eraseIdx, hj]; omega
  · intro x hx
    rcases List.mem_append.1 hx with hx | hx
    · obtain ⟨m, h1, g', b, h2, h3⟩ := h.dead x hx
      by_cases him : i = m
      · subst him
        rw [hi] at h2
        simp at h2
        refine ⟨i, h1, g, false, by simp [hlt], ?_⟩
        rcases h3 with h3 | h3
        · left; omega
        · rw [h2.2] at h3; simp at h3
      · exact ⟨m, h1, g', b, by simp only; rw [List.getElem?_set, if_neg him]; exact h2, h3⟩
    · simp at hx; subst hx
      exact ⟨i, rfl, g, false, by simp [hlt], .inr ⟨rfl, rfl⟩⟩

theorem giveA_off {A : Ab} {i : Nat} {g : Int} (hi : A.sl[i]? = some (g, true)) : (giveA A i).sl[i]? = some (g, false) := by
  have hlt := lt_of_get hi
  simp [giveA, genA_of hi, hlt]
end Go.Proofs.Ytnjnpcimnnmknaa
