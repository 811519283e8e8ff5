/- Ids at even steps, of which some went. Nothing of the dump. -/
import Derived.Test.YtakgacahaennoaaDoorM3
namespace Go.Arb

/-- Of m ids, each by d from the one ahead, those are there that didn't go. -/
structure Kn (S : List Cell) (m d : Nat) (out : List Bool) : Prop where
  ris : Ris S
  mem : ∀ c : Cell, c ∈ S ↔ ∃ i, i < m ∧ c = (((i * d : Nat) : Int), (i : Int)) ∧ out.getD i false = false
  len : S.length + out.countP (fun b => b) = m

theorem mul_inj {i j d : Nat} (hd : 0 < d) (h : i * d = j * d) : i = j := Nat.eq_of_mul_eq_mul_right hd h
theorem mul_bd {i k d B : Nat} (hi : i < k) (h : k * d ≤ B) : i * d ≤ B := Nat.le_trans (Nat.mul_le_mul_right d (by omega)) h

theorem kn_new (d : Nat) : Kn [] 0 d [] := ⟨ris_nil, fun c => by simp, by simp⟩
theorem Kn.get {S : List Cell} {m d : Nat} {out : List Bool} (h : Kn S m d out) (hd : 0 < d) {i : Nat} (hi : i < m) : getS S ((i * d : Nat) : Int) = if out.getD i false then none else some (i : Int) := by
  cases ho : out.getD i false with
  | false => exact mem_getS h.ris ((h.mem _).2 ⟨i, hi, rfl, ho⟩)
  | true =>
    refine (getS_none h.ris).2 fun n hn => ?_
    obtain ⟨j, hj, he, hf⟩ := (h.mem _).1 hn
    have e1 : i * d = j * d := by have := (Prod.mk.inj he).1; omega
    have := mul_inj hd e1
    subst this
    rw [ho] at hf; cases hf
theorem lt_mul {i m d : Nat} (hd : 0 < d) (hi : i < m) : i * d < m * d := Nat.mul_lt_mul_of_pos_right hi hd

theorem Kn.none {S : List Cell} {m d : Nat} {out : List Bool} (h : Kn S m d out) (hd : 0 < d) {id : Int} (hid : ((m * d : Nat) : Int) ≤ id) : getS S id = Option.none :=
  (getS_none h.ris).2 fun n hm => by
    obtain ⟨j, hj, he, _⟩ := (h.mem _).1 hm
    have h1 := (Prod.mk.inj he).1
    have h2 := lt_mul hd hj
    omega

/-- One more comes. -/
theorem Kn.put {S : List Cell} {m d : Nat} (h : Kn S m d []) (hd : 0 < d) (hb : m * d ≤ 2147483647) (hm : m < 1048576) : putB S ((m * d : Nat) : Int) = true ∧ Kn (putS S ((m * d : Nat) : Int) m) (m + 1) d [] := by
  have hl := h.len
  simp at hl
  have hg := h.none hd (Int.le_refl ((m * d : Nat) : Int))
  refine ⟨putB_true (by omega) (by omega) (by omega) hg, h.ris.put m (by omega) (by omega) (by omega) hg, fun c => ?_, by rw [putS_len]; simp [hl]⟩
  rw [mem_putS, h.mem]
  constructor
  · rintro (rfl | ⟨i, hi, rfl, _⟩)
    · exact ⟨m, by omega, rfl, rfl⟩
    · exact ⟨i, by omega, rfl, rfl⟩
  · rintro ⟨i, hi, rfl, _⟩
    by_cases e : i = m
    · subst e; exact .inl rfl
    · exact .inr ⟨i, by omega, rfl, rfl⟩

theorem getD_replicate (k i : Nat) : (List.replicate k false).getD i false = false := by
  rw [List.getD_eq_getElem?_getD, List.getElem?_replicate]; split <;> rfl
theorem Kn.made {S : List Cell} {m d : Nat} (h : Kn S m d []) : Kn S m d (List.replicate m false) :=
  ⟨h.ris, fun c => by
    rw [h.mem]
    constructor
    · rintro ⟨i, h1, h2, _⟩; exact ⟨i, h1, h2, getD_replicate _ _⟩
    · rintro ⟨i, h1, h2, _⟩; exact ⟨i, h1, h2, rfl⟩, by
    have := h.len
    simp at this
    rw [List.countP_replicate]; simpa using this⟩

theorem countP_set {l : List Bool} {j : Nat} (hj : j < l.length) : (if l[j] = true then 1 else 0) + (l.set j true).countP (fun b => b) = 1 + l.countP (fun b => b) := by
  have := (perm_set l j hj true).countP_eq (fun b => b)
  rw [List.countP_cons, List.countP_cons] at this
  simp at this
  omega
theorem getD_set {l : List Bool} {j : Nat} (hj : j < l.length) (i : Nat) : (l.set j true).getD i false = if i = j then true else l.getD i false := by
  rw [List.getD_eq_getElem?_getD, List.getD_eq_getElem?_getD, List.getElem?_set]
  by_cases e : i = j
  · subst e; simp [hj]
  · simp [e, Ne.symm e]

/-- One goes, if it is there. -/
theorem Kn.drop {S : List Cell} {m d : Nat} {out : List Bool} (h : Kn S m d out) (hd : 0 < d) {j : Nat} (hj : j < m) (hl : out.length = m) : Kn (dropS S ((j * d : Nat) : Int)) m d (out.set j true) := by
  have hjl : j < out.length := by omega
  have hget := h.get hd hj
  have hcnt := countP_set hjl
  have hlen := h.len
  have hgj : out.getD j false = out[j] := by simp [List.getD_eq_getElem?_getD, hjl]
  refine ⟨h.ris.drop _, fun c => ?_, ?_⟩
  · rw [mem_dropS h.ris, h.mem]
    constructor
    · rintro ⟨⟨i, h1, rfl, h3⟩, hne⟩
      refine ⟨i, h1, rfl, ?_⟩
      rw [getD_set hjl, if_neg (fun e => hne (by rw [e])), h3]
    · rintro ⟨i, h1, rfl, h3⟩
      rw [getD_set hjl] at h3
      split at h3
      · cases h3
      · rename_i hij
        refine ⟨⟨i, h1, rfl, h3⟩, fun e => hij (mul_inj hd ?_)⟩
        simp only at e
        omega
  · rw [hgj] at hget
    cases ho : out[j] with
    | true =>
      rw [ho] at hget hcnt
      rw [dropS_no hget]
      simp at hcnt
      omega
    | false =>
      rw [ho] at hget hcnt
      have := dropS_len hget
      simp at hcnt
      omega
theorem Kn.left {S : List Cell} {m d : Nat} {out : List Bool} (h : Kn S m d out) (hl : out.length = m) : out.countP (fun b => !b) = S.length := by
  have h1 := h.len
  have h2 := List.length_eq_countP_add_countP (fun b : Bool => b) (l := out)
  have h3 : out.countP (fun b => decide ¬ b = true) = out.countP (fun b => !b) := by
    congr 1; funext b; cases b <;> rfl
  rw [h3] at h2
  omega
theorem count_take {out : List Bool} {i : Nat} (hi : i < out.length) : (out.take (i + 1)).countP (fun b => !b) = (out.take i).countP (fun b => !b) + if out[i] = true then 0 else 1 := by
  rw [List.take_succ_eq_append_getElem hi, List.countP_append]
  cases out[i] <;> simp
end Go.Arb
