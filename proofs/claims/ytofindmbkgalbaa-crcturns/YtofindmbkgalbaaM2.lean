/- What is turned in up to four bytes. -/
import Derived.Test.YtofindmbkgalbaaD
namespace Go.Proofs.Ytofindmbkgalbaa

def byteAt (q i : Nat) : Nat := q / 2 ^ (8 * i) % 256
theorem byteAt_lt (q i : Nat) : byteAt q i < 256 := Nat.mod_lt _ (by decide)
def hit (q : Nat) : Nat → Bool
  | 0 => false
  | i + 1 => hit q i || byteAt q i != 0
theorem hit_iff (q : Nat) : ∀ m, hit q m = false ↔ ∀ j, j < m → byteAt q j = 0
  | 0 => by simp [hit]
  | m + 1 => by
    have ih := hit_iff q m
    simp only [hit, Bool.or_eq_false_iff, ih, bne_eq_false_iff_eq]
    constructor
    · intro ⟨h1, h2⟩ j hj
      by_cases e : j = m
      · rw [e, h2]
      · exact h1 j (by omega)
    · intro h
      exact ⟨fun j hj => h j (by omega), h m (by omega)⟩
def pad (q k m j : Nat) : Nat := if k ≤ j ∧ j < k + m then byteAt q (j - k) else 0
theorem turned_sum (q k m : Nat) (L O : List Nat) (hL : L.length = O.length) (hk : k + m ≤ O.length) (hm : m ≤ 4) (h : ∀ j, j < O.length → L.getD j 0 = O.getD j 0 ^^^ pad q k m j) :
    crcOf L = crcOf O ↔ hit q m = false := by
  have e : mixL L O = List.replicate k 0 ++ ((List.range m).map (byteAt q) ++ List.replicate (O.length - k - m) 0) := by
    refine List.ext_getElem (by rw [mixL_length _ _ hL]; simp; omega) (fun j h1 h2 => ?_)
    rw [mixL_length _ _ hL] at h1
    have a1 := mix_at L O j h1 (by omega)
    rw [h j (by omega)] at a1
    have a2 : O.getD j 0 ^^^ pad q k m j ^^^ O.getD j 0 = pad q k m j := by
      rw [Nat.xor_comm (O.getD j 0), Nat.xor_assoc, Nat.xor_self, Nat.xor_zero]
    rw [a2, List.getD_eq_getElem?_getD, List.getElem?_eq_getElem (by rw [mixL_length _ _ hL]; exact h1), Option.getD_some] at a1
    rw [a1]
    unfold pad
    by_cases c1 : j < k
    · rw [if_neg (by omega), List.getElem_append_left (by simpa using c1), List.getElem_replicate]
    · rw [List.getElem_append_right (by simp; omega)]
      by_cases c2 : j < k + m
      · rw [if_pos (by omega), List.getElem_append_left (by simp; omega), List.getElem_map, List.getElem_range]
        simp
      · rw [if_neg (by omega), List.getElem_append_right (by simp; omega), List.getElem_replicate]
  rw [crc_eq hL, e, diff_seen _ _ _ (fun b hb => (List.mem_replicate.1 hb).2) (fun b hb => (List.mem_replicate.1 hb).2) (by simpa using hm)
    (fun b hb => by obtain ⟨i, _, rfl⟩ := List.mem_map.1 hb; exact byteAt_lt q i), hit_iff]
  constructor
  · intro h j hj
    exact h _ (List.mem_map.2 ⟨j, List.mem_range.2 hj, rfl⟩)
  · intro h b hb
    obtain ⟨i, hi, rfl⟩ := List.mem_map.1 hb
    exact h i (List.mem_range.1 hi)
end Go.Proofs.Ytofindmbkgalbaa
