/- Bytes as numbers; four bytes of a number, and the number of four bytes; a node's record. Nothing of the dump. -/
import Derived.Laws.BitsAllLaws
import Derived.Laws.Concat
import Derived.Laws.Strings2
import Derived.RowKit3
namespace Go.Proofs.Ytgdiglkbeijomaa
open Go

/-- The bytes of a string, as numbers. -/
def bs (s : ByteArray) : List Nat := s.data.toList.map (fun b => b.toNat)
/-- The string of some numbers. -/
def st (l : List Nat) : ByteArray := ⟨(l.map UInt8.ofNat).toArray⟩
theorem bs_lt (s : ByteArray) : ∀ b ∈ bs s, b < 256 := fun b h => by
  obtain ⟨x, _, rfl⟩ := List.mem_map.1 h
  exact x.toNat_lt
theorem bs_length (s : ByteArray) : (bs s).length = s.size := by unfold bs; rw [List.length_map]; rfl
theorem bs_at (s : ByteArray) (k : Nat) (h : k < s.size) : (s[k]'h).toNat = (bs s).getD k 0 := by
  obtain ⟨⟨l⟩⟩ := s
  have hl : k < l.length := h
  show l[k].toNat = (l.map (fun b => b.toNat)).getD k 0
  rw [List.getD_eq_getElem?_getD, List.getElem?_map, List.getElem?_eq_getElem hl]
  rfl
theorem bs_append (x y : ByteArray) : bs (x ++ y) = bs x ++ bs y := by
  obtain ⟨⟨x⟩⟩ := x
  obtain ⟨⟨y⟩⟩ := y
  rw [ByteArray.mk_append_mk]
  show (x ++ y).map _ = x.map _ ++ y.map _
  rw [List.map_append]
theorem bs_extract (s : ByteArray) (a b : Nat) : bs (s.extract a b) = ((bs s).take b).drop a := by
  obtain ⟨⟨l⟩⟩ := s
  rw [ByteArray.extract_mk]
  simp [bs, List.drop_take, List.map_take, List.map_drop]
theorem st_append (x y : List Nat) : st x ++ st y = st (x ++ y) := by
  unfold st
  rw [ByteArray.mk_append_mk, List.map_append]
theorem st_size (l : List Nat) : (st l).size = l.length := by simp [st, ByteArray.size]
theorem map_toNat_ofNat (l : List Nat) (h : ∀ b ∈ l, b < 256) : (l.map UInt8.ofNat).map (fun b => b.toNat) = l := by
  rw [List.map_map]
  conv => rhs; rw [← List.map_id l]
  exact List.map_congr_left fun b hb => by
    have := h b hb
    simp
    omega
theorem bs_st (l : List Nat) (h : ∀ b ∈ l, b < 256) : bs (st l) = l := map_toNat_ofNat l h
theorem bs_inj {x y : ByteArray} (h : bs x = bs y) : x = y := by
  obtain ⟨⟨x⟩⟩ := x
  obtain ⟨⟨y⟩⟩ := y
  have : x = y := (List.map_inj_right (fun a b e => UInt8.toNat_inj.1 e)).1 h
  rw [this]
theorem st_bs (s : ByteArray) : st (bs s) = s := bs_inj (bs_st _ (bs_lt s))

/-- Four bytes of a number, the highest first. -/
def four (n : Nat) : List Nat := [n / 16777216 % 256, n / 65536 % 256, n / 256 % 256, n % 256]
theorem four_lt (n : Nat) : ∀ b ∈ four n, b < 256 := by
  intro b h
  simp [four] at h
  omega
theorem four_length (n : Nat) : (four n).length = 4 := rfl
/-- The number of the first four. -/
def rd (l : List Nat) : Nat := if l.length < 4 then 0 else l.getD 0 0 * 16777216 + l.getD 1 0 * 65536 + l.getD 2 0 * 256 + l.getD 3 0
theorem getD_lt {l : List Nat} (h : ∀ b ∈ l, b < 256) (k : Nat) : l.getD k 0 < 256 := by
  rw [List.getD_eq_getElem?_getD]
  by_cases hk : k < l.length
  · rw [List.getElem?_eq_getElem hk]
    exact h _ (List.getElem_mem _)
  · rw [List.getElem?_eq_none (by omega)]
    decide
theorem rd_lt {l : List Nat} (h : ∀ b ∈ l, b < 256) : rd l < 4294967296 := by
  unfold rd
  split
  · decide
  · have := getD_lt h 0
    have := getD_lt h 1
    have := getD_lt h 2
    have := getD_lt h 3
    omega
theorem rd_four {n : Nat} (h : n < 4294967296) (r : List Nat) : rd (four n ++ r) = n := by
  unfold rd
  rw [if_neg (by rw [List.length_append, four_length]; omega)]
  simp [four]
  omega
theorem four_inj {a b : Nat} (ha : a < 4294967296) (hb : b < 4294967296) (h : four a = four b) : a = b := by
  have := rd_four ha []
  rw [h, rd_four hb] at this
  exact this.symm
/-- What was read from four bytes has them. -/
theorem four_rd : ∀ {l : List Nat}, (∀ b ∈ l, b < 256) → 4 ≤ l.length → four (rd l) = l.take 4
  | [], _, h => by simp at h
  | [_], _, h => by simp at h
  | [_, _], _, h => by simp at h
  | [_, _, _], _, h => by simp at h
  | a :: b :: c :: d :: l, h, _ => by
    have h1 := h a (by simp)
    have h2 := h b (by simp)
    have h3 := h c (by simp)
    have h4 := h d (by simp)
    unfold rd
    rw [if_neg (by simp)]
    simp [four]
    omega

/-- The number mod 2^32 of any number. -/
def lo (x : Int) : Nat := (x % 4294967296).toNat
theorem lo_lt (x : Int) : lo x < 4294967296 := by unfold lo; omega
/-- A number of 32 bits in two's complement. -/
def sg (n : Nat) : Int := if n < 2147483648 then (n : Int) else (n : Int) - 4294967296
/-- The number of 64 bits of two numbers of 32. -/
def s64 (a b : Nat) : Int := if a < 2147483648 then (a : Int) * 4294967296 + b else (a : Int) * 4294967296 + b - 18446744073709551616

/-- Has a node a record? -/
def okN (i u w : Int) : Bool := decide (0 ≤ i) && decide (i ≤ 2147483647) && decide (-1 ≤ u) && decide (u ≤ 2147483647) && !decide (u = i) && decide (-1099511627776 ≤ w) && decide (w ≤ 1099511627776)
theorem okN_iff {i u w : Int} : okN i u w = true ↔ 0 ≤ i ∧ i ≤ 2147483647 ∧ -1 ≤ u ∧ u ≤ 2147483647 ∧ u ≠ i ∧ -1099511627776 ≤ w ∧ w ≤ 1099511627776 := by
  unfold okN
  simp [and_assoc]
/-- A node's record. -/
def recL (i u w : Int) : List Nat := four (lo i) ++ four (lo u) ++ four (lo (w / 4294967296)) ++ four (lo w)
def recS (i u w : Int) : ByteArray := if okN i u w then st (recL i u w) else ⟨#[]⟩
theorem recL_lt (i u w : Int) : ∀ b ∈ recL i u w, b < 256 := by
  intro b h
  simp only [recL, List.mem_append] at h
  rcases h with ((h | h) | h) | h <;> exact four_lt _ b h
theorem recL_length (i u w : Int) : (recL i u w).length = 16 := rfl
/-- The numbers of a record's bytes. -/
def pI (l : List Nat) : Int := sg (rd l)
def pU (l : List Nat) : Int := sg (rd (l.drop 4))
def pW (l : List Nat) : Int := s64 (rd (l.drop 8)) (rd (l.drop 12))
def isR (l : List Nat) : Bool := l.length == 16 && okN (pI l) (pU l) (pW l)
theorem sg_lo {x : Int} (h1 : -2147483648 ≤ x) (h2 : x < 2147483648) : sg (lo x) = x := by
  unfold sg lo
  split <;> omega
theorem lo_sg {n : Nat} (h : n < 4294967296) : lo (sg n) = n := by
  unfold sg lo
  split <;> omega
theorem s64_lo {w : Int} (h1 : -9223372036854775808 ≤ w) (h2 : w < 9223372036854775808) : s64 (lo (w / 4294967296)) (lo w) = w := by
  unfold s64 lo
  split <;> omega
theorem hi_s64 {a b : Nat} (ha : a < 4294967296) (hb : b < 4294967296) : lo (s64 a b / 4294967296) = a := by
  unfold s64 lo
  split <;> omega
theorem lo_s64 {a b : Nat} (hb : b < 4294967296) : lo (s64 a b) = b := by
  unfold s64 lo
  split <;> omega
theorem parse_rec {i u w : Int} (h : okN i u w = true) : isR (recL i u w) = true ∧ pI (recL i u w) = i ∧ pU (recL i u w) = u ∧ pW (recL i u w) = w := by
  obtain ⟨h1, h2, h3, h4, h5, h6, h7⟩ := okN_iff.1 h
  have e1 : pI (recL i u w) = i := by
    unfold pI recL
    rw [List.append_assoc, List.append_assoc, rd_four (lo_lt _), sg_lo (by omega) (by omega)]
  have e2 : pU (recL i u w) = u := by
    unfold pU
    rw [show (recL i u w).drop 4 = four (lo u) ++ (four (lo (w / 4294967296)) ++ four (lo w)) from rfl, rd_four (lo_lt _), sg_lo (by omega) (by omega)]
  have e3 : pW (recL i u w) = w := by
    unfold pW
    rw [show (recL i u w).drop 8 = four (lo (w / 4294967296)) ++ four (lo w) from rfl, show (recL i u w).drop 12 = four (lo w) ++ [] from rfl, rd_four (lo_lt _), rd_four (lo_lt _), s64_lo (by omega) (by omega)]
  refine ⟨?_, e1, e2, e3⟩
  unfold isR
  rw [e1, e2, e3, h]
  rfl
theorem rec_parse {l : List Nat} (hb : ∀ b ∈ l, b < 256) (h : isR l = true) : recL (pI l) (pU l) (pW l) = l := by
  unfold isR at h
  rw [Bool.and_eq_true, beq_iff_eq] at h
  obtain ⟨hl, _⟩ := h
  have hd : ∀ k, ∀ b ∈ l.drop k, b < 256 := fun k b hm => hb b (List.mem_of_mem_drop hm)
  unfold recL pI pU pW
  rw [lo_sg (rd_lt hb), lo_sg (rd_lt (hd 4)), hi_s64 (rd_lt (hd 8)) (rd_lt (hd 12)), lo_s64 (rd_lt (hd 12)),
    four_rd hb (by omega), four_rd (hd 4) (by rw [List.length_drop]; omega), four_rd (hd 8) (by rw [List.length_drop]; omega), four_rd (hd 12) (by rw [List.length_drop]; omega)]
  have e4 : (l.drop 12).take 4 = l.drop 12 := List.take_of_length_le (by rw [List.length_drop]; omega)
  rw [e4]
  have a1 : (l.drop 8).take 4 ++ l.drop 12 = l.drop 8 := by
    rw [show l.drop 12 = (l.drop 8).drop 4 by rw [List.drop_drop]]
    exact List.take_append_drop _ _
  have a2 : (l.drop 4).take 4 ++ l.drop 8 = l.drop 4 := by
    rw [show l.drop 8 = (l.drop 4).drop 4 by rw [List.drop_drop]]
    exact List.take_append_drop _ _
  rw [List.append_assoc, List.append_assoc, a1, a2]
  exact List.take_append_drop _ _

/-- The document's reading of an Up. -/
def upR (n : Nat) : Int := if n = 4294967295 then -1 else (n : Int)
/-- Both ways of reading: the same nodes, and the same others are none's. -/
theorem ref_same {a b : Nat} (ha : a < 4294967296) (hb : b < 4294967296) (w : Int) :
    okN (a : Int) (upR b) w = okN (sg a) (sg b) w ∧ (okN (sg a) (sg b) w = true → (a : Int) = sg a ∧ upR b = sg b) := by
  refine ⟨?_, fun h => ?_⟩
  · rw [Bool.eq_iff_iff, okN_iff, okN_iff]
    unfold sg upR
    split <;> split <;> split <;> omega
  · obtain ⟨h1, h2, h3, h4, h5, h6, h7⟩ := okN_iff.1 h
    unfold sg at h1 h2 h3 h4 h5
    unfold sg upR
    split at h1 <;> split at h3 <;> split <;> split <;> (try split) <;> constructor <;> omega
end Go.Proofs.Ytgdiglkbeijomaa
