/- Records stand to each other as their ids do. -/
import Derived.Test.YtgdiglkbeijomaaM
import Derived.Laws.Strings
import Derived.Lib.MinMaxS
namespace Go.Proofs.Ytgdiglkbeijomaa
open Go
theorem bl_cons {a b : Nat} (ha : a < 256) (hb : b < 256) (x y : List UInt8) : Op.bytesLess (UInt8.ofNat a :: x) (UInt8.ofNat b :: y) = (decide (a < b) || (decide (a = b) && Op.bytesLess x y)) := by
  have e1 : (UInt8.ofNat a).toNat = a := by simp; omega
  have e2 : (UInt8.ofNat b).toNat = b := by simp; omega
  have h1 : (UInt8.ofNat a < UInt8.ofNat b) ↔ a < b := by rw [UInt8.lt_iff_toNat_lt, e1, e2]
  have h2 : (UInt8.ofNat a = UInt8.ofNat b) ↔ a = b := by rw [← UInt8.toNat_inj, e1, e2]
  rw [Op.bytesLess]
  rw [Bool.eq_iff_iff]
  simp [h1, h2]
theorem digits {n : Nat} (h : n < 4294967296) : n / 16777216 % 256 * 16777216 + n / 65536 % 256 * 65536 + n / 256 % 256 * 256 + n % 256 = n := by omega
theorem bl_four {n m : Nat} (hn : n < 4294967296) (hm : m < 4294967296) (hne : n ≠ m) (r s : List Nat) :
    Op.bytesLess ((four n ++ r).map UInt8.ofNat) ((four m ++ s).map UInt8.ofNat) = decide (n < m) := by
  show Op.bytesLess (UInt8.ofNat (n / 16777216 % 256) :: UInt8.ofNat (n / 65536 % 256) :: UInt8.ofNat (n / 256 % 256) :: UInt8.ofNat (n % 256) :: r.map UInt8.ofNat) (UInt8.ofNat (m / 16777216 % 256) :: UInt8.ofNat (m / 65536 % 256) :: UInt8.ofNat (m / 256 % 256) :: UInt8.ofNat (m % 256) :: s.map UInt8.ofNat) = _
  rw [bl_cons (Nat.mod_lt _ (by decide)) (Nat.mod_lt _ (by decide)), bl_cons (Nat.mod_lt _ (by decide)) (Nat.mod_lt _ (by decide)), bl_cons (Nat.mod_lt _ (by decide)) (Nat.mod_lt _ (by decide)), bl_cons (Nat.mod_lt _ (by decide)) (Nat.mod_lt _ (by decide))]
  generalize Op.bytesLess _ _ = z
  have en : n / 16777216 % 256 * 16777216 + n / 65536 % 256 * 65536 + n / 256 % 256 * 256 + n % 256 = n := digits hn
  have em : m / 16777216 % 256 * 16777216 + m / 65536 % 256 * 65536 + m / 256 % 256 * 256 + m % 256 = m := digits hm
  have a0 : n / 16777216 % 256 < 256 := Nat.mod_lt _ (by decide)
  have a1 : n / 65536 % 256 < 256 := Nat.mod_lt _ (by decide)
  have a2 : n / 256 % 256 < 256 := Nat.mod_lt _ (by decide)
  have a3 : n % 256 < 256 := Nat.mod_lt _ (by decide)
  have b0 : m / 16777216 % 256 < 256 := Nat.mod_lt _ (by decide)
  have b1 : m / 65536 % 256 < 256 := Nat.mod_lt _ (by decide)
  have b2 : m / 256 % 256 < 256 := Nat.mod_lt _ (by decide)
  have b3 : m % 256 < 256 := Nat.mod_lt _ (by decide)
  generalize n / 16777216 % 256 = n0 at *
  generalize n / 65536 % 256 = n1 at *
  generalize n / 256 % 256 = n2 at *
  generalize n % 256 = n3 at *
  generalize m / 16777216 % 256 = m0 at *
  generalize m / 65536 % 256 = m1 at *
  generalize m / 256 % 256 = m2 at *
  generalize m % 256 = m3 at *
  rw [Bool.eq_iff_iff]
  simp only [Bool.or_eq_true, Bool.and_eq_true, decide_eq_true_eq]
  constructor
  · rintro (h | ⟨h1, h | ⟨h2, h | ⟨h3, h | ⟨h4, _⟩⟩⟩⟩) <;> omega
  · intro h
    omega
theorem bl_rec {i u x j v y : Int} (h : okN i u x = true) (k : okN j v y = true) (hne : i ≠ j) : Op.bytesLess (st (recL i u x)).toList (st (recL j v y)).toList = decide (i < j) := by
  obtain ⟨h1, h2, _⟩ := okN_iff.1 h
  obtain ⟨k1, k2, _⟩ := okN_iff.1 k
  rw [Lib.toList_data, Lib.toList_data]
  show Op.bytesLess ((recL i u x).map UInt8.ofNat) ((recL j v y).map UInt8.ofNat) = _
  unfold recL
  rw [List.append_assoc, List.append_assoc, List.append_assoc, List.append_assoc, bl_four (lo_lt _) (lo_lt _) (by unfold lo; omega)]
  unfold lo
  rw [Bool.eq_iff_iff, decide_eq_true_eq, decide_eq_true_eq]
  omega
end Go.Proofs.Ytgdiglkbeijomaa
