/- The program's sum and the document's: each gives the plain one. -/
import Derived.Test.YtofindmbkgalbaaRows
import Derived.WalkKit
import Derived.WalkSpells
import Derived.RowKit3
import Derived.Laws.BitsAll
import Derived.Deep.LoopGhost
import Derived.Test.YtofindmbkgalbaaM
namespace Go.Proofs.Ytofindmbkgalbaa
open Go.RowKit

def takeN : Nat → Nat → Nat
  | 0, n => n
  | k + 1, n => bit (takeN k n)
theorem takeN_lt : ∀ (k n : Nat), n < 4294967296 → takeN k n < 4294967296
  | 0, _, h => h
  | k + 1, n, h => bit_lt (takeN_lt k n h)

theorem bit_walk {X : Nat} (h : X < 4294967296) : bits .xor .u32 ((X : Int) / 2) (3988292384 * ((X : Int) % 2)) = ((bit X : Nat) : Int) := by
  have hm : poly * (X % 2) < 4294967296 := by
    unfold poly
    rcases Nat.mod_two_eq_zero_or_one X with e | e <;> rw [e] <;> decide
  have := u32_xor_nat (X / 2) (poly * (X % 2)) (by omega) hm
  rw [← show ((X / 2 : Nat) : Int) = (X : Int) / 2 by omega, ← show ((poly * (X % 2) : Nat) : Int) = 3988292384 * ((X : Int) % 2) by unfold poly; omega]
  exact this

set_option maxRecDepth 100000 in
theorem take_any (n b : Nat) (hn : n < 4294967296) (hb : b < 256) (w : World) :
    Calls Try.prog 10 #[.int .u32 (n : Int), .int .u8 (b : Int)] w fun e w' => e = .returned (.int .u32 (takeB n b : Nat)) ∧ w' = w := by
  have hx : bits .xor .u32 (n : Int) (b : Int) = ((n ^^^ b : Nat) : Int) := u32_xor_nat n b hn (by omega)
  go_enter Try.func10, Try.ntmps10
  go_wp2
  go_loopg [0, 9] 8 (fun gk a i w' => ∃ k : Nat, k + gk = 8 ∧ a = .int .u32 ((takeN k (n ^^^ b) : Nat) : Int) ∧ i = .int .i64 (k : Int) ∧ w' = w)
  case atStart => exact ⟨0, by omega, rfl, rfl, rfl⟩
  case round =>
    obtain ⟨k, hk, rfl, rfl, rfl⟩ := hrel
    by_cases h8 : k < 8
    · have hb1 : takeN (k + 1) (n ^^^ b) = bit (takeN k (n ^^^ b)) := rfl
      have hlt := takeN_lt k (n ^^^ b) (xor_lt32 hn (by omega))
      generalize takeN k (n ^^^ b) = X at *
      have hand : bits .and .u32 (X : Int) 1 = ((X % 2 : Nat) : Int) := by
        have := u32_and_nat X 1 hlt (by decide)
        simpa using this
      have hbit : bits .xor .u32 ((X : Int) / 2) (3988292384 * ((X : Int) % 2)) = ((bit X : Nat) : Int) := bit_walk hlt
      go_wp2
      go_roundg (gk - 1)
      case rel => exact ⟨k + 1, by omega, by rw [hb1], rfl, rfl⟩
      all_goals omega
    · have : k = 8 := by omega
      subst this
      go_wp2
      go_ret
      exact ⟨rfl, rfl⟩

/-- The bytes of a string, as numbers. -/
def bs (s : ByteArray) : List Nat := s.data.toList.map (fun b => b.toNat)
theorem bs_lt (s : ByteArray) : ∀ b ∈ bs s, b < 256 := fun b h => by
  obtain ⟨x, _, rfl⟩ := List.mem_map.1 h
  exact x.toNat_lt
theorem bs_length (s : ByteArray) : (bs s).length = s.size := by unfold bs; rw [List.length_map]; rfl
theorem run_take : ∀ (l : List Nat) (i n : Nat), i < l.length → run n (l.take (i + 1)) = takeB (run n (l.take i)) (l.getD i 0)
  | [], _, _, h => by simp at h
  | b :: l, 0, n, _ => by simp [run]
  | b :: l, i + 1, n, h => by
    simp only [List.take_succ_cons, run, List.getD_cons_succ]
    exact run_take l i _ (by simpa using h)
theorem full_xor {X : Nat} (h : X < 4294967296) : bits .xor .u32 IntKind.u32.max (X : Int) = ((X ^^^ full : Nat) : Int) := by
  rw [Nat.xor_comm]
  exact u32_xor_nat full X (by decide) h
theorem bs_at (s : ByteArray) (k : Nat) (h : k < s.size) : (s[k]'h).toNat = (bs s).getD k 0 := by
  obtain ⟨⟨l⟩⟩ := s
  have hl : k < l.length := h
  show l[k].toNat = (l.map (fun b => b.toNat)).getD k 0
  rw [List.getD_eq_getElem?_getD, List.getElem?_map, List.getElem?_eq_getElem hl]
  rfl

set_option maxRecDepth 100000 in
theorem sum_any (s : ByteArray) (hs : s.size ≤ 9223372036854775807) (w : World) :
    Calls Try.prog 8 #[.string s] w fun e w' => e = .returned (.int .u32 (crcOf (bs s) : Nat)) ∧ w' = w := by
  have hlen := bs_length s
  have hby := bs_lt s
  go_enter Try.func8, Try.ntmps8
  go_wp2
  go_loopg [3, 7] s.size (fun gk a i w' => ∃ k : Nat, k + gk = s.size ∧ a = .int .u32 ((run full ((bs s).take k) : Nat) : Int) ∧ i = .int .i64 (k : Int) ∧ w' = w)
  case atStart => exact ⟨0, by omega, rfl, rfl, rfl⟩
  case round =>
    obtain ⟨k, hk, rfl, rfl, rfl⟩ := hrel
    have hlt := run_lt ((bs s).take k) full (by decide) (fun b hb => hby b (List.mem_of_mem_take hb))
    by_cases h8 : k < s.size
    · have hb1 := run_take (bs s) k full (by omega)
      have hb2 : (bs s).getD k 0 < 256 := hby _ (by rw [List.getD_eq_getElem?_getD, List.getElem?_eq_getElem (by omega)]; exact List.getElem_mem _)
      have hat := bs_at s k h8
      generalize run full ((bs s).take k) = X at *
      generalize (bs s).getD k 0 = B at *
      go_wp2_with fail
      refine (take_any X B hlt hb2 _).mono ?_
      rintro e w2 ⟨rfl, rfl⟩
      go_wp2
      go_roundg (gk - 1)
      case rel => exact ⟨k + 1, by omega, by rw [hb1], rfl, rfl⟩
      all_goals omega
    · have : k = s.size := by omega
      subst this
      have htk : (bs s).take s.size = bs s := List.take_of_length_le (by omega)
      rw [htk] at hlt
      have hfx := full_xor hlt
      rw [htk]
      go_wp2
      go_ret
      exact ⟨rfl, rfl⟩

set_option maxRecDepth 100000 in
theorem ref_any (s : ByteArray) (hs : s.size ≤ 9223372036854775807) (w : World) :
    Calls Try.prog 9 #[.string s] w fun e w' => e = .returned (.int .u32 (crcOf (bs s) : Nat)) ∧ w' = w := by
  have hlen := bs_length s
  have hby := bs_lt s
  go_enter Try.func9, Try.ntmps9
  go_wp2
  go_loopg [3, 4] s.size (fun gk a i w' => ∃ k : Nat, k + gk = s.size ∧ a = .int .u32 ((run full ((bs s).take k) : Nat) : Int) ∧ i = .int .i64 (k : Int) ∧ w' = w)
  case atStart => exact ⟨0, by omega, rfl, rfl, rfl⟩
  case round =>
    obtain ⟨k, hk, rfl, rfl, rfl⟩ := hrel
    have hlt := run_lt ((bs s).take k) full (by decide) (fun b hb => hby b (List.mem_of_mem_take hb))
    by_cases h8 : k < s.size
    · have hb1 := run_take (bs s) k full (by omega)
      have hb2 : (bs s).getD k 0 < 256 := hby _ (by rw [List.getD_eq_getElem?_getD, List.getElem?_eq_getElem (by omega)]; exact List.getElem_mem _)
      have hat := bs_at s k h8
      generalize run full ((bs s).take k) = X at *
      generalize (bs s).getD k 0 = B at *
      have hx : bits .xor .u32 (X : Int) (B : Int) = ((X ^^^ B : Nat) : Int) := u32_xor_nat X B hlt (by omega)
      have hX2 := xor_lt32 hlt (show B < 4294967296 by omega)
      unfold takeB at hb1
      generalize X ^^^ B = Y at *
      go_wp2
      go_loopg [3, 5] 8 (fun gi a i w' => ∃ m : Nat, m + gi = 8 ∧ a = .int .u32 ((takeN m Y : Nat) : Int) ∧ i = .int .i64 (m : Int) ∧ w' = wr)
      case atStart => exact ⟨0, by omega, rfl, rfl, rfl⟩
      case round =>
        obtain ⟨m, hm, rfl, rfl, rfl⟩ := hrel
        have hz := takeN_lt m Y hX2
        have hz1 : takeN (m + 1) Y = bit (takeN m Y) := rfl
        by_cases h9 : m < 8
        · generalize takeN m Y = Z at *
          have hand : bits .and .u32 (Z : Int) 1 = ((Z % 2 : Nat) : Int) := by
            have := u32_and_nat Z 1 hz (by decide)
            simpa using this
          have hbit : bits .xor .u32 ((Z : Int) / 2) (3988292384 * ((Z : Int) % 2)) = ((bit Z : Nat) : Int) := bit_walk hz
          by_cases ho : Z % 2 = 1
          · have ho' : (Z : Int) % 2 = 1 := by omega
            have hbo : bits .xor .u32 ((Z : Int) / 2) 3988292384 = ((bit Z : Nat) : Int) := by rw [ho'] at hbit; exact hbit
            clear hbit
            go_wp2
            go_roundg (gk - 1)
            case rel => exact ⟨m + 1, by omega, by rw [hz1], rfl, rfl⟩
            all_goals omega
          · have ho' : (Z : Int) % 2 = 0 := by omega
            have hbo : (Z : Int) / 2 = ((bit Z : Nat) : Int) := by
              have : Z % 2 = 0 := by omega
              unfold bit
              rw [this, Nat.mul_zero, Nat.xor_zero]
              omega
            clear hbit
            go_wp2
            go_roundg (gk - 1)
            case rel => exact ⟨m + 1, by omega, by rw [hz1], rfl, rfl⟩
            all_goals omega
        · have : m = 8 := by omega
          subst this
          go_wp2
          go_roundg (s.size - (k + 1))
          case rel => exact ⟨k + 1, by omega, by rw [hb1]; rfl, rfl, rfl⟩
          all_goals omega
    · have : k = s.size := by omega
      subst this
      have htk : (bs s).take s.size = bs s := List.take_of_length_le (by omega)
      rw [htk] at hlt
      have hfx := full_xor hlt
      rw [htk]
      go_wp2
      go_ret
      exact ⟨rfl, rfl⟩

theorem crc_nine : crcOf (bs ⟨#[49, 50, 51, 52, 53, 54, 55, 56, 57]⟩) = 3421780262 := by decide +kernel
theorem crc_none : crcOf (bs ⟨#[]⟩) = 0 := by decide +kernel
theorem crc_one : crcOf (bs ⟨#[0]⟩) = 3523407757 := by decide +kernel

set_option maxRecDepth 100000 in
theorem awake_any (w : World) : Calls Try.prog 7 #[] w fun e w' => e = .returned (.bool true) ∧ w' = w := by
  go_enter Try.func7, Try.ntmps7
  go_wp2_with fail
  refine (sum_any _ (by decide) _).mono ?_
  rw [crc_nine]
  rintro e w2 ⟨rfl, rfl⟩
  go_wp2_with fail
  refine (sum_any _ (by decide) _).mono ?_
  rw [show crcOf (bs { data := #[] }) = 0 from crc_none]
  rintro e w2 ⟨rfl, rfl⟩
  go_wp2
  go_ret
  exact ⟨rfl, rfl⟩

end Go.Proofs.Ytofindmbkgalbaa
