/- CrcMixes: the walk. -/
import Derived.Test.YtofindmbkgalbaaD
namespace Go.Proofs.Ytofindmbkgalbaa
open Go.RowKit

set_option maxRecDepth 100000 in
theorem mixes_walk (a b c : ByteArray) (ha : a.size ≤ 9223372036854775807) (hb : b.size ≤ 9223372036854775807) (hc : c.size ≤ 9223372036854775807) (w : World) :
    Calls Try.prog 5 #[.string a, .string b, .string c] w fun e w' => e = .returned (.bool true) ∧ Below w.heap.size w w' := by
  have hmin : ∀ (w : World), (Builtin.min_ #[3, 3, 3, 3] 3 #[.int .i64 a.size, .int .i64 b.size, .int .i64 c.size, .int .i64 2000]).run Try.prog w = .ok (.int .i64 ((min (min (min a.size b.size) c.size) 2000 : Nat) : Int)) w := fun w => by
    simp [Builtin.min_, Builtin.min2]
    congr 2
    split <;> split <;> split <;> omega
  have hn1 : min (min (min a.size b.size) c.size) 2000 ≤ a.size := by omega
  have hn2 : min (min (min a.size b.size) c.size) 2000 ≤ b.size := by omega
  have hn3 : min (min (min a.size b.size) c.size) 2000 ≤ c.size := by omega
  have hn4 : min (min (min a.size b.size) c.size) 2000 ≤ 2000 := by omega
  generalize min (min (min a.size b.size) c.size) 2000 = n at *
  have hmk := make_bytes n (by omega)
  go_enter Try.func5, Try.ntmps5
  go_wp2_with fail
  have hrow := made_row n w
  have hbel : Below w.heap.size w (w.alloc (.cells (madeCells #[.int .u8 0] n) 5)) := (Below.refl _ _).alloc (Nat.le_refl _) _
  have hBB : w.heap.size ≤ w.heap.size := Nat.le_refl _
  have HR := hide hrow
  have HB := hide hbel
  clear hrow hbel hmk hmin
  generalize w.alloc (.cells (madeCells #[.int .u8 0] n) 5) = W at *
  generalize hBw : w.heap.size = B at *
  have HW := hide hBw
  clear hBw
  have MLEN : (mixL (mixL ((bs a).take n) ((bs b).take n)) ((bs c).take n)).length = n := by
    have l1 : ((bs a).take n).length = n := by rw [List.length_take, bs_length]; omega
    have l2 : ((bs b).take n).length = n := by rw [List.length_take, bs_length]; omega
    have l3 : ((bs c).take n).length = n := by rw [List.length_take, bs_length]; omega
    rw [mixL_length _ _ (by rw [mixL_length _ _ (by omega)]; omega), mixL_length _ _ (by omega), l1]
  have MAT : Hid (∀ k, k < n → (mixL (mixL ((bs a).take n) ((bs b).take n)) ((bs c).take n)).getD k 0 = (bs a).getD k 0 ^^^ (bs b).getD k 0 ^^^ (bs c).getD k 0) := hide (fun k hk => by
    have l1 : ((bs a).take n).length = n := by rw [List.length_take, bs_length]; omega
    have l2 : ((bs b).take n).length = n := by rw [List.length_take, bs_length]; omega
    have l3 : ((bs c).take n).length = n := by rw [List.length_take, bs_length]; omega
    have tk : ∀ (l : List Nat), (l.take n).getD k 0 = l.getD k 0 := fun l => by
      rw [List.getD_eq_getElem?_getD, List.getD_eq_getElem?_getD, List.getElem?_take, if_pos hk]
    rw [mix_at _ _ k (by rw [mixL_length _ _ (by omega)]; omega) (by omega), mix_at _ _ k (by omega) (by omega), tk, tk, tk])
  have MSUM : Hid (crcOf (mixL (mixL ((bs a).take n) ((bs b).take n)) ((bs c).take n)) = crcOf ((bs a).take n) ^^^ crcOf ((bs b).take n) ^^^ crcOf ((bs c).take n)) := hide (by
    have l1 : ((bs a).take n).length = n := by rw [List.length_take, bs_length]; omega
    have l2 : ((bs b).take n).length = n := by rw [List.length_take, bs_length]; omega
    have l3 : ((bs c).take n).length = n := by rw [List.length_take, bs_length]; omega
    exact crc_mix _ _ _ (by omega) (by omega))
  generalize mixL (mixL ((bs a).take n) ((bs b).take n)) ((bs c).take n) = M at *
  have MLEN' := hide MLEN
  clear MLEN
  go_loopg [9] n (fun gk i w' => ∃ (k : Nat) (L : List Nat), k + gk = n ∧ i = .int .i64 (k : Int) ∧ L.length = n ∧ Row w' B L ∧ Below B w w' ∧ ∀ j, j < k → L.getD j 0 = M.getD j 0)
  case atStart => exact ⟨0, List.replicate n 0, by omega, rfl, by simp, unhide HR, unhide HB, fun j hj => by omega⟩
  case round =>
    obtain ⟨k, L, hk, rfl, hL, hr, hbw, hag⟩ := hrel
    clear HR HB
    have HR := hide hr
    have HB := hide hbw
    have HA := hide hag
    have HL := hide hL
    clear hr hbw hag hL
    by_cases h8 : k < n
    · have hm := unhide MAT k h8
      have b1 := getD_lt (bs_lt a) k
      have b2 := getD_lt (bs_lt b) k
      have b3 := getD_lt (bs_lt c) k
      have e1 := bs_at a k (by omega)
      have e2 := bs_at b k (by omega)
      have e3 := bs_at c k (by omega)
      have hM := hide hm
      clear hm
      generalize (bs a).getD k 0 = x at *
      generalize (bs b).getD k 0 = y at *
      generalize (bs c).getD k 0 = z at *
      have x1 : bits .xor .u8 (x : Int) (y : Int) = ((x ^^^ y : Nat) : Int) := u8_xor_nat x y b1 b2
      have b4 : x ^^^ y < 256 := Nat.xor_lt_two_pow (n := 8) (by simpa using b1) (by simpa using b2)
      have x2 : bits .xor .u8 ((x ^^^ y : Nat) : Int) (z : Int) = ((x ^^^ y ^^^ z : Nat) : Int) := u8_xor_nat _ z b4 b3
      have b5 : x ^^^ y ^^^ z < 256 := Nat.xor_lt_two_pow (n := 8) (by simpa using b4) (by simpa using b3)
      generalize x ^^^ y ^^^ z = t at *
      generalize x ^^^ y = s at *
      have c0 := (unhide HR).at_ k (by rw [unhide HL]; exact h8)
      have f0 := (unhide HR).free k (by rw [unhide HL]; exact h8)
      have k1 : (0 : Int) ≤ (k : Int) := by omega
      have k2 : (k : Int) < (n : Int) := by omega
      have k3 : (k : Int) < (a.size : Int) := by omega
      have k4 : (k : Int) < (b.size : Int) := by omega
      have k5 : (k : Int) < (c.size : Int) := by omega
      go_wp2_with fail
      go_region
      have r2 : Row (wr.setCell ⟨B, k, none⟩ (.int .u8 (t : Int))).drew B (L.set k t) := ((unhide HR).set (by rw [unhide HL]; exact h8) b5).drewN 1
      have w2 : Below B w (wr.setCell ⟨B, k, none⟩ (.int .u8 (t : Int))).drew := ((unhide HB).setCell (p := ⟨B, k, none⟩) (Nat.le_refl _) _).drew
      have R2 := hide r2
      have W2 := hide w2
      clear r2 w2 c0 f0
      generalize (wr.setCell ⟨B, k, none⟩ (.int .u8 (t : Int))).drew = wz at *
      go_wp2
      go_roundg (gk - 1)
      case rel =>
        refine ⟨k + 1, L.set k t, by omega, rfl, by rw [List.length_set, unhide HL], unhide R2, unhide W2, fun j hj => ?_⟩
        rw [getD_set _ _ _ _ (by rw [unhide HL]; exact h8)]
        by_cases e : j = k
        · subst e
          rw [if_pos rfl, unhide hM]
        · rw [if_neg e, unhide HA j (by omega)]
      all_goals omega
    · have : k = n := by omega
      subst this
      have hLM : L = M := by
        refine List.ext_getElem (by rw [unhide HL, unhide MLEN']) (fun j h1 h2 => ?_)
        have := unhide HA j (by rw [← unhide HL]; exact h1)
        rw [List.getD_eq_getElem?_getD, List.getElem?_eq_getElem h1, List.getD_eq_getElem?_getD, List.getElem?_eq_getElem h2] at this
        exact this
      have hbk : ∀ m, (convert 27 9 (.slice (some ⟨B, 0, none⟩) k k)).run Try.prog (wr.drewN m) = .ok (.string (str M)) (wr.drewN m) := fun m => by
        have := ((unhide HR).drewN m).back k
        rwa [unhide HL, hLM] at this
      have tk : ∀ (s : ByteArray), k ≤ s.size → bs (s.extract 0 k) = (bs s).take k := fun s hs => by
        obtain ⟨⟨l⟩⟩ := s
        rw [ByteArray.extract_mk]
        unfold bs
        simp [List.map_take]
      have q0 : crcOf (bs (str M)) = crcOf M := by rw [bs_str (by rw [← hLM]; exact (unhide HR).byte)]
      have z0 : (str M).size ≤ 9223372036854775807 := by rw [str_size, unhide MLEN']; omega
      have q1 : crcOf (bs (a.extract 0 k)) = crcOf ((bs a).take k) := by rw [tk a hn1]
      have q2 : crcOf (bs (b.extract 0 k)) = crcOf ((bs b).take k) := by rw [tk b hn2]
      have q3 : crcOf (bs (c.extract 0 k)) = crcOf ((bs c).take k) := by rw [tk c hn3]
      have z1 : (a.extract 0 k).size ≤ 9223372036854775807 := by rw [ByteArray.size_extract]; omega
      have z2 : (b.extract 0 k).size ≤ 9223372036854775807 := by rw [ByteArray.size_extract]; omega
      have z3 : (c.extract 0 k).size ≤ 9223372036854775807 := by rw [ByteArray.size_extract]; omega
      obtain ⟨xa, hxa⟩ : ∃ x, a.extract 0 k = x := ⟨_, rfl⟩
      obtain ⟨xb, hxb⟩ : ∃ x, b.extract 0 k = x := ⟨_, rfl⟩
      obtain ⟨xc, hxc⟩ : ∃ x, c.extract 0 k = x := ⟨_, rfl⟩
      rw [hxa] at q1 z1
      rw [hxb] at q2 z2
      rw [hxc] at q3 z3
      generalize str M = xM at *
      have l1 : crcOf ((bs a).take k) < 4294967296 := crcOf_lt (fun x hx => bs_lt a x (List.mem_of_mem_take hx))
      have l2 : crcOf ((bs b).take k) < 4294967296 := crcOf_lt (fun x hx => bs_lt b x (List.mem_of_mem_take hx))
      have l3 : crcOf ((bs c).take k) < 4294967296 := crcOf_lt (fun x hx => bs_lt c x (List.mem_of_mem_take hx))
      have hMS := unhide MSUM
      clear tk MSUM
      generalize crcOf ((bs a).take k) = x at *
      generalize crcOf ((bs b).take k) = y at *
      generalize crcOf ((bs c).take k) = z at *
      have x1 : bits .xor .u32 (x : Int) (y : Int) = ((x ^^^ y : Nat) : Int) := u32_xor_nat x y l1 l2
      have l4 := xor_lt32 l1 l2
      have x2 : bits .xor .u32 ((x ^^^ y : Nat) : Int) (z : Int) = ((x ^^^ y ^^^ z : Nat) : Int) := u32_xor_nat _ z l4 l3
      have MS := hide hMS
      clear hMS
      generalize x ^^^ y ^^^ z = t at *
      generalize x ^^^ y = s at *
      rw [show crcOf M = t from unhide MS] at q0
      go_wp2_with fail
      go_quiet (first
        | (go_at_call 7; refine Calls.quiet_of_same (awake_any _))
        | (go_at_call 8; refine Calls.quiet_of_same (sum_any _ (by assumption) _)))
      go_wp2
      go_ret
      exact ⟨rfl, by rw [unhide HW]; exact below_drewN (unhide HB) _⟩
end Go.Proofs.Ytofindmbkgalbaa
