/- CrcTurns: the walk. -/
import Derived.Test.YtofindmbkgalbaaM2
namespace Go.Proofs.Ytofindmbkgalbaa
open Go.RowKit

set_option maxRecDepth 100000 in
set_option maxHeartbeats 4000000 in
theorem turns_walk (s : ByteArray) (at_ q : Nat) (hs : s.size ≤ 9223372036854775807) (h16 : at_ < 65536) (h32 : q < 4294967296) (w : World) :
    Calls Try.prog 4 #[.string s, .int .u16 (at_ : Int), .int .u32 (q : Int)] w fun e w' => e = .returned (.bool true) ∧ Below w.heap.size w w' := by
  go_enter Try.func4, Try.ntmps4
  by_cases g1 : s.size = 0
  · have g1' : (s.size : Int) = 0 := by omega
    go_wp2_with fail
    refine (awake_any _).mono ?_
    rintro e w2 ⟨rfl, rfl⟩
    go_wp2
    go_ret
    exact ⟨rfl, Below.refl _ _⟩
  by_cases g2 : 5000 < s.size
  · have g2' : 5000 < (s.size : Int) := by omega
    have g1' : ¬ (s.size : Int) = 0 := by omega
    go_wp2_with fail
    refine (awake_any _).mono ?_
    rintro e w2 ⟨rfl, rfl⟩
    go_wp2
    go_ret
    exact ⟨rfl, Below.refl _ _⟩
  have g1' : ¬ (s.size : Int) = 0 := by omega
  have g2' : ¬ 5000 < (s.size : Int) := by omega
  by_cases g3 : q = 0
  · subst g3
    go_wp2_with fail
    refine (awake_any _).mono ?_
    rintro e w2 ⟨rfl, rfl⟩
    go_wp2
    go_ret
    exact ⟨rfl, Below.refl _ _⟩
  have g3' : ((q : Int) == 0) = false := by rw [beq_eq_false_iff_ne]; omega
  have g1b : ((s.size : Int) == 0) = false := by rw [beq_eq_false_iff_ne]; omega
  have hcv := run_bytes_of_string (P := Try.prog) w 9 27 5 s Try.underlying9 Try.underlying27 Try.underlying5
  have hrow := laid_row s (grownCap w s.size 0 5) w
  have hbel : Below w.heap.size w (w.drew.alloc (.cells (bytesRow s (grownCap w s.size 0 5)) 5 ((bytesRow s (grownCap w s.size 0 5)).size, (bytesRow s (grownCap w s.size 0 5)).size + 1))) := (Below.refl _ _).drew.alloc (Nat.le_refl _) _
  generalize w.drew.alloc (.cells (bytesRow s (grownCap w s.size 0 5)) 5 ((bytesRow s (grownCap w s.size 0 5)).size, (bytesRow s (grownCap w s.size 0 5)).size + 1)) = W at *
  generalize grownCap w s.size 0 5 = C at *
  generalize hBw : w.heap.size = B at *
  have HW := hide hBw
  have HR := hide hrow
  have HB := hide hbel
  clear hBw hrow hbel
  have hk1 : ((at_ : Int)).tmod (s.size : Int) = ((at_ % s.size : Nat) : Int) := by
    rw [Int.tmod_eq_emod_of_nonneg (by omega)]
    omega
  have hk2 : (at_ : Int) % (s.size : Int) = ((at_ % s.size : Nat) : Int) := by omega
  have hk : at_ % s.size < s.size := Nat.mod_lt _ (by omega)
  generalize at_ % s.size = k at *
  go_wp2_with fail
  have HS := hide (turned_sum q k)
  have hlen := bs_length s
  have HL := hide hlen
  clear hlen
  go_loopg [9, 10, 11] (min 4 (s.size - k)) (fun gk tv i x w' => ∃ (m : Nat) (L : List Nat), m + gk = min 4 (s.size - k) ∧ tv = .bool (hit q m) ∧ i = .int .i64 (m : Int) ∧ L.length = s.size ∧ Row w' B L ∧ Below B w w' ∧ ∀ j, j < s.size → L.getD j 0 = (bs s).getD j 0 ^^^ pad q k m j)
  case atStart => 
    refine ⟨0, bs s, by omega, rfl, rfl, unhide HL, unhide HR, unhide HB, fun j hj => ?_⟩
    unfold pad
    rw [if_neg (by omega), Nat.xor_zero]
  case round =>
    obtain ⟨m, L, hm, rfl, rfl, hL, hr, hbw, hag⟩ := hrel
    clear HR HB
    have HR := hide hr
    have HB := hide hbw
    have HA := hide hag
    have HLL := hide hL
    clear hr hbw hag hL
    have hh : hit q (m + 1) = (hit q m || byteAt q m != 0) := rfl
    by_cases h8 : m < 4 ∧ k + m < s.size
    · obtain ⟨h9, h10⟩ := h8
      have hv := unhide HA (k + m) h10
      have hp : pad q k m (k + m) = 0 := by
        unfold pad
        rw [if_neg (by omega)]
      rw [hp, Nat.xor_zero] at hv
      have c0 := (unhide HR).at_ (k + m) (by rw [unhide HLL]; exact h10)
      have f0 := (unhide HR).free (k + m) (by rw [unhide HLL]; exact h10)
      have b1 := getD_lt (unhide HR).byte (k + m)
      have HV := hide hv
      clear hv
      generalize L.getD (k + m) 0 = y at *
      have b2 := byteAt_lt q m
      have x1 : bits .xor .u8 (y : Int) (byteAt q m : Int) = ((y ^^^ byteAt q m : Nat) : Int) := u8_xor_nat y _ b1 b2
      have b3 : y ^^^ byteAt q m < 256 := Nat.xor_lt_two_pow (n := 8) (by simpa using b1) (by simpa using b2)
      generalize hz : y ^^^ byteAt q m = z at *
      have HH := hide hh
      clear hh
      have hb8 : (q : Int) / 2 ^ (8 * m) % 256 = ((byteAt q m : Nat) : Int) := by
        unfold byteAt
        have : ((q / 2 ^ (8 * m) : Nat) : Int) = (q : Int) / 2 ^ (8 * m) := by
          rw [Int.natCast_ediv, Int.natCast_pow]
          rfl
        rw [← this]
        omega
      have r2 : Row (wr.setCell ⟨B, k + m, none⟩ (.int .u8 (z : Int))) B (L.set (k + m) z) := (unhide HR).set (by rw [unhide HLL]; exact h10) b3
      have w2 : Below B w (wr.setCell ⟨B, k + m, none⟩ (.int .u8 (z : Int))) := (unhide HB).setCell (p := ⟨B, k + m, none⟩) (Nat.le_refl _) _
      have R2 := hide r2
      have W2 := hide w2
      have A2 : Hid (∀ j, j < s.size → (L.set (k + m) z).getD j 0 = (bs s).getD j 0 ^^^ pad q k (m + 1) j) := hide (fun j hj => by
        rw [getD_set _ _ _ _ (by rw [unhide HLL]; exact h10)]
        by_cases e : j = k + m
        · subst e
          rw [if_pos rfl, ← hz, unhide HV]
          unfold pad
          rw [if_pos (by omega), Nat.add_sub_cancel_left]
        · rw [if_neg e, unhide HA j hj]
          unfold pad
          by_cases c : k ≤ j ∧ j < k + m
          · rw [if_pos c, if_pos (by omega)]
          · rw [if_neg c, if_neg (by omega)])
      clear r2 w2 hz
      generalize byteAt q m = x at *
      by_cases ht : hit q m = true
      · go_wp2_with fail
        clear c0 f0
        generalize wr.setCell ⟨B, k + m, none⟩ (.int .u8 (z : Int)) = wz at *
        go_roundg (gk - 1)
        case rel => exact ⟨m + 1, L.set (k + m) z, by omega, by rw [unhide HH, ht]; rfl, rfl, by rw [List.length_set, unhide HLL], unhide R2, unhide W2, unhide A2⟩
        all_goals omega
      · have ht' : hit q m = false := by simpa using ht
        have hx : ((x : Int) != 0) = (x != 0) := by
          by_cases e : x = 0
          · subst e; rfl
          · have e2 : ¬ (x : Int) = 0 := by omega
            rw [bne_iff_ne.2 e2, bne_iff_ne.2 e]
        go_wp2_with fail
        clear c0 f0
        generalize wr.setCell ⟨B, k + m, none⟩ (.int .u8 (z : Int)) = wz at *
        go_roundg (gk - 1)
        case rel => exact ⟨m + 1, L.set (k + m) z, by omega, by rw [unhide HH, ht']; rfl, rfl, by rw [List.length_set, unhide HLL], unhide R2, unhide W2, unhide A2⟩
        all_goals omega
    · have hme : m = min 4 (s.size - k) := by omega
      have key := unhide HS m L (bs s) (by rw [unhide HLL, unhide HL]) (by rw [unhide HL]; omega) (by omega) (by rw [unhide HL]; exact unhide HA)
      have hbk : ∀ m, (convert 27 9 (.slice (some ⟨B, 0, none⟩) s.size C)).run Try.prog (wr.drewN m) = .ok (.string (str L)) (wr.drewN m) := fun m => by
        have := ((unhide HR).drewN m).back C
        rwa [unhide HLL] at this
      have hbk0 := hbk 0
      rw [World.drewN_zero] at hbk0
      have q0 : crcOf (bs (str L)) = crcOf L := by rw [bs_str (unhide HR).byte]
      have z0 : (str L).size ≤ 9223372036854775807 := by rw [str_size, unhide HLL]; omega
      have KEY := hide key
      clear key hbk
      generalize str L = xL at *
      generalize hit q m = tv at *
      have Q0 := hide q0
      clear q0
      have hne : ¬ ((m : Int) < 4 ∧ (k : Int) + (m : Int) < (s.size : Int)) := by omega
      by_cases h4 : m < 4
      · have h4' : ¬ (k : Int) + (m : Int) < (s.size : Int) := by omega
        go_wp2_with fail
        refine (awake_any _).mono ?_
        rintro e w2 ⟨rfl, rfl⟩
        go_wp2_with fail
        refine (sum_any xL z0 _).mono ?_
        rintro e w2 ⟨rfl, rfl⟩
        go_wp2_with fail
        refine (sum_any s hs _).mono ?_
        rintro e w2 ⟨rfl, rfl⟩
        rw [unhide Q0]
        have key := unhide KEY
        clear KEY
        generalize crcOf L = X at *
        generalize crcOf (bs s) = Y at *
        cases tv with
        | false =>
          have e := key.2 rfl
          subst e
          clear key
          go_wp2
          go_ret
          exact ⟨rfl, unhide HB⟩
        | true =>
          have e : ((X : Int) == (Y : Int)) = false := by
            rw [beq_eq_false_iff_ne]
            intro h
            have h2 : X = Y := by omega
            exact Bool.noConfusion (key.1 h2)
          clear key
          go_wp2
          go_ret
          exact ⟨rfl, unhide HB⟩
      · have h4' : ¬ (m : Int) < 4 := by omega
        go_wp2_with fail
        refine (awake_any _).mono ?_
        rintro e w2 ⟨rfl, rfl⟩
        go_wp2_with fail
        refine (sum_any xL z0 _).mono ?_
        rintro e w2 ⟨rfl, rfl⟩
        go_wp2_with fail
        refine (sum_any s hs _).mono ?_
        rintro e w2 ⟨rfl, rfl⟩
        rw [unhide Q0]
        have key := unhide KEY
        clear KEY
        generalize crcOf L = X at *
        generalize crcOf (bs s) = Y at *
        cases tv with
        | false =>
          have e := key.2 rfl
          subst e
          clear key
          go_wp2
          go_ret
          exact ⟨rfl, unhide HB⟩
        | true =>
          have e : ((X : Int) == (Y : Int)) = false := by
            rw [beq_eq_false_iff_ne]
            intro h
            have h2 : X = Y := by omega
            exact Bool.noConfusion (key.1 h2)
          clear key
          go_wp2
          go_ret
          exact ⟨rfl, unhide HB⟩
end Go.Proofs.Ytofindmbkgalbaa
