import Derived.Test.YtbibpigijgmcgaaW1
import Derived.Deep.RegionHeld3
import Derived.Deep.RegionWith
namespace Go.Proofs.Ytbibpigijgmcgaa
open Go.RowKit

/-- Four cells of a block hold a sum, and may be written. -/
def SumAt (w : World) (b : Nat) (x : Sm) : Prop :=
  (w.cell? ⟨b, 0, none⟩ = some (.int .i64 x.c) ∧ w.cell? ⟨b, 1, none⟩ = some (.int .i64 x.s) ∧ w.cell? ⟨b, 2, none⟩ = some (.int .i64 x.a) ∧ w.cell? ⟨b, 3, none⟩ = some (.int .i64 x.b)) ∧
  w.frozen? ⟨b, 0, none⟩ = false ∧ w.frozen? ⟨b, 1, none⟩ = false ∧ w.frozen? ⟨b, 2, none⟩ = false ∧ w.frozen? ⟨b, 3, none⟩ = false

theorem SumAt.below {W w1 : World} {b : Nat} {x : Sm} (h : SumAt W b x) (hb : Below W.heap.size W w1) (hl : b < W.heap.size) : SumAt w1 b x := by
  obtain ⟨⟨q0, q1, q2, q3⟩, f0, f1, f2, f3⟩ := h
  refine ⟨⟨?_, ?_, ?_, ?_⟩, ?_, ?_, ?_, ?_⟩
  · rw [hb.cell (p := ⟨b, 0, none⟩) hl]; exact q0
  · rw [hb.cell (p := ⟨b, 1, none⟩) hl]; exact q1
  · rw [hb.cell (p := ⟨b, 2, none⟩) hl]; exact q2
  · rw [hb.cell (p := ⟨b, 3, none⟩) hl]; exact q3
  · rw [hb.frozen (p := ⟨b, 0, none⟩) hl]; exact f0
  · rw [hb.frozen (p := ⟨b, 1, none⟩) hl]; exact f1
  · rw [hb.frozen (p := ⟨b, 2, none⟩) hl]; exact f2
  · rw [hb.frozen (p := ⟨b, 3, none⟩) hl]; exact f3

/-- Four cells of a block written with a sum. -/
def putSum (w : World) (b : Nat) (x : Sm) : World :=
  (((w.setCell ⟨b, 0, none⟩ (.int .i64 x.c)).setCell ⟨b, 1, none⟩ (.int .i64 x.s)).setCell ⟨b, 2, none⟩ (.int .i64 x.a)).setCell ⟨b, 3, none⟩ (.int .i64 x.b)

theorem SumAt.put {w : World} {b : Nat} {x y : Sm} (h : SumAt w b y) : SumAt (putSum w b x) b x := by
  obtain ⟨⟨q0, q1, q2, q3⟩, f0, f1, f2, f3⟩ := h
  simp [SumAt, putSum, go_sem, q0, q1, q2, q3, f0, f1, f2, f3]
theorem SumAt.put_other {w : World} {b c : Nat} {x y : Sm} (h : SumAt w c y) (hne : c ≠ b) : SumAt (putSum w b x) c y := by
  obtain ⟨⟨q0, q1, q2, q3⟩, f0, f1, f2, f3⟩ := h
  simp [SumAt, putSum, go_sem, q0, q1, q2, q3, f0, f1, f2, f3]
theorem below_put {B b : Nat} {w w' : World} {x : Sm} (h : Below B w w') (hb : B ≤ b) : Below B w (putSum w' b x) :=
  (((h.setCell (p := ⟨b, 0, none⟩) hb _).setCell (p := ⟨b, 1, none⟩) hb _).setCell (p := ⟨b, 2, none⟩) hb _).setCell (p := ⟨b, 3, none⟩) hb _
theorem putSum_size (w : World) (b : Nat) (x : Sm) : (putSum w b x).heap.size = w.heap.size := by simp [putSum, go_sem]

set_option maxHeartbeats 1000000 in
theorem of_any (x : Option Addr) (len cap : Nat) (zs : List Int) (w : World) (hz : zs.length = len) (hlen : len ≤ 1048576) (hx : 0 < len → ∃ b o, x = some ⟨b, o, none⟩ ∧ b < w.heap.size ∧ ∀ i, i < len → w.cell? ⟨b, o + i, none⟩ = some (.int .i64 (zs.getD i 0)))
    (hb : ∀ n ∈ zs, -1099511627776 ≤ n ∧ n ≤ 1099511627776) :
    Calls Try.prog 15 #[.slice x len cap] w fun r w' => r = .returned (.agg #[.int .i64 (ofL zs).c, .int .i64 (ofL zs).s, .int .i64 (ofL zs).a, .int .i64 (ofL zs).b]) ∧ Below w.heap.size w w' := by
  go_enter Try.func15, Try.ntmps15
  go_wp2
  go_loopw [8] (fun i w' => ∃ k : Nat, k ≤ len ∧ i = .int .i64 k ∧ Below w.heap.size w w' ∧ w.heap.size + 2 ≤ w'.heap.size ∧ SumAt w' (w.heap.size + 1) (ofL (zs.take k)) ∧ SumAt w' w.heap.size zero) (fun i _ => len - (intOf i).toNat)
  case atStart => exact ⟨0, Nat.zero_le _, rfl, b2 _ _ _, by simp, by simp [SumAt, ofL, zero, go_sem], by simp [SumAt, zero, go_sem]⟩
  case round =>
    obtain ⟨k, hk, rfl, hbel, hsz, hs1, hs0⟩ := hrel
    by_cases hlt : k < len
    · obtain ⟨b, o, rfl, hbl, hcells⟩ := hx (by omega)
      have hck : wr.cell? ⟨b, o + k, none⟩ = some (.int .i64 (zs.getD k 0)) := by rw [hbel.cell (p := ⟨b, o + k, none⟩) hbl]; exact hcells k hlt
      obtain ⟨⟨hc1, hc2⟩, hr1, hr2⟩ := ofL_take_bd zs k (by omega) hb
      have hn := hb (zs.getD k 0) (by rw [List.getD_eq_getElem?_getD, List.getElem?_eq_getElem (by omega)]; simp)
      obtain ⟨hn1, hn2⟩ := hn
      have hsucc := ofL_take_succ zs k (by omega)
      have HS : Hid (ofL (zs.take (k + 1)) = jn (ofL (zs.take k)) (one (zs.getD k 0))) := hsucc
      clear hsucc
      have HX : Hid (Below w.heap.size w wr ∧ SumAt wr w.heap.size zero) := ⟨hbel, hs0⟩
      clear hbel hs0 hx hcells
      generalize zs.getD k 0 = n at *
      generalize ofL (zs.take k) = y at *
      obtain ⟨yc, ys, ya, yb⟩ := y
      have HQ : Hid (SumAt wr.drew (w.heap.size + 1) ⟨yc, ys, ya, yb⟩) := hs1
      obtain ⟨⟨q0, q1, q2, q3⟩, f0, f1, f2, f3⟩ := hs1
      have hk0 : (0 : Int) ≤ (k : Int) := by omega
      have hkl : (k : Int) < (len : Int) := by omega
      dsimp only at *
      go_wp2
      have hz1 : w.heap.size + 1 < wr.heap.size := by omega
      go_region_with (first | (go_at_call 12; refine (one_any n _).mono ?_; rintro e w1 ⟨rfl, hb1⟩; have hz2 : w.heap.size + 1 < w1.heap.size := Nat.lt_of_lt_of_le hz1 hb1.size; have HQ1 : Hid (SumAt w1 (w.heap.size + 1) ⟨yc, ys, ya, yb⟩) := SumAt.below (W := wr.drew) HQ.out hb1 hz1; obtain ⟨⟨r0, r1, r2, r3⟩, i0, i1, i2, i3⟩ := HQ1.out) | (go_at_call 14; refine (join_any _ _ _ _ _ _ _ _ _ (by omega) (by omega) (by omega) (by omega)).mono ?_; rintro e w2 ⟨rfl, hb2⟩; have hz3 : w.heap.size + 1 < w2.heap.size := Nat.lt_of_lt_of_le hz2 hb2.size; obtain ⟨⟨t0, t1, t2, t3⟩, j0, j1, j2, j3⟩ := SumAt.below HQ1.out hb2 hz2))
      all_goals
        go_wp2
        go_roundw
        case rel =>
          obtain ⟨hbel, hs0⟩ := HX.out
          have hB : Below wr.heap.size wr w2 := (Below.trans (b := wr.drew) (Below.refl _ _).drew (hb1.trans (hb2.mono hb1.size)))
          refine ⟨k + 1, by omega, by go_num, below_put (b := w.heap.size + 1) (x := jn ⟨yc, ys, ya, yb⟩ ⟨1, n, n, n⟩) (hbel.trans (hB.mono hbel.size)) (by omega), ?_, ?_, ?_⟩
          · have := putSum_size w2 (w.heap.size + 1) (jn ⟨yc, ys, ya, yb⟩ ⟨1, n, n, n⟩)
            have h2 := hB.size
            show w.heap.size + 2 ≤ (putSum w2 (w.heap.size + 1) (jn ⟨yc, ys, ya, yb⟩ ⟨1, n, n, n⟩)).heap.size
            omega
          · rw [HS.out]
            exact SumAt.put (y := ⟨yc, ys, ya, yb⟩) (SumAt.below HQ1.out hb2 hz2)
          · exact SumAt.put_other (b := w.heap.size + 1) (x := jn ⟨yc, ys, ya, yb⟩ ⟨1, n, n, n⟩) (hs0.below hB (by omega)) (by omega)
        case measure => simp [intOf]; omega
    · obtain ⟨⟨q0, q1, q2, q3⟩, f0, f1, f2, f3⟩ := hs1
      have HP : Hid (SumAt wr w.heap.size zero ∧ Below w.heap.size w wr) := ⟨hs0, hbel⟩
      obtain ⟨⟨p0, p1, p2, p3⟩, g0, g1, g2, g3⟩ := hs0
      have hkl : k = len := by omega
      subst hkl
      rw [show zs.take k = zs from List.take_of_length_le (by omega)] at *
      have HY : Hid (∃ y, ofL zs = y) := ⟨_, rfl⟩
      obtain ⟨y, hy⟩ := HY.out
      rw [hy] at q0 q1 q2 q3
      have HY : Hid (ofL zs = y) := hy
      clear hy
      obtain ⟨yc, ys, ya, yb⟩ := y
      clear hx hb hbel
      dsimp only at q0 q1 q2 q3
      go_wp2
      obtain ⟨hs0, hbel⟩ := HP.out
      have hp := SumAt.put (x := ⟨yc, ys, ya, yb⟩) hs0
      obtain ⟨⟨p0, p1, p2, p3⟩, g0, g1, g2, g3⟩ := hp
      rw [HY.out]
      refine bodyPost_ret (v := .agg #[.int .i64 yc, .int .i64 ys, .int .i64 ya, .int .i64 yb]) ?_ rfl ⟨rfl, below_put (x := ⟨yc, ys, ya, yb⟩) hbel (Nat.le_refl _)⟩
      simp only [putSum] at p0 p1 p2 p3
      simp [results, Try.results15, go_sem, p0, p1, p2, p3]
end Go.Proofs.Ytbibpigijgmcgaa
