import Derived.Test.YtbibpigijgmcgaaW4
import Derived.Deep.AppendLies
namespace Go.Proofs.Ytbibpigijgmcgaa
open Go.RowKit

theorem Try.info3 : (Try.prog.info? 3).map (fun i => (i.zero, i.size, i.bytes)) = some (some (.int .i64 0), 1, 8) := by kernel_rfl

/-- The cells of a list of numbers. -/
def rowOf (l : List Int) : List Value := l.map (Value.int .i64)

theorem rowOf_length (l : List Int) : (rowOf l).length = l.length := by simp [rowOf]

/-- A slice that the call itself made, as Of takes it. -/
theorem owned_cells {w : World} {base : Nat} {v : Value} {l : List Int} (h : w.ownsRow base 3 1 v l.length (rowOf l)) :
    ∃ x cap, v = .slice x l.length cap ∧ (0 < l.length → ∃ b o, x = some ⟨b, o, none⟩ ∧ b < w.heap.size ∧ ∀ i, i < l.length → w.cell? ⟨b, o + i, none⟩ = some (.int .i64 (l.getD i 0))) := by
  rcases Nat.eq_zero_or_pos l.length with h0 | h0
  · rcases h.2 with ⟨hv, _⟩ | ⟨g, cap, cur, hv, _⟩
    · exact ⟨none, 0, by rw [h0]; exact hv, fun h1 => by omega⟩
    · exact ⟨_, cap, hv, fun h1 => by omega⟩
  · obtain ⟨g, cap, hv, hb, hlt⟩ := h.form h0
    refine ⟨_, cap, hv, fun _ => ⟨g, 0, rfl, hlt, fun i hi => ?_⟩⟩
    have := h.cells (g := g) (by rw [hv]; rfl) i (.int .i64 (l.getD i 0)) (by simp [rowOf, List.getD_eq_getElem?_getD, hi])
    rcases i with _ | i
    · simpa [Addr.add] using this
    · simpa [Addr.add] using this

/-- What NumOrder asks of a sum. -/
theorem order_facts (zs : List Int) (k : Nat) (hz : zs.length = k) (hlen : k ≤ 500) (h0 : 0 < k) (hb : ∀ n ∈ zs, -2147483648 ≤ n ∧ n ≤ 2147483647) (y : Sm) (hy : ofL zs = y) :
    y.c = k ∧ y.a ≤ y.b ∧ y.c * y.a ≤ y.s ∧ y.s ≤ y.c * y.b ∧ (-1099511627776 ≤ y.s ∧ y.s ≤ 1099511627776) ∧ (-1099511627776 ≤ y.c * y.a ∧ y.c * y.a ≤ 1099511627776) ∧ (-1099511627776 ≤ y.c * y.b ∧ y.c * y.b ≤ 1099511627776) ∧ jn y zero = y ∧ jn zero y = y := by
  subst hy
  rw [ofL_eq]
  have h1 := ofR_bd _ _ zs hb (by intro h; subst h; simp at hz; omega)
  have h2 := ofR_s _ _ zs hb
  have h3 := ofR_c zs
  have h4 := ok_ofR zs
  obtain ⟨i1, i2, i3, i4, i5⟩ := h1
  have m1 : (ofR zs).c * (-2147483648) ≤ (ofR zs).c * (ofR zs).a := Int.mul_le_mul_of_nonneg_left i1 h4.1
  have m2 : (ofR zs).c * (ofR zs).b ≤ (ofR zs).c * 2147483647 := Int.mul_le_mul_of_nonneg_left i3 h4.1
  have m3 : (ofR zs).c * (ofR zs).a ≤ (ofR zs).c * (ofR zs).b := Int.mul_le_mul_of_nonneg_left i2 h4.1
  rw [hz] at h2 h3
  refine ⟨h3, i2, i4, i5, by omega, by omega, by omega, jn_zero_right h4, jn_zero_left _⟩

set_option maxHeartbeats 1000000 in
theorem numOrder_walk (x : Option Addr) (len cap : Nat) (zs : List Int) (w : World) (hz : zs.length = len) (hlen : len ≤ 500) (hx : 0 < len → ∃ b o, x = some ⟨b, o, none⟩ ∧ b < w.heap.size ∧ ∀ i, i < len → w.cell? ⟨b, o + i, none⟩ = some (.int .i32 (zs.getD i 0)))
    (hb : ∀ n ∈ zs, -2147483648 ≤ n ∧ n ≤ 2147483647) :
    Calls Try.prog 6 #[.slice x len cap] w fun e w' => e = .returned (.bool true) ∧ Below w.heap.size w w' := by
  obtain ⟨i0, hi, hz0, hz1, hz2⟩ := info_parts Try.info3
  go_enter Try.func6, Try.ntmps6
  go_wp2
  go_loopw [3, 4] (fun v i w' => ∃ k : Nat, k ≤ len ∧ i = .int .i64 k ∧ w'.ownsRow w.heap.size 3 1 v (zs.take k).length (rowOf (zs.take k)) ∧ Below w.heap.size w w') (fun _ i _ => len - (intOf i).toNat)
  case atStart => exact ⟨0, Nat.zero_le _, rfl, World.ownsRow_nil _ _ _ _, Below.refl _ _⟩
  case round =>
    obtain ⟨k, hk, rfl, hown, hbel⟩ := hrel
    by_cases hlt : k < len
    · obtain ⟨b, o, rfl, hbl, hcells⟩ := hx (by omega)
      have hck : wr.cell? ⟨b, o + k, none⟩ = some (.int .i32 (zs.getD k 0)) := by rw [hbel.cell (p := ⟨b, o + k, none⟩) hbl]; exact hcells k hlt
      have hn := hb (zs.getD k 0) (by rw [List.getD_eq_getElem?_getD, List.getElem?_eq_getElem (by omega)]; simp)
      obtain ⟨hn1, hn2⟩ := hn
      have htk : (zs.take k).length = k := by simp; omega
      have hsn : Hid (zs.take (k + 1) = zs.take k ++ [zs.getD k 0]) := by
        rw [Hid, List.take_succ_eq_append_getElem (by omega), List.getD_eq_getElem?_getD, List.getElem?_eq_getElem (by omega)]; rfl
      have HT : Hid ((zs.take k).length = k) := htk
      rw [htk] at hown
      clear hx hcells htk
      generalize zs.getD k 0 = n at *
      have hk0 : (0 : Int) ≤ (k : Int) := by omega
      have hkl : (k : Int) < (len : Int) := by omega
      go_wp2_with (first
        | (at_builtin; refine wpList_append_own _ rfl _ _ 32 rfl w.heap.size 3 i0 (.int .i64 0) 1 8 Try.underlying32 hi hz0 hz1 hz2 rfl (by decide) _ _ _ rfl (hown.alloc _) ⟨wr.heap.size, 0, none⟩ 1 1 [.int .i64 n] rfl rfl ?c1 ?c2 ?c3 ?c4 ?c5 ?_))
      case c1 =>
        intro j u hj
        match j, hj with
        | 0, hj => simp at hj; subst hj; simp [Addr.add]
      case c2 => intro u hu; simp at hu; subst hu; rfl
      case c3 => unfold maxLen; omega
      case c4 => omega
      case c5 => have := hbel.size; simp; omega
      · intro v' w1 hown' hgrow _
        have R : Hid (w1.ownsRow w.heap.size 3 1 v' (zs.take (k + 1)).length (rowOf (zs.take (k + 1))) ∧ Below w.heap.size w w1) := by
          rw [hsn.out]
          refine ⟨by simpa [rowOf, HT.out] using hown', ?_⟩
          exact Below.grown (hbel.alloc hbel.size _) hgrow (by have := hbel.size; simp; omega) (fun g hg => ((hown.alloc (.cells #[Value.int IntKind.i64 n] 3)).lt g hg).1)
        clear hown' hgrow hown
        go_wp2
        go_roundw
        case rel => exact ⟨k + 1, by omega, by go_num, R.out.1, R.out.2⟩
        case measure => simp [intOf]; omega
    · have hkl : k = len := by omega
      subst hkl
      rw [show zs.take k = zs from List.take_of_length_le (by omega)] at hown
      obtain ⟨x', cap', hv, hcl⟩ := owned_cells hown
      have HB : Hid (Below w.heap.size w wr) := hbel
      have HC : Hid (0 < zs.length → ∃ b o, x' = some ⟨b, o, none⟩ ∧ b < wr.heap.size ∧ ∀ i, i < zs.length → wr.cell? ⟨b, o + i, none⟩ = some (.int .i64 (zs.getD i 0))) := hcl
      clear hx hown hbel hcl
      subst hv
      rw [hz] at HC ⊢
      go_wp2_with fail
      refine (of_any _ k _ zs _ hz (by omega) HC.out (fun n hn => by have := hb n hn; omega)).mono ?_
      rintro e w1 ⟨rfl, hb1⟩
      have HB1 : Hid (Below w.heap.size w w1) := HB.out.trans (hb1.mono HB.out.size)
      clear HB HC hb1
      obtain ⟨y, hy⟩ : ∃ y, ofL zs = y := ⟨_, rfl⟩
      rw [hy]
      rcases Nat.eq_zero_or_pos k with h0 | h0
      · subst h0
        obtain rfl : zs = [] := List.eq_nil_of_length_eq_zero hz
        obtain rfl : zero = y := hy
        clear hb
        go_wp2_with fail
        generalize hW : w1.alloc (.cells #[.int .i64 zero.c, .int .i64 zero.s, .int .i64 zero.a, .int .i64 zero.b] 27) = W
        have hq : SumAt W w1.heap.size zero := by subst hW; simp [SumAt, go_sem]
        have hsz : w1.heap.size < W.heap.size := by subst hW; simp
        have hBW : Hid (Below w.heap.size w W) := by subst hW; exact HB1.out.alloc HB1.out.size _
        clear HB1 hW
        generalize w1.heap.size = B at *
        refine (awake_any _).mono ?_
        rintro e w2 ⟨rfl, hb2⟩
        obtain ⟨⟨r0, r1, r2, r3⟩, _⟩ := SumAt.below hq hb2 hsz
        simp only [zero] at r0 r1 r2 r3
        go_wp2
        go_ret
        exact ⟨rfl, hBW.out.trans (hb2.mono hBW.out.size)⟩
      · obtain ⟨f1, f2, f3, f4, ⟨f5, f5'⟩, ⟨f6, f6'⟩, ⟨f7, f7'⟩, f8, f9⟩ := order_facts zs k hz (by omega) h0 hb y hy
        obtain ⟨yc, ys, ya, yb⟩ := y
        clear hy hb
        dsimp only at f1 f2 f3 f4 f5 f5' f6 f6' f7 f7' f8 f9
        subst f1
        go_wp2_with fail
        generalize hW : w1.alloc (.cells #[.int .i64 (k : Int), .int .i64 ys, .int .i64 ya, .int .i64 yb] 27) = W
        have hq : SumAt W w1.heap.size ⟨k, ys, ya, yb⟩ := by subst hW; simp [SumAt, go_sem]
        have hsz : w1.heap.size < W.heap.size := by subst hW; simp
        have hBW : Hid (Below w.heap.size w W) := by subst hW; exact HB1.out.alloc HB1.out.size _
        clear HB1 hW
        have HQ : Hid (SumAt W.drew w1.heap.size ⟨k, ys, ya, yb⟩) := hq
        have HZ : Hid (zs.length = k) := hz
        clear hz hq
        obtain ⟨⟨q0, q1, q2, q3⟩, _⟩ := HQ.out
        generalize w1.heap.size = B at *
        have G8 : Hid (jn ⟨k, ys, ya, yb⟩ ⟨0, 0, 0, 0⟩ = ⟨k, ys, ya, yb⟩) := f8
        have G9 : Hid (jn ⟨0, 0, 0, 0⟩ ⟨k, ys, ya, yb⟩ = ⟨k, ys, ya, yb⟩) := f9
        clear f8 f9
        have W1 : IntKind.i64.wrap ((k : Int) * ya) = (k : Int) * ya := IntWalk.i64_in _ (by omega)
        have W2 : IntKind.i64.wrap ((k : Int) * yb) = (k : Int) * yb := IntWalk.i64_in _ (by omega)
        go_region_held3 (fun w' => w'.cell? ⟨B, 0, none⟩ = some (.int .i64 k) ∧ w'.cell? ⟨B, 1, none⟩ = some (.int .i64 ys) ∧ w'.cell? ⟨B, 2, none⟩ = some (.int .i64 ya) ∧ w'.cell? ⟨B, 3, none⟩ = some (.int .i64 yb) ∧ B < w'.heap.size)
          (simp [go_sem, *])
          (first | (go_at_call 9; refine (awake_any _).mono ?_; rintro e w2 ⟨rfl, hb2⟩; have hz2 : B < w2.heap.size := Nat.lt_of_lt_of_le hsz hb2.size; have HQ2 : Hid (SumAt w2 B ⟨k, ys, ya, yb⟩) := SumAt.below (W := W.drew) HQ.out hb2 hsz; obtain ⟨⟨r0, r1, r2, r3⟩, _⟩ := HQ2.out) | (go_at_call_of 14 (Value.agg #[.int .i64 k, .int .i64 ys, .int .i64 ya, .int .i64 yb]); refine (join_any _ _ _ _ _ _ _ _ _ (by omega) (by omega) (by omega) (by omega)).mono ?_; rintro e w3 ⟨rfl, hb3⟩; rw [G8.out]; have hz3 : B < w3.heap.size := Nat.lt_of_lt_of_le hz2 hb3.size; have HQ3 : Hid (SumAt w3 B ⟨k, ys, ya, yb⟩) := SumAt.below HQ2.out hb3 hz2; obtain ⟨⟨s0, s1, s2, s3⟩, _⟩ := HQ3.out) | (go_at_call 14; refine (join_any _ _ _ _ _ _ _ _ _ (by omega) (by omega) (by omega) (by omega)).mono ?_; rintro e w4 ⟨rfl, hb4⟩; rw [G9.out]; have hz4 : B < w4.heap.size := Nat.lt_of_lt_of_le hz3 hb4.size; have HQ4 : Hid (SumAt w4 B ⟨k, ys, ya, yb⟩) := SumAt.below HQ3.out hb4 hz3; obtain ⟨⟨t0, t1, t2, t3⟩, _⟩ := HQ4.out))
        go_wp2
        go_ret
        have k1 := hBW.out.drew.trans (hb2.mono hBW.out.size)
        have k2 := k1.trans (hb3.mono k1.size)
        exact ⟨rfl, k2.trans (hb4.mono k2.size)⟩

theorem numOrder_long (x : Option Addr) (len cap : Nat) (w : World) (hlen : 500 < len) :
    Calls Try.prog 6 #[.slice x len cap] w fun e w' => e = .returned (.bool true) ∧ Below w.heap.size w w' := by
  have h : (500 : Int) < (len : Int) := by omega
  go_enter Try.func6, Try.ntmps6
  go_wp2_with (go_at_call 9; refine (awake_any _).mono ?_; rintro e w2 ⟨rfl, hb2⟩)
  go_ret
  exact ⟨rfl, hb2⟩
end Go.Proofs.Ytbibpigijgmcgaa
