/- The document's examples. -/
import Derived.Test.YtnjnpcimnnmknaaD
namespace Go.Proofs.Ytnjnpcimnnmknaa
open Go.RowKit Go.Arb

theorem hide {p : Prop} (h : p) : Hid p := h
theorem unhide {p : Prop} (h : Hid p) : p := h

/-- A handle lies in a block. -/
def HdAt (w : World) (b : Nat) (s g : Int) : Prop := w.heap[b]? = some (.cells #[.int .i64 s, .int .i64 g] 29 (0, 0))
theorem HdAt.lt {w : World} {b : Nat} {s g : Int} (h : HdAt w b s g) : b < w.heap.size := blk_lt h
theorem HdAt.cells {w : World} {b : Nat} {s g : Int} (h : HdAt w b s g) : w.cell? ⟨b, 0, none⟩ = some (.int .i64 s) ∧ w.cell? ⟨b, 1, none⟩ = some (.int .i64 g) := by
  unfold HdAt at h; simp [World.cell?, h]
theorem HdAt.keep {w w' : World} {b : Nat} {s g : Int} {ks : List Nat} (h : HdAt w b s g) (hk : Keep ks w w') (hn : b ∉ ks) : HdAt w' b s g := by
  unfold HdAt at *; rw [hk.block b (blk_lt h) hn]; exact h

/-- An arena of the call's own, and some handles beside it. -/
structure Aw (w W : World) (p : Nat) (A : Ab) (ks : List Nat) (hs : List (Nat × Int × Int)) : Prop where
  bel : Below w.heap.size w W
  ar : ArAt W p A ks
  ge : ∀ k ∈ ks, w.heap.size ≤ k
  hd : ∀ h ∈ hs, HdAt W h.1 h.2.1 h.2.2 ∧ h.1 ∉ ks

theorem Aw.take {w W w2 : World} {p : Nat} {A A' : Ab} {ks ks' : List Nat} {hs : List (Nat × Int × Int)} (h : Aw w W p A ks hs) (hk : Keep ks W w2) (ha : ArAt w2 p A' ks') (hg : Grew W ks ks') (s g : Int) :
    Aw w (w2.alloc (.cells #[.int .i64 s, .int .i64 g] 29)) p A' ks' ((w2.heap.size, s, g) :: hs) := by
  have hb2 := hk.below h.bel h.bel.size h.ge
  refine ⟨hb2.alloc hb2.size _, ha.below ((Below.refl _ _).alloc (Nat.le_refl _) _), ge_grew h.ge h.bel.size hg, fun x hx => ?_⟩
  rcases List.mem_cons.1 hx with rfl | hx
  · exact ⟨heap_alloc_new w2 _, fun hm => by have := ha.lt _ hm; simp at this⟩
  · obtain ⟨h1, h2⟩ := h.hd x hx
    refine ⟨(h1.keep hk h2).keep ((Keep.refl [] _).alloc _) (by simp), fun hm => ?_⟩
    rcases hg _ hm with h3 | h3
    · exact h2 h3
    · have := h1.lt; omega
theorem Aw.give {w W w2 : World} {p : Nat} {A A' : Ab} {ks : List Nat} {hs : List (Nat × Int × Int)} (h : Aw w W p A ks hs) (hk : Keep ks W w2) (ha : ArAt w2 p A' ks) : Aw w w2 p A' ks hs :=
  ⟨hk.below h.bel h.bel.size h.ge, ha, h.ge, fun x hx => ⟨(h.hd x hx).1.keep hk (h.hd x hx).2, (h.hd x hx).2⟩⟩
theorem Aw.below {w W w2 : World} {p : Nat} {A : Ab} {ks : List Nat} {hs : List (Nat × Int × Int)} (h : Aw w W p A ks hs) (hb : Below W.heap.size W w2) : Aw w w2 p A ks hs :=
  ⟨h.bel.trans (hb.mono h.bel.size), h.ar.below hb, h.ge, fun x hx => ⟨(h.hd x hx).1.keep (Keep.ofBelow hb []) (by simp), (h.hd x hx).2⟩⟩

set_option maxHeartbeats 1000000 in
theorem awake_any (w : World) : Calls Try.prog 17 #[] w fun e w' => e = .returned (.bool true) ∧ Below w.heap.size w w' := by
  go_enter Try.func17, Try.ntmps17
  go_wp2_with fail
  refine (aNew 2 _ (by omega)).mono ?_
  rintro e w1 ⟨rfl, h1, hb1, hz1⟩
  have H1 : Hid (Aw w w1 w.heap.size (newA 2) [w.heap.size] []) := ⟨hb1, h1, by simp, by simp⟩
  clear h1 hb1 hz1
  go_wp2_with fail
  refine (aTake _ _ _ _ H1.out.ar (by decide)).mono ?_
  rintro e w2 ⟨rfl, ks2, a2, k2, g2⟩
  rw [show takeR (newA 2) = (0, 1, true) from rfl]
  dsimp only
  have H2 := H1.out.take k2 a2 g2 0 1
  rw [show takeA (newA 2) = ⟨[(1, true)], [], 2, 1⟩ from rfl] at H2
  generalize hx : w2.heap.size = x at H2
  have HX := hide hx
  clear hx H1 a2 k2 g2
  go_wp2_with fail
  rw [unhide HX]
  generalize w2.alloc (.cells #[.int .i64 0, .int .i64 1] 29) = W2 at *
  clear HX
  have H2' := hide H2
  clear H2
  refine (aTake _ _ _ _ (unhide H2').ar (by decide)).mono ?_
  rintro e w3 ⟨rfl, ks3, a3, k3, g3⟩
  rw [show takeR ⟨[(1, true)], [], 2, 1⟩ = (1, 1, true) from rfl]
  dsimp only
  have H3 := (unhide H2').take k3 a3 g3 1 1
  rw [show takeA ⟨[(1, true)], [], 2, 1⟩ = ⟨[(1, true), (1, true)], [], 2, 2⟩ from rfl] at H3
  generalize hy : w3.heap.size = y at H3
  have HY := hide hy
  have H3' := hide H3
  clear hy H2' a3 k3 g3 H3
  go_wp2_with fail
  rw [unhide HY]
  generalize w3.alloc (.cells #[.int .i64 1, .int .i64 1] 29) = W3 at *
  clear HY
  refine (aTake _ _ _ _ (unhide H3').ar (by decide)).mono ?_
  rintro e w4 ⟨rfl, ks4, a4, k4, g4⟩
  rw [show takeR ⟨[(1, true), (1, true)], [], 2, 2⟩ = (0, 0, false) from rfl]
  dsimp only
  have H4 := (unhide H3').take k4 a4 g4 0 0
  rw [show takeA ⟨[(1, true), (1, true)], [], 2, 2⟩ = ⟨[(1, true), (1, true)], [], 2, 2⟩ from rfl] at H4
  generalize hz : w4.heap.size = z at H4
  have HZ := hide hz
  have H4' := hide H4
  have hx4 : HdAt w4 x 0 1 := ((unhide H3').hd (x, 0, 1) (by simp)).1.keep k4 ((unhide H3').hd (x, 0, 1) (by simp)).2
  obtain ⟨cx0, cx1⟩ := hx4.cells
  have hxl := hx4.lt
  clear hz H3' a4 k4 g4 H4 hx4
  go_wp2_with fail
  clear cx0 cx1 hxl
  rw [unhide HZ]
  generalize w4.alloc (.cells #[.int .i64 0, .int .i64 0] 29) = W4 at *
  clear HZ
  refine (aGive_yes _ _ _ _ 0 1 (unhide H4').ar rfl).mono ?_
  rintro e w5 ⟨rfl, a5, k5⟩
  have H5 := (unhide H4').give k5 a5
  rw [show giveA ⟨[(1, true), (1, true)], [], 2, 2⟩ 0 = ⟨[(1, false), (1, true)], [0], 2, 2⟩ from rfl] at H5
  have H5' := hide H5
  clear H4' a5 k5 H5
  go_wp2_with fail
  refine (aTake _ _ _ _ (unhide H5').ar (by decide)).mono ?_
  rintro e w6 ⟨rfl, ks6, a6, k6, g6⟩
  rw [show takeR ⟨[(1, false), (1, true)], [0], 2, 2⟩ = (0, 2, true) from rfl]
  dsimp only
  have H6 := (unhide H5').take k6 a6 g6 0 2
  rw [show takeA ⟨[(1, false), (1, true)], [0], 2, 2⟩ = ⟨[(2, true), (1, true)], [], 2, 3⟩ from rfl] at H6
  generalize hv : w6.heap.size = v at H6
  have HV := hide hv
  have H6' := hide H6
  have hx6 : HdAt w6 x 0 1 := ((unhide H5').hd (x, 0, 1) (by simp)).1.keep k6 ((unhide H5').hd (x, 0, 1) (by simp)).2
  have hy6 : HdAt w6 y 1 1 := ((unhide H5').hd (y, 1, 1) (by simp)).1.keep k6 ((unhide H5').hd (y, 1, 1) (by simp)).2
  obtain ⟨cx0, cx1⟩ := hx6.cells
  obtain ⟨cy0, cy1⟩ := hy6.cells
  have hxl := hx6.lt
  have hyl := hy6.lt
  clear hv H5' a6 k6 g6 H6 hx6 hy6
  go_wp2_with fail
  clear cx0 cx1 hxl cy0 cy1 hyl
  rw [unhide HV]
  generalize w6.alloc (.cells #[.int .i64 0, .int .i64 2] 29) = W6 at *
  clear HV
  refine (aLive _ _ _ _ 0 1 (unhide H6').ar).mono ?_
  rintro e w7 ⟨rfl, b7⟩
  rw [show liveA ⟨[(2, true), (1, true)], [], 2, 3⟩ 0 1 = false from rfl]
  have H7 := (unhide H6').below b7
  have H7' := hide H7
  obtain ⟨cv0, cv1⟩ := (H7.hd (v, 0, 2) (by simp)).1.cells
  clear H6' b7 H7
  go_wp2_with fail
  refine (aLive _ _ _ _ 0 2 (unhide H7').ar).mono ?_
  rintro e w8 ⟨rfl, b8⟩
  rw [show liveA ⟨[(2, true), (1, true)], [], 2, 3⟩ 0 2 = true from rfl]
  have H8 := (unhide H7').below b8
  have H8' := hide H8
  clear H7' b8 H8 cv0 cv1
  go_wp2_with fail
  refine (aLen _ _ _ _ (unhide H8').ar).mono ?_
  rintro e w9 ⟨rfl, hw⟩
  subst hw
  rw [show lenA ⟨[(2, true), (1, true)], [], 2, 3⟩ = 2 from rfl]
  obtain ⟨cx0, cx1⟩ := ((unhide H8').hd (x, 0, 1) (by simp)).1.cells
  go_wp2_with fail
  refine (aGive_no _ _ _ _ 0 1 (unhide H8').ar rfl).mono ?_
  rintro e w10 ⟨rfl, b10⟩
  have H10 := (unhide H8').below b10
  have H10' := hide H10
  clear H8' b10 H10 cx0 cx1
  go_wp2
  go_ret
  exact ⟨rfl, (unhide H10').bel⟩
end Go.Proofs.Ytnjnpcimnnmknaa
