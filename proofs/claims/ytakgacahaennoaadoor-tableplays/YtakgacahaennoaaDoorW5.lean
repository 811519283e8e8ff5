/- TablePlays. -/
import Derived.Test.YtakgacahaennoaaDoorG
import Derived.Test.YtakgacahaennoaaDoorW
namespace Go.Proofs.YtakgacahaennoaaDoor
open Go.RowKit Go.Arb

/-- What the document's Put leaves, wherever it stands. -/
def RPut : Prop := ∀ (w : World) (q : Nat) (S : List Cell) (ks : List Nat) (id n : Int), RfAt w q S ks →
    Calls Tryd.prog 10 #[.pointer (some ⟨q, 0, none⟩), .int .i64 id, .int .i64 n] w fun e w' => e = .returned (.bool (putB S id)) ∧ ∃ ks', RfAt w' q (putZ S id n) ks' ∧ Keep ks w w' ∧ Grew w ks ks'

/-- A step lies in a block. -/
def OAt (w : World) (b : Nat) (kd id n : Int) : Prop := w.heap[b]? = some (.cells #[.int .i64 kd, .int .i64 id, .int .i64 n] 28 (0, 0))
theorem OAt.cells {w : World} {b : Nat} {kd id n : Int} (h : OAt w b kd id n) : w.cell? ⟨b, 0, none⟩ = some (.int .i64 kd) ∧ w.cell? ⟨b, 1, none⟩ = some (.int .i64 id) ∧ w.cell? ⟨b, 2, none⟩ = some (.int .i64 n) := by
  unfold OAt at h; simp [World.cell?, h]
theorem OAt.keep {w w' : World} {b : Nat} {kd id n : Int} {ks : List Nat} (h : OAt w b kd id n) (hk : Keep ks w w') (hn : b ∉ ks) : OAt w' b kd id n := by
  unfold OAt at *; rw [hk.block b (blk_lt h) hn]; exact h

/-- The program's table and the document's, side by side. -/
structure B3 (w W : World) (p q : Nat) (S : List Cell) (ks : List Nat) (T : List Cell) (js : List Nat) : Prop where
  bel : Below w.heap.size w W
  tb : TbAt W p S ks
  rf : RfAt W q T js
  sep : Sep w.heap.size W [ks, js]
  two : 1 < w.heap.size
section
variable {w W W' : World} {p q : Nat} {S S' T T' : List Cell} {ks ks' js js' : List Nat}
theorem B3.fst (h : B3 w W p q S ks T js) (hk : Keep ks W W') (ha : TbAt W' p S' ks') (hg : Grew W ks ks') : B3 w W' p q S' ks' T js :=
  ⟨hk.below h.bel h.bel.size (h.sep.ge (by simp)), ha, h.rf.keep hk (h.sep.off (by simp)), h.sep.step h.bel.size hk hg ha.lt, h.two⟩
theorem B3.snd (h : B3 w W p q S ks T js) (hk : Keep js W W') (ha : RfAt W' q T' js') (hg : Grew W js js') : B3 w W' p q S ks T' js' := by
  have hs := h.sep.perm (List.Perm.swap _ _ _)
  refine ⟨hk.below h.bel h.bel.size (h.sep.ge (by simp)), h.tb.keep hk (hs.off (by simp)) (fun h1 => ?_), ha, (hs.step h.bel.size hk hg ha.lt).perm (List.Perm.swap _ _ _), h.two⟩
  have := h.sep.ge (a := js) (by simp) 1 h1
  have := h.two
  omega
theorem B3.below (h : B3 w W p q S ks T js) (hb : Below W.heap.size W W') : B3 w W' p q S ks T js :=
  ⟨h.bel.trans (hb.mono h.bel.size), h.tb.below hb, h.rf.below hb, h.sep.up hb.size, h.two⟩
theorem B3.alloc (h : B3 w W p q S ks T js) (o : Obj) : B3 w (W.alloc o) p q S ks T js := h.below ((Below.refl _ _).alloc (Nat.le_refl _) _)
theorem B3.drew (h : B3 w W p q S ks T js) : B3 w W.drew p q S ks T js := h.below (Below.refl _ _).drew
theorem B3.new (h : B3 w W p q S ks T js) : W.heap.size ∉ ks ∧ W.heap.size ∉ js :=
  ⟨fun hm => by have := h.tb.lt _ hm; omega, fun hm => by have := h.rf.lt _ hm; omega⟩
end
/-- A block that is in neither stays in neither. -/
theorem off_grew {W : World} {ks ks' : List Nat} {b : Nat} (hb : b < W.heap.size) (hn : b ∉ ks) (hg : Grew W ks ks') : b ∉ ks' := fun hm => by
  rcases hg b hm with h | h
  · exact hn h
  · omega

/-- What came in: a row of steps. -/
def ARow (w : World) (x : Option Addr) (len : Nat) (zs : List (Int × Int × Int)) : Prop := zs.length = len ∧ (0 < len → ∃ b o, x = some ⟨b, o, none⟩ ∧ b < w.heap.size ∧ ∀ i, i < len → ∃ k a n, zs[i]? = some (k, a, n) ∧ w.cell? ⟨b, o + i * 3, none⟩ = some (.int .i64 k) ∧ w.cell? ⟨b, o + i * 3 + 1, none⟩ = some (.int .i64 a) ∧ w.cell? ⟨b, o + i * 3 + 2, none⟩ = some (.int .i64 n))
theorem ARow.get {w W : World} {x : Option Addr} {len : Nat} {zs : List (Int × Int × Int)} (h : ARow w x len zs) (hb : Below w.heap.size w W) (m : Nat) (hm : m < len) :
    ∃ b o k a n, x = some ⟨b, o, none⟩ ∧ W.cell? ⟨b, o + m * 3, none⟩ = some (.int .i64 k) ∧ W.cell? ⟨b, o + m * 3 + 1, none⟩ = some (.int .i64 a) ∧ W.cell? ⟨b, o + m * 3 + 2, none⟩ = some (.int .i64 n) ∧ b < W.heap.size := by
  obtain ⟨h1, h2⟩ := h
  obtain ⟨b, o, hx, hlt, hc⟩ := h2 (by omega)
  obtain ⟨k, a, n, _, d0, d1, d2⟩ := hc m hm
  refine ⟨b, o, k, a, n, hx, ?_, ?_, ?_, Nat.lt_of_lt_of_le hlt hb.size⟩
  · rw [hb.cell (p := ⟨b, o + m * 3, none⟩) hlt]; exact d0
  · rw [hb.cell (p := ⟨b, o + m * 3 + 1, none⟩) hlt]; exact d1
  · rw [hb.cell (p := ⟨b, o + m * 3 + 2, none⟩) hlt]; exact d2

set_option maxRecDepth 100000 in
set_option maxHeartbeats 4000000 in
theorem plays_walk (rPut : RPut) (x : Option Addr) (len cap : Nat) (zs : List (Int × Int × Int)) (w : World) (hT : Tab w) (hx : ARow w x len zs) (hlen0 : len ≤ maxLen) :
    Calls Tryd.prog 3 #[.slice x len cap] w fun e w' => e = .returned (.bool true) ∧ Below w.heap.size w w' := by
  have RP := hide rPut
  have HT := hide hT
  have HX := hide hx
  clear rPut hT hx
  have hlen := hlen0
  unfold maxLen at hlen
  go_enter Tryd.func3, Tryd.ntmps3
  go_wp2_with fail
  refine (tNew _ (unhide HT)).mono ?_
  rintro e w1 ⟨rfl, a1, b1, z1⟩
  have H1 := hide (And.intro a1 (And.intro b1 z1))
  clear a1 b1 z1
  go_wp2_with fail
  refine (rNew _).mono ?_
  rintro e w2 ⟨rfl, a2, b2, z2⟩
  have H2 : Hid (B3 w w2 w.heap.size w1.heap.size [] [w.heap.size] [] [w1.heap.size]) := by
    obtain ⟨a1, b1, z1⟩ := unhide H1
    refine ⟨b1.trans (b2.mono b1.size), a1.below b2, a2, ?_, (unhide HT).2⟩
    have s1 : Sep w.heap.size w1 [[w.heap.size]] := (Sep.nil _ _).join (W := w) (Nat.le_refl _) b1.size (by simp; omega)
    exact (s1.join (W := w1) (W' := w2) b1.size b2.size (by simp; omega)).perm (List.Perm.swap _ _ _)
  clear a2 b2 z2 H1
  generalize w1.heap.size = q at *
  go_wp2
  go_loopw [5] (fun i w' => ∃ (m : Nat) (S : List Cell) (ks js : List Nat), m ≤ len ∧ m ≤ 300 ∧ i = .int .i64 (m : Int) ∧ Hid (B3 w w' w.heap.size q S ks S js)) (fun i _ => 300 - (intOf i).toNat)
  case atStart => exact ⟨0, [], _, _, Nat.zero_le _, Nat.zero_le _, rfl, H2⟩
  case round =>
    obtain ⟨m, S, ks, js, hml, hm3, rfl, HM⟩ := hrel
    clear H2
    by_cases hcont : m < len ∧ m < 300
    · obtain ⟨hc1, hc2⟩ := hcont
      obtain ⟨b, o, kd, id, nm, rfl, y0, y1, y2, hbl⟩ := (unhide HX).get (unhide HM).bel m hc1
      have e1 : (m : Int) < (len : Int) := by omega
      have e2 : (m : Int) < 300 := by omega
      have e3 : (0 : Int) ≤ (m : Int) := by omega
      by_cases hk0 : kd = 0
      · subst hk0
        go_wp2_with fail
        have H0 := (unhide HM).alloc (.cells #[.int .i64 0, .int .i64 id, .int .i64 nm] 28)
        have ho : OAt (wr.alloc (.cells #[.int .i64 0, .int .i64 id, .int .i64 nm] 28)) wr.heap.size 0 id nm := heap_alloc_new wr _
        have hnw := (unhide HM).new
        generalize wr.alloc (.cells #[.int .i64 0, .int .i64 id, .int .i64 nm] 28) = W0 at *
        generalize wr.heap.size = R at *
        have HD := hide H0.drew
        have hod : OAt W0.drew R 0 id nm := ho
        obtain ⟨q0, q1, q2⟩ := hod.cells
        have HO := hide (And.intro hod hnw)
        clear H0 ho hnw HM y0 y1 y2 hod
        go_region_held3 (fun w' => w'.cell? ⟨R, 1, none⟩ = some (.int .i64 id) ∧ w'.cell? ⟨R, 2, none⟩ = some (.int .i64 nm))
          (simp [go_sem, *])
          (first
            | (go_at_call 9; refine (tPut _ _ _ _ _ _ (unhide HD).tb).mono ?_; rintro e w3 ⟨rfl, ks3, a3, k3, g3⟩; have H3 := hide ((unhide HD).fst k3 a3 g3); have o3 := hide (And.intro ((unhide HO).1.keep k3 (unhide HO).2.1) (And.intro (off_grew (blk_lt (unhide HO).1) (unhide HO).2.1 g3) (unhide HO).2.2)); obtain ⟨s0, s1, s2⟩ := (unhide o3).1.cells; clear a3 k3 g3)
            | (go_at_call 10; refine (unhide RP _ _ _ _ _ _ (unhide H3).rf).mono ?_; rintro e w5 ⟨rfl, js5, a5, k5, g5⟩; have H5 := hide ((unhide H3).snd k5 a5 g5); have o5 := hide (And.intro ((unhide o3).1.keep k5 (unhide o3).2.2) (And.intro (unhide o3).2.1 (off_grew (blk_lt (unhide o3).1) (unhide o3).2.2 g5))); obtain ⟨t0, t1, t2⟩ := (unhide o5).1.cells; clear a5 k5 g5))
        clear q0 q1 q2 s0 s1 s2 t0 t1 t2 HD H3 o3 HO
        have HF := hide (unhide H5)
        have HO := hide (unhide o5)
        clear H5 o5
        obtain ⟨p0, p1, p2⟩ := (unhide HO).1.cells
        go_wp2_with fail
        refine (tGet _ _ _ _ _ (unhide HF).tb).mono ?_
        rintro e w6 ⟨rfl, hw⟩
        subst hw
        go_wp2_with fail
        refine (rGet _ _ _ _ _ (unhide HF).rf).mono ?_
        rintro e w7 ⟨rfl, hw⟩
        subst hw
        clear p0 p1 p2
        generalize (getS (putZ S id nm) id).getD 0 = gx at *
        generalize (getS (putZ S id nm) id).isSome = gb at *
        go_wp2_with fail
        refine (tLen _ _ _ _ (unhide HF).tb).mono ?_
        rintro e w8 ⟨rfl, hw⟩
        subst hw
        go_wp2_with fail
        refine (rLen _ _ _ _ (unhide HF).rf).mono ?_
        rintro e w9 ⟨rfl, hw⟩
        subst hw
        go_wp2_with fail
        refine (tList _ _ _ _ (unhide HF).tb).mono ?_
        rintro e w10 ⟨⟨u1, rfl, r1⟩, b10⟩
        have H10 := hide (And.intro ((unhide HF).below b10) r1)
        clear HF HO b10 r1
        go_wp2_with fail
        refine (rList _ _ _ _ (unhide H10).1.rf).mono ?_
        rintro e w11 ⟨⟨u2, rfl, r2⟩, b11⟩
        have H11 := hide (And.intro ((unhide H10).1.below b11) (And.intro (row_keep (unhide H10).2 (Keep.ofBelow b11 []) (fun _ _ => by simp)) r2))
        clear H10 b11 r2
        go_wp2_with fail
        refine (same_yes _ _ _ _ _ _ (unhide H11).2.1 (unhide H11).2.2).mono ?_
        rintro e w12 ⟨rfl, b12⟩
        have H12 := hide ((unhide H11).1.below b12)
        clear H11 b12
        go_wp2
        go_roundw
        case rel => exact ⟨m + 1, _, ks3, js5, by omega, by omega, by go_num, H12⟩
        case measure => simp [intOf]; omega
      · have hk0' : (kd == 0) = false := by rw [beq_eq_false_iff_ne]; exact hk0
        by_cases hk1 : kd = 1
        · subst hk1
          go_wp2_with fail
          have H0 := (unhide HM).alloc (.cells #[.int .i64 1, .int .i64 id, .int .i64 nm] 28)
          have ho : OAt (wr.alloc (.cells #[.int .i64 1, .int .i64 id, .int .i64 nm] 28)) wr.heap.size 1 id nm := heap_alloc_new wr _
          have hnw := (unhide HM).new
          generalize wr.alloc (.cells #[.int .i64 1, .int .i64 id, .int .i64 nm] 28) = W0 at *
          generalize wr.heap.size = R at *
          have HD := hide H0.drew
          have hod : OAt W0.drew R 1 id nm := ho
          obtain ⟨q0, q1, q2⟩ := hod.cells
          have HO := hide (And.intro hod hnw)
          clear H0 ho hnw HM y0 y1 y2 hod
          go_region_held3 (fun w' => w'.cell? ⟨R, 1, none⟩ = some (.int .i64 id) ∧ w'.cell? ⟨R, 2, none⟩ = some (.int .i64 nm))
            (simp [go_sem, *])
            (first
              | (go_at_call 11; refine (tDrop _ _ _ _ _ (unhide HD).tb).mono ?_; rintro e w3 ⟨rfl, a3, k3⟩; have H3 := hide ((unhide HD).fst k3 a3 (Grew.refl _ _)); have o3 := hide (And.intro ((unhide HO).1.keep k3 (unhide HO).2.1) (And.intro (off_grew (blk_lt (unhide HO).1) (unhide HO).2.1 (Grew.refl _ _)) (unhide HO).2.2)); obtain ⟨s0, s1, s2⟩ := (unhide o3).1.cells; clear a3 k3)
              | (go_at_call 12; refine (rDrop _ _ _ _ _ (unhide H3).rf).mono ?_; rintro e w5 ⟨rfl, js5, a5, k5, g5⟩; have H5 := hide ((unhide H3).snd k5 a5 g5); have o5 := hide (And.intro ((unhide o3).1.keep k5 (unhide o3).2.2) (And.intro (unhide o3).2.1 (off_grew (blk_lt (unhide o3).1) (unhide o3).2.2 g5))); obtain ⟨t0, t1, t2⟩ := (unhide o5).1.cells; clear a5 k5 g5))
          clear q0 q1 q2 s0 s1 s2 t0 t1 t2 HD H3 o3 HO
          have HF := hide (unhide H5)
          have HO := hide (unhide o5)
          clear H5 o5
          obtain ⟨p0, p1, p2⟩ := (unhide HO).1.cells
          go_wp2_with fail
          refine (tGet _ _ _ _ _ (unhide HF).tb).mono ?_
          rintro e w6 ⟨rfl, hw⟩
          subst hw
          go_wp2_with fail
          refine (rGet _ _ _ _ _ (unhide HF).rf).mono ?_
          rintro e w7 ⟨rfl, hw⟩
          subst hw
          clear p0 p1 p2
          generalize (getS (dropS S id) id).getD 0 = gx at *
          generalize (getS (dropS S id) id).isSome = gb at *
          go_wp2_with fail
          refine (tLen _ _ _ _ (unhide HF).tb).mono ?_
          rintro e w8 ⟨rfl, hw⟩
          subst hw
          go_wp2_with fail
          refine (rLen _ _ _ _ (unhide HF).rf).mono ?_
          rintro e w9 ⟨rfl, hw⟩
          subst hw
          go_wp2_with fail
          refine (tList _ _ _ _ (unhide HF).tb).mono ?_
          rintro e w10 ⟨⟨u1, rfl, r1⟩, b10⟩
          have H10 := hide (And.intro ((unhide HF).below b10) r1)
          clear HF HO b10 r1
          go_wp2_with fail
          refine (rList _ _ _ _ (unhide H10).1.rf).mono ?_
          rintro e w11 ⟨⟨u2, rfl, r2⟩, b11⟩
          have H11 := hide (And.intro ((unhide H10).1.below b11) (And.intro (row_keep (unhide H10).2 (Keep.ofBelow b11 []) (fun _ _ => by simp)) r2))
          clear H10 b11 r2
          go_wp2_with fail
          refine (same_yes _ _ _ _ _ _ (unhide H11).2.1 (unhide H11).2.2).mono ?_
          rintro e w12 ⟨rfl, b12⟩
          have H12 := hide ((unhide H11).1.below b12)
          clear H11 b12
          go_wp2
          go_roundw
          case rel => exact ⟨m + 1, _, ks, js5, by omega, by omega, by go_num, H12⟩
          case measure => simp [intOf]; omega
        · have hk1' : (kd == 1) = false := by rw [beq_eq_false_iff_ne]; exact hk1
          go_wp2_with fail
          have H0 := (unhide HM).alloc (.cells #[.int .i64 kd, .int .i64 id, .int .i64 nm] 28)
          have ho : OAt (wr.alloc (.cells #[.int .i64 kd, .int .i64 id, .int .i64 nm] 28)) wr.heap.size kd id nm := heap_alloc_new wr _
          generalize wr.alloc (.cells #[.int .i64 kd, .int .i64 id, .int .i64 nm] 28) = W0 at *
          generalize wr.heap.size = R at *
          have HF := hide H0
          have HO := hide (And.intro ho True.intro)
          clear H0 ho HM y0 y1 y2
          obtain ⟨p0, p1, p2⟩ := (unhide HO).1.cells
          refine (tGet _ _ _ _ _ (unhide HF).tb).mono ?_
          rintro e w6 ⟨rfl, hw⟩
          subst hw
          go_wp2_with fail
          refine (rGet _ _ _ _ _ (unhide HF).rf).mono ?_
          rintro e w7 ⟨rfl, hw⟩
          subst hw
          clear p0 p1 p2
          generalize (getS S id).getD 0 = gx at *
          generalize (getS S id).isSome = gb at *
          go_wp2_with fail
          refine (tLen _ _ _ _ (unhide HF).tb).mono ?_
          rintro e w8 ⟨rfl, hw⟩
          subst hw
          go_wp2_with fail
          refine (rLen _ _ _ _ (unhide HF).rf).mono ?_
          rintro e w9 ⟨rfl, hw⟩
          subst hw
          go_wp2_with fail
          refine (tList _ _ _ _ (unhide HF).tb).mono ?_
          rintro e w10 ⟨⟨u1, rfl, r1⟩, b10⟩
          have H10 := hide (And.intro ((unhide HF).below b10) r1)
          clear HF HO b10 r1
          go_wp2_with fail
          refine (rList _ _ _ _ (unhide H10).1.rf).mono ?_
          rintro e w11 ⟨⟨u2, rfl, r2⟩, b11⟩
          have H11 := hide (And.intro ((unhide H10).1.below b11) (And.intro (row_keep (unhide H10).2 (Keep.ofBelow b11 []) (fun _ _ => by simp)) r2))
          clear H10 b11 r2
          go_wp2_with fail
          refine (same_yes _ _ _ _ _ _ (unhide H11).2.1 (unhide H11).2.2).mono ?_
          rintro e w12 ⟨rfl, b12⟩
          have H12 := hide ((unhide H11).1.below b12)
          clear H11 b12
          go_wp2
          go_roundw
          case rel => exact ⟨m + 1, _, ks, js, by omega, by omega, by go_num, H12⟩
          case measure => simp [intOf]; omega
    · have hcases : (len : Int) ≤ (m : Int) ∨ ((m : Int) < (len : Int) ∧ 300 ≤ (m : Int)) := by omega
      clear hcont
      rcases hcases with hc | ⟨hc, hc'⟩
      all_goals
        go_wp2_with fail
        refine (awake_any _ (unhide HM).tb.tab).mono ?_
        rintro e w6 ⟨rfl, b6⟩
        have H6 := hide ((unhide HM).below b6)
        clear HM b6
        go_wp2
        go_ret
        exact ⟨rfl, (unhide H6).bel⟩
end Go.Proofs.YtakgacahaennoaaDoor
