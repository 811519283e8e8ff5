import Derived.Test.YtkfboficcdiojaaC2
import Derived.BigRegion
namespace Go.Proofs.Ytkfboficcdiojaa
open Go.RowKit Go.Arb
set_option linter.unusedVariables false
set_option linter.unusedSimpArgs false

theorem smL_s (xs ys : List It) : (smL (xs ++ ys)).s = (smL xs).s + (smL ys).s := by
  rw [smL_append]
  unfold jn
  split
  · rename_i h; rw [(smL_ok xs).2 h]; simp [zero]
  · split
    · rename_i h; rw [(smL_ok ys).2 h]; simp [zero]
    · rfl
/-- Ten cells of a block hold a slot. -/
def SlAt (w : World) (b : Nat) (x : Sl) : Prop :=
  w.cell? ⟨b, 0, none⟩ = some (.int .i64 (x.up : Int)) ∧ w.cell? ⟨b, 1, none⟩ = some (.int .i64 (x.l : Int)) ∧ w.cell? ⟨b, 2, none⟩ = some (.int .i64 (x.r : Int)) ∧ w.cell? ⟨b, 3, none⟩ = some (.int .i64 (x.h : Int)) ∧
    w.cell? ⟨b, 4, none⟩ = some (.int .i64 x.wt) ∧ w.cell? ⟨b, 5, none⟩ = some (.int .i64 x.wa) ∧ w.cell? ⟨b, 6, none⟩ = some (.int .i64 x.sm.c) ∧ w.cell? ⟨b, 7, none⟩ = some (.int .i64 x.sm.s) ∧ w.cell? ⟨b, 8, none⟩ = some (.int .i64 x.sm.a) ∧ w.cell? ⟨b, 9, none⟩ = some (.int .i64 x.sm.b)
theorem SlAt.keep {W w1 : World} {ks : List Nat} {b : Nat} {x : Sl} (h : SlAt W b x) (hk : Keep ks W w1) (hl : b < W.heap.size) (hb : b ∉ ks) : SlAt w1 b x := by
  have c : ∀ o, w1.cell? ⟨b, o, none⟩ = W.cell? ⟨b, o, none⟩ := fun o => hk.cell (p := ⟨b, o, none⟩) hl hb
  simpa only [SlAt, c] using h

theorem Pool.drew {w : World} {p g n cap room : Nat} {S : Ss} (h : Pool w p g n cap room S) : Pool w.drew p g n cap room S := h.keep ((Keep.refl [] w).drew) (by simp) (by simp)
theorem SlAt.new (w : World) (x : Sl) : SlAt (w.alloc (.cells #[.int .i64 (x.up : Int), .int .i64 (x.l : Int), .int .i64 (x.r : Int), .int .i64 (x.h : Int), .int .i64 x.wt, .int .i64 x.wa, .int .i64 x.sm.c, .int .i64 x.sm.s, .int .i64 x.sm.a, .int .i64 x.sm.b] 67)) w.heap.size x := by
  simp [SlAt, go_sem]
theorem two_new (w : World) (x y : Sl) : ∀ W, W = ((w.alloc (.cells #[.int .i64 (x.up : Int), .int .i64 (x.l : Int), .int .i64 (x.r : Int), .int .i64 (x.h : Int), .int .i64 x.wt, .int .i64 x.wa, .int .i64 x.sm.c, .int .i64 x.sm.s, .int .i64 x.sm.a, .int .i64 x.sm.b] 67)).alloc (.cells #[.int .i64 (y.up : Int), .int .i64 (y.l : Int), .int .i64 (y.r : Int), .int .i64 (y.h : Int), .int .i64 y.wt, .int .i64 y.wa, .int .i64 y.sm.c, .int .i64 y.sm.s, .int .i64 y.sm.a, .int .i64 y.sm.b] 67)).drew →
    Keep [] w W ∧ SlAt W w.heap.size x ∧ SlAt W (w.heap.size + 1) y ∧ W.heap.size = w.heap.size + 2 := by
  rintro W rfl
  have a := SlAt.new w x
  have b := SlAt.new (w.alloc (.cells #[.int .i64 (x.up : Int), .int .i64 (x.l : Int), .int .i64 (x.r : Int), .int .i64 (x.h : Int), .int .i64 x.wt, .int .i64 x.wa, .int .i64 x.sm.c, .int .i64 x.sm.s, .int .i64 x.sm.a, .int .i64 x.sm.b] 67)) y
  generalize hw1 : w.alloc (.cells #[.int .i64 (x.up : Int), .int .i64 (x.l : Int), .int .i64 (x.r : Int), .int .i64 (x.h : Int), .int .i64 x.wt, .int .i64 x.wa, .int .i64 x.sm.c, .int .i64 x.sm.s, .int .i64 x.sm.a, .int .i64 x.sm.b] 67) = w1 at *
  have s1 : w1.heap.size = w.heap.size + 1 := by rw [← hw1]; simp
  have k1 : Keep [] w w1 := by rw [← hw1]; exact (Keep.refl [] w).alloc _
  have k2 := ((Keep.refl [] w1).alloc (.cells #[.int .i64 (y.up : Int), .int .i64 (y.l : Int), .int .i64 (y.r : Int), .int .i64 (y.h : Int), .int .i64 y.wt, .int .i64 y.wa, .int .i64 y.sm.c, .int .i64 y.sm.s, .int .i64 y.sm.a, .int .i64 y.sm.b] 67)).drew
  refine ⟨k1.trans k2 (by simp), a.keep k2 (by omega) (by simp), ?_, ?_⟩
  · rw [← s1]; exact b
  · have : (w1.alloc (.cells #[.int .i64 (y.up : Int), .int .i64 (y.l : Int), .int .i64 (y.r : Int), .int .i64 (y.h : Int), .int .i64 y.wt, .int .i64 y.wa, .int .i64 y.sm.c, .int .i64 y.sm.s, .int .i64 y.sm.a, .int .i64 y.sm.b] 67)).heap.size = w1.heap.size + 1 := by simp
    show (w1.alloc _).heap.size = _
    rw [this, s1]
/-- A pool, and two slots beside it. -/
structure Gb (W : World) (p g n cap room : Nat) (S : Ss) (B1 B2 : Nat) (x y : Sl) : Prop where
  po : Pool W p g n cap room S
  a : SlAt W B1 x
  b : SlAt W B2 y
  la : B1 < W.heap.size
  lb : B2 < W.heap.size
  na : B1 ≠ g
  nb : B2 ≠ g
theorem Gb.below {W W' : World} {p g n cap room B1 B2 : Nat} {S : Ss} {x y : Sl} (h : Gb W p g n cap room S B1 B2 x y) (hb : Below W.heap.size W W') : Gb W' p g n cap room S B1 B2 x y :=
  ⟨h.po.below hb, h.a.keep (Keep.ofBelow hb []) h.la (by simp), h.b.keep (Keep.ofBelow hb []) h.lb (by simp), Nat.lt_of_lt_of_le h.la hb.size, Nat.lt_of_lt_of_le h.lb hb.size, h.na, h.nb⟩
theorem Gb.drew {W : World} {p g n cap room B1 B2 : Nat} {S : Ss} {x y : Sl} (h : Gb W p g n cap room S B1 B2 x y) : Gb W.drew p g n cap room S B1 B2 x y := ⟨h.po.drew, h.a, h.b, h.la, h.lb, h.na, h.nb⟩
set_option maxRecDepth 100000 in
set_option maxHeartbeats 4000000 in
theorem gather_any (t : Nat) (xl xr : List It) (w : World) (p g n cap room : Nat) (S : Ss) (h : Pool w p g n cap room S) (ht : t < n) (hln : (S t).l < n) (hrn : (S t).r < n) (s1 : (S (S t).l).sm = smL xl) (s2 : (S (S t).r).sm = smL xr)
    (f1 : FitL xl) (f2 : FitL xr) (fw : -1099511627776 ≤ (S t).wt ∧ (S t).wt ≤ 1099511627776) (hlen : xl.length + xr.length + 1 ≤ 4194304) (hh1 : (S (S t).l).h ≤ 4194304) (hh2 : (S (S t).r).h ≤ 4194304) :
    Calls Try.prog 76 #[.pointer (some ⟨p, 0, none⟩), .int .i64 (t : Int)] w fun e w' => e = .returned (.tuple #[]) ∧ Pool w' p g n cap room (gatherS S t) ∧ Keep [g] w w' := by
  have g1 := smL_bd (xs := xl ++ [(t, (S t).wt)]) (by rw [FitL.append, FitL.cons]; exact ⟨f1, fw, FitL.nil⟩) (by simp; omega)
  have g2 := smL_bd (xs := (xl ++ [(t, (S t).wt)]) ++ xr) (by rw [FitL.append, FitL.append, FitL.cons]; exact ⟨⟨f1, fw, FitL.nil⟩, f2⟩) (by simp; omega)
  rw [smL_s] at g2
  have g3 := g1
  rw [smL_s, smL_one] at g1
  have g4 := smL_c xl
  have g5 := smL_c xr
  have g6 := smL_c (xl ++ [(t, (S t).wt)])
  rw [List.length_append, List.length_singleton] at g6
  have ej : smL (xl ++ [(t, (S t).wt)]) = jn (smL xl) (one (S t).wt) := by rw [smL_append, smL_one]
  rw [ej] at g2 g3 g6
  have hge : gatherS S t = upd S t { S t with h := 1 + max (S (S t).l).h (S (S t).r).h, sm := jn (jn (smL xl) (one (S t).wt)) (smL xr) } := by rw [gatherS, s1, s2]
  rw [hge]
  clear hge ej
  have hN := h.ne
  have hL := h.lt
  have PP := hide h
  obtain ⟨_, c1, _, _, k1, k2⟩ := h.head
  obtain ⟨_, e1, e2, _, e4, _⟩ := h.slot ht
  obtain ⟨l0, l1, l2, l3, l4, l5, l6, l7, l8, l9⟩ := h.slot hln
  obtain ⟨r0, r1, r2, r3, r4, r5, r6, r7, r8, r9⟩ := h.slot hrn
  have b1 : (0 : Int) ≤ (t : Int) := by omega
  have b2' : (t : Int) < (n : Int) := by omega
  have b3 : (0 : Int) ≤ ((S t).l : Int) := by omega
  have b4 : ((S t).l : Int) < (n : Int) := by omega
  have b5 : (0 : Int) ≤ ((S t).r : Int) := by omega
  have b6 : ((S t).r : Int) < (n : Int) := by omega
  clear h f1 f2
  generalize hsl : S (S t).l = yl at *
  generalize hsr : S (S t).r = yr at *
  have SL := hide (And.intro s1 s2)
  clear hsl hsr s1 s2
  generalize hst : S t = yt at *
  have HST := hide hst
  clear hst
  obtain ⟨tu, tl, tr, th, tw, ta, ts⟩ := yt
  dsimp only at *
  go_enter Try.func76, Try.ntmps76
  go_upto_region 1 with fail
  go_cut [5, 6] (fun a b w' => ∃ B1 B2 : Nat, a = .pointer (some ⟨B1, 0, none⟩) ∧ b = .pointer (some ⟨B2, 0, none⟩) ∧ Hid (Keep [] w w' ∧ SlAt w' B1 yl ∧ SlAt w' B2 yr ∧ w.heap.size ≤ B1 ∧ w.heap.size ≤ B2 ∧ B1 < w'.heap.size ∧ B2 < w'.heap.size))
  case first =>
    go_wp2
    go_region
    all_goals go_wp2
    all_goals go_meet
    all_goals first
      | (obtain ⟨q1, q2, q3, q4⟩ := two_new w yr yl _ rfl
         exact ⟨w.heap.size + 1, w.heap.size, rfl, rfl, q1, q3, q2, by omega, by omega, by omega, by omega⟩)
      | (obtain ⟨q1, q2, q3, q4⟩ := two_new w yl yr _ rfl
         exact ⟨w.heap.size, w.heap.size + 1, rfl, rfl, q1, q2, q3, by omega, by omega, by omega, by omega⟩)
  case rest =>
  obtain ⟨B1, B2, rfl, rfl, HC⟩ := hcut
  obtain ⟨hk, a1, a2, q1, q2, q3, q4⟩ := unhide HC
  have P1 := (unhide PP).keep hk (by simp) (by simp)
  have hB1 : B1 ≠ g := by omega
  have hB2 : B2 ≠ g := by omega
  have KK := hide (hk.mono (js := [g]) (by simp))
  obtain ⟨_, c1', _, _, _, _⟩ := P1.head
  obtain ⟨_, _, _, e3', e4', _, e6', e7', e8', e9'⟩ := P1.slot ht
  obtain ⟨_, _, _, i3, _, _, i6, i7, i8, i9⟩ := P1.soft ht
  rw [unhide HST] at e3' e4' e6' e7' e8' e9'
  dsimp only at e3' e4' e6' e7' e8' e9'
  have hmx : (if yl.h < yr.h then (yr.h : Int) else (yl.h : Int)) = ((max yl.h yr.h : Nat) : Int) := by split <;> omega
  have hmb : ((max yl.h yr.h : Nat) : Int) ≤ 4194304 := by omega
  have P2 := P1.put ht 3 (by omega) ⟨tu, tl, tr, 1 + max yl.h yr.h, tw, ta, ts⟩ (.int .i64 (1 + ((max yl.h yr.h : Nat) : Int))) (by rw [unhide HST]; simp [slV])
  have K2 := hide ((unhide KK).cellB (t * 10 + 3) (.int .i64 (1 + ((max yl.h yr.h : Nat) : Int))))
  have GB : Gb _ p g n cap room _ B1 B2 yl yr := ⟨P2, a1.keep (keep_cell wc g (t * 10 + 3) _) q3 (by simpa using hB1), a2.keep (keep_cell wc g (t * 10 + 3) _) q4 (by simpa using hB2), by simpa using q3, by simpa using q4, hB1, hB2⟩
  have HG := hide GB.drew
  have HY1 := hide (unhide SL).1
  obtain ⟨ys1, ys2⟩ := unhide SL
  obtain ⟨lu, ll, lr, lh, lw, la, ls⟩ := yl
  obtain ⟨ru, rl, rr, rh, rw', ra, rs⟩ := yr
  dsimp only at ys1 ys2
  subst ys1 ys2
  dsimp only at *
  generalize hx1 : smL xl = x1 at *
  generalize hx2 : smL xr = x2 at *
  obtain ⟨cc, cs, ca, cb⟩ := x1
  obtain ⟨dc, ds, da, db⟩ := x2
  have HJ : Hid (∃ x, jn ⟨cc, cs, ca, cb⟩ (one tw) = x) := ⟨_, rfl⟩
  obtain ⟨⟨jc, js, ja, jb⟩, hj⟩ := HJ.out
  have HJ' : Hid (∃ x, jn ⟨jc, js, ja, jb⟩ ⟨dc, ds, da, db⟩ = x) := ⟨_, rfl⟩
  obtain ⟨⟨vc, vs, va, vb⟩, hv⟩ := HJ'.out
  rw [hj] at g2 g3 g6
  have HJJ := hide (And.intro hx1 (And.intro hx2 (And.intro hj hv)))
  simp only [one] at g1
  dsimp only at g1 g2 g3 g4 g5 g6
  have J1 := hide (fun W => join_any cc cs ca cb 1 tw tw tw W (by omega) (by omega) (by omega) (by omega))
  rw [show (⟨1, tw, tw, tw⟩ : Sm) = one tw from rfl, hj] at J1
  have J2 := hide (fun W => join_any jc js ja jb dc ds da db W (by omega) (by omega) (by omega) (by omega))
  rw [hv] at J2
  dsimp only at J1 J2
  obtain ⟨_, _, _, hh1', _, _, u6, u7, u8, u9⟩ := a1
  obtain ⟨_, _, _, hh2', _, _, v6, v7, v8, v9⟩ := a2
  dsimp only at hh1' hh2' u6 u7 u8 u9 v6 v7 v8 v9
  generalize hmm : max lh rh = mm at *
  have HMM := hide hmm
  clear hmm PP HC hk P1 KK P2 GB g1 g2 g3 g4 g5 g6 hj hv HJ HJ' hx1 hx2 HY1 SL c1 e1 e2 e4 l0 l1 l2 l3 l4 l5 l6 l7 l8 l9 r0 r1 r2 r3 r4 r5 r6 r7 r8 r9
  go_wp2
  generalize hW2 : wc.setCell ⟨g, t * 10 + 3, none⟩ (.int .i64 (1 + (mm : Int))) = W2 at *
  have K3 := hide (unhide K2).drew
  obtain ⟨_, _, _, _, o4, _⟩ := (unhide HG).po.slot ht
  obtain ⟨_, _, _, _, _, _, u6, u7, u8, u9⟩ := (unhide HG).a
  obtain ⟨_, _, _, _, _, _, v6, v7, v8, v9⟩ := (unhide HG).b
  rw [upd_same] at o4
  dsimp only at o4 u6 u7 u8 u9 v6 v7 v8 v9
  clear K2 hW2 i3 i6 i7 i8 i9 e3' e4' e6' e7' e8' e9' c1'
  go_region_held3 (fun w' => w'.cell? ⟨g, t * 10 + 4, none⟩ = some (.int .i64 tw) ∧ w'.cell? ⟨B1, 6, none⟩ = some (.int .i64 cc) ∧ w'.cell? ⟨B1, 7, none⟩ = some (.int .i64 cs) ∧ w'.cell? ⟨B1, 8, none⟩ = some (.int .i64 ca) ∧ w'.cell? ⟨B1, 9, none⟩ = some (.int .i64 cb) ∧ w'.cell? ⟨B2, 6, none⟩ = some (.int .i64 dc) ∧ w'.cell? ⟨B2, 7, none⟩ = some (.int .i64 ds) ∧ w'.cell? ⟨B2, 8, none⟩ = some (.int .i64 da) ∧ w'.cell? ⟨B2, 9, none⟩ = some (.int .i64 db))
    (simp [go_sem, *])
    (first
      | (go_at_call 46; refine (one_any tw _).mono ?_; rintro e w3 ⟨rfl, hb⟩; have H3 := hide ((unhide HG).below hb); have K4 := hide ((unhide K3).belowB hb); (obtain ⟨_, _, _, _, oA, _⟩ := (unhide H3).po.slot ht); (obtain ⟨_, _, _, _, _, _, uA6, uA7, uA8, uA9⟩ := (unhide H3).a); (obtain ⟨_, _, _, _, _, _, vA6, vA7, vA8, vA9⟩ := (unhide H3).b); rw [upd_same] at oA; dsimp only at oA uA6 uA7 uA8 uA9 vA6 vA7 vA8 vA9; clear hb)
      | (go_at_call 73; refine (unhide J1 _).mono ?_; rintro e w4 ⟨rfl, hb⟩; have H4 := hide ((unhide H3).below hb); have K5 := hide ((unhide K4).belowB hb); (obtain ⟨_, _, _, _, oB, _⟩ := (unhide H4).po.slot ht); (obtain ⟨_, _, _, _, _, _, uB6, uB7, uB8, uB9⟩ := (unhide H4).a); (obtain ⟨_, _, _, _, _, _, vB6, vB7, vB8, vB9⟩ := (unhide H4).b); rw [upd_same] at oB; dsimp only at oB uB6 uB7 uB8 uB9 vB6 vB7 vB8 vB9; clear hb J1)
      | (go_at_call 73; refine (unhide J2 _).mono ?_; rintro e w5 ⟨rfl, hb⟩; have H5 := hide ((unhide H4).below hb); have K6 := hide ((unhide K5).belowB hb); (obtain ⟨_, _, _, _, oC, _, x6, x7, x8, x9⟩ := (unhide H5).po.slot ht); (obtain ⟨_, _, _, _, _, _, y6, y7, y8, y9⟩ := (unhide H5).po.soft ht); (obtain ⟨_, _, _, _, _, _, uC6, uC7, uC8, uC9⟩ := (unhide H5).a); (obtain ⟨_, _, _, _, _, _, vC6, vC7, vC8, vC9⟩ := (unhide H5).b); rw [upd_same] at oC x6 x7 x8 x9; dsimp only at oC x6 x7 x8 x9 uC6 uC7 uC8 uC9 vC6 vC7 vC8 vC9; have nB1 := (unhide H5).na; have nB2 := (unhide H5).nb; clear hb))
  all_goals
    go_wp2
    go_end0
    obtain ⟨hx1, hx2, hj, hv⟩ := unhide HJJ
    rw [hx1, hx2, hj, hv, unhide HMM]
    refine ⟨rfl, ?_, ((((unhide K6).cellB _ _).cellB _ _).cellB _ _).cellB _ _⟩
    have Q := (unhide H5).po.putSm ht ⟨vc, vs, va, vb⟩
    rw [upd_upd, upd_same] at Q
    exact Q
end Go.Proofs.Ytkfboficcdiojaa
