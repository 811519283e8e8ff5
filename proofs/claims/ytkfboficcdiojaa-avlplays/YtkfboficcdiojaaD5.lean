import Derived.Test.YtkfboficcdiojaaD4
import Derived.Test.YtkfboficcdiojaaK6
namespace Go.Proofs.Ytkfboficcdiojaa
open Go.RowKit Go.Arb
set_option linter.unusedVariables false
set_option linter.unusedSimpArgs false

/-- Three blocks of the call's own: the result, a slot's copy, the sum so far. -/
structure Sb (w W : World) (R B U : Nat) (x : Sl) (y : Sm) : Prop where
  bel : Below w.heap.size w W
  r : SumAt W R zero
  b : SlAt W B x
  u : SumAt W U y
  hr : w.heap.size ≤ R ∧ R < W.heap.size
  hb : w.heap.size ≤ B ∧ B < W.heap.size
  hu : w.heap.size ≤ U ∧ U < W.heap.size
  ru : R ≠ U
  bu : B ≠ U
section
variable {w W W' : World} {R B U : Nat} {x : Sl} {y y' : Sm}
theorem Sb.below (h : Sb w W R B U x y) (hb : Below W.heap.size W W') : Sb w W' R B U x y :=
  ⟨h.bel.trans (hb.mono h.bel.size), h.r.below hb h.hr.2, h.b.keep (Keep.ofBelow hb []) h.hb.2 (by simp), h.u.below hb h.hu.2, ⟨h.hr.1, Nat.lt_of_lt_of_le h.hr.2 hb.size⟩, ⟨h.hb.1, Nat.lt_of_lt_of_le h.hb.2 hb.size⟩, ⟨h.hu.1, Nat.lt_of_lt_of_le h.hu.2 hb.size⟩, h.ru, h.bu⟩
theorem keep_putSum (W : World) (U : Nat) (y : Sm) : Keep [U] W (putSum W U y) := (((keep_cell W U 0 _).cellB 1 _).cellB 2 _).cellB 3 _
theorem Sb.put (h : Sb w W R B U x y) : Sb w (putSum W U y') R B U x y' :=
  ⟨below_put h.bel h.hu.1, h.r.put_other h.ru, h.b.keep (keep_putSum W U y') h.hb.2 (by simpa using h.bu), h.u.put, ⟨h.hr.1, by rw [putSum_size]; exact h.hr.2⟩, ⟨h.hb.1, by rw [putSum_size]; exact h.hb.2⟩, ⟨h.hu.1, by rw [putSum_size]; exact h.hu.2⟩, h.ru, h.bu⟩
theorem Sb.drew (h : Sb w W R B U x y) : Sb w W.drew R B U x y := ⟨below_drew h.bel, h.r, h.b, h.u, h.hr, h.hb, h.hu, h.ru, h.bu⟩
theorem Sb.new (w : World) (x : Sl) : Sb w (((w.alloc (.cells #[.int .i64 0, .int .i64 0, .int .i64 0, .int .i64 0] 33)).alloc (.cells #[.int .i64 (x.up : Int), .int .i64 (x.l : Int), .int .i64 (x.r : Int), .int .i64 (x.h : Int), .int .i64 x.wt, .int .i64 x.wa, .int .i64 x.sm.c, .int .i64 x.sm.s, .int .i64 x.sm.a, .int .i64 x.sm.b] 67)).alloc (.cells #[.int .i64 0, .int .i64 0, .int .i64 0, .int .i64 0] 33)) w.heap.size (w.heap.size + 1) (w.heap.size + 2) x zero := by
  refine ⟨b3 _ _ _ _, ?_, ?_, ?_, ⟨by omega, by simp; omega⟩, ⟨by omega, by simp⟩, ⟨by omega, by simp⟩, by omega, by omega⟩
  · simp [SumAt, zero, go_sem]
  · simp [SlAt, go_sem]
  · simp [SumAt, zero, go_sem]
end

/-- What a sum of places is for a walk. -/
def SumTo (p g n cap room : Nat) (t : Nat) (f e : Int) (S : Ss) (y : Sm) : Prop := ∀ W, Pool W p g n cap room S → Calls Try.prog 58 #[.pointer (some ⟨p, 0, none⟩), .int .i64 (t : Int), .int .i64 f, .int .i64 e] W fun r w' => r = .returned (.agg #[.int .i64 y.c, .int .i64 y.s, .int .i64 y.a, .int .i64 y.b]) ∧ Below W.heap.size W w'

set_option maxRecDepth 100000 in
set_option maxHeartbeats 4000000 in
theorem sumWhole (p g n cap room t : Nat) (S : Ss) (xs : List It) (f e : Int) (z : Z S) (hp : Pt S t xs) (htn : t < n) (h1 : f ≤ 0) (h2 : (xs.length : Int) ≤ e) : SumTo p g n cap room t f e S (smL xs) := by
  intro w h
  have hc := hp.c z
  have hsm := hp.sm z
  rw [← hsm]
  have P1 := h.below ((Below.refl w.heap.size w).alloc (Nat.le_refl _) (.cells #[.int .i64 0, .int .i64 0, .int .i64 0, .int .i64 0] 33))
  obtain ⟨_, c1, _, _, k1, k2⟩ := P1.head
  obtain ⟨e0, e1, e2, e3, e4, e5, e6, e7, e8, e9⟩ := P1.slot htn
  have i1 : (0 : Int) ≤ (t : Int) := by omega
  have i2 : (t : Int) < (n : Int) := by omega
  have hce : (S t).sm.c ≤ e := by omega
  have hgw : ¬ g = w.heap.size := by have := h.lt; omega
  have hgw' : ¬ w.heap.size = g := by have := h.lt; omega
  have hpw : ¬ p = w.heap.size := by have := h.lt; omega
  have hpw' : ¬ w.heap.size = p := by have := h.lt; omega
  clear h hp hsm hc h2 P1
  generalize S t = y at *
  obtain ⟨yu, yl, yr, yh, yw, ya, ⟨yc, ys, ym, yM⟩⟩ := y
  dsimp only at *
  go_enter Try.func58, Try.ntmps58
  go_wp2
  refine bodyPost_ret (v := .agg #[.int .i64 yc, .int .i64 ys, .int .i64 ym, .int .i64 yM]) ?_ rfl ⟨rfl, b2 _ _ _⟩
  simp [results, Try.results58, go_sem]

set_option maxRecDepth 100000 in
set_option maxHeartbeats 16000000 in
theorem sumOf_any (p g n cap room : Nat) (S : Ss) (z : Z S) (n0 : 0 < n) : ∀ (k t : Nat) (xs : List It) (f e : Int) (b : Nat), (S t).h ≤ k → Pt S t xs → (f < (xs.length : Int) ∨ f ≤ 0) → 0 ≤ e → e ≤ 8388608 → -(b : Int) ≤ f → b + xs.length ≤ 8388608 → f ≤ 8388608 → (∀ u ∈ ids xs, u < n) → xs.length ≤ 4194304 →
    SumTo p g n cap room t f e S (smL (slc f e xs)) := by
  intro k
  induction k with
  | zero =>
    intro t xs f e b hk hp hf he he2 hb hb2 hf2 hn hl
    have t0 : t = 0 := (hp.h0 z).1 (by omega)
    subst t0
    have hx := hp.of0
    subst hx
    rw [slc_nil]
    exact sumWhole p g n cap room 0 S [] f e z hp n0 (by simp at hf; omega) (by simpa using he)
  | succ k ih =>
    intro t xs f e b hk hp hf he he2 hb hb2 hf2 hn hl
    by_cases t0 : t = 0
    · subst t0
      have hx := hp.of0
      subst hx
      rw [slc_nil]
      exact sumWhole p g n cap room 0 S [] f e z hp n0 (by simp at hf; omega) (by simpa using he)
    have htn := hn t (hp.mem t0)
    by_cases hw : f ≤ 0 ∧ (xs.length : Int) ≤ e
    · rw [slc_all hw.1 hw.2]
      exact sumWhole p g n cap room t S xs f e z hp htn hw.1 hw.2
    obtain ⟨xl, xr, p1, p2, nd⟩ := hp.node t0
    have hlen := nd.length
    have hh := nd.h
    have nl : ∀ u ∈ ids xl, u < n := fun u hu => hn u (by rw [nd.idl]; simp [hu])
    have nr : ∀ u ∈ ids xr, u < n := fun u hu => hn u (by rw [nd.idl]; simp [hu])
    have hln : (S t).l < n := by
      by_cases e0 : (S t).l = 0
      · omega
      · exact nl _ (p1.mem e0)
    have wab := nd.wabd p1 p2
    have ft := nd.fitl
    rw [slc_nd nd f e]
    intro w h
    have I1 : (f < (xl.length : Int)) → Hid (SumTo p g n cap room (S t).l f e S (smL (slc f e xl))) := fun hc => ih (S t).l xl f e b (by omega) p1 (.inl hc) he he2 hb (by omega) hf2 nl (by omega)
    have I2 : ((xl.length : Int) + 1 < e) → Hid (SumTo p g n cap room (S t).r (f - xl.length - 1) (e - xl.length - 1) S (smL (slc (f - xl.length - 1) (e - xl.length - 1) xr))) := fun hc => ih (S t).r xr _ _ (b + xl.length + 1) (by omega) p2 (by omega) (by omega) (by omega) (by omega) (by omega) (by omega) nr (by omega)
    -- the two sums
    generalize hL : slc f e xl = sl1 at *
    generalize hR : slc (f - xl.length - 1) (e - xl.length - 1) xr = sl2 at *
    have fl : FitL sl1 := by rw [← hL]; exact p1.fit.slc
    have fr : FitL sl2 := by rw [← hR]; exact p2.fit.slc
    have l1 : sl1.length ≤ xl.length := by rw [← hL]; exact slc_len
    have l2 : sl2.length ≤ xr.length := by rw [← hR]; exact slc_len
    have fl' : FitL (rz (S t).wa sl1) := by rw [← hL, ← slc_rz]; exact ft.1.slc
    have fr' : FitL (rz (S t).wa sl2) := by rw [← hR, ← slc_rz]; exact ft.2.1.slc
    have n1 : ¬ f < (xl.length : Int) → sl1 = [] := fun hc => by rw [← hL]; exact slc_none (by omega)
    have n2 : ¬ (xl.length : Int) + 1 < e → sl2 = [] := fun hc => by rw [← hR]; exact slc_none' (by omega)
    have C0 := p1.c z
    have CN := hide (fun W (hW : Pool W p g n cap room S) => count_any (S t).l W p g n cap room S hW hln)
    rw [C0] at CN
    have P1 := h.below ((Below.refl w.heap.size w).alloc (Nat.le_refl _) (.cells #[.int .i64 0, .int .i64 0, .int .i64 0, .int .i64 0] 33))
    obtain ⟨_, c1, _, _, k1, k2⟩ := P1.head
    obtain ⟨e0, e1, e2, e3, e4, e5, e6, e7, e8, e9⟩ := P1.slot htn
    clear P1
    have i1 : (0 : Int) ≤ (t : Int) := by omega
    have i2 : (t : Int) < (n : Int) := by omega
    have hcc := hp.c z
    have SB0 := hide (Sb.new w (S t))
    have HP := hide h
    have xb : (xl.length : Int) ≤ 4194304 := by omega
    have hflo : (-8388608 : Int) ≤ f := by omega
    -- whole it isn't
    have hwh : Hid ((f ≤ 0 ∧ ¬ (S t).sm.c ≤ e) ∨ ¬ f ≤ 0) := by
      rw [hcc]
      by_cases h0 : f ≤ 0
      · exact .inl ⟨h0, fun h1 => hw ⟨h0, h1⟩⟩
      · exact .inr h0
    have J12 := hide (show ∀ W : World, Calls Try.prog 73 #[.agg #[.int .i64 (smL sl1).c, .int .i64 (smL sl1).s, .int .i64 (smL sl1).a, .int .i64 (smL sl1).b], .agg #[.int .i64 (smL sl2).c, .int .i64 (smL sl2).s, .int .i64 (smL sl2).a, .int .i64 (smL sl2).b]] W fun r w' => r = .returned (.agg #[.int .i64 (smL (sl1 ++ sl2)).c, .int .i64 (smL (sl1 ++ sl2)).s, .int .i64 (smL (sl1 ++ sl2)).a, .int .i64 (smL (sl1 ++ sl2)).b]) ∧ Below W.heap.size W w' from fun W => by
      have g1 := smL_bd (xs := sl1 ++ sl2) (by rw [FitL.append]; exact ⟨fl, fr⟩) (by simp; omega)
      rw [smL_s] at g1
      have g2 := smL_c sl1
      have g3 := smL_c sl2
      have := join_any (smL sl1).c (smL sl1).s (smL sl1).a (smL sl1).b (smL sl2).c (smL sl2).s (smL sl2).a (smL sl2).b W (by omega) (by omega) (by omega) (by omega)
      rw [smL_append]
      exact this)
    have LF := hide (fun W => lifted_any (sl1 ++ sl2) (smL (sl1 ++ sl2)).c (smL (sl1 ++ sl2)).s (smL (sl1 ++ sl2)).a (smL (sl1 ++ sl2)).b (S t).wa (smL (rz (S t).wa (sl1 ++ sl2))).c (smL (rz (S t).wa (sl1 ++ sl2))).s (smL (rz (S t).wa (sl1 ++ sl2))).a (smL (rz (S t).wa (sl1 ++ sl2))).b W rfl rfl (by simp; omega) (by rw [FitL.append]; exact ⟨fl, fr⟩) (by rw [rz_append, FitL.append]; exact ⟨fl', fr'⟩) wab.1 wab.2)
    have JO := hide (show ∀ W : World, Calls Try.prog 73 #[.agg #[.int .i64 (smL (rz (S t).wa (sl1 ++ sl2))).c, .int .i64 (smL (rz (S t).wa (sl1 ++ sl2))).s, .int .i64 (smL (rz (S t).wa (sl1 ++ sl2))).a, .int .i64 (smL (rz (S t).wa (sl1 ++ sl2))).b], .agg #[.int .i64 1, .int .i64 (S t).wt, .int .i64 (S t).wt, .int .i64 (S t).wt]] W fun r w' => r = .returned (.agg #[.int .i64 (jn (smL (rz (S t).wa (sl1 ++ sl2))) (one (S t).wt)).c, .int .i64 (jn (smL (rz (S t).wa (sl1 ++ sl2))) (one (S t).wt)).s, .int .i64 (jn (smL (rz (S t).wa (sl1 ++ sl2))) (one (S t).wt)).a, .int .i64 (jn (smL (rz (S t).wa (sl1 ++ sl2))) (one (S t).wt)).b]) ∧ Below W.heap.size W w' from fun W => by
      have g1 := smL_bd (xs := rz (S t).wa (sl1 ++ sl2) ++ [(t, (S t).wt)]) (by rw [FitL.append, rz_append, FitL.append, FitL.cons]; exact ⟨⟨fl', fr'⟩, ft.2.2, FitL.nil⟩) (by simp [rz]; omega)
      rw [smL_s, smL_one] at g1
      simp only [one] at g1
      have g2 := smL_c (rz (S t).wa (sl1 ++ sl2))
      rw [rz_length, List.length_append] at g2
      exact join_any _ _ _ _ 1 (S t).wt (S t).wt (S t).wt W (by omega) (by omega) (by omega) (by omega))
    have FIN : Hid (smL (rz (S t).wa sl1 ++ ((if f ≤ (xl.length : Int) ∧ (xl.length : Int) < e then [(t, (S t).wt)] else []) ++ rz (S t).wa sl2)) = if f ≤ (xl.length : Int) ∧ (xl.length : Int) < e then jn (smL (rz (S t).wa (sl1 ++ sl2))) (one (S t).wt) else smL (rz (S t).wa (sl1 ++ sl2))) := by
      refine hide ?_
      split
      · rw [jn_swap, smL_one, ← rz_append]
      · rw [List.nil_append, ← rz_append]
    rw [FIN.out]
    clear FIN fl fr fl' fr' ft wab ih hw hcc C0 p1 p2 nd h hp hL hR l1 l2 nl nr hh hn hb hb2 hlen hl hk hf
    have T1 := hide n1
    have T2 := hide n2
    clear n1 n2
    generalize hSt : S t = y at *
    clear hSt
    generalize hq1 : smL sl1 = q1 at *
    generalize hq2 : smL sl2 = q2 at *
    generalize hq3 : smL (sl1 ++ sl2) = q3 at *
    generalize hq4 : smL (rz y.wa (sl1 ++ sl2)) = q4 at *
    generalize hq5 : jn q4 (one y.wt) = q5 at *
    have HQ := hide (And.intro hq1 (And.intro hq2 hq3))
    clear hq1 hq2 hq3 hq4 hq5
    obtain ⟨yu, yl, yr, yh, yw, ya, ⟨yc, ys, ym, yM⟩⟩ := y
    obtain ⟨q1c, q1s, q1a, q1b⟩ := q1
    obtain ⟨q2c, q2s, q2a, q2b⟩ := q2
    obtain ⟨q3c, q3s, q3a, q3b⟩ := q3
    obtain ⟨q4c, q4s, q4a, q4b⟩ := q4
    obtain ⟨q5c, q5s, q5a, q5b⟩ := q5
    dsimp only at *
    generalize xl.length = here at *
    generalize hif : (if f ≤ (here : Int) ∧ (here : Int) < e then (⟨q5c, q5s, q5a, q5b⟩ : Sm) else ⟨q4c, q4s, q4a, q4b⟩) = qf at *
    have HF := hide hif.symm
    clear hif
    have hgw : ¬ g = w.heap.size := by have := (unhide HP).lt; omega
    have hgw' : ¬ w.heap.size = g := by have := (unhide HP).lt; omega
    have hpw : ¬ p = w.heap.size := by have := (unhide HP).lt; omega
    have hpw' : ¬ w.heap.size = p := by have := (unhide HP).lt; omega
    have hg1 : ¬ g = w.heap.size + 1 := by have := (unhide HP).lt; omega
    have hg1' : ¬ w.heap.size + 1 = g := by have := (unhide HP).lt; omega
    have hp1 : ¬ p = w.heap.size + 1 := by have := (unhide HP).lt; omega
    have hp1' : ¬ w.heap.size + 1 = p := by have := (unhide HP).lt; omega
    have hw1 := hwh
    clear hwh
    have wr1 : IntKind.i64.wrap (f - (here : Int)) = f - (here : Int) := IntWalk.i64_in _ (by omega)
    have wr2 : IntKind.i64.wrap (f - (here : Int) - 1) = f - (here : Int) - 1 := IntWalk.i64_in _ (by omega)
    have wr3 : IntKind.i64.wrap (e - (here : Int)) = e - (here : Int) := IntWalk.i64_in _ (by omega)
    have wr4 : IntKind.i64.wrap (e - (here : Int) - 1) = e - (here : Int) - 1 := IntWalk.i64_in _ (by omega)
    have CNT := hide (unhide CN _ ((unhide HP).below (unhide SB0).bel))
    go_enter Try.func58, Try.ntmps58
    rcases unhide hw1 with ⟨w0, w1⟩ | w0
    all_goals
      go_upto_if 36 with (go_at_call 64; refine (unhide CNT).mono ?_; rintro e w' ⟨rfl, rfl⟩)
      clear c1 e0 e1 e2 e3 e4 e5 e6 e7 e8 e9
      generalize ((w.alloc (.cells #[.int .i64 0, .int .i64 0, .int .i64 0, .int .i64 0] 33)).alloc (.cells #[.int .i64 (yu : Int), .int .i64 (yl : Int), .int .i64 (yr : Int), .int .i64 (yh : Int), .int .i64 yw, .int .i64 ya, .int .i64 yc, .int .i64 ys, .int .i64 ym, .int .i64 yM] 67)).alloc (.cells #[.int .i64 0, .int .i64 0, .int .i64 0, .int .i64 0] 33) = W0 at *
      clear CN CNT
      go_cut [11] (fun a w' => a = .int .i64 (here : Int) ∧ Hid (Sb w w' w.heap.size (w.heap.size + 1) (w.heap.size + 2) ⟨yu, yl, yr, yh, yw, ya, ⟨yc, ys, ym, yM⟩⟩ ⟨q1c, q1s, q1a, q1b⟩))
      case first =>
        obtain ⟨_, b1, _⟩ := (unhide SB0).b
        dsimp only at b1
        by_cases c : f < (here : Int)
        · have II := I1 c
          clear I1 I2 T1 T2
          go_wp2_with fail
          refine (unhide II _ ((unhide HP).below (unhide SB0).bel)).mono ?_
          rintro e w3 ⟨rfl, hb⟩
          have SB1 := hide ((unhide SB0).below hb)
          obtain ⟨⟨u0, u1, u2, u3⟩, f0, f1, f2, f3⟩ := (unhide SB1).u
          clear hb b1 II
          go_wp2
          go_meet
          exact ⟨rfl, (unhide SB1).put (y' := ⟨q1c, q1s, q1a, q1b⟩)⟩
        · have hq := (unhide HQ).1
          rw [unhide T1 (by omega), smL_nil] at hq
          have SB1 := hide (unhide SB0)
          rw [hq] at SB1
          clear I1 I2 T1 T2 hq b1
          go_wp2
          go_meet
          exact ⟨rfl, unhide SB1⟩
      case rest =>
      obtain ⟨rfl, SB1⟩ := hcut
      clear SB0
      go_upto_if 46 with fail
      go_cut [11] (fun a w' => a = .int .i64 (here : Int) ∧ Hid (Sb w w' w.heap.size (w.heap.size + 1) (w.heap.size + 2) ⟨yu, yl, yr, yh, yw, ya, ⟨yc, ys, ym, yM⟩⟩ ⟨q3c, q3s, q3a, q3b⟩))
      case first =>
        by_cases c : (here : Int) + 1 < e
        · have II := I2 c
          have SB2 := hide (unhide SB1).drew
          obtain ⟨_, _, b2', _⟩ := (unhide SB2).b
          obtain ⟨⟨u0, u1, u2, u3⟩, f0, f1, f2, f3⟩ := (unhide SB2).u
          dsimp only at b2' u0 u1 u2 u3
          clear I1 I2 T1 T2
          go_wp2
          go_region_with (first
            | (go_at_call 58; refine (unhide II _ ((unhide HP).below (unhide SB2).bel)).mono ?_; rintro e w3 ⟨rfl, hb⟩; have SB3 := hide ((unhide SB2).below hb); (obtain ⟨⟨a0, a1, a2, a3⟩, h0, h1, h2, h3⟩ := (unhide SB3).u); dsimp only at a0 a1 a2 a3; clear hb)
            | (go_at_call 73; refine (unhide J12 _).mono ?_; rintro e w4 ⟨rfl, hb⟩; have SB4 := hide ((unhide SB3).below hb); (obtain ⟨⟨d0, d1, d2, d3⟩, i0', i1', i2', i3'⟩ := (unhide SB4).u); clear hb))
          all_goals
            go_wp2
            go_meet
            exact ⟨rfl, (unhide SB4).put (y' := ⟨q3c, q3s, q3a, q3b⟩)⟩
        · have hq := (unhide HQ).1
          have hq3 := (unhide HQ).2.2
          rw [unhide T2 (by omega), List.append_nil] at hq3
          rw [hq] at hq3
          have SB2 := hide (unhide SB1)
          rw [hq3] at SB2
          clear I1 I2 T1 T2 hq hq3
          go_wp2
          go_meet
          exact ⟨rfl, unhide SB2⟩
      case rest =>
      obtain ⟨rfl, SB2⟩ := hcut
      clear SB1
      obtain ⟨_, _, _, _, _, b5, _⟩ := (unhide SB2).b
      obtain ⟨⟨u0, u1, u2, u3⟩, f0, f1, f2, f3⟩ := (unhide SB2).u
      dsimp only at b5 u0 u1 u2 u3
      clear I1 I2 T1 T2 J12
      go_wp2_with fail
      refine (unhide LF _).mono ?_
      rintro e w4 ⟨rfl, hb⟩
      have SB3 := hide ((unhide SB2).below hb)
      clear b5 u0 u1 u2 u3 f0 f1 f2 f3 hb
      obtain ⟨⟨u0, u1, u2, u3⟩, f0, f1, f2, f3⟩ := (unhide SB3).u
      have SB4 := hide ((unhide SB3).put (y' := ⟨q4c, q4s, q4a, q4b⟩))
      unfold putSum at SB4
      dsimp only at SB4
      clear SB2 LF
      by_cases c : f ≤ (here : Int) ∧ (here : Int) < e
      · rw [if_pos c] at HF
        obtain ⟨ca, cb⟩ := c
        go_wp2
        generalize (((w4.setCell ⟨w.heap.size + 2, 0, none⟩ (.int .i64 q4c)).setCell ⟨w.heap.size + 2, 1, none⟩ (.int .i64 q4s)).setCell ⟨w.heap.size + 2, 2, none⟩ (.int .i64 q4a)).setCell ⟨w.heap.size + 2, 3, none⟩ (.int .i64 q4b) = W4 at *
        clear u0 u1 u2 u3 f0 f1 f2 f3 SB3
        have SB5 := hide (unhide SB4).drew
        obtain ⟨_, _, _, _, b4, _⟩ := (unhide SB5).b
        obtain ⟨⟨u0, u1, u2, u3⟩, f0, f1, f2, f3⟩ := (unhide SB5).u
        dsimp only at b4 u0 u1 u2 u3
        go_region_with (first
          | (go_at_call 46; refine (one_any yw _).mono ?_; rintro e w5 ⟨rfl, hb⟩; have SB6 := hide ((unhide SB5).below hb); (obtain ⟨⟨a0, a1, a2, a3⟩, h0, h1, h2, h3⟩ := (unhide SB6).u); dsimp only at a0 a1 a2 a3; clear hb)
          | (go_at_call 73; refine (unhide JO _).mono ?_; rintro e w6 ⟨rfl, hb⟩; have SB7 := hide ((unhide SB6).below hb); (obtain ⟨⟨d0, d1, d2, d3⟩, i0', i1', i2', i3'⟩ := (unhide SB7).u); (obtain ⟨⟨r0, r1, r2, r3⟩, g0, g1, g2, g3⟩ := (unhide SB7).r); dsimp only [zero] at r0 r1 r2 r3; have hru := (unhide SB7).ru; clear hb))
        all_goals
          go_wp2
          have SB8 := (unhide SB7).put (y' := ⟨q5c, q5s, q5a, q5b⟩)
          obtain ⟨⟨p0, p1, p2, p3⟩, _⟩ := SumAt.put (x := ⟨q5c, q5s, q5a, q5b⟩) SB8.r
          rw [unhide HF]
          refine bodyPost_ret (v := .agg #[.int .i64 q5c, .int .i64 q5s, .int .i64 q5a, .int .i64 q5b]) ?_ rfl ⟨rfl, below_put (x := ⟨q5c, q5s, q5a, q5b⟩) SB8.bel (Nat.le_refl _)⟩
          simp only [putSum] at p0 p1 p2 p3
          simp [results, Try.results58, go_sem, p0, p1, p2, p3]
      · rw [if_neg c] at HF
        obtain ⟨⟨r0, r1, r2, r3⟩, g0, g1, g2, g3⟩ := (unhide SB3).r
        dsimp only [zero] at r0 r1 r2 r3
        have hru := (unhide SB3).ru
        by_cases ca : f ≤ (here : Int)
        · have cb : ¬ (here : Int) < e := fun h => c ⟨ca, h⟩
          clear c
          go_wp2
          obtain ⟨⟨p0, p1, p2, p3⟩, _⟩ := SumAt.put (x := ⟨q4c, q4s, q4a, q4b⟩) (unhide SB4).r
          rw [unhide HF]
          refine bodyPost_ret (v := .agg #[.int .i64 q4c, .int .i64 q4s, .int .i64 q4a, .int .i64 q4b]) ?_ rfl ⟨rfl, below_put (x := ⟨q4c, q4s, q4a, q4b⟩) (unhide SB4).bel (Nat.le_refl _)⟩
          simp only [putSum] at p0 p1 p2 p3
          simp [results, Try.results58, go_sem, p0, p1, p2, p3]
        · first
          | (exfalso; omega)
          | (clear c
             go_wp2
             obtain ⟨⟨p0, p1, p2, p3⟩, _⟩ := SumAt.put (x := ⟨q4c, q4s, q4a, q4b⟩) (unhide SB4).r
             rw [unhide HF]
             refine bodyPost_ret (v := .agg #[.int .i64 q4c, .int .i64 q4s, .int .i64 q4a, .int .i64 q4b]) ?_ rfl ⟨rfl, below_put (x := ⟨q4c, q4s, q4a, q4b⟩) (unhide SB4).bel (Nat.le_refl _)⟩
             simp only [putSum] at p0 p1 p2 p3
             simp [results, Try.results58, go_sem, p0, p1, p2, p3])
end Go.Proofs.Ytkfboficcdiojaa
