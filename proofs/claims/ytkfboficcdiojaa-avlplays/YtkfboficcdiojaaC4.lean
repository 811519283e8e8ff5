import Derived.Test.YtkfboficcdiojaaC3
namespace Go.Proofs.Ytkfboficcdiojaa
open Go.RowKit Go.Arb
set_option linter.unusedVariables false
set_option linter.unusedSimpArgs false

theorem below_drewN {B : Nat} {w w' : World} (h : Below B w w') (n : Nat) : Below B w (w'.drewN n) := ⟨h.os, h.tape, h.output, h.size, h.block⟩
theorem pre_hold {S : Ss} {t l r : Nat} (hl : l ≠ t) (hr : r ≠ t) : (setUp (setUp (upd S t { S t with l := l, r := r }) l t) r t) t = { S t with l := l, r := r } ∧ ∀ u, u ≠ t → Bt ((setUp (setUp (upd S t { S t with l := l, r := r }) l t) r t) u) (S u) := by
  refine ⟨by rw [setUp_ne hr.symm, setUp_ne hl.symm, upd_same], fun u hu => ?_⟩
  have k1 := setUp_bt (S := setUp (upd S t { S t with l := l, r := r }) l t) (c := r) (t := t) (u := u)
  have k2 := setUp_bt (S := upd S t { S t with l := l, r := r }) (c := l) (t := t) (u := u)
  rw [upd_ne _ _ hu] at k2
  exact ⟨k1.1.trans k2.1, k1.2.1.trans k2.2.1, k1.2.2.1.trans k2.2.2.1, k1.2.2.2.1.trans k2.2.2.2.1, k1.2.2.2.2.1.trans k2.2.2.2.2.1, k1.2.2.2.2.2.trans k2.2.2.2.2.2⟩

theorem Pool.putUp {w : World} {p g n cap room : Nat} {S : Ss} (h : Pool w p g n cap room S) {c t : Nat} (hc : c < n) (h0 : c ≠ 0) : Pool (w.setCell ⟨g, c * 10, none⟩ (.int .i64 (t : Int))) p g n cap room (setUp S c t) := by
  have := h.put hc 0 (by omega) { S c with up := t } (.int .i64 (t : Int)) rfl
  rw [setUp, if_neg h0]
  exact this
theorem Pool.putLR {w : World} {p g n cap room : Nat} {S : Ss} (h : Pool w p g n cap room S) {t l r : Nat} (ht : t < n) : Pool ((w.setCell ⟨g, t * 10 + 1, none⟩ (.int .i64 (l : Int))).setCell ⟨g, t * 10 + 2, none⟩ (.int .i64 (r : Int))) p g n cap room (upd S t { S t with l := l, r := r }) := by
  have a := h.put ht 1 (by omega) { S t with l := l } (.int .i64 (l : Int)) rfl
  have b := a.put ht 2 (by omega) { S t with l := l, r := r } (.int .i64 (r : Int)) (by rw [upd_same]; rfl)
  rw [upd_upd] at b
  exact b

set_option maxHeartbeats 4000000 in
theorem hold_weak (t l r : Nat) (xl xr : List It) (w : World) (p g n cap room : Nat) (S : Ss) (h : Pool w p g n cap room S) (htn : t < n) (hln : l < n) (hrn : r < n) (el : l ≠ t) (er : r ≠ t) (hlr : l ≠ 0 → l ≠ r)
    (m1 : (S l).sm = smL xl) (m2 : (S r).sm = smL xr) (fl : FitL xl) (fr : FitL xr) (hh1 : (S l).h ≤ 4194304) (hh2 : (S r).h ≤ 4194304)
    (fw : -1099511627776 ≤ (S t).wt ∧ (S t).wt ≤ 1099511627776) (hlen : xl.length + xr.length + 1 ≤ 4194304) :
    Calls Try.prog 70 #[.pointer (some ⟨p, 0, none⟩), .int .i64 (t : Int), .int .i64 (l : Int), .int .i64 (r : Int)] w fun e w' => e = .returned (.tuple #[]) ∧ Pool w' p g n cap room (holdS S t l r) ∧ Keep [g] w w' := by
  obtain ⟨q1, q2⟩ := pre_hold (S := S) el er
  have P0 := h.putLR (l := l) (r := r) htn
  have G1 := hide (fun W (hW : Pool W p g n cap room (setUp (setUp (upd S t { S t with l := l, r := r }) l t) r t)) => gather_any t xl xr W p g n cap room _ hW htn (by rw [q1]; exact hln) (by rw [q1]; exact hrn) (by rw [q1]; dsimp only; rw [(q2 l el).2.2.2.2.2]; exact m1) (by rw [q1]; dsimp only; rw [(q2 r er).2.2.2.2.2]; exact m2) fl fr (by rw [q1]; exact fw) hlen (by rw [q1]; dsimp only; rw [(q2 l el).2.2.1]; omega) (by rw [q1]; dsimp only; rw [(q2 r er).2.2.1]; omega))
  rw [holdS]
  have hne := h.ne.symm
  obtain ⟨_, c1, _, _, k1, k2⟩ := h.head
  obtain ⟨_, e1, e2, _⟩ := h.slot htn
  obtain ⟨_, f1, f2, _⟩ := h.soft htn
  obtain ⟨i0, _⟩ := h.slot hln
  obtain ⟨j0, _⟩ := h.soft hln
  obtain ⟨u0, _⟩ := h.slot hrn
  obtain ⟨v0, _⟩ := h.soft hrn
  have b1 : (0 : Int) ≤ (t : Int) := by omega
  have b2' : (t : Int) < (n : Int) := by omega
  have b3 : (0 : Int) ≤ (l : Int) := by omega
  have b4 : (l : Int) < (n : Int) := by omega
  have b5 : (0 : Int) ≤ (r : Int) := by omega
  have b6 : (r : Int) < (n : Int) := by omega
  have PP := hide P0
  clear h q1 q2 m1 m2 fl fr P0 hh1 hh2
  by_cases l0 : l = 0
  · rw [show setUp (upd S t { S t with l := l, r := r }) l t = upd S t { S t with l := l, r := r } from by rw [setUp, if_pos l0]] at G1 ⊢
    clear hlr
    subst l0
    by_cases r0 : r = 0
    · rw [show setUp (upd S t { S t with l := 0, r := r }) r t = upd S t { S t with l := 0, r := r } from by rw [setUp, if_pos r0]] at G1 ⊢
      subst r0
      have A := hide (unhide G1 _ (unhide PP))
      clear G1 PP
      go_enter Try.func70, Try.ntmps70
      go_wp2_with fail
      refine (unhide A).mono ?_
      rintro e w1 ⟨rfl, hP, hK⟩
      have R := hide (And.intro hP (((keep_cell w g _ _).cellB _ _).tr hK))
      clear hP hK A
      go_wp2
      go_end0
      exact ⟨rfl, unhide R⟩
    · have r0' : ((r : Int) == 0) = false := by rw [beq_eq_false_iff_ne]; omega
      have A := hide (unhide G1 _ ((unhide PP).putUp hrn r0))
      clear G1 PP
      go_enter Try.func70, Try.ntmps70
      go_wp2_with fail
      refine (unhide A).mono ?_
      rintro e w1 ⟨rfl, hP, hK⟩
      have R := hide (And.intro hP ((((keep_cell w g _ _).cellB _ _).cellB _ _).tr hK))
      clear hP hK A
      go_wp2
      go_end0
      exact ⟨rfl, unhide R⟩
  · have l0' : ((l : Int) == 0) = false := by rw [beq_eq_false_iff_ne]; omega
    by_cases r0 : r = 0
    · rw [show setUp (setUp (upd S t { S t with l := l, r := r }) l t) r t = setUp (upd S t { S t with l := l, r := r }) l t from by rw [setUp, if_pos r0]] at G1 ⊢
      clear hlr
      subst r0
      have A := hide (unhide G1 _ ((unhide PP).putUp hln l0))
      clear G1 PP
      go_enter Try.func70, Try.ntmps70
      go_wp2_with fail
      refine (unhide A).mono ?_
      rintro e w1 ⟨rfl, hP, hK⟩
      have R := hide (And.intro hP ((((keep_cell w g _ _).cellB _ _).cellB _ _).tr hK))
      clear hP hK A
      go_wp2
      go_end0
      exact ⟨rfl, unhide R⟩
    · have r0' : ((r : Int) == 0) = false := by rw [beq_eq_false_iff_ne]; omega
      have A := hide (unhide G1 _ (((unhide PP).putUp hln l0).putUp hrn r0))
      have l1 : ¬ l = r := hlr l0
      have l2 : ¬ r = l := fun e => l1 e.symm
      clear hlr
      clear G1 PP
      go_enter Try.func70, Try.ntmps70
      go_wp2_with fail
      refine (unhide A).mono ?_
      rintro e w1 ⟨rfl, hP, hK⟩
      have R := hide (And.intro hP (((((keep_cell w g _ _).cellB _ _).cellB _ _).cellB _ _).tr hK))
      clear hP hK A
      go_wp2
      go_end0
      exact ⟨rfl, unhide R⟩

theorem hold_any (t l r : Nat) (xl xr : List It) (w : World) (p g n cap room : Nat) (S : Ss) (h : Pool w p g n cap room S) (z : Z S) (p1 : Pt S l xl) (p2 : Pt S r xr) (ht : t ≠ 0) (htn : t < n) (ap : Ap S t xl xr)
    (fw : -1099511627776 ≤ (S t).wt ∧ (S t).wt ≤ 1099511627776) (hlen : xl.length + xr.length + 1 ≤ 4194304) :
    Calls Try.prog 70 #[.pointer (some ⟨p, 0, none⟩), .int .i64 (t : Int), .int .i64 (l : Int), .int .i64 (r : Int)] w fun e w' => e = .returned (.tuple #[]) ∧ Pool w' p g n cap room (holdS S t l r) ∧ Keep [g] w w' := by
  have hh1 := p1.h_le z
  have hh2 := p2.h_le z
  exact hold_weak t l r xl xr w p g n cap room S h htn (p1.lt h z (by omega)) (p2.lt h z (by omega)) (p1.top_ne ht ap.tl) (p2.top_ne ht ap.tr) (fun h0 e => ap.lr _ (p1.mem h0) (by have h1 : r ≠ 0 := e ▸ h0; rw [e]; exact p2.mem h1)) (p1.sm z) (p2.sm z) p1.fit p2.fit (by omega) (by omega) fw hlen

set_option maxHeartbeats 1000000 in
theorem crown_any (t : Nat) (w : World) (p g n cap room : Nat) (S : Ss) (h : Pool w p g n cap room S) (htn : t < n) :
    Calls Try.prog 54 #[.pointer (some ⟨p, 0, none⟩), .int .i64 (t : Int)] w fun e w' => e = .returned (.tuple #[]) ∧ Pool w' p g n cap room (setUp S t 0) ∧ Keep [g] w w' := by
  have hne := h.ne.symm
  obtain ⟨_, c1, _, _, k1, k2⟩ := h.head
  obtain ⟨e0, _⟩ := h.slot htn
  obtain ⟨f0, _⟩ := h.soft htn
  have b1 : (0 : Int) ≤ (t : Int) := by omega
  have b2' : (t : Int) < (n : Int) := by omega
  by_cases t0 : t = 0
  · have t0' : ((t : Int) == 0) = true := by rw [beq_iff_eq]; omega
    rw [show setUp S t 0 = S from by rw [setUp, if_pos t0]]
    have HH := hide h
    clear h
    go_enter Try.func54, Try.ntmps54
    go_wp2
    go_end0
    exact ⟨rfl, unhide HH, Keep.refl _ _⟩
  · have t0' : ((t : Int) == 0) = false := by rw [beq_eq_false_iff_ne]; omega
    have HH := hide (h.putUp (t := 0) htn t0)
    clear h
    go_enter Try.func54, Try.ntmps54
    go_wp2
    go_end0
    exact ⟨rfl, unhide HH, keep_cell _ _ _ _⟩

set_option maxHeartbeats 1000000 in
theorem count_any (t : Nat) (w : World) (p g n cap room : Nat) (S : Ss) (h : Pool w p g n cap room S) (htn : t < n) :
    Calls Try.prog 64 #[.pointer (some ⟨p, 0, none⟩), .int .i64 (t : Int)] w fun e w' => e = .returned (.int .i64 (S t).sm.c) ∧ w = w' := by
  obtain ⟨_, c1, _, _, k1, k2⟩ := h.head
  obtain ⟨_, _, _, _, _, _, e6, _⟩ := h.slot htn
  have b1 : (0 : Int) ≤ (t : Int) := by omega
  have b2' : (t : Int) < (n : Int) := by omega
  clear h
  go_enter Try.func64, Try.ntmps64
  go_wp2
  go_ret
  exact ⟨rfl, rfl⟩

set_option maxRecDepth 100000 in
set_option maxHeartbeats 4000000 in
theorem lean_any (t : Nat) (w : World) (p g n cap room : Nat) (S : Ss) (h : Pool w p g n cap room S) (htn : t < n) (hln : (S t).l < n) (hrn : (S t).r < n) (hh1 : (S (S t).l).h ≤ 4194304) (hh2 : (S (S t).r).h ≤ 4194304) :
    Calls Try.prog 80 #[.pointer (some ⟨p, 0, none⟩), .int .i64 (t : Int)] w fun e w' => e = .returned (.int .i64 (((S (S t).l).h : Int) - ((S (S t).r).h : Int))) ∧ Pool w' p g n cap room S ∧ Keep [g] w w' := by
  have hne := h.ne.symm
  have hL := h.lt
  obtain ⟨_, c1, _, _, k1, k2⟩ := h.head
  obtain ⟨e0, e1, e2, e3, e4, e5, e6, e7, e8, e9⟩ := h.slot htn
  obtain ⟨_, _, _, i3, _⟩ := h.slot hln
  obtain ⟨_, _, _, j3, _⟩ := h.slot hrn
  have b1 : (0 : Int) ≤ (t : Int) := by omega
  have b2' : (t : Int) < (n : Int) := by omega
  have b3 : (0 : Int) ≤ ((S t).l : Int) := by omega
  have b4 : ((S t).l : Int) < (n : Int) := by omega
  have b5 : (0 : Int) ≤ ((S t).r : Int) := by omega
  have b6 : ((S t).r : Int) < (n : Int) := by omega
  have hb1 : ((S (S t).l).h : Int) ≤ 4194304 := by omega
  have hb2 : ((S (S t).r).h : Int) ≤ 4194304 := by omega
  have PP := hide h
  clear h
  generalize (S (S t).l).h = lh at *
  generalize (S (S t).r).h = rh at *
  generalize S t = y at *
  obtain ⟨xu, xl', xr', xh, xw, xa, ⟨xc, xs, xm, xM⟩⟩ := y
  dsimp only at *
  go_enter Try.func80, Try.ntmps80
  go_wp2
  go_quiet (fail)
  go_wp2
  go_ret
  have hb := below_drewN ((Below.refl w.heap.size w).alloc (Nat.le_refl _) (.cells #[.int .i64 (xu : Int), .int .i64 (xl' : Int), .int .i64 (xr' : Int), .int .i64 (xh : Int), .int .i64 xw, .int .i64 xa, .int .i64 xc, .int .i64 xs, .int .i64 xm, .int .i64 xM] 67)) nq
  exact ⟨rfl, (unhide PP).below hb, Keep.ofBelow hb _⟩
end Go.Proofs.Ytkfboficcdiojaa
