import Derived.Test.YtkfboficcdiojaaD14
import Derived.BigRegion
namespace Go.Proofs.Ytkfboficcdiojaa
open Go.RowKit Go.Arb
set_option linter.unusedVariables false
set_option linter.unusedSimpArgs false

section
variable {w w' : World} {p g n cap room : Nat} {S S' : Ss} {A : Se}
/-- What a slot that is there, and those next to it, say. -/
structure Nb (S : Ss) (n t : Nat) (xl xr xs : List It) : Prop where
  nd : Nd S t xl xr xs
  pl : Pt S (S t).l xl
  pr : Pt S (S t).r xr
  len : xs.length ≤ 4194304
  ln : (S t).l < n
  rn : (S t).r < n
  un : (S t).up < n
  up : (S t).up = 0 ∨ (S (S t).up).l = t ∨ (S (S t).up).r = t
  lr : (S t).l ≠ 0 → (S t).l ≠ (S t).r
  z : Z S
theorem PA.nb (h : PA w p g n cap S A) {t : Nat} (ht : (S t).h ≠ 0) : ∃ xl xr xs, Nb S n t xl xr xs := by
  have : ∃ v ∈ A.L.flatten, v + 1 = t := Classical.byContradiction fun hn => ht (by rw [h.iv.out t (fun v hv e => hn ⟨v, hv, e⟩)]; rfl)
  obtain ⟨v, hv, rfl⟩ := this
  obtain ⟨r, tr⟩ := h.iv.tree hv
  obtain ⟨k, xs, hs⟩ := Sub.ex tr.pt (v + 1) tr.mem
  obtain ⟨xl, xr, p1, p2, nd⟩ := (hs.pt tr.pt).node (by omega)
  have hl := hs.len
  have hl4 := tr.len
  have ap := nd.ap (hs.nd tr.nd)
  refine ⟨xl, xr, xs, nd, p1, p2, by omega, p1.lt h.po h.iv.z h.n0, p2.lt h.po h.iv.z h.n0, ?_, ?_, fun h0 e => ap.lr _ (p1.mem h0) (by rw [e]; exact p2.mem (by rw [← e]; exact h0)), h.iv.z⟩
  · cases k with
    | zero => rw [hs.up0 tr.up]; exact h.n0
    | succ k =>
      obtain ⟨u, zs, yl, yr, e1, u0, k0, _⟩ := hs.up
      rw [e1]
      exact tr.pt.ltn h.po h.iv.z u (k0.mem tr.pt u0)
  · cases k with
    | zero => exact .inl (hs.up0 tr.up)
    | succ k =>
      obtain ⟨u, zs, yl, yr, e1, u0, k0, _, _, _, h1, _⟩ := hs.up
      rw [e1]
      rcases h1 with ⟨h', _⟩ | ⟨h', _⟩
      · exact .inr (.inl h'.symm)
      · exact .inr (.inr h'.symm)

set_option maxHeartbeats 1000000 in
theorem isSlot_any (t : Nat) (h : Pool w p g n cap room S) (htn : t < n) : Calls Try.prog 84 #[.pointer (some ⟨p, 0, none⟩), .int .i64 (t : Int)] w fun e w' => e = .returned (.bool true) ∧ w = w' := by
  obtain ⟨_, c1, _, _, k1, k2⟩ := h.head
  have i1 : (0 : Int) ≤ (t : Int) := by omega
  have i2 : (t : Int) < (n : Int) := by omega
  clear h
  go_enter Try.func84, Try.ntmps84
  go_wp2
  go_ret
  exact ⟨rfl, rfl⟩
set_option maxHeartbeats 1000000 in
theorem isBelow_any (c t : Nat) (h : Pool w p g n cap room S) (hcn : c < n) (hc : c ≠ 0 → (S c).up = t) : Calls Try.prog 85 #[.pointer (some ⟨p, 0, none⟩), .int .i64 (c : Int), .int .i64 (t : Int)] w fun e w' => e = .returned (.bool true) ∧ w = w' := by
  obtain ⟨_, c1, _, _, k1, k2⟩ := h.head
  obtain ⟨e0, _⟩ := h.slot hcn
  have i1 : (0 : Int) ≤ (c : Int) := by omega
  have i2 : (c : Int) < (n : Int) := by omega
  by_cases c0 : c = 0
  · subst c0
    clear h hc
    go_enter Try.func85, Try.ntmps85
    go_wp2
    go_ret
    exact ⟨rfl, rfl⟩
  · have c1' : ((c : Int) == 0) = false := by rw [beq_eq_false_iff_ne]; omega
    rw [hc c0] at e0
    clear h hc c0
    go_enter Try.func85, Try.ntmps85
    go_wp2
    go_ret
    exact ⟨by simp, rfl⟩
set_option maxRecDepth 100000 in
set_option maxHeartbeats 4000000 in
theorem listFits_any (h : PA w p g n cap S A) : Calls Try.prog 65 #[.pointer (some ⟨p, 0, none⟩)] w fun e w' => e = .returned (.bool true) ∧ Below w.heap.size w w' := by
  obtain ⟨c0, c1, _, _, k1, k2⟩ := h.po.head
  have n0 := h.n0
  have nn := h.nn
  have n4 := h.iv.n
  obtain ⟨e0, e1, e2, e3, e4, e5, e6, e7, e8, e9⟩ := h.po.slot (t := 0) h.n0
  rw [h.iv.z] at e0 e1 e2 e3 e4 e5 e6 e7 e8 e9
  simp only [Sl.zero, zero, Nat.zero_mul, Nat.zero_add] at e0 e1 e2 e3 e4 e5 e6 e7 e8 e9
  have i1 : (A.n : Int) ≤ 4194304 := by omega
  have i2 : (1 : Int) ≤ (n : Int) := by omega
  have i3 : (n : Int) - 1 ≤ (A.n : Int) := by omega
  have i4 : (0 : Int) < (n : Int) := by omega
  have wr : IntKind.i64.wrap ((n : Int) - 1) = (n : Int) - 1 := IntWalk.i64_in _ (by omega)
  clear h
  generalize A.n = room at *
  go_enter Try.func65, Try.ntmps65
  go_wp2
  go_quiet (fail)
  go_wp2
  go_ret
  exact ⟨rfl, below_drewN (Below.refl _ _) _⟩
set_option maxRecDepth 100000 in
set_option maxHeartbeats 4000000 in
theorem linksFit_any (t : Nat) (xl xr xs : List It) (h : Pool w p g n cap room S) (nb : Nb S n t xl xr xs) (htn : t < n) : Calls Try.prog 77 #[.pointer (some ⟨p, 0, none⟩), .int .i64 (t : Int)] w fun e w' => e = .returned (.bool true) ∧ Below w.heap.size w w' := by
  have G0 := hide (Gs.new h (S t))
  have HB0 := hide ((Below.refl w.heap.size w).alloc (Nat.le_refl _) (.cells #[.int .i64 ((S t).up : Int), .int .i64 ((S t).l : Int), .int .i64 ((S t).r : Int), .int .i64 ((S t).h : Int), .int .i64 (S t).wt, .int .i64 (S t).wa, .int .i64 (S t).sm.c, .int .i64 (S t).sm.s, .int .i64 (S t).sm.a, .int .i64 (S t).sm.b] 67))
  have S1 := hide (fun W (hW : Pool W p g n cap room S) => isSlot_any (S t).up hW nb.un)
  have S2 := hide (fun W (hW : Pool W p g n cap room S) => isSlot_any (S t).l hW nb.ln)
  have S3 := hide (fun W (hW : Pool W p g n cap room S) => isSlot_any (S t).r hW nb.rn)
  have B1 := hide (fun W (hW : Pool W p g n cap room S) => isBelow_any (S t).l t hW nb.ln nb.nd.ul)
  have B2 := hide (fun W (hW : Pool W p g n cap room S) => isBelow_any (S t).r t hW nb.rn nb.nd.ur)
  obtain ⟨_, c1, _, _, k1, k2⟩ := h.head
  obtain ⟨e0, e1, e2, e3, e4, e5, e6, e7, e8, e9⟩ := h.slot htn
  have i1 : (0 : Int) ≤ (t : Int) := by omega
  have i2 : (t : Int) < (n : Int) := by omega
  have i3 : (0 : Int) ≤ ((S t).up : Int) := by omega
  have i4 : ((S t).up : Int) < (n : Int) := by have := nb.un; omega
  have hun := nb.un
  have hup := nb.up
  have hlr : Hid (((((S t).l : Int) == ((S t).r : Int)) = true ∧ (((S t).l : Int) == 0) = true) ∨ (((S t).l : Int) == ((S t).r : Int)) = false) := by
    by_cases l0 : (S t).l = 0
    · by_cases r0 : (S t).r = 0
      · exact .inl ⟨by rw [beq_iff_eq]; omega, by rw [beq_iff_eq]; omega⟩
      · right; rw [beq_eq_false_iff_ne]; omega
    · right; rw [beq_eq_false_iff_ne]; have := nb.lr l0; omega
  have HP := hide h
  have UP := hide hup
  clear h nb hup
  generalize hyu : S (S t).up = yu at *
  have HYU := hide hyu
  clear hyu
  generalize hyt : S t = yt at *
  have HYT := hide hyt
  clear hyt
  obtain ⟨tu, tl, tr, th, tw, ta, ts⟩ := yt
  dsimp only at *
  have hn1 : ¬ g = w.heap.size := by have := (unhide HP).lt; omega
  have hn2 : ¬ w.heap.size = g := by have := (unhide HP).lt; omega
  have hn3 : ¬ p = w.heap.size := by have := (unhide HP).lt; omega
  have hn4 : ¬ w.heap.size = p := by have := (unhide HP).lt; omega
  go_enter Try.func77, Try.ntmps77
  go_upto_region 2 with fail
  generalize w.alloc (.cells #[.int .i64 (tu : Int), .int .i64 (tl : Int), .int .i64 (tr : Int), .int .i64 (th : Int), .int .i64 tw, .int .i64 ta, .int .i64 ts.c, .int .i64 ts.s, .int .i64 ts.a, .int .i64 ts.b] 67) = W0 at *
  clear c1 e0 e1 e2 e3 e4 e5 e6 e7 e8 e9
  obtain ⟨s0, s1, s2, _⟩ := (unhide G0).b
  dsimp only at s0 s1 s2
  go_wp2_with fail
  refine (unhide S1 _ (unhide G0).po).mono ?_
  rintro e w' ⟨rfl, rfl⟩
  go_wp2_with fail
  refine (unhide S2 _ (unhide G0).po).mono ?_
  rintro e w' ⟨rfl, rfl⟩
  go_wp2_with fail
  refine (unhide S3 _ (unhide G0).po).mono ?_
  rintro e w' ⟨rfl, rfl⟩
  have U7 : Hid ((tu = 0) ∨ ((tu : Int) == 0) = false ∧ yu.l = t ∨ ((tu : Int) == 0) = false ∧ (yu.l ≠ t ∧ yu.r = t)) := by
    by_cases u0 : tu = 0
    · exact .inl u0
    · have u1 : ((tu : Int) == 0) = false := by rw [beq_eq_false_iff_ne]; omega
      by_cases hl : yu.l = t
      · exact .inr (.inl ⟨u1, hl⟩)
      · refine .inr (.inr ⟨u1, hl, ?_⟩)
        rcases unhide UP with h' | h' | h'
        · exact absurd h' u0
        · exact absurd h' hl
        · exact h'
  obtain ⟨_, c1, _, _, k1, k2⟩ := (unhide G0).po.head
  obtain ⟨d0, d1, d2, d3, d4, d5, d6, d7, d8, d9⟩ := (unhide G0).po.slot hun
  rw [unhide HYU] at d0 d1 d2 d3 d4 d5 d6 d7 d8 d9
  have sz : w.heap.size < W0.heap.size := (unhide G0).lb
  have GN := hide (Gs.new (unhide G0).po yu)
  have hBW : ¬ w.heap.size = W0.heap.size := by omega
  have hBW' : ¬ W0.heap.size = w.heap.size := by omega
  have FR : Hid (Pool ((W0.alloc (.cells #[.int .i64 (yu.up : Int), .int .i64 (yu.l : Int), .int .i64 (yu.r : Int), .int .i64 (yu.h : Int), .int .i64 yu.wt, .int .i64 yu.wa, .int .i64 yu.sm.c, .int .i64 yu.sm.s, .int .i64 yu.sm.a, .int .i64 yu.sm.b] 67)).drew) p g n cap room S ∧ Below w.heap.size w ((W0.alloc (.cells #[.int .i64 (yu.up : Int), .int .i64 (yu.l : Int), .int .i64 (yu.r : Int), .int .i64 (yu.h : Int), .int .i64 yu.wt, .int .i64 yu.wa, .int .i64 yu.sm.c, .int .i64 yu.sm.s, .int .i64 yu.sm.a, .int .i64 yu.sm.b] 67)).drew) ∧ SlAt ((W0.alloc (.cells #[.int .i64 (yu.up : Int), .int .i64 (yu.l : Int), .int .i64 (yu.r : Int), .int .i64 (yu.h : Int), .int .i64 yu.wt, .int .i64 yu.wa, .int .i64 yu.sm.c, .int .i64 yu.sm.s, .int .i64 yu.sm.a, .int .i64 yu.sm.b] 67)).drew) w.heap.size ⟨tu, tl, tr, th, tw, ta, ts⟩ ∧ SlAt ((W0.alloc (.cells #[.int .i64 (yu.up : Int), .int .i64 (yu.l : Int), .int .i64 (yu.r : Int), .int .i64 (yu.h : Int), .int .i64 yu.wt, .int .i64 yu.wa, .int .i64 yu.sm.c, .int .i64 yu.sm.s, .int .i64 yu.sm.a, .int .i64 yu.sm.b] 67)).drew) W0.heap.size yu) :=
    ⟨(unhide GN).po.drew, below_drew ((unhide HB0).alloc (by omega) _), (unhide G0).b.keep ((Keep.refl [] W0).alloc _).drew sz (by simp), (unhide GN).b⟩
  have PIN := hide (And.intro S1 (And.intro B1 B2))
  clear S1 S2 S3 B1 B2 UP
  have hL0 : p < W0.heap.size ∧ g < W0.heap.size := (unhide G0).po.lt
  rcases unhide hlr with ⟨hq, hq0⟩ | hq
  all_goals
    go_upto_region 6 with fail
    go_cut [6] (fun a w' => ∃ B' : Nat, a = .pointer (some ⟨B', 0, none⟩) ∧ Hid (Pool w' p g n cap room S ∧ Below w.heap.size w w' ∧ SlAt w' w.heap.size ⟨tu, tl, tr, th, tw, ta, ts⟩ ∧ SlAt w' B' yu))
    case first =>
      go_wp2
      go_region
      all_goals go_wp2
      all_goals go_meet
      all_goals exact ⟨_, rfl, unhide FR⟩
    case rest =>
    obtain ⟨B', rfl, HC⟩ := hcut
    obtain ⟨q1, q2, q3, q4⟩ := unhide HC
    have HQ := hide (And.intro q1 q2)
    obtain ⟨s0', s1', s2', _⟩ := q3
    obtain ⟨_, y1, y2, _⟩ := q4
    dsimp only at s0' s1' s2'
    clear q1 q2 FR HC
    rcases unhide U7 with u0 | ⟨u1, ul⟩ | ⟨u1, ul, ur⟩
    · subst u0
      go_wp2_with fail
      refine (unhide (unhide PIN).2.1 _ (unhide HQ).1).mono ?_
      rintro e w' ⟨rfl, rfl⟩
      go_wp2_with fail
      refine (unhide (unhide PIN).2.2 _ (unhide HQ).1).mono ?_
      rintro e w' ⟨rfl, rfl⟩
      go_wp2
      go_ret
      exact ⟨rfl, (unhide HQ).2⟩
    · rw [ul] at y1
      go_wp2_with fail
      refine (unhide (unhide PIN).2.1 _ (unhide HQ).1).mono ?_
      rintro e w' ⟨rfl, rfl⟩
      go_wp2_with fail
      refine (unhide (unhide PIN).2.2 _ (unhide HQ).1).mono ?_
      rintro e w' ⟨rfl, rfl⟩
      go_wp2
      go_ret
      exact ⟨rfl, (unhide HQ).2⟩
    · rw [ur] at y2
      have ul' : ((yu.l : Int) == (t : Int)) = false := by rw [beq_eq_false_iff_ne]; omega
      clear ul
      go_wp2_with fail
      refine (unhide (unhide PIN).2.1 _ (unhide HQ).1).mono ?_
      rintro e w' ⟨rfl, rfl⟩
      go_wp2_with fail
      refine (unhide (unhide PIN).2.2 _ (unhide HQ).1).mono ?_
      rintro e w' ⟨rfl, rfl⟩
      go_wp2
      go_ret
      exact ⟨rfl, (unhide HQ).2⟩

end
end Go.Proofs.Ytkfboficcdiojaa
