import Derived.Test.YtbcibdofcjehcaaC10
namespace Go.Proofs.Ytbcibdofcjehcaa
open Go.RowKit Go.Arb
set_option linter.unusedVariables false
set_option linter.unusedSimpArgs false

/-- May a way be raised? -/
def Tr.raiseB (T : Tr) (a b n : Int) : Bool := T.sameI a b && (T.wayI a b).all (fun x => _root_.Go.Proofs.Ytbcibdofcjehcaa.addB (T.wt x) n)
def inV (f : Nat → Int) : Nat → Value := fun x => .int .i64 (f x)
theorem inV_set (P : Nat → Int) (i : Nat) (k : Int) : (fun j => if j = i then Value.int .i64 k else inV P j) = inV (updF P i k) := by
  funext j
  by_cases e : j = i
  · simp [e, inV, updF]
  · simp [e, inV, updF]

set_option maxHeartbeats 1000000 in
theorem pathAdd_apart (x y n : Int) (w : World) (p : Nat) (u v : Value) (F : Fo) (h : FoIn w p u v F) (ho : Ok F) (hs : F.tr.sameI x y = false) :
    Calls Try.prog 29 #[.pointer (some ⟨p, 0, none⟩), .int .i64 x, .int .i64 y, .int .i64 n] w fun e w' => e = .returned (.bool false) ∧ Below w.heap.size w w' := by
  have h1 := hide (way_no x y w p u v F h ho hs)
  clear hs h ho
  have hmk := run_make_row' (P := Try.prog) 53 3 (.int .i64 0) 8 Try.underlying53 Try.info3 rfl .i64 .i64 0 (by omega) (by omega)
  rw [show (((0 : Nat) : Int)) = 0 from rfl] at hmk
  have HB := hide ((Below.refl w.heap.size w).alloc (Nat.le_refl _) (.cells (madeCells #[.int .i64 0] 0) 3))
  go_enter Try.func29, Try.ntmps29
  go_wp2_with fail
  refine (unhide h1).mono ?_
  rintro e w1 ⟨rfl, rfl⟩
  go_wp2
  go_loopw [26] (fun i w' => i = .int .i64 0 ∧ Hid (Below w.heap.size w w')) (fun i _ => 0)
  case atStart => exact ⟨rfl, unhide HB⟩
  case round =>
    obtain ⟨rfl, HK⟩ := hrel
    go_wp2
    go_loopw [52] (fun i w' => i = .int .i64 0 ∧ Hid (Below w.heap.size w w')) (fun i _ => 0)
    case atStart => exact ⟨rfl, unhide HK⟩
    case round =>
      obtain ⟨rfl, HK⟩ := hrel
      go_wp2
      go_ret
      exact ⟨rfl, unhide HK⟩

/-- Where the raising stands. -/
structure Rs (F F' : Fo) (n : Int) (l : List Nat) : Prop where
  room : F'.room = F.room
  ps : F'.ps = F.ps
  wl : F'.ws.length = F.ws.length
  tr : F'.tr = F.tr.raise l n
theorem Rs.step {F F' : Fo} {n : Int} {l : List Nat} {x : Nat} (h : Rs F F' n l) (hx : x < F.ws.length) (hn : x ∉ l) : Rs F { F' with ws := F'.ws.set x (F.tr.wt x + n) } n (l ++ [x]) := by
  refine ⟨h.room, h.ps, by simp [h.wl], ?_⟩
  rw [Fo.tr_wt (by rw [h.wl]; exact hx), h.tr]
  simp only [Tr.raise]
  congr 1
  funext y
  by_cases e : y = x
  · subst e; simp [updF, raiseF]
  · simp [updF, raiseF, e]

theorem Rs.start (F : Fo) (n : Int) : Rs F F n [] := ⟨rfl, rfl, rfl, by cases F.tr; simp [Tr.raise]; funext x; simp [raiseF]⟩

set_option maxHeartbeats 4000000 in
theorem pathAdd_joined (i j t : Nat) (n : Int) (a0 b0 c : List Nat) (w : World) (p : Nat) (u v : Value) (F : Fo) (h : FoIn w p u v F) (ho : Ok F) (hi : F.tr.par i ≠ -2) (hj : F.tr.par j ≠ -2) (hm : Meet (F.tr.up i) (F.tr.up j) t a0 b0 c) :
    Calls Try.prog 29 #[.pointer (some ⟨p, 0, none⟩), .int .i64 (i : Int), .int .i64 (j : Int), .int .i64 n] w fun e w' =>
      (e = .returned (.bool false) ∧ Below w.heap.size w w' ∧ ∃ x ∈ t :: (a0 ++ b0), addB (F.tr.wt x) n = false) ∨
      (e = .returned (.bool true) ∧ (∀ x ∈ t :: (a0 ++ b0), addB (F.tr.wt x) n = true) ∧ ∃ F', FoIn w' p u v F' ∧ Rs F F' n (t :: (a0 ++ b0)) ∧ Keep (fp p u v) w w') := by
  obtain ⟨hnd, hth⟩ := Meet.way_nodup ho.wf hm
  have h1 := hide (way_yes i j t a0 b0 c w p u v F h ho hi hj hm)
  have hlen : (t :: (a0 ++ b0)).length ≤ 1048576 := Nat.le_trans (nodup_len F.tr.n _ hnd (fun x hx => ho.wf.lt x (hth x hx))) ho.fit.n
  obtain ⟨_, _, c2, _⟩ := h.cells
  obtain ⟨g, cap, rfl, k1, k2, k3, k4, ov, k5⟩ := h.wts ho (l := t :: (a0 ++ b0)) (by simp) hth
  have hp : p < w.heap.size := blk_lt h.blk
  have hpos : 0 < (t :: (a0 ++ b0)).length := by simp
  have HF := hide h
  clear h ho hm hth hi hj
  generalize t :: (a0 ++ b0) = l at *
  have HC := hide k5
  have HND := hide hnd
  clear k5 hnd
  have HEX : Hid (∃ N, F.ws.length = N) := ⟨_, rfl⟩
  obtain ⟨N, hN⟩ := HEX.out
  have HN := hide hN
  clear HEX
  rw [hN] at c2 k1
  have HVV := hide (show Value.slice (some ⟨g, 0, none⟩) F.ws.length cap = .slice (some ⟨g, 0, none⟩) N cap from by rw [hN])
  clear hN
  unfold maxLen at k2
  go_enter Try.func29, Try.ntmps29
  go_wp2_with fail
  refine (unhide h1).mono ?_
  rintro e w1 ⟨⟨s, rfl, hrow⟩, hb1⟩
  obtain ⟨g', cap', rfl, r1, r2, r3, r4, _, r5⟩ := hrow.at hpos
  have HS := hide (And.intro hb1 r5)
  have hsz := hb1.size
  clear hrow r5 hb1 h1
  have HL : Hid (∃ m, l.length = m) := ⟨_, rfl⟩
  obtain ⟨m, hm⟩ := HL.out
  rw [hm] at r1 hlen hpos ⊢
  have HM := hide hm
  clear hm HL
  unfold maxLen at r2
  have hmk := run_make_row' (P := Try.prog) 53 3 (.int .i64 0) 8 Try.underlying53 Try.info3 rfl .i64 .i64 m (by omega) (by omega)
  have HR0 := hide (World.rowIs_made w1 (.int .i64 0) m 3)
  have HK0 := hide ((Keep.refl ([] : List Nat) w1).alloc (.cells (madeCells #[.int .i64 0] m) 3))
  go_wp2
  go_loopw [26] (fun i w' => ∃ (k : Nat) (f : Nat → Int), k ≤ m ∧ i = .int .i64 k ∧ Hid (Keep [] w1 w' ∧ w'.rowIs w1.heap.size 3 m (inV f) ∧ ∀ q, (hq : q < l.length) → q < k → f q = F.tr.wt l[q] + n ∧ addB (F.tr.wt l[q]) n = true)) (fun i _ => m - (intOf i).toNat)
  case atStart => exact ⟨0, fun _ => 0, Nat.zero_le _, rfl, unhide HK0, unhide HR0, fun q _ hq => by omega⟩
  case round =>
    obtain ⟨k, f, hk, rfl, HK⟩ := hrel
    obtain ⟨hkp, hrw, hff⟩ := unhide HK
    have hszr := hkp.size
    by_cases hlt : k < m
    · have hkl : k < l.length := by rw [unhide HM]; exact hlt
      have d := (unhide HS).2 k hkl
      obtain ⟨x0, d2, _, hn1, hn2⟩ := unhide HC l[k] (List.getElem_mem hkl)
      rw [unhide HN] at x0
      have HXM := hide (List.getElem_mem hkl)
      have HXE := hide (rfl : l[k] = l[k])
      generalize hx : l[k] = x at d x0 d2 hn1 hn2 HXM
      have HX := hide hx
      clear hx HXE
      rw [← hkp.cell (p := ⟨g', k, none⟩) r3 (by simp)] at d
      have c2' := c2
      have hbw := (unhide HS).1
      rw [← hbw.cell (p := ⟨p, 2, none⟩) hp, ← hkp.cell (p := ⟨p, 2, none⟩) (by show p < _; omega) (by simp)] at c2'
      rw [← hbw.cell (p := ⟨g, x, none⟩) k3, ← hkp.cell (p := ⟨g, x, none⟩) (by show g < _; omega) (by simp)] at d2
      have d4 := hrw.cell hlt
      have f4 := hrw.frozen k
      have e0 : (0 : Int) ≤ (k : Int) := by omega
      have e1 : (k : Int) < (m : Int) := by omega
      have e2 : (0 : Int) ≤ (x : Int) := by omega
      have e3 : (x : Int) < (N : Int) := by omega
      have ha := hide (add_any (F.tr.wt x) n wr)
      have HR := hide (And.intro hkp (And.intro hrw hff))
      clear hkp hrw hff HK hbw
      cases hb : addB (F.tr.wt x) n
      · rw [hb] at ha
        have HBB := hide hb
        clear hb
        generalize addV (F.tr.wt x) n = z at *
        generalize hwx : F.tr.wt x = wx at *
        have HWX := hide hwx
        clear hwx
        go_wp2_with fail
        refine (unhide ha).mono ?_
        rintro e w2 ⟨rfl, hw2⟩
        obtain rfl : w2 = wr := hw2
        go_wp2
        go_ret
        refine .inl ⟨rfl, Keep.below (unhide HS).1 (unhide HR).1 hsz (by simp), x, unhide HXM, ?_⟩
        rw [unhide HWX]; exact unhide HBB
      · rw [hb] at ha
        have hz : addV (F.tr.wt x) n = F.tr.wt x + n := by simp [addV, hb]
        rw [hz] at ha
        have HBB := hide hb
        clear hb hz
        generalize hwx : F.tr.wt x = wx at *
        have HWX := hide hwx
        have HZ : Hid (∃ z, wx + n = z) := ⟨_, rfl⟩
        obtain ⟨z, hz⟩ := HZ.out
        rw [hz] at ha
        have HZ2 := hide hz
        clear hwx hz HZ
        go_wp2_with fail
        refine (unhide ha).mono ?_
        rintro e w2 ⟨rfl, hw2⟩
        obtain rfl : w2 = wr := hw2
        go_wp2
        go_roundw
        case rel =>
          obtain ⟨hkp, hrw, hff⟩ := unhide HR
          refine ⟨k + 1, updF f k z, by omega, by go_num, hkp.setCell (p := ⟨w1.heap.size, k, none⟩) (.inr (Nat.le_refl _)) _, inV_set f k z ▸ hrw.set k (.int .i64 z), fun q hq hqk => ?_⟩
          by_cases e : q = k
          · subst e
            rw [updF_same, unhide HX, unhide HWX]
            exact ⟨(unhide HZ2).symm, unhide HBB⟩
          · rw [updF_other _ _ e]
            exact hff q hq (by omega)
        case measure => simp [intOf]; omega
    · have hkl : k = m := by omega
      subst hkl
      have HR := hide (And.intro hkp (And.intro hrw hff))
      have HF1 := hide ((unhide HF).below (Below.trans (unhide HS).1 (Keep.below (Below.refl _ _) hkp hsz (by simp))))
      have HKW := hide (Keep.trans (Keep.ofBelow (unhide HS).1 (fp p u (.slice (some ⟨g, 0, none⟩) F.ws.length cap))) hkp (by simp))
      have HPA := hide (show ∀ x ∈ l, addB (F.tr.wt x) n = true from fun x hx => by
        obtain ⟨j, hj, e⟩ := List.mem_iff_getElem.1 hx
        rw [← e]; exact (hff j hj (by rw [← unhide HM]; exact hj)).2)
      have hl3 : g' < wr.heap.size := by omega
      have hl4 : w1.heap.size < wr.heap.size := hrw.lt
      have HD : Hid (∀ q, (hq : q < l.length) → wr.cell? ⟨g', q, none⟩ = some (.int .i64 ((l[q] : Nat) : Int))) := fun q hq => by
        rw [hkp.cell (p := ⟨g', q, none⟩) r3 (by simp)]
        exact (unhide HS).2 q hq
      clear hkp hrw hff HK
      go_wp2
      generalize hWW : wr = W2 at *
      clear hWW
      go_loopw [52] (fun i w' => ∃ (q : Nat) (F' : Fo), q ≤ k ∧ i = .int .i64 q ∧ Hid (Keep [g] W2 w' ∧ FoIn w' p u (.slice (some ⟨g, 0, none⟩) F.ws.length cap) F' ∧ Rs F F' n (l.take q))) (fun i _ => k - (intOf i).toNat)
      case atStart => exact ⟨0, F, Nat.zero_le _, rfl, Keep.refl _ _, unhide HF1, Rs.start F n⟩
      case round =>
        obtain ⟨q, F', hq, rfl, HQ⟩ := hrel
        obtain ⟨q1, q2, q3⟩ := unhide HQ
        by_cases hlt' : q < k
        · have hkl : q < l.length := by rw [unhide HM]; exact hlt'
          have d := unhide HD q hkl
          obtain ⟨x0, _, _, hn1, hn2⟩ := unhide HC l[q] (List.getElem_mem hkl)
          obtain ⟨hfq, _⟩ := (unhide HR).2.2 q hkl hlt'
          have hni : l[q] ∉ l.take q := fun hm => by
            obtain ⟨j, hj, e⟩ := List.mem_iff_getElem.1 hm
            rw [List.length_take] at hj
            rw [List.getElem_take] at e
            have := (List.getElem_inj (unhide HND)).1 e
            omega
          have hst := q3.step x0 hni
          rw [← List.take_succ_eq_append_getElem hkl] at hst
          have hx' : l[q] < F'.ws.length := by rw [q3.wl]; exact x0
          have hset := q2.setWt q3.wl.symm l[q] (F.tr.wt l[q] + n)
          obtain ⟨d2, f2⟩ := q2.wtAt l[q] hx'
          obtain ⟨_, _, c2', _⟩ := q2.cells
          rw [unhide HVV] at c2'
          have d4 := (unhide HR).2.1.cell hlt'
          unfold inV at d4
          rw [hfq] at d4
          rw [← q1.cell (p := ⟨g', q, none⟩) hl3 (by simp; omega)] at d
          rw [← q1.cell (p := ⟨w1.heap.size, q, none⟩) hl4 (by simp; omega)] at d4
          rw [unhide HN] at x0
          have R := hide (And.intro (q1.setCell (p := ⟨g, l[q], none⟩) (.inl (by simp)) (.int .i64 (F.tr.wt l[q] + n))) (And.intro hset.1 hst))
          generalize F'.tr.wt l[q] = y at *
          generalize F.tr.wt l[q] + n = z at *
          have e0 : (0 : Int) ≤ (q : Int) := by omega
          have e1 : (q : Int) < (k : Int) := by omega
          clear q1 q2 q3 HQ hst hset hni hfq hx' hn1 hn2
          generalize l[q] = x at *
          have e2 : (0 : Int) ≤ (x : Int) := by omega
          have e3 : (x : Int) < (N : Int) := by omega
          go_wp2
          go_region
          all_goals
            go_wp2
            go_roundw
            case rel => exact ⟨q + 1, _, by omega, by go_num, (unhide R).1.drew, (unhide R).2.1.below (Below.refl _ _).drew, (unhide R).2.2⟩
            case measure => simp [intOf]; omega
        · have : q = k := by omega
          subst this
          rw [show l.take q = l from List.take_of_length_le (by rw [unhide HM]; exact Nat.le_refl _)] at q3
          have R := hide (And.intro q1 (And.intro q2 q3))
          clear q1 q2 q3 HQ
          have e1 : (0 : Int) < (q : Int) := by omega
          go_wp2
          go_ret
          obtain ⟨q1, q2, q3⟩ := unhide R
          exact .inr ⟨rfl, unhide HPA, F', q2, q3, (unhide HKW).trans q1 (fun i hi => .inl (by simp [fp, own, Value.ownBlock] at hi ⊢; simp [hi]))⟩

/-- The forest behind it. -/
def Tr.pathAdd (T : Tr) (a b n : Int) : Tr := if T.raiseB a b n then T.raise (T.wayI a b) n else T

theorem pathAdd_any (x y n : Int) (w : World) (p : Nat) (u v : Value) (F : Fo) (h : FoIn w p u v F) (ho : Ok F) :
    Calls Try.prog 29 #[.pointer (some ⟨p, 0, none⟩), .int .i64 x, .int .i64 y, .int .i64 n] w fun e w' => e = .returned (.bool (F.tr.raiseB x y n)) ∧ ∃ F', FoIn w' p u v F' ∧ Ok F' ∧ F'.tr = F.tr.pathAdd x y n ∧ Keep (fp p u v) w w' := by
  cases hs : F.tr.sameI x y
  · refine (pathAdd_apart x y n w p u v F h ho hs).mono ?_
    rintro e w' ⟨rfl, hb⟩
    have e1 : F.tr.raiseB x y n = false := by simp [Tr.raiseB, hs]
    exact ⟨by rw [e1], F, h.below hb, ho, by simp [Tr.pathAdd, e1], Keep.ofBelow hb _⟩
  · obtain ⟨i, j, rfl, rfl, hi, hj, t, a, b, c, hm⟩ := ho.wf.same_true hs
    have hway : F.tr.wayI i j = t :: (a ++ b) := by rw [Tr.wayI, F.tr.upI_nat, F.tr.upI_nat, hm.way]
    refine (pathAdd_joined i j t n a b c w p u v F h ho hi hj hm).mono ?_
    rintro e w' (⟨rfl, hb, x, hx, hf⟩ | ⟨rfl, hall, F', q2, q3, hk⟩)
    · have e1 : F.tr.raiseB i j n = false := by
        rw [Tr.raiseB, hs, hway, Bool.true_and, List.all_eq_false]
        exact ⟨x, hx, by simp [hf]⟩
      exact ⟨by rw [e1], F, h.below hb, ho, by simp [Tr.pathAdd, e1], Keep.ofBelow hb _⟩
    · have e1 : F.tr.raiseB i j n = true := by
        rw [Tr.raiseB, hs, hway, Bool.true_and, List.all_eq_true]
        exact hall
      have e2 : F'.tr = F.tr.pathAdd i j n := by rw [q3.tr, Tr.pathAdd, e1, hway]; rfl
      have hth := (Meet.way_nodup ho.wf hm).2
      refine ⟨by rw [e1], F', q2, ⟨?_, ?_, ?_, ?_⟩, e2, hk⟩
      · rw [q3.ps, q3.room]; exact ho.len
      · rw [q3.wl, q3.ps]; exact ho.wl
      · rw [q3.tr]; exact ho.wf.raise
      · rw [q3.tr]
        refine ho.fit.raise fun x hx => ⟨hth x hx, ?_⟩
        have := hall x hx
        simp only [addB, fitB, Bool.and_eq_true, decide_eq_true_eq] at this
        exact this.2
end Go.Proofs.Ytbcibdofcjehcaa
