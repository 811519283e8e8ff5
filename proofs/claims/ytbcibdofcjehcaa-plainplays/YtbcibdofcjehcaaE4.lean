import Derived.Test.YtbcibdofcjehcaaE3
namespace Go.Proofs.Ytbcibdofcjehcaa
open Go.RowKit Go.Arb
set_option linter.unusedVariables false
set_option linter.unusedSimpArgs false

theorem RIn.three {w : World} {q bt bu bw n : Nat} {ft : Nat → Bool} {fu fw : Nat → Int} (h : RIn w q bt bu bw n ft fu fw) (i : Nat) (y : Int) :
    (RIn (((w.setCell ⟨bt, i, none⟩ (.bool true)).setCell ⟨bu, i, none⟩ (.int .i64 (-1))).setCell ⟨bw, i, none⟩ (.int .i64 y)) q bt bu bw n (updF ft i true) (updF fu i (-1)) (updF fw i y) ∧ Keep [q, bt, bu, bw] w (((w.setCell ⟨bt, i, none⟩ (.bool true)).setCell ⟨bu, i, none⟩ (.int .i64 (-1))).setCell ⟨bw, i, none⟩ (.int .i64 y))) :=
  ⟨(((h.setT i true).1.setU i (-1)).1.setW i y).1, ((h.setT i true).2.trans ((h.setT i true).1.setU i (-1)).2 (fun _ hk => .inl hk)).trans (((h.setT i true).1.setU i (-1)).1.setW i y).2 (fun _ hk => .inl hk)⟩

set_option maxHeartbeats 2000000 in
theorem rAdd_any (x y : Int) (w : World) (q bt bu bw n : Nat) (ft : Nat → Bool) (fu fw : Nat → Int) (T : Tr) (h : RIn w q bt bu bw n ft fu fw) (hs : Says T n ft fu fw) :
    Calls Try.prog 18 #[.pointer (some ⟨q, 0, none⟩), .int .i64 x, .int .i64 y] w fun e w' => e = .returned (.bool (T.addB x y)) ∧ ∃ ft' fu' fw', RIn w' q bt bu bw n ft' fu' fw' ∧ Says (T.addI x y) n ft' fu' fw' ∧ Keep [q, bt, bu, bw] w w' := by
  have hn := hs.le
  obtain ⟨c0, c1, c2⟩ := h.cells
  have h2 := hide (rfits_any' y w)
  have R0 := hide (And.intro h hs)
  by_cases h0 : x < 0
  · have hb : T.addB x y = false := by simp [Tr.addB]; omega
    rw [hb, addI_no hb]
    clear h hs hb
    go_enter Try.func18, Try.ntmps18
    go_wp2
    go_ret
    exact ⟨rfl, ft, fu, fw, (unhide R0).1, (unhide R0).2, Keep.refl _ _⟩
  · obtain ⟨i, rfl⟩ := Int.eq_ofNat_of_zero_le (by omega : 0 ≤ x)
    have e1 : (0 : Int) ≤ (i : Int) := by omega
    by_cases h1 : i < n
    · have e2 : (i : Int) < (n : Int) := by omega
      have e2' : ¬ (i : Int) ≥ (n : Int) := by omega
      have d := h.rt.cell h1
      have f := h.rt.frozen i
      unfold blV at d
      have hth := hs.th i h1
      rw [hth] at d
      by_cases hp : T.par i = -2
      · rw [show (T.par i != -2) = false from by simp [hp]] at d
        cases hy : fitB y
        · have hb : T.addB i y = false := by simp [Tr.addB, hy]
          rw [hb, addI_no hb]
          rw [hy] at h2
          clear h hs hb hth hp hy
          go_enter Try.func18, Try.ntmps18
          go_wp2_with fail
          refine (unhide h2).mono ?_
          rintro e w' ⟨rfl, rfl⟩
          go_wp2
          go_ret
          exact ⟨rfl, ft, fu, fw, (unhide R0).1, (unhide R0).2, Keep.refl _ _⟩
        · have hb : T.addB i y = true := by
            simp [Tr.addB, Tr.hasI_nat, hp, hy]
            rw [← hs.nn]; exact h1
          rw [hb, addI_yes hb, Int.toNat_natCast]
          rw [hy] at h2
          have du := h.ru.cell h1
          have gu := h.ru.frozen i
          have dw := h.rw.cell h1
          have gw := h.rw.frozen i
          unfold inV at du dw
          have R1 := h.three i y
          have R := hide (And.intro R1.1 (And.intro (hs.add hp h1 hy) R1.2))
          obtain ⟨n1, n2, n3, n4, n5, n6⟩ := h.ne
          have n4' : bu ≠ bt := fun e => n4 e.symm
          have n5' : bw ≠ bt := fun e => n5 e.symm
          have n6' : bw ≠ bu := fun e => n6 e.symm
          clear h hs hb hth hp hy R1 n1 n2 n3
          generalize fu i = zu at *
          generalize fw i = zw at *
          go_enter Try.func18, Try.ntmps18
          go_wp2_with fail
          refine (unhide h2).mono ?_
          rintro e w' ⟨rfl, rfl⟩
          go_wp2
          go_region
          all_goals
            go_wp2
            go_ret
            refine ⟨rfl, _, _, _, RIn.below (unhide R).1 ?_, (unhide R).2.1, ?_⟩
            · exact (Below.refl _ _).drew
            · exact (unhide R).2.2.drew
      · rw [show (T.par i != -2) = true from by simp [hp]] at d
        have hb : T.addB i y = false := by simp [Tr.addB, Tr.hasI_nat, hp]
        rw [hb, addI_no hb]
        clear h hs hb hth hp
        go_enter Try.func18, Try.ntmps18
        go_wp2
        go_ret
        exact ⟨rfl, ft, fu, fw, (unhide R0).1, (unhide R0).2, Keep.refl _ _⟩
    · have hb : T.addB i y = false := by
        simp only [Tr.addB, ← hs.nn]
        rw [show decide ((i : Int) < (n : Int)) = false from by simp; omega]; simp
      rw [hb, addI_no hb]
      have e2 : (n : Int) ≤ (i : Int) := by omega
      clear h hs hb
      go_enter Try.func18, Try.ntmps18
      go_wp2
      go_ret
      exact ⟨rfl, ft, fu, fw, (unhide R0).1, (unhide R0).2, Keep.refl _ _⟩

/-- Is one of the first m a kid of v? -/
def kidTo (T : Tr) (v : Int) (m : Nat) : Bool := (List.range m).any (fun u => T.par u == v)
theorem kidTo_succ (T : Tr) (v : Int) (m : Nat) : kidTo T v (m + 1) = (kidTo T v m || (T.par m == v)) := by
  simp [kidTo, List.range_succ]

set_option maxHeartbeats 2000000 in
theorem kids_any (i : Nat) (w : World) (q bt bu bw n : Nat) (ft : Nat → Bool) (fu fw : Nat → Int) (T : Tr) (h : RIn w q bt bu bw n ft fu fw) (hs : Says T n ft fu fw) (hi : T.par i ≠ -2) :
    Calls Try.prog 57 #[.pointer (some ⟨q, 0, none⟩), .int .i64 (i : Int)] w fun e w' => (∃ s l, e = .returned s ∧ NRow w.heap.size w' s l ∧ decide (0 < l.length) = T.kidB i) ∧ Below w.heap.size w w' := by
  obtain ⟨i1, hi1, hy0, hy1, hy2⟩ := info_parts Try.info3
  have hH := hide (fun (w1 : World) (hb : Below w.heap.size w w1) => rhas_any i w1 q bt bu bw n ft fu fw T (h.below hb) hs)
  rw [Tr.hasI_there hi] at hH
  have hn := hs.le
  obtain ⟨c0, c1, c2⟩ := h.cells
  have hq : q < w.heap.size := blk_lt h.blk
  have hbu : bu < w.heap.size := h.ru.lt
  have hbt : bt < w.heap.size := h.rt.lt
  have HC : Hid (∀ y, y < n → w.cell? ⟨bt, y, none⟩ = some (.bool (T.par y != -2)) ∧ w.cell? ⟨bu, y, none⟩ = some (.int .i64 (fu y)) ∧ (T.par y ≠ -2 → fu y = T.par y)) := fun y hy => ⟨by rw [h.rt.cell hy, blV, hs.th y hy], by rw [h.ru.cell hy, inV], hs.up y⟩
  have HK : Hid (kidTo T i n = T.kidB i) := by show kidTo T i n = T.kidB i; rw [kidTo, Tr.kidB, hs.nn]
  clear h hs hi c2
  go_enter Try.func57, Try.ntmps57
  go_wp2
  go_loopw [5, 6] (fun s j w' => ∃ (m : Nat) (l : List Nat), m ≤ n ∧ j = .int .i64 (m : Int) ∧ l.length ≤ m ∧ Hid (NRow w.heap.size w' s l ∧ Below w.heap.size w w' ∧ decide (0 < l.length) = kidTo T i m)) (fun _ j _ => n - (intOf j).toNat)
  case atStart => exact ⟨0, [], by omega, rfl, by simp, World.ownsRow_nil _ _ _ _, Below.refl _ _, rfl⟩
  case round =>
    obtain ⟨m, l, hm, rfl, hll, HL⟩ := hrel
    obtain ⟨r1, r2, r3⟩ := unhide HL
    have hq2 := hide (unhide hH wr r2)
    have c0' := c0
    have c1' := c1
    rw [← r2.cell (p := ⟨q, 0, none⟩) hq] at c0'
    rw [← r2.cell (p := ⟨q, 1, none⟩) hq] at c1'
    by_cases hlt : m < n
    · have e1 : (m : Int) < (n : Int) := by omega
      have e2 : (0 : Int) ≤ (m : Int) := by omega
      obtain ⟨dt, du, hup⟩ := unhide HC m hlt
      rw [← r2.cell (p := ⟨bt, m, none⟩) hbt] at dt
      rw [← r2.cell (p := ⟨bu, m, none⟩) hbu] at du
      have hsucc := hide (kidTo_succ T i m)
      by_cases hk : T.par m = (i : Int)
      · have hth : (T.par m != -2) = true := by rw [hk]; simp
        rw [hth] at dt
        rw [hup (by omega), hk] at du
        have hkt : Hid (kidTo T i (m + 1) = true) := by show kidTo T i (m + 1) = true; rw [unhide hsucc, hk]; simp
        have hrow := r1
        unfold NRow at hrow
        have hsz := r2.size
        have HQ := hide (And.intro r1 r2)
        clear r1 r2 r3 HL hup hk hth hsucc
        generalize hL : l.length = L at hrow hll
        have HLL := hide hL
        clear hL
        go_wp2_with fail
        refine (unhide hq2).mono ?_
        rintro e w' ⟨rfl, rfl⟩
        go_wp2_with (at_builtin; refine wpList_append_lies _ rfl _ _ 53 rfl w.heap.size 3 i1 (.int .i64 0) 1 8 Try.underlying53 hi1 hy0 hy1 hy2 rfl (by decide) _ _ _ rfl (hrow.alloc _) ⟨wr.heap.size, 0, none⟩ 1 1 [.int .i64 (m : Int)] rfl rfl (news_at _ _ _ _ (by simp)) (one1' _) (by omega) (by unfold maxLen; omega) (by omega) (by simp; omega) (wr.heap.size + 1) (by simp) ?_)
        intro g' cap' w2 hown hgrow hat hlt'
        obtain ⟨p4, p5⟩ := unhide HQ
        have r := p4.push hsz hgrow hat (by omega) hlt' (unhide HLL).symm hown p5
        have HR := hide r
        clear p4 p5 HQ r hown hgrow hat hlt' hrow c0' c1' dt du hq2
        go_wp2
        go_roundw
        case rel => exact ⟨m + 1, l ++ [m], by omega, by go_num, by have := unhide HLL; simp; omega, (unhide HR).1, (unhide HR).2, by rw [unhide hkt]; simp⟩
        case measure => simp [intOf]; omega
      · have hkt : Hid (kidTo T i (m + 1) = kidTo T i m) := by
          show kidTo T i (m + 1) = kidTo T i m
          rw [unhide hsucc, show (T.par m == (i : Int)) = false from beq_eq_false_iff_ne.2 hk]; simp
        have HQ := hide (And.intro r1 (And.intro r2 r3))
        by_cases hth : T.par m = -2
        · rw [show (T.par m != -2) = false from by simp [hth]] at dt
          clear r1 r2 r3 HL hup hk hth hsucc
          generalize fu m = z at *
          go_wp2_with fail
          refine (unhide hq2).mono ?_
          rintro e w' ⟨rfl, rfl⟩
          go_wp2
          go_roundw
          case rel => exact ⟨m + 1, l, by omega, by go_num, by omega, (unhide HQ).1, (unhide HQ).2.1, by rw [unhide hkt]; exact (unhide HQ).2.2⟩
          case measure => simp [intOf]; omega
        · rw [show (T.par m != -2) = true from by simp [hth]] at dt
          rw [hup hth] at du
          have hk' : (T.par m == (i : Int)) = false := beq_eq_false_iff_ne.2 hk
          clear r1 r2 r3 HL hup hk hth hsucc
          generalize T.par m = z at *
          go_wp2_with fail
          refine (unhide hq2).mono ?_
          rintro e w' ⟨rfl, rfl⟩
          go_wp2
          go_roundw
          case rel => exact ⟨m + 1, l, by omega, by go_num, by omega, (unhide HQ).1, (unhide HQ).2.1, by rw [unhide hkt]; exact (unhide HQ).2.2⟩
          case measure => simp [intOf]; omega
    · have e1 : ¬ (m : Int) < (n : Int) := by omega
      have hmn : m = n := by omega
      have HQ := hide (And.intro r1 (And.intro r2 (show decide (0 < l.length) = T.kidB i from by rw [r3, hmn]; exact unhide HK)))
      clear r1 r2 r3 HL hmn
      go_wp2_with fail
      refine (unhide hq2).mono ?_
      rintro e w' ⟨rfl, rfl⟩
      go_wp2
      go_ret
      exact ⟨⟨_, l, rfl, (unhide HQ).1, (unhide HQ).2.2⟩, (unhide HQ).2.1⟩

set_option maxHeartbeats 2000000 in
theorem rdrop_any (x : Int) (w : World) (q bt bu bw n : Nat) (ft : Nat → Bool) (fu fw : Nat → Int) (T : Tr) (h : RIn w q bt bu bw n ft fu fw) (hs : Says T n ft fu fw) :
    Calls Try.prog 20 #[.pointer (some ⟨q, 0, none⟩), .int .i64 x] w fun e w' => e = .returned (.bool (T.goB x)) ∧ ∃ ft', RIn w' q bt bu bw n ft' fu fw ∧ Says (T.dropI x) n ft' fu fw ∧ Keep [q, bt, bu, bw] w w' := by
  have h1 := hide (rhas_any x w q bt bu bw n ft fu fw T h hs)
  have hn := hs.le
  obtain ⟨c0, c1, c2⟩ := h.cells
  cases hx : T.hasI x
  · have hb : T.goB x = false := by simp [Tr.goB, hx]
    rw [hb, dropI_no hb]
    rw [hx] at h1
    have R := hide (And.intro h hs)
    clear h hs hx hb
    go_enter Try.func20, Try.ntmps20
    go_wp2_with fail
    refine (unhide h1).mono ?_
    rintro e w' ⟨rfl, rfl⟩
    go_wp2
    go_ret
    exact ⟨rfl, ft, (unhide R).1, (unhide R).2, Keep.refl _ _⟩
  · rw [hx] at h1
    obtain ⟨i, rfl, hi⟩ := Tr.hasI_true hx
    have hlt := hs.lt hi
    have d := h.ru.cell hlt
    unfold inV at d
    rw [hs.up i hi] at d
    have e1 : (0 : Int) ≤ (i : Int) := by omega
    have e2 : (i : Int) < (n : Int) := by omega
    rcases hs.wf.par_cases hi with hr | ⟨p, hp, _⟩
    · rw [hr] at d
      have h2 := hide (kids_any i w q bt bu bw n ft fu fw T h hs hi)
      have hgo : T.goB i = !T.kidB i := by simp [Tr.goB, hx, hr]
      cases hk : T.kidB i
      · rw [hk] at hgo
        have hb : T.goB i = true := hgo
        rw [hb, dropI_yes hb, Int.toNat_natCast]
        have HR : Hid (∀ w1, Below w.heap.size w w1 → w1.cell? ⟨q, 0, none⟩ = some (.slice (some ⟨bt, 0, none⟩) n n) ∧ w1.cell? ⟨bt, i, none⟩ = some (.bool (ft i)) ∧ w1.frozen? ⟨bt, i, none⟩ = false ∧ RIn (w1.setCell ⟨bt, i, none⟩ (.bool false)) q bt bu bw n (updF ft i false) fu fw ∧ Keep [q, bt, bu, bw] w (w1.setCell ⟨bt, i, none⟩ (.bool false))) := fun w1 hb1 => by
          have h' := h.below hb1
          have r := h'.setT i false
          exact ⟨h'.cells.1, by rw [h'.rt.cell hlt, blV], h'.rt.frozen i, r.1, (Keep.ofBelow hb1 _).trans r.2 (fun _ hk => .inl hk)⟩
        have HS := hide (hs.drop (kidB_false hs.wf hk))
        clear h hs hx hi hr hgo hb
        go_enter Try.func20, Try.ntmps20
        go_wp2_with fail
        refine (unhide h1).mono ?_
        rintro e w' ⟨rfl, rfl⟩
        go_wp2_with fail
        refine (unhide h2).mono ?_
        rintro e w1 ⟨⟨s, l, rfl, hrow, hl⟩, hb1⟩
        obtain ⟨xs, cap, rfl, k1, k2, k9⟩ := row_form hrow
        rw [hk] at hl
        have hl0 : ¬ (0 : Int) < (l.length : Int) := by
          have : ¬ 0 < l.length := by simpa using hl
          omega
        obtain ⟨z0, z1, z2, z3, z4⟩ := unhide HR w1 hb1
        have HZ := hide (And.intro z3 z4)
        clear hrow hl hb1 k9 z3 z4 hk d
        generalize ft i = tt at *
        unfold maxLen at k2
        go_wp2
        go_ret
        exact ⟨rfl, _, (unhide HZ).1, unhide HS, (unhide HZ).2⟩
      · rw [hk] at hgo
        have hb : T.goB i = false := hgo
        rw [hb, dropI_no hb]
        have R := hide (And.intro h hs)
        clear h hs hx hi hr hgo hb
        go_enter Try.func20, Try.ntmps20
        go_wp2_with fail
        refine (unhide h1).mono ?_
        rintro e w' ⟨rfl, rfl⟩
        go_wp2_with fail
        refine (unhide h2).mono ?_
        rintro e w1 ⟨⟨s, l, rfl, hrow, hl⟩, hb1⟩
        obtain ⟨xs, cap, rfl, k1, k2, k9⟩ := row_form hrow
        rw [hk] at hl
        have hl0 : (0 : Int) < (l.length : Int) := by
          have : 0 < l.length := by simpa using hl
          omega
        have HB := hide hb1
        clear hrow hl hb1 k9 hk d
        unfold maxLen at k2
        go_wp2
        go_ret
        exact ⟨rfl, ft, (unhide R).1.below (unhide HB), (unhide R).2, Keep.ofBelow (unhide HB) _⟩
    · rw [hp] at d
      have hb : T.goB i = false := by
        have : (T.par (i : Int).toNat == -1) = false := by rw [Int.toNat_natCast, hp, beq_eq_false_iff_ne]; omega
        rw [Tr.goB, this, Bool.and_false, Bool.false_and]
      rw [hb, dropI_no hb]
      have e3 : (0 : Int) ≤ (p : Int) := by omega
      have R := hide (And.intro h hs)
      clear h hs hx hi hp hb
      go_enter Try.func20, Try.ntmps20
      go_wp2_with fail
      refine (unhide h1).mono ?_
      rintro e w' ⟨rfl, rfl⟩
      go_wp2
      go_ret
      exact ⟨rfl, ft, (unhide R).1, (unhide R).2, Keep.refl _ _⟩
end Go.Proofs.Ytbcibdofcjehcaa
