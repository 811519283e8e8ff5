import Derived.Test.YtbcibdofcjehcaaE2
namespace Go.Proofs.Ytbcibdofcjehcaa
open Go.RowKit Go.Arb
set_option linter.unusedVariables false
set_option linter.unusedSimpArgs false

set_option maxHeartbeats 1000000 in
theorem rlink_any (x y : Int) (w : World) (q bt bu bw n : Nat) (ft : Nat → Bool) (fu fw : Nat → Int) (T : Tr) (h : RIn w q bt bu bw n ft fu fw) (hs : Says T n ft fu fw) :
    Calls Try.prog 22 #[.pointer (some ⟨q, 0, none⟩), .int .i64 x, .int .i64 y] w fun e w' => e = .returned (.bool (T.linkB x y)) ∧ ∃ fu', RIn w' q bt bu bw n ft fu' fw ∧ Says (T.linkI x y) n ft fu' fw ∧ Keep [q, bt, bu, bw] w w' := by
  have h1 := hide (rhas_any x w q bt bu bw n ft fu fw T h hs)
  have h2 := hide (rhas_any y w q bt bu bw n ft fu fw T h hs)
  have h3 := hide (rsame_any x y w q bt bu bw n ft fu fw T h hs)
  have hn := hs.le
  obtain ⟨c0, c1, c2⟩ := h.cells
  cases hx : T.hasI x
  · have hb : T.linkB x y = false := by simp [Tr.linkB, hx]
    rw [hb, linkI_no hb]
    rw [hx] at h1
    have R := hide (And.intro h hs)
    clear h hs hx hb
    go_enter Try.func22, Try.ntmps22
    go_wp2_with fail
    refine (unhide h1).mono ?_
    rintro e w' ⟨rfl, rfl⟩
    go_wp2
    go_ret
    exact ⟨rfl, fu, (unhide R).1, (unhide R).2, Keep.refl _ _⟩
  · rw [hx] at h1
    obtain ⟨i, rfl, hi⟩ := Tr.hasI_true hx
    cases hy : T.hasI y
    · have hb : T.linkB i y = false := by simp [Tr.linkB, hy]
      rw [hb, linkI_no hb]
      rw [hy] at h2
      have R := hide (And.intro h hs)
      clear h hs hx hb hy hi
      go_enter Try.func22, Try.ntmps22
      go_wp2_with fail
      refine (unhide h1).mono ?_
      rintro e w' ⟨rfl, rfl⟩
      go_wp2_with fail
      refine (unhide h2).mono ?_
      rintro e w' ⟨rfl, rfl⟩
      go_wp2
      go_ret
      exact ⟨rfl, fu, (unhide R).1, (unhide R).2, Keep.refl _ _⟩
    · rw [hy] at h2
      obtain ⟨j, rfl, hj⟩ := Tr.hasI_true hy
      have hlt := hs.lt hi
      have d := h.ru.cell hlt
      have f := h.ru.frozen i
      unfold inV at d
      rw [hs.up i hi] at d
      have e1 : (0 : Int) ≤ (i : Int) := by omega
      have e2 : (i : Int) < (n : Int) := by omega
      rcases hs.wf.par_cases hi with hr | ⟨p, hp, _⟩
      · rw [hr] at d
        have hbi := hs.wf.linkB_iff hr hj
        cases hsm : T.sameI i j
        · rw [hsm] at hbi h3
          have hb : T.linkB i j = true := hbi
          rw [hb, linkI_yes hb, Int.toNat_natCast, Int.toNat_natCast]
          have R1 := h.setU i (j : Int)
          have R := hide (And.intro R1.1 (And.intro (hs.link hr hj ((hs.wf.same_root hr hj).1 hsm)) R1.2))
          clear h hs hx hy hi hj hr hbi hb hsm R1
          go_enter Try.func22, Try.ntmps22
          go_wp2_with fail
          refine (unhide h1).mono ?_
          rintro e w' ⟨rfl, rfl⟩
          go_wp2_with fail
          refine (unhide h2).mono ?_
          rintro e w' ⟨rfl, rfl⟩
          go_wp2_with fail
          refine (unhide h3).mono ?_
          rintro e w' ⟨rfl, rfl⟩
          go_wp2
          go_ret
          exact ⟨rfl, _, (unhide R).1, (unhide R).2.1, (unhide R).2.2⟩
        · rw [hsm] at hbi h3
          have hb : T.linkB i j = false := hbi
          rw [hb, linkI_no hb]
          have R := hide (And.intro h hs)
          clear h hs hx hy hi hj hr hbi hb hsm
          go_enter Try.func22, Try.ntmps22
          go_wp2_with fail
          refine (unhide h1).mono ?_
          rintro e w' ⟨rfl, rfl⟩
          go_wp2_with fail
          refine (unhide h2).mono ?_
          rintro e w' ⟨rfl, rfl⟩
          go_wp2_with fail
          refine (unhide h3).mono ?_
          rintro e w' ⟨rfl, rfl⟩
          go_wp2
          go_ret
          exact ⟨rfl, fu, (unhide R).1, (unhide R).2, Keep.refl _ _⟩
      · rw [hp] at d
        have hb : T.linkB i j = false := by
          have : (T.par (i : Int).toNat == -1) = false := by rw [Int.toNat_natCast, hp, beq_eq_false_iff_ne]; omega
          rw [Tr.linkB, this, Bool.and_false, Bool.false_and, Bool.false_and]
        rw [hb, linkI_no hb]
        have e3 : (0 : Int) ≤ (p : Int) := by omega
        have R := hide (And.intro h hs)
        clear h hs hx hy hi hj hp hb
        go_enter Try.func22, Try.ntmps22
        go_wp2_with fail
        refine (unhide h1).mono ?_
        rintro e w' ⟨rfl, rfl⟩
        go_wp2_with fail
        refine (unhide h2).mono ?_
        rintro e w' ⟨rfl, rfl⟩
        go_wp2
        go_ret
        exact ⟨rfl, fu, (unhide R).1, (unhide R).2, Keep.refl _ _⟩

set_option maxHeartbeats 2000000 in
theorem above_any (x : Int) (w : World) (q bt bu bw n : Nat) (ft : Nat → Bool) (fu fw : Nat → Int) (T : Tr) (h : RIn w q bt bu bw n ft fu fw) (hs : Says T n ft fu fw) :
    Calls Try.prog 67 #[.pointer (some ⟨q, 0, none⟩), .int .i64 x] w fun e w' => (∃ s, e = .returned s ∧ NRow w.heap.size w' s (T.upI x)) ∧ Below w.heap.size w w' := by
  obtain ⟨i1, hi1, hy0, hy1, hy2⟩ := info_parts Try.info3
  have hH := hide (fun (z : Int) (w1 : World) (hb : Below w.heap.size w w1) => rhas_any z w1 q bt bu bw n ft fu fw T (h.below hb) hs)
  have hn := hs.le
  obtain ⟨c0, c1, c2⟩ := h.cells
  have hq : q < w.heap.size := blk_lt h.blk
  have hbu : bu < w.heap.size := h.ru.lt
  have HC : Hid (∀ y, T.par y ≠ -2 → y < n ∧ w.cell? ⟨bu, y, none⟩ = some (.int .i64 (T.par y))) := fun y hy => ⟨hs.lt hy, by rw [h.ru.cell (hs.lt hy), inV, hs.up y hy]⟩
  have HW := hide hs
  have HST : Hid ((T.upI x = [] ∧ T.hasI x = false) ∨ (hdI (T.upI x) = x ∧ ∃ y, Up T.par y (T.upI x))) := by
    cases hx : T.hasI x
    · exact .inl ⟨Tr.upI_gone hx, rfl⟩
    · obtain ⟨i, rfl, hi⟩ := Tr.hasI_true hx
      rw [T.upI_nat]
      obtain ⟨t, e⟩ := (hs.wf.spec hi).head
      exact .inr ⟨by rw [e]; rfl, i, hs.wf.spec hi⟩
  have hll : Hid ((T.upI x).length ≤ 1048576) := by
    show (T.upI x).length ≤ 1048576
    unfold Tr.upI
    split
    · by_cases hp : T.par x.toNat = -2
      · rw [T.up_gone hp]; simp
      · exact Nat.le_trans (hs.wf.len (hs.wf.spec hp)) hs.fit.n
    · simp
  clear h hs c0 c2
  generalize T.upI x = l0 at *
  go_enter Try.func67, Try.ntmps67
  go_wp2
  go_loopg [1, 5] l0.length (fun gk a s w' => ∃ (z : Int) (dn rest : List Nat), a = .int .i64 z ∧ dn ++ rest = l0 ∧ rest.length = gk ∧ Hid (NRow w.heap.size w' s dn ∧ Below w.heap.size w w' ∧ ((rest = [] ∧ T.hasI z = false) ∨ (hdI rest = z ∧ ∃ y, Up T.par y rest))))
  case atStart => exact ⟨x, [], l0, rfl, rfl, rfl, World.ownsRow_nil _ _ _ _, Below.refl _ _, unhide HST⟩
  case round =>
    obtain ⟨z, dn, rest, rfl, hdn, hgk, HK⟩ := hrel
    cases rest with
    | nil =>
      have hf : T.hasI z = false := by
        rcases (unhide HK).2.2 with ⟨_, e⟩ | ⟨_, y, hu⟩
        · exact e
        · exact absurd rfl hu.ne
      have hq2 := hide (unhide hH z wr (unhide HK).2.1)
      rw [hf] at hq2
      rw [List.append_nil] at hdn
      subst hdn
      clear hf hgk
      go_wp2_with fail
      refine (unhide hq2).mono ?_
      rintro e w' ⟨rfl, rfl⟩
      go_wp2
      go_ret
      exact ⟨⟨_, rfl, (unhide HK).1⟩, (unhide HK).2.1⟩
    | cons y t =>
      obtain ⟨r1, r2, r3⟩ := unhide HK
      obtain ⟨hz, hu⟩ : hdI (y :: t) = z ∧ Up T.par y (y :: t) := by
        rcases r3 with ⟨e, _⟩ | ⟨e, y', hu⟩
        · simp at e
        · obtain ⟨t', e'⟩ := hu.head
          simp at e'
          rw [← e'.1] at hu
          exact ⟨e, hu⟩
      have hz' : z = (y : Int) := hz.symm
      subst hz'
      have hpy : T.par y = hdI t ∧ ((t = [] ∧ T.hasI (hdI t) = false) ∨ (hdI t = hdI t ∧ ∃ y, Up T.par y t)) := by
        rcases hu.next with ⟨e, rfl⟩ | ⟨p, e, hp⟩
        · exact ⟨e, .inl ⟨rfl, by simp [Tr.hasI, hdI]⟩⟩
        · obtain ⟨t', rfl⟩ := hp.head
          exact ⟨e, .inr ⟨rfl, p, hp⟩⟩
      have hq2 := hide (unhide hH (y : Int) wr r2)
      rw [Tr.hasI_there hu.there] at hq2
      obtain ⟨hyn, d⟩ := unhide HC y hu.there
      rw [hpy.1] at d
      have hrow := r1
      unfold NRow at hrow
      have hll2 := unhide hll
      have hdl : dn.length ≤ 1048576 := by rw [← hdn] at hll2; simp at hll2; omega
      have hsz := r2.size
      have HQ := hide (And.intro r1 (And.intro r2 (And.intro hpy.2 (And.intro hgk hdn))))
      clear r1 r2 r3 HK hu hz hpy hgk hll2 hdn
      generalize hq9 : hdI t = z2 at *
      have HZ := hide hq9
      clear hq9
      generalize hL : dn.length = L at hrow hdl
      have HL := hide hL
      clear hL
      go_wp2_with fail
      refine (unhide hq2).mono ?_
      rintro e w' ⟨rfl, rfl⟩
      go_wp2_with (at_builtin; refine wpList_append_lies _ rfl _ _ 53 rfl w.heap.size 3 i1 (.int .i64 0) 1 8 Try.underlying53 hi1 hy0 hy1 hy2 rfl (by decide) _ _ _ rfl (hrow.alloc _) ⟨wr.heap.size, 0, none⟩ 1 1 [.int .i64 (y : Int)] rfl rfl (news_at _ _ _ _ (by simp)) (one1' _) (by omega) (by unfold maxLen; omega) (by omega) (by simp; omega) (wr.heap.size + 1) (by simp) ?_)
      intro g' cap' w2 hown hgrow hat hlt'
      obtain ⟨p4, p5, p6, p7, p8⟩ := unhide HQ
      have r := p4.push hsz hgrow hat (by omega) hlt' (unhide HL).symm hown p5
      have c1' := c1
      rw [← r.2.cell (p := ⟨q, 1, none⟩) hq] at c1'
      rw [← r.2.cell (p := ⟨bu, y, none⟩) hbu] at d
      have HR := hide (And.intro r (And.intro p6 (And.intro p7 p8)))
      have e1 : (0 : Int) ≤ (y : Int) := by omega
      have e2 : (y : Int) < (n : Int) := by omega
      clear p4 p5 p6 p7 p8 HQ r hown hgrow hat hlt' hrow
      go_wp2
      go_roundg (gk - 1)
      case rel =>
        obtain ⟨⟨p4, p5⟩, p6, p7, p8⟩ := unhide HR
        exact ⟨z2, dn ++ [y], t, rfl, by rw [← p8]; simp, by simp at p7; omega, p4, p5, by rcases p6 with h | ⟨_, h⟩; exact .inl h; exact .inr ⟨unhide HZ, h⟩⟩
      all_goals
        obtain ⟨⟨p4, p5⟩, p6, p7, p8⟩ := unhide HR
        simp at p7
        omega
end Go.Proofs.Ytbcibdofcjehcaa
