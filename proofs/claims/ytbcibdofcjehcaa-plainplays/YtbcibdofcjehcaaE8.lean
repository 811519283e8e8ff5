import Derived.Test.YtbcibdofcjehcaaE7
namespace Go.Proofs.Ytbcibdofcjehcaa
open Go.RowKit Go.Arb
set_option linter.unusedVariables false
set_option linter.unusedSimpArgs false

theorem chain_next {par : Nat → Int} {i t y : Nat} {a c dn r : List Nat} (hu : Up par i (a ++ t :: c)) (e : dn ++ y :: r = a) : par y = hdI (r ++ [t]) ∧ par y ≠ -2 := by
  subst e
  have h := hu.suffix (a := dn) (x := y) (b := r ++ t :: c) (by simp)
  refine ⟨?_, h.there⟩
  rcases h.next with ⟨_, e⟩ | ⟨p, e, hp⟩
  · simp at e
  · obtain ⟨t', e'⟩ := hp.head
    rw [e]
    cases r with
    | nil => simp at e'; simp [hdI, e'.1]
    | cons z r' => simp at e'; simp [hdI, e'.1]

theorem Tr.Wf.way_cases {T : Tr} (h : T.Wf) (x y : Int) : (T.lcaI x y = -1 ∧ T.wayI x y = []) ∨ ∃ (i j t : Nat) (a b c : List Nat), x = i ∧ y = j ∧ T.par i ≠ -2 ∧ T.par j ≠ -2 ∧ Meet (T.up i) (T.up j) t a b c := by
  have no : (∀ z ∈ T.upI x, z ∉ T.upI y) → T.lcaI x y = -1 ∧ T.wayI x y = [] := fun hn => by
    have := meet_none hn
    exact ⟨by simp [Tr.lcaI, lcaL, this], by simp [Tr.wayI, wayL, this]⟩
  cases hx : T.hasI x
  · exact .inl (no (by rw [Tr.upI_gone hx]; simp))
  · cases hy : T.hasI y
    · exact .inl (no (by rw [Tr.upI_gone hy]; simp))
    · obtain ⟨i, rfl, hi⟩ := Tr.hasI_true hx
      obtain ⟨j, rfl, hj⟩ := Tr.hasI_true hy
      rcases h.meets hi hj with ⟨t, a, b, c, hm⟩ | hn
      · exact .inr ⟨i, j, t, a, b, c, rfl, rfl, hi, hj, hm⟩
      · exact .inl (no (by rw [T.upI_nat, T.upI_nat]; exact hn))
theorem way_perm (a b : List Nat) (t : Nat) : (a ++ t :: b.reverse).Perm (t :: (a ++ b)) :=
  List.perm_middle.trans ((List.Perm.append_left a (List.reverse_perm b)).cons t)

/-- Two rows apart: what is appended to the one leaves the other. -/
theorem push_beside {B B2 : Nat} {W W1 : World} {v v2 : Value} {l m : List Nat} {g H n cap x : Nat} (h : NRow B W v l) (h2 : NRow B2 W v2 m) (ho : Off (own v2) (own v)) (hl2 : ∀ k ∈ own v2, k < W.heap.size) (hgrow : (W.alloc (.cells #[.int .i64 (x : Int)] 3)).grownBy W1 v.ownBlock) (hat : v.ownBlock = some g ∨ g = H) (hH : W.heap.size ≤ H) (hlt : g < W1.heap.size) :
    NRow B2 W1 v2 m ∧ Off (own v2) (own (.slice (some ⟨g, 0, none⟩) n cap)) ∧ ∀ k ∈ own v2, k < W1.heap.size := by
  obtain ⟨k1, k2, k3⟩ := app_keep ((Keep.refl [] W).alloc _) hgrow hat hH hlt
  refine ⟨row_keep h2 k1 ho, fun k hk hg => ?_, fun k hk => Nat.lt_of_lt_of_le (hl2 k hk) k1.size⟩
  have hk' := hl2 k hk
  have : k = g := by simpa [own, Value.ownBlock] using hg
  subst this
  rcases hat with e | e
  · exact ho k hk (mem_own.2 e)
  · omega

set_option maxRecDepth 100000 in
set_option maxHeartbeats 4000000 in
theorem rway_any (x y : Int) (w : World) (q bt bu bw n : Nat) (ft : Nat → Bool) (fu fw : Nat → Int) (T : Tr) (h : RIn w q bt bu bw n ft fu fw) (hs : Says T n ft fu fw) :
    Calls Try.prog 60 #[.pointer (some ⟨q, 0, none⟩), .int .i64 x, .int .i64 y] w fun e w' => (∃ s l, e = .returned s ∧ NRow w.heap.size w' s l ∧ l.Perm (T.wayI x y)) ∧ Below w.heap.size w w' := by
  obtain ⟨i1, hi1, hy0, hy1, hy2⟩ := info_parts Try.info3
  have h1 := hide (rlca_any x y w q bt bu bw n ft fu fw T h hs)
  rcases hs.wf.way_cases x y with ⟨e1, e2⟩ | ⟨i, j, t, a, b, c, rfl, rfl, hi, hj, hm⟩
  · rw [e1] at h1
    rw [e2]
    clear h hs e1 e2
    go_enter Try.func60, Try.ntmps60
    go_wp2_with fail
    refine (unhide h1).mono ?_
    rintro e w' ⟨rfl, hb⟩
    have HB := hide hb
    clear hb
    go_wp2
    go_ret
    exact ⟨⟨_, [], rfl, World.ownsRow_nil _ _ _ _, List.Perm.refl _⟩, unhide HB⟩
  · have hl := hm.lca
    rw [show T.lcaI i j = t from by rw [Tr.lcaI, T.upI_nat, T.upI_nat, hl]] at h1
    rw [show T.wayI i j = t :: (a ++ b) from by rw [Tr.wayI, T.upI_nat, T.upI_nat, hm.way]]
    have hn := hs.le
    obtain ⟨c0, c1, c2⟩ := h.cells
    have hq : q < w.heap.size := blk_lt h.blk
    have hbu : bu < w.heap.size := h.ru.lt
    have HC : Hid (∀ y, T.par y ≠ -2 → y < n ∧ w.cell? ⟨bu, y, none⟩ = some (.int .i64 (T.par y))) := fun y hy => ⟨hs.lt hy, by rw [h.ru.cell (hs.lt hy), inV, hs.up y hy]⟩
    have ui := hs.wf.spec hi
    have uj := hs.wf.spec hj
    have la : a.length ≤ 1048576 := by have := hs.wf.len ui; have := hs.fit.n; rw [hm.el] at *; simp at *; omega
    have lb : b.length ≤ 1048576 := by have := hs.wf.len uj; have := hs.fit.n; rw [hm.em] at *; simp at *; omega
    have hA : i = i ∧ hdI (a ++ [t]) = (i : Int) := by
      obtain ⟨t', e⟩ := ui.head
      rw [hm.el] at e
      refine ⟨rfl, ?_⟩
      cases a with
      | nil => simp at e; simp [hdI, e.1]
      | cons z r => simp at e; simp [hdI, e.1]
    have hB : hdI (b ++ [t]) = (j : Int) := by
      obtain ⟨t', e⟩ := uj.head
      rw [hm.em] at e
      cases b with
      | nil => simp at e; simp [hdI, e.1]
      | cons z r => simp at e; simp [hdI, e.1]
    have HNA : Hid (∀ dn y r, dn ++ y :: r = a → T.par y = hdI (r ++ [t]) ∧ T.par y ≠ -2 ∧ y ≠ t) := fun dn y r e => by
      obtain ⟨n1, n2⟩ := chain_next (hm.el ▸ ui) e
      exact ⟨n1, n2, fun e' => hm.na (by rw [← e, ← e']; simp)⟩
    have HNB : Hid (∀ dn y r, dn ++ y :: r = b → T.par y = hdI (r ++ [t]) ∧ T.par y ≠ -2 ∧ y ≠ t) := fun dn y r e => by
      obtain ⟨n1, n2⟩ := chain_next (hm.em ▸ uj) e
      exact ⟨n1, n2, fun e' => hm.nb (by rw [← e, ← e']; simp)⟩
    have ht0 : (0 : Int) ≤ (t : Int) := by omega
    have HLAB := hide (And.intro la lb)
    rw [← hA.2, ← hB]
    rw [← hA.2, ← hB] at h1
    clear h hs hm hl ui uj hi hj c0 c2 hA hB la lb
    go_enter Try.func60, Try.ntmps60
    go_wp2_with fail
    refine (unhide h1).mono ?_
    rintro e w0 ⟨rfl, hb0⟩
    have HB0 := hide hb0
    clear hb0 h1
    go_wp2
    go_loopg [1, 8] a.length (fun gk z s w' => ∃ (dn rest : List Nat), z = .int .i64 (hdI (rest ++ [t])) ∧ dn ++ rest = a ∧ rest.length = gk ∧ Hid (NRow w.heap.size w' s dn ∧ Below w.heap.size w w'))
    case atStart => exact ⟨[], a, rfl, rfl, rfl, World.ownsRow_nil _ _ _ _, unhide HB0⟩
    case round =>
      obtain ⟨dn, rest, rfl, hdn, hgk, HK⟩ := hrel
      cases rest with
      | nil =>
        rw [List.append_nil] at hdn
        subst hdn
        obtain ⟨W1, hW1⟩ : ∃ W, W = wr := ⟨_, rfl⟩
        subst hW1
        rw [show hdI ([] ++ [t]) = (t : Int) from rfl]
        clear hgk HNA
        go_wp2
        go_loopg [2, 9] b.length (fun gk z s w' => ∃ (en rest : List Nat), z = .int .i64 (hdI (rest ++ [t])) ∧ en ++ rest = b ∧ rest.length = gk ∧ Hid (NRow W1.heap.size w' s en ∧ Below W1.heap.size W1 w'))
        case atStart => exact ⟨[], b, rfl, rfl, rfl, World.ownsRow_nil _ _ _ _, Below.refl _ _⟩
        case round =>
          obtain ⟨en, rest, rfl, hen, hgk, HK2⟩ := hrel
          cases rest with
          | nil =>
            rw [List.append_nil] at hen
            subst hen
            rw [show hdI ([] ++ [t]) = (t : Int) from rfl]
            have hst : NRow w.heap.size wr u8 dn ∧ NRow W1.heap.size wr u9 en ∧ Off (own u9) (own u8) ∧ (∀ k ∈ own u9, k < wr.heap.size) ∧ Below w.heap.size w wr := by
              obtain ⟨k1, k2⟩ := unhide HK
              obtain ⟨k3, k4⟩ := unhide HK2
              refine ⟨row_keep k1 (Keep.ofBelow k4 []) (fun _ _ => by simp), k3, fun k hk hk' => ?_, row_lt k3, k2.trans (k4.mono k2.size)⟩
              have := row_ge k3 k hk
              have := row_lt k1 k hk'
              omega
            have HST := hide hst
            have hrow := hst.1
            unfold NRow at hrow
            have hsz := hst.2.2.2.2.size
            have hdl := (unhide HLAB).1
            have hel := (unhide HLAB).2
            obtain ⟨xb, cb, hub, q1, q2, q3⟩ := hst.2.1.form
            have HUB := hide hub
            subst hub
            clear hst HK HK2 hgk HNB q3
            unfold maxLen at q2
            generalize hL : dn.length = L at hrow hdl
            have HL := hide hL
            clear hL
            generalize hL2 : en.length = L2 at *
            have HL2 := hide hL2
            clear hL2
            go_wp2_with (at_builtin; refine wpList_append_lies _ rfl _ _ 53 rfl w.heap.size 3 i1 (.int .i64 0) 1 8 Try.underlying53 hi1 hy0 hy1 hy2 rfl (by decide) _ _ _ rfl (hrow.alloc _) ⟨wr.heap.size, 0, none⟩ 1 1 [.int .i64 (t : Int)] rfl rfl (news_at _ _ _ _ (by simp)) (one1' _) (by omega) (by unfold maxLen; omega) (by omega) (by simp; omega) (wr.heap.size + 1) (by simp) ?_)
            intro g' cap' w2 hown hgrow hat hlt'
            obtain ⟨p1, p2, p3, p4, p5⟩ := unhide HST
            have r := p1.push hsz hgrow hat (by omega) hlt' (unhide HL).symm hown p5
            have r2 := push_beside (n := L + 1) (cap := cap') p1 p2 p3 p4 hgrow hat (by omega) hlt'
            have HR := hide (And.intro r r2)
            clear p1 p2 p3 p4 p5 r r2 HST hown hgrow hat hlt' hrow HUB
            go_wp2
            go_loopw [8, 10] (fun s z w' => ∃ k : Nat, k ≤ L2 ∧ z = .int .i64 (k : Int) ∧ Hid (NRow w.heap.size w' s (dn ++ t :: (en.drop k).reverse) ∧ NRow W1.heap.size w' (.slice xb L2 cb) en ∧ Off (own (.slice xb L2 cb)) (own s) ∧ (∀ k ∈ own (.slice xb L2 cb), k < w'.heap.size) ∧ Below w.heap.size w w')) (fun _ z _ => (intOf z).toNat)
            case atStart =>
              obtain ⟨⟨r1, r2⟩, r3, r4, r5⟩ := unhide HR
              refine ⟨L2, Nat.le_refl _, rfl, ?_, r3, r4, r5, r2⟩
              rw [List.drop_eq_nil_of_le (by rw [unhide HL2]; exact Nat.le_refl _)]
              exact r1
            case round =>
              obtain ⟨k, hk, rfl, HX⟩ := hrel
              cases k with
              | zero =>
                go_wp2
                go_ret
                obtain ⟨r1, r2, r3, r4, r5⟩ := unhide HX
                exact ⟨⟨_, _, rfl, r1, by rw [List.drop_zero]; exact way_perm dn en t⟩, r5⟩
              | succ k =>
                have hst := unhide HX
                obtain ⟨x9, c9, hx9, z1, z2, z3⟩ := hst.2.1.form
                have hke : k < en.length := by rw [unhide HL2]; omega
                obtain ⟨gb, rfl, hgb, _, cc⟩ := z3 (by omega)
                simp only [Value.slice.injEq] at hx9
                obtain ⟨hx1, hx2, hx3⟩ := hx9
                subst hx1
                clear hx2 hx3
                have dm := cc k hke
                have hdrop : (en.drop k).reverse = (en.drop (k + 1)).reverse ++ [en[k]] := by rw [List.drop_eq_getElem_cons hke, List.reverse_cons]
                clear cc z3
                generalize en[k] = y at dm hdrop
                clear hke
                have hrow := hst.1
                unfold NRow at hrow
                have hsz := hst.2.2.2.2.size
                have hlen : (dn ++ t :: (en.drop (k + 1)).reverse).length ≤ 2097153 := by
                  have := unhide HL; have := unhide HL2
                  simp; omega
                have HQ := hide (And.intro hst hdrop)
                clear hst z1 z2 hdrop HX
                generalize hM : (dn ++ t :: (en.drop (k + 1)).reverse).length = M at hrow hlen
                have HM := hide hM
                clear hM
                rw [show ((k + 1 : Nat) : Int) = (k : Int) + 1 from rfl]
                have e5 : (0 : Int) ≤ (k : Int) := by omega
                have e6 : (k : Int) + 1 ≤ (L2 : Int) := by omega
                go_wp2_with (at_builtin; refine wpList_append_lies _ rfl _ _ 53 rfl w.heap.size 3 i1 (.int .i64 0) 1 8 Try.underlying53 hi1 hy0 hy1 hy2 rfl (by decide) _ _ _ rfl (hrow.alloc _) ⟨wr.heap.size, 0, none⟩ 1 1 [.int .i64 (y : Int)] rfl rfl (news_at _ _ _ _ (by simp)) (one1' _) (by omega) (by unfold maxLen; omega) (by omega) (by simp; omega) (wr.heap.size + 1) (by simp) ?_)
                intro g' cap' w2 hown hgrow hat hlt'
                obtain ⟨⟨p1, p2, p3, p4, p5⟩, p6⟩ := unhide HQ
                have r := p1.push hsz hgrow hat (by omega) hlt' (unhide HM).symm hown p5
                have r2 := push_beside (n := M + 1) (cap := cap') p1 p2 p3 p4 hgrow hat (by omega) hlt'
                have HR2 := hide (And.intro r (And.intro r2 p6))
                clear p1 p2 p3 p4 p5 p6 r r2 HQ hown hgrow hat hlt' hrow dm
                go_wp2
                go_roundw
                case rel =>
                  obtain ⟨⟨r1, r2⟩, ⟨r3, r4, r5⟩, r6⟩ := unhide HR2
                  refine ⟨k, by omega, by go_num, ?_, r3, r4, r5, r2⟩
                  rw [r6]
                  simpa using r1
                case measure => simp [intOf]
          | cons y t' =>
            obtain ⟨r1, r2⟩ := unhide HK2
            obtain ⟨n1, n2, n3⟩ := unhide HNB en y t' hen
            obtain ⟨hyn, d⟩ := unhide HC y n2
            rw [n1] at d
            rw [show hdI (y :: t' ++ [t]) = (y : Int) from rfl]
            have hrow := r1
            unfold NRow at hrow
            have hdl : en.length ≤ 1048576 := by have := (unhide HLAB).2; rw [← hen] at this; simp at this; omega
            have hsz := r2.size
            have HQ := hide (And.intro r1 (And.intro r2 (And.intro hgk hen)))
            have he1 : ((y : Int) == (t : Int)) = false := beq_eq_false_iff_ne.2 (by omega)
            have he2 : (y : Int) ≠ (t : Int) := by omega
            clear r1 r2 HK2 n1 n2 n3 hgk hen
            generalize hq9 : hdI (t' ++ [t]) = z2 at *
            have HZ := hide hq9
            clear hq9
            generalize hL : en.length = L at hrow hdl
            have HL := hide hL
            clear hL
            go_wp2_with (at_builtin; refine wpList_append_lies _ rfl _ _ 53 rfl W1.heap.size 3 i1 (.int .i64 0) 1 8 Try.underlying53 hi1 hy0 hy1 hy2 rfl (by decide) _ _ _ rfl (hrow.alloc _) ⟨wr.heap.size, 0, none⟩ 1 1 [.int .i64 (y : Int)] rfl rfl (news_at _ _ _ _ (by simp)) (one1' _) (by omega) (by unfold maxLen; omega) (by omega) (by simp; omega) (wr.heap.size + 1) (by simp) ?_)
            intro g' cap' w2 hown hgrow hat hlt'
            obtain ⟨p4, p5, p7, p8⟩ := unhide HQ
            have r := p4.push hsz hgrow hat (by omega) hlt' (unhide HL).symm hown p5
            have bb := (unhide HK).2.trans (r.2.mono (unhide HK).2.size)
            have c1' := c1
            rw [← bb.cell (p := ⟨q, 1, none⟩) hq] at c1'
            rw [← bb.cell (p := ⟨bu, y, none⟩) hbu] at d
            have HR := hide (And.intro r (And.intro p7 p8))
            have e1 : (0 : Int) ≤ (y : Int) := by omega
            have e2 : (y : Int) < (n : Int) := by omega
            clear p4 p5 p7 p8 HQ r bb hown hgrow hat hlt' hrow he1 he2
            go_wp2
            go_roundg (gk - 1)
            case rel =>
              obtain ⟨⟨p4, p5⟩, p7, p8⟩ := unhide HR
              exact ⟨en ++ [y], t', by rw [unhide HZ], by rw [← p8]; simp, by simp at p7; omega, p4, p5⟩
            all_goals
              obtain ⟨⟨p4, p5⟩, p7, p8⟩ := unhide HR
              simp at p7
              omega
      | cons y t' =>
        obtain ⟨r1, r2⟩ := unhide HK
        obtain ⟨n1, n2, n3⟩ := unhide HNA dn y t' hdn
        obtain ⟨hyn, d⟩ := unhide HC y n2
        rw [n1] at d
        rw [show hdI (y :: t' ++ [t]) = (y : Int) from rfl]
        have hrow := r1
        unfold NRow at hrow
        have hdl : dn.length ≤ 1048576 := by have := (unhide HLAB).1; rw [← hdn] at this; simp at this; omega
        have hsz := r2.size
        have HQ := hide (And.intro r1 (And.intro r2 (And.intro hgk hdn)))
        have he1 : ((y : Int) == (t : Int)) = false := beq_eq_false_iff_ne.2 (by omega)
        have he2 : (y : Int) ≠ (t : Int) := by omega
        clear r1 r2 HK n1 n2 n3 hgk hdn
        generalize hq9 : hdI (t' ++ [t]) = z2 at *
        have HZ := hide hq9
        clear hq9
        generalize hL : dn.length = L at hrow hdl
        have HL := hide hL
        clear hL
        go_wp2_with (at_builtin; refine wpList_append_lies _ rfl _ _ 53 rfl w.heap.size 3 i1 (.int .i64 0) 1 8 Try.underlying53 hi1 hy0 hy1 hy2 rfl (by decide) _ _ _ rfl (hrow.alloc _) ⟨wr.heap.size, 0, none⟩ 1 1 [.int .i64 (y : Int)] rfl rfl (news_at _ _ _ _ (by simp)) (one1' _) (by omega) (by unfold maxLen; omega) (by omega) (by simp; omega) (wr.heap.size + 1) (by simp) ?_)
        intro g' cap' w2 hown hgrow hat hlt'
        obtain ⟨p4, p5, p7, p8⟩ := unhide HQ
        have r := p4.push hsz hgrow hat (by omega) hlt' (unhide HL).symm hown p5
        have c1' := c1
        rw [← r.2.cell (p := ⟨q, 1, none⟩) hq] at c1'
        rw [← r.2.cell (p := ⟨bu, y, none⟩) hbu] at d
        have HR := hide (And.intro r (And.intro p7 p8))
        have e1 : (0 : Int) ≤ (y : Int) := by omega
        have e2 : (y : Int) < (n : Int) := by omega
        clear p4 p5 p7 p8 HQ r hown hgrow hat hlt' hrow he1 he2
        go_wp2
        go_roundg (gk - 1)
        case rel =>
          obtain ⟨⟨p4, p5⟩, p7, p8⟩ := unhide HR
          exact ⟨dn ++ [y], t', by rw [unhide HZ], by rw [← p8]; simp, by simp at p7; omega, p4, p5⟩
        all_goals
          obtain ⟨⟨p4, p5⟩, p7, p8⟩ := unhide HR
          simp at p7
          omega
end Go.Proofs.Ytbcibdofcjehcaa
