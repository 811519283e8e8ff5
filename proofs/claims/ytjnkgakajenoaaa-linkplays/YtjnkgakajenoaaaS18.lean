/- Part 18 of the texts. -/
import Derived.Test.YtjnkgakajenoaaaS1
import Derived.Test.YtjnkgakajenoaaaS17
import Derived.BigRegion
import Derived.Test.YtjnkgakajenoaaaS16
import Derived.Test.YtjnkgakajenoaaaRows
import Derived.WalkKit
import Derived.OpenShut
import Derived.ProofKit
import Derived.Deep.Slices
import Derived.Deep.Strs
import Derived.Lib.SmallJoins
namespace Go.Proofs.Ytjnkgakajenoaaa
open Go.RowKit Go.Arb
set_option linter.unusedVariables false
set_option linter.unusedSimpArgs false
theorem chain_next {par : Nat -> Int} {i t y : Nat} {a c dn r : List Nat} (hu : Up par i (a ++ t :: c)) (e : dn ++ y :: r = a) : par y = hdI (r ++ [t]) /\ par y ≠ -2 := by
 subst e
 have h := hu.suffix (a := dn) (x := y) (b := r ++ t :: c) (by simp)
 refine ⟨?_, h.there⟩
 rcases h.next with ⟨_, e⟩ | ⟨p, e, hp⟩
 ·simp at e
 ·obtain ⟨t', e'⟩ := hp.head
  rw [e]
  cases r with
  | nil => simp at e'; simp [hdI, e'.1]
  | cons z r' => simp at e'; simp [hdI, e'.1]
theorem Tr.Wf.way_cases {T : Tr} (h : T.Wf) (x y : Int) : (T.lcaI x y = -1 /\ T.wayI x y = []) ∨ ∃ (i j t : Nat) (a b c : List Nat), x = i /\ y = j /\ T.par i ≠ -2 /\ T.par j ≠ -2 /\ Meet (T.up i) (T.up j) t a b c := by
 have no : (∀ z ∈ T.upI x, z ∉ T.upI y) -> T.lcaI x y = -1 /\ T.wayI x y = [] := fun hn => by
  have := meet_none hn
  exact ⟨by simp [Tr.lcaI, lcaL, this], by simp [Tr.wayI, wayL, this]⟩
 cases hx : T.hasI x
 ·exact .inl (no (by rw [Tr.upI_gone hx]; simp))
 ·cases hy : T.hasI y
  ·exact .inl (no (by rw [Tr.upI_gone hy]; simp))
  ·obtain ⟨i, rfl, hi⟩ := Tr.hasI_true hx
   obtain ⟨j, rfl, hj⟩ := Tr.hasI_true hy
   rcases h.meets hi hj with ⟨t, a, b, c, hm⟩ | hn
   ·exact .inr ⟨i, j, t, a, b, c, rfl, rfl, hi, hj, hm⟩
   ·exact .inl (no (by rw [T.upI_nat, T.upI_nat]; exact hn))
theorem way_permR (a b : List Nat) (t : Nat) : (a ++ t :: b.reverse).Perm (t :: (a ++ b)) :=
 List.perm_middle.trans ((List.Perm.append_left a (List.reverse_perm b)).cons t)
theorem push_beside {B B2 : Nat} {W W1 : World} {v v2 : Value} {l m : List Nat} {g H n cap x : Nat} (h : NRow B W v l) (h2 : NRow B2 W v2 m) (ho : Off (own v2) (own v)) (hl2 : ∀ k ∈ own v2, k < W.heap.size) (hgrow : (W.alloc (.cells #[zi x] 3)).grownBy W1 v.ownBlock) (hat : v.ownBlock = some g ∨ g = H) (hH : W.heap.size <= H) (hlt : g < W1.heap.size) :
  NRow B2 W1 v2 m /\ Off (own v2) (own (.slice (some ⟨g, 0, none⟩) n cap)) /\ ∀ k ∈ own v2, k < W1.heap.size := by
 obtain ⟨k1, k2, k3⟩ := app_keep ((Keep.refl [] W).alloc _) hgrow hat hH hlt
 refine ⟨row_keep h2 k1 ho, fun k hk hg => ?_, fun k hk => Nat.lt_of_lt_of_le (hl2 k hk) k1.size⟩
 have hk' := hl2 k hk
 have : k = g := by simpa [own, Value.ownBlock] using hg
 subst this
 rcases hat with e | e
 ·exact ho k hk (mem_own.2 e)
 ·omega
set_option maxRecDepth 100000 in
set_option maxHeartbeats 4000000 in
theorem rway_any (x y : Int) (w : World) (q bt bu bw n : Nat) (ft : Nat -> Bool) (fu fw : Nat -> Int) (T : Tr) (h : RIn w q bt bu bw n ft fu fw) (hs : Says T n ft fu fw) :
  Calls Try.prog 67 #[zp q 0, zi x, zi y] w fun e w' => (∃ s l, e = .returned s /\ NRow w.heap.size w' s l /\ l.Perm (T.wayI x y)) /\ Below w.heap.size w w' := by
 obtain ⟨i1, hi1, hy0, hy1, hy2⟩ := info_parts Try.info3
 have h1 := hide (rlca_any x y w q bt bu bw n ft fu fw T h hs)
 rcases hs.wf.way_cases x y with ⟨e1, e2⟩ | ⟨i, j, t, a, b, c, rfl, rfl, hi, hj, hm⟩
 ·rw [e1] at h1
  rw [e2]
  clear h hs e1 e2
  go_enter Try.func67, Try.ntmps67
  go_wp2_with fail
  refine (unhide h1).mono ?_
  rintro e w' ⟨rfl, hb⟩
  have HB := hide hb
  clear hb
  go_wp2
  go_ret
  exact ⟨⟨_, [], rfl, World.ownsRow_nil _ _ _ _, List.Perm.refl _⟩, unhide HB⟩
 ·have hl := hm.lca
  rw [show T.lcaI i j = t from by rw [Tr.lcaI, T.upI_nat, T.upI_nat, hl]] at h1
  rw [show T.wayI i j = t :: (a ++ b) from by rw [Tr.wayI, T.upI_nat, T.upI_nat, hm.way]]
  have hn := hs.le
  obtain ⟨c0, c1, c2⟩ := h.cells
  have hq : q < w.heap.size := blk_lt h.blk
  have hbu : bu < w.heap.size := h.ru.lt
  have HC : Hid (∀ y, T.par y ≠ -2 -> y < n /\ w.cell? ⟨bu, y, none⟩ = some (zi (T.par y))) := fun y hy => ⟨hs.lt hy, by rw [h.ru.cell (hs.lt hy), inV, hs.up y hy]⟩
  have ui := hs.wf.spec hi
  have uj := hs.wf.spec hj
  have la : a.length <= 1048576 := by have := hs.wf.len ui; have := hs.fit.n; rw [hm.el] at *; simp at *; omega
  have lb : b.length <= 1048576 := by have := hs.wf.len uj; have := hs.fit.n; rw [hm.em] at *; simp at *; omega
  have hA : i = i /\ hdI (a ++ [t]) = (i : Int) := by
   obtain ⟨t', e⟩ := ui.head
   rw [hm.el] at e
   refine ⟨rfl, ?_⟩
   cases a with
   | nil => simp at e; simp [hdI, e.1]
   | cons z r => simp at e; simp [hdI, e.1]
  have hB : hdI (b ++ [t]) = (j : Int) := by
   obtain ⟨t', e⟩ := uj.head
   rw [hm.em] at e
   cases b with
   | nil => simp at e; simp [hdI, e.1]
   | cons z r => simp at e; simp [hdI, e.1]
  have HNA : Hid (∀ dn y r, dn ++ y :: r = a -> T.par y = hdI (r ++ [t]) /\ T.par y ≠ -2 /\ y ≠ t) := fun dn y r e => by
   obtain ⟨n1, n2⟩ := chain_next (hm.el ▸ ui) e
   exact ⟨n1, n2, fun e' => hm.na (by rw [← e, ← e']; simp)⟩
  have HNB : Hid (∀ dn y r, dn ++ y :: r = b -> T.par y = hdI (r ++ [t]) /\ T.par y ≠ -2 /\ y ≠ t) := fun dn y r e => by
   obtain ⟨n1, n2⟩ := chain_next (hm.em ▸ uj) e
   exact ⟨n1, n2, fun e' => hm.nb (by rw [← e, ← e']; simp)⟩
  have ht0 : (0 : Int) <= (t : Int) := by omega
  have HLAB := hide (And.intro la lb)
  rw [← hA.2, ← hB]
  rw [← hA.2, ← hB] at h1
  clear h hs hm hl ui uj hi hj c0 c2 hA hB la lb
  go_enter Try.func67, Try.ntmps67
  go_wp2_with fail
  refine (unhide h1).mono ?_
  rintro e w0 ⟨rfl, hb0⟩
  have HB0 := hide hb0
  clear hb0 h1
  go_wp2
  go_loopg [1, 8] a.length (fun gk z s w' => ∃ (dn rest : List Nat), z = zi (hdI (rest ++ [t])) /\ dn ++ rest = a /\ rest.length = gk /\ Hid (NRow w.heap.size w' s dn /\ Below w.heap.size w w'))
  case atStart => exact ⟨[], a, rfl, rfl, rfl, World.ownsRow_nil _ _ _ _, unhide HB0⟩
  case round =>
   obtain ⟨dn, rest, rfl, hdn, hgk, HK⟩ := hrel
   cases rest with
   | nil =>
    rw [List.append_nil] at hdn
    subst hdn
    obtain ⟨W1, hW1⟩ : ∃ W, W = wr := ⟨_, rfl⟩
    subst hW1
    rw [show hdI ([] ++ [t]) = (t : Int) from rfl]
    clear hgk HNA
    go_wp2
    go_loopg [2, 9] b.length (fun gk z s w' => ∃ (en rest : List Nat), z = zi (hdI (rest ++ [t])) /\ en ++ rest = b /\ rest.length = gk /\ Hid (NRow W1.heap.size w' s en /\ Below W1.heap.size W1 w'))
    case atStart => exact ⟨[], b, rfl, rfl, rfl, World.ownsRow_nil _ _ _ _, Below.refl _ _⟩
    case round =>
     obtain ⟨en, rest, rfl, hen, hgk, HK2⟩ := hrel
     cases rest with
     | nil =>
      rw [List.append_nil] at hen
      subst hen
      rw [show hdI ([] ++ [t]) = (t : Int) from rfl]
      have hst : NRow w.heap.size wr u8 dn /\ NRow W1.heap.size wr u9 en /\ Off (own u9) (own u8) /\ (∀ k ∈ own u9, k < wr.heap.size) /\ Below w.heap.size w wr := by
       obtain ⟨k1, k2⟩ := unhide HK
       obtain ⟨k3, k4⟩ := unhide HK2
       refine ⟨row_keep k1 (Keep.ofBelow k4 []) (fun _ _ => by simp), k3, fun k hk hk' => ?_, row_lt k3, k2.trans (k4.mono k2.size)⟩
       have := row_ge k3 k hk
       have := row_lt k1 k hk'
       omega
      have HST := hide hst
      have hrow := hst.1
      unfold NRow at hrow
      have hsz := hst.2.2.2.2.size
      have hdl := (unhide HLAB).1
      have hel := (unhide HLAB).2
      obtain ⟨xb, cb, hub, q1, q2, q3⟩ := hst.2.1.form
      have HUB := hide hub
      subst hub
      clear hst HK HK2 hgk HNB q3
      unfold maxLen at q2
      generalize hL : dn.length = L at hrow hdl
      have HL := hide hL
      clear hL
      generalize hL2 : en.length = L2 at *
      have HL2 := hide hL2
      clear hL2
      go_wp2_with (at_builtin; refine wpList_append_lies _ rfl _ _ 53 rfl w.heap.size 3 i1 (zi 0) 1 8 Try.underlying53 hi1 hy0 hy1 hy2 rfl (by decide) _ _ _ rfl (hrow.alloc _) ⟨wr.heap.size, 0, none⟩ 1 1 [zi t] rfl rfl (news_at _ _ _ _ (by simp)) (one1' _) (by omega) (by unfold maxLen; omega) (by omega) (by simp; omega) (wr.heap.size + 1) (by simp) ?_)
      intro g' cap' w2 hown hgrow hat hlt'
      obtain ⟨p1, p2, p3, p4, p5⟩ := unhide HST
      have r := p1.push hsz hgrow hat (by omega) hlt' (unhide HL).symm hown p5
      have r2 := push_beside (n := L + 1) (cap := cap') p1 p2 p3 p4 hgrow hat (by omega) hlt'
      have HR := hide (And.intro r r2)
      clear p1 p2 p3 p4 p5 r r2 HST hown hgrow hat hlt' hrow HUB
      go_wp2
      go_loopw [8, 10] (fun s z w' => ∃ k : Nat, k <= L2 /\ z = zi k /\ Hid (NRow w.heap.size w' s (dn ++ t :: (en.drop k).reverse) /\ NRow W1.heap.size w' (.slice xb L2 cb) en /\ Off (own (.slice xb L2 cb)) (own s) /\ (∀ k ∈ own (.slice xb L2 cb), k < w'.heap.size) /\ Below w.heap.size w w')) (fun _ z _ => (intOf z).toNat)
      case atStart =>
       obtain ⟨⟨r1, r2⟩, r3, r4, r5⟩ := unhide HR
       refine ⟨L2, Nat.le_refl _, rfl, ?_, r3, r4, r5, r2⟩
       rw [List.drop_eq_nil_of_le (by rw [unhide HL2]; exact Nat.le_refl _)]
       exact r1
      case round =>
       obtain ⟨k, hk, rfl, HX⟩ := hrel
       cases k with
       | zero =>
        go_wp2
        go_ret
        obtain ⟨r1, r2, r3, r4, r5⟩ := unhide HX
        exact ⟨⟨_, _, rfl, r1, by rw [List.drop_zero]; exact way_permR dn en t⟩, r5⟩
       | succ k =>
        have hst := unhide HX
        obtain ⟨x9, c9, hx9, z1, z2, z3⟩ := hst.2.1.form
        have hke : k < en.length := by rw [unhide HL2]; omega
        obtain ⟨gb, rfl, hgb, _, cc⟩ := z3 (by omega)
        simp only [Value.slice.injEq] at hx9
        obtain ⟨hx1, hx2, hx3⟩ := hx9
        subst hx1
        clear hx2 hx3
        have dm := cc k hke
        have hdrop : (en.drop k).reverse = (en.drop (k + 1)).reverse ++ [en[k]] := by rw [List.drop_eq_getElem_cons hke, List.reverse_cons]
        clear cc z3
        generalize en[k] = y at dm hdrop
        clear hke
        have hrow := hst.1
        unfold NRow at hrow
        have hsz := hst.2.2.2.2.size
        have hlen : (dn ++ t :: (en.drop (k + 1)).reverse).length <= 2097153 := by
         have := unhide HL; have := unhide HL2
         simp; omega
        have HQ := hide (And.intro hst hdrop)
        clear hst z1 z2 hdrop HX
        generalize hM : (dn ++ t :: (en.drop (k + 1)).reverse).length = M at hrow hlen
        have HM := hide hM
        clear hM
        rw [show ((k + 1 : Nat) : Int) = (k : Int) + 1 from rfl]
        have e5 : (0 : Int) <= (k : Int) := by omega
        have e6 : (k : Int) + 1 <= (L2 : Int) := by omega
        go_wp2_with (at_builtin; refine wpList_append_lies _ rfl _ _ 53 rfl w.heap.size 3 i1 (zi 0) 1 8 Try.underlying53 hi1 hy0 hy1 hy2 rfl (by decide) _ _ _ rfl (hrow.alloc _) ⟨wr.heap.size, 0, none⟩ 1 1 [zi y] rfl rfl (news_at _ _ _ _ (by simp)) (one1' _) (by omega) (by unfold maxLen; omega) (by omega) (by simp; omega) (wr.heap.size + 1) (by simp) ?_)
        intro g' cap' w2 hown hgrow hat hlt'
        obtain ⟨⟨p1, p2, p3, p4, p5⟩, p6⟩ := unhide HQ
        have r := p1.push hsz hgrow hat (by omega) hlt' (unhide HM).symm hown p5
        have r2 := push_beside (n := M + 1) (cap := cap') p1 p2 p3 p4 hgrow hat (by omega) hlt'
        have HR2 := hide (And.intro r (And.intro r2 p6))
        clear p1 p2 p3 p4 p5 p6 r r2 HQ hown hgrow hat hlt' hrow dm
        go_wp2
        go_roundw
        case rel =>
         obtain ⟨⟨r1, r2⟩, ⟨r3, r4, r5⟩, r6⟩ := unhide HR2
         refine ⟨k, by omega, by go_num, ?_, r3, r4, r5, r2⟩
         rw [r6]
         simpa using r1
        case measure => simp [intOf]
     | cons y t' =>
      obtain ⟨r1, r2⟩ := unhide HK2
      obtain ⟨n1, n2, n3⟩ := unhide HNB en y t' hen
      obtain ⟨hyn, d⟩ := unhide HC y n2
      rw [n1] at d
      rw [show hdI (y :: t' ++ [t]) = (y : Int) from rfl]
      have hrow := r1
      unfold NRow at hrow
      have hdl : en.length <= 1048576 := by have := (unhide HLAB).2; rw [← hen] at this; simp at this; omega
      have hsz := r2.size
      have HQ := hide (And.intro r1 (And.intro r2 (And.intro hgk hen)))
      have he1 : ((y : Int) == (t : Int)) = false := beq_eq_false_iff_ne.2 (by omega)
      have he2 : (y : Int) ≠ (t : Int) := by omega
      clear r1 r2 HK2 n1 n2 n3 hgk hen
      generalize hq9 : hdI (t' ++ [t]) = z2 at *
      have HZ := hide hq9
      clear hq9
      generalize hL : en.length = L at hrow hdl
      have HL := hide hL
      clear hL
      go_wp2_with (at_builtin; refine wpList_append_lies _ rfl _ _ 53 rfl W1.heap.size 3 i1 (zi 0) 1 8 Try.underlying53 hi1 hy0 hy1 hy2 rfl (by decide) _ _ _ rfl (hrow.alloc _) ⟨wr.heap.size, 0, none⟩ 1 1 [zi y] rfl rfl (news_at _ _ _ _ (by simp)) (one1' _) (by omega) (by unfold maxLen; omega) (by omega) (by simp; omega) (wr.heap.size + 1) (by simp) ?_)
      intro g' cap' w2 hown hgrow hat hlt'
      obtain ⟨p4, p5, p7, p8⟩ := unhide HQ
      have r := p4.push hsz hgrow hat (by omega) hlt' (unhide HL).symm hown p5
      have bb := (unhide HK).2.trans (r.2.mono (unhide HK).2.size)
      have c1' := c1
      rw [← bb.cell (p := ⟨q, 1, none⟩) hq] at c1'
      rw [← bb.cell (p := ⟨bu, y, none⟩) hbu] at d
      have HR := hide (And.intro r (And.intro p7 p8))
      have e1 : (0 : Int) <= (y : Int) := by omega
      have e2 : (y : Int) < (n : Int) := by omega
      clear p4 p5 p7 p8 HQ r bb hown hgrow hat hlt' hrow he1 he2
      go_wp2
      go_roundg (gk - 1)
      case rel =>
       obtain ⟨⟨p4, p5⟩, p7, p8⟩ := unhide HR
       exact ⟨en ++ [y], t', by rw [unhide HZ], by rw [← p8]; simp, by simp at p7; omega, p4, p5⟩
      all_goals
       obtain ⟨⟨p4, p5⟩, p7, p8⟩ := unhide HR
       simp at p7
       omega
   | cons y t' =>
    obtain ⟨r1, r2⟩ := unhide HK
    obtain ⟨n1, n2, n3⟩ := unhide HNA dn y t' hdn
    obtain ⟨hyn, d⟩ := unhide HC y n2
    rw [n1] at d
    rw [show hdI (y :: t' ++ [t]) = (y : Int) from rfl]
    have hrow := r1
    unfold NRow at hrow
    have hdl : dn.length <= 1048576 := by have := (unhide HLAB).1; rw [← hdn] at this; simp at this; omega
    have hsz := r2.size
    have HQ := hide (And.intro r1 (And.intro r2 (And.intro hgk hdn)))
    have he1 : ((y : Int) == (t : Int)) = false := beq_eq_false_iff_ne.2 (by omega)
    have he2 : (y : Int) ≠ (t : Int) := by omega
    clear r1 r2 HK n1 n2 n3 hgk hdn
    generalize hq9 : hdI (t' ++ [t]) = z2 at *
    have HZ := hide hq9
    clear hq9
    generalize hL : dn.length = L at hrow hdl
    have HL := hide hL
    clear hL
    go_wp2_with (at_builtin; refine wpList_append_lies _ rfl _ _ 53 rfl w.heap.size 3 i1 (zi 0) 1 8 Try.underlying53 hi1 hy0 hy1 hy2 rfl (by decide) _ _ _ rfl (hrow.alloc _) ⟨wr.heap.size, 0, none⟩ 1 1 [zi y] rfl rfl (news_at _ _ _ _ (by simp)) (one1' _) (by omega) (by unfold maxLen; omega) (by omega) (by simp; omega) (wr.heap.size + 1) (by simp) ?_)
    intro g' cap' w2 hown hgrow hat hlt'
    obtain ⟨p4, p5, p7, p8⟩ := unhide HQ
    have r := p4.push hsz hgrow hat (by omega) hlt' (unhide HL).symm hown p5
    have c1' := c1
    rw [← r.2.cell (p := ⟨q, 1, none⟩) hq] at c1'
    rw [← r.2.cell (p := ⟨bu, y, none⟩) hbu] at d
    have HR := hide (And.intro r (And.intro p7 p8))
    have e1 : (0 : Int) <= (y : Int) := by omega
    have e2 : (y : Int) < (n : Int) := by omega
    clear p4 p5 p7 p8 HQ r hown hgrow hat hlt' hrow he1 he2
    go_wp2
    go_roundg (gk - 1)
    case rel =>
     obtain ⟨⟨p4, p5⟩, p7, p8⟩ := unhide HR
     exact ⟨dn ++ [y], t', by rw [unhide HZ], by rw [← p8]; simp, by simp at p7; omega, p4, p5⟩
    all_goals
     obtain ⟨⟨p4, p5⟩, p7, p8⟩ := unhide HR
     simp at p7
     omega
end Go.Proofs.Ytjnkgakajenoaaa
namespace Go.Proofs.Ytjnkgakajenoaaa
open Go.RowKit Go.Arb
set_option linter.unusedVariables false
theorem Meet.way_nodup {T : Tr} (h : T.Wf) {i j t : Nat} {a b c : List Nat} (hm : Meet (T.up i) (T.up j) t a b c) : (t :: (a ++ b)).Nodup /\ ∀ x ∈ t :: (a ++ b), T.par x ≠ -2 := by
 have h1 := h.spec (v := i) (Tr.there (x := t) (by rw [hm.el]; simp))
 have h2 := h.spec (v := j) (Tr.there (x := t) (by rw [hm.em]; simp))
 have n1 := h1.nodup
 have n2 := h2.nodup
 have m1 := h1.mem
 have m2 := h2.mem
 have na := hm.na
 have nb := hm.nb
 rw [hm.el] at n1 m1
 rw [hm.em] at n2 m2
 refine ⟨List.nodup_cons.2 ⟨by simp [na, nb], List.nodup_append.2 ⟨(List.nodup_append.1 n1).1, (List.nodup_append.1 n2).1, fun x hx y hy e => ?_⟩⟩, fun x hx => ?_⟩
 ·subst e; exact hm.ha x hx (by rw [hm.em]; simp [hy])
 ·simp only [List.mem_cons, List.mem_append] at hx
  rcases hx with rfl | hx | hx
  ·exact m1 x (by simp)
  ·exact m1 x (by simp [hx])
  ·exact m2 x (by simp [hx])
set_option linter.unusedSimpArgs false
theorem Tr.Wf.way_facts {T : Tr} (h : T.Wf) (x y : Int) : (T.wayI x y).Nodup /\ (∀ z ∈ T.wayI x y, T.par z ≠ -2) /\ decide (0 < (T.wayI x y).length) = T.sameI x y /\ (T.wayI x y).length <= T.n := by
 rcases h.way_cases x y with ⟨e1, e2⟩ | ⟨i, j, t, a, b, c, rfl, rfl, hi, hj, hm⟩
 ·rw [e2]
  refine ⟨List.nodup_nil, by simp, ?_, by simp⟩
  cases hs : T.sameI x y
  ·rfl
  ·obtain ⟨i, j, rfl, rfl, hi, hj, t, a, b, c, hm⟩ := h.same_true hs
   rw [Tr.wayI, T.upI_nat, T.upI_nat, hm.way] at e2
   simp at e2
 ·have hw : T.wayI i j = t :: (a ++ b) := by rw [Tr.wayI, T.upI_nat, T.upI_nat, hm.way]
  obtain ⟨n1, n2⟩ := Meet.way_nodup h hm
  rw [hw]
  exact ⟨n1, n2, by rw [h.same_nat hm]; simp, nodup_len T.n _ n1 (fun x hx => h.lt x (n2 x hx))⟩
set_option maxHeartbeats 4000000 in
theorem rpath_any (x y : Int) (w : World) (q bt bu bw n : Nat) (ft : Nat -> Bool) (fu fw : Nat -> Int) (T : Tr) (h : RIn w q bt bu bw n ft fu fw) (hs : Says T n ft fu fw) :
  Calls Try.prog 32 #[zp q 0, zi x, zi y] w fun e w' => e = .returned (.tuple #[smV (T.pathI x y), .bool (T.sameI x y)]) /\ Below w.heap.size w w' := by
 obtain ⟨f1, f2, f3, f4⟩ := hs.wf.way_facts x y
 have h1 := hide (fun w1 (hb : Below w.heap.size w w1) => rway_any x y w1 q bt bu bw n ft fu fw T (h.below hb) hs)
 have hn := hs.le
 have f5 : (T.wayI x y).length <= 1048576 := Nat.le_trans f4 hs.fit.n
 obtain ⟨_, _, c2⟩ := h.cells
 have hp : q < w.heap.size := blk_lt h.blk
 have hbw0 : bw < w.heap.size := h.rw.lt
 have HC : Hid (∀ z, T.par z ≠ -2 -> z < n /\ w.cell? ⟨bw, z, none⟩ = some (zi (T.wt z)) /\ -1099511627776 <= T.wt z /\ T.wt z <= 1099511627776) := fun z hz => ⟨hs.lt hz, by rw [h.rw.cell (hs.lt hz), inV, hs.wt z hz], hs.fit.wt z⟩
 have HF : Hid (∀ l : List Nat, l.Perm (T.wayI x y) -> (∀ z ∈ l, T.par z ≠ -2) /\ ofL (l.map T.wt) = T.pathI x y /\ l.length <= 1048576 /\ decide (0 < l.length) = T.sameI x y) := fun l hp => ⟨fun z hz => f2 z (hp.mem_iff.1 hz), ofL_perm (hp.map _), by rw [hp.length_eq]; exact f5, by rw [hp.length_eq]; exact f3⟩
 generalize T.pathI x y = PS at *
 generalize T.sameI x y = sm at *
 generalize T.wt = wt at *
 clear h hs f1 f2 f3 f4 f5
 go_enter Try.func32, Try.ntmps32
 go_wp2_with fail
 refine (unhide h1 _ (b2 _ _ _)).mono ?_
 rintro e w1 ⟨⟨s, l, rfl, hrow, hperm⟩, hb1⟩
 obtain ⟨hth, hps, hll, hsm⟩ := unhide HF l hperm
 have HTH := hide hth
 have HPS := hide (And.intro hps hsm)
 obtain ⟨xs, cap', rfl, r1, r2, r3⟩ := hrow.form
 obtain ⟨z1, z0⟩ := SumAt.two w 34
 have hbb := hb1.mono (show w.heap.size <= _ from by simp; omega)
 have HS := hide (And.intro (z1.below hb1 (by simp)) (And.intro (z0.below hb1 (by simp; omega)) ((b2 w (.cells #[zi 0, zi 0, zi 0, zi 0] 34) (.cells #[zi 0, zi 0, zi 0, zi 0] 34)).trans hbb)))
 have HW := hide r3
 have hsz : w.heap.size + 2 <= w1.heap.size := by have := hb1.size; simp at this; omega
 clear hrow r3 z1 z0 hbb hb1 h1 HF hperm hth hps hsm
 have HL : Hid (∃ m, l.length = m) := ⟨_, rfl⟩
 obtain ⟨m, hm⟩ := HL.out
 rw [hm] at r1 hll ⊢
 have HM := hide hm
 clear hm HL
 unfold maxLen at r2
 go_wp2
 go_loopw [10] (fun i w' => ∃ k : Nat, k <= m /\ i = zi k /\ Hid (Keep [w.heap.size + 1] w1 w' /\ SumAt w' (w.heap.size + 1) (ofL ((l.map wt).take k)))) (fun i _ => m - (intOf i).toNat)
 case atStart => exact ⟨0, Nat.zero_le _, rfl, Keep.refl _ _, (unhide HS).1⟩
 case round =>
  obtain ⟨k, hk, rfl, HK⟩ := hrel
  obtain ⟨hkp, hs1⟩ := unhide HK
  by_cases hlt : k < m
  ·have hkl : k < l.length := by rw [unhide HM]; exact hlt
   obtain ⟨g', rfl, hg3, hg', r5⟩ := unhide HW (by omega)
   have hg4 : w.heap.size + 2 <= g' := by simpa using hg'
   have d := r5 k hkl
   clear r5
   obtain ⟨x0, d2, hn1, hn2⟩ := unhide HC l[k] (unhide HTH _ (List.getElem_mem hkl))
   have hsucc := hide (ofL_take_succ (l.map wt) k (by simpa using hkl))
   rw [show (l.map wt).getD k 0 = wt l[k] from by simp [List.getD_eq_getElem?_getD, hkl]] at hsucc
   obtain ⟨⟨hc1, hc2⟩, hr1, hr2⟩ := ofL_take_bd (l.map wt) k (by omega) (fun n hn => by
    obtain ⟨y, hy, rfl⟩ := List.mem_map.1 hn
    exact (unhide HC y (unhide HTH y hy)).2.2)
   generalize l[k] = x at *
   generalize wt x = nw at *
   generalize ofL ((l.map wt).take k) = y at *
   rw [← hkp.cell (p := ⟨g', k, none⟩) hg3 (by simp; omega)] at d
   have c2' := c2
   have hbw := (unhide HS).2.2
   rw [← hbw.cell (p := ⟨q, 2, none⟩) hp, ← hkp.cell (p := ⟨q, 2, none⟩) (by show q < _; omega) (by simp; omega)] at c2'
   rw [← hbw.cell (p := ⟨bw, x, none⟩) hbw0, ← hkp.cell (p := ⟨bw, x, none⟩) (by show bw < _; omega) (by simp; omega)] at d2
   obtain ⟨yc, ys, ya, yb⟩ := y
   have HQ : Hid (SumAt wr.drew (w.heap.size + 1) ⟨yc, ys, ya, yb⟩) := hs1
   obtain ⟨⟨q0, q1, q2, q3⟩, f0, f1, f2, f3⟩ := hs1
   have hz1 : w.heap.size + 1 < wr.heap.size := by have := hkp.size; omega
   have e0 : (0 : Int) <= (k : Int) := by omega
   have e1 : (k : Int) < (m : Int) := by omega
   have e2 : (0 : Int) <= (x : Int) := by omega
   have e3 : (x : Int) < (n : Int) := by omega
   have HX := hide hkp
   clear hkp HK hbw
   dsimp only at *
   go_wp2
   go_region_with (first | (go_at_call 70; refine (rone_any nw _).mono ?_; rintro e w2 ⟨rfl, hb1⟩; have hz2 : w.heap.size + 1 < w2.heap.size := Nat.lt_of_lt_of_le hz1 hb1.size; have HQ1 : Hid (SumAt w2 (w.heap.size + 1) ⟨yc, ys, ya, yb⟩) := SumAt.below (W := wr.drew) HQ.out hb1 hz1; obtain ⟨⟨r0, r1, r2, r3⟩, i0, i1, i2, i3⟩ := HQ1.out) | (go_at_call 69; refine (rjoin_any _ _ _ _ _ _ _ _ _ (by omega) (by omega) (by omega) (by omega)).mono ?_; rintro e w3 ⟨rfl, hb2⟩; have hz3 : w.heap.size + 1 < w3.heap.size := Nat.lt_of_lt_of_le hz2 hb2.size; obtain ⟨⟨t0, t1, t2, t3⟩, j0, j1, j2, j3⟩ := SumAt.below HQ1.out hb2 hz2))
   all_goals
    go_wp2
    go_roundw
    case rel =>
     have hB : Keep [w.heap.size + 1] w1 w3 := ((unhide HX).drew.trans (Keep.ofBelow hb1 []) (by simp)).trans (Keep.ofBelow hb2 []) (by simp)
     refine ⟨k + 1, by omega, by go_num, keep_put (b := w.heap.size + 1) (x := jn ⟨yc, ys, ya, yb⟩ ⟨1, nw, nw, nw⟩) hB (.inl (by simp)), ?_⟩
     rw [unhide hsucc]
     exact SumAt.put (y := ⟨yc, ys, ya, yb⟩) (SumAt.below HQ1.out hb2 hz2)
    case measure => simp [intOf]; omega
  ·have hkl : k = m := by omega
   subst hkl
   rw [show (l.map wt).take k = l.map wt from List.take_of_length_le (by simp [unhide HM])] at hs1
   have HP := hide (And.intro ((unhide HS).2.1.keep hkp (by omega) (by simp)) (Keep.below (unhide HS).2.2 hkp (by omega) (by simp)))
   have HY : Hid (∃ y, ofL (l.map wt) = y) := ⟨_, rfl⟩
   obtain ⟨y, hy⟩ := HY.out
   rw [hy] at hs1
   clear HY
   have HY := hide hy
   clear hy
   obtain ⟨⟨q0, q1, q2, q3⟩, f0, f1, f2, f3⟩ := hs1
   obtain ⟨⟨p0, p1, p2, p3⟩, g0, g1, g2, g3⟩ := (unhide HP).1
   obtain ⟨yc, ys, ya, yb⟩ := y
   dsimp only [zero] at q0 q1 q2 q3 p0 p1 p2 p3
   clear hkp HK
   go_wp2
   all_goals
    obtain ⟨hs0, hbel⟩ := unhide HP
    have hp := SumAt.put (x := ⟨yc, ys, ya, yb⟩) hs0
    obtain ⟨⟨p0, p1, p2, p3⟩, g0, g1, g2, g3⟩ := hp
    refine bodyPost_ret (v := .tuple #[.agg #[zi yc, zi ys, zi ya, zi yb], .bool (decide (0 < k))]) ?_ rfl ⟨by rw [← (unhide HPS).1, ← (unhide HPS).2, unhide HY, unhide HM]; rfl, ?_⟩
    ·simp only [putSum] at p0 p1 p2 p3
     simp [results, Try.results32, go_sem, p0, p1, p2, p3]
    ·exact below_put (x := ⟨yc, ys, ya, yb⟩) hbel (Nat.le_refl _)
end Go.Proofs.Ytjnkgakajenoaaa
namespace Go.Proofs.Ytjnkgakajenoaaa
open Go.RowKit Go.Arb
set_option linter.unusedVariables false
set_option linter.unusedSimpArgs false
theorem Says.raise {T : Tr} {n : Nat} {ft : Nat -> Bool} {fu fw : Nat -> Int} (h : Says T n ft fu fw) {l : List Nat} {d : Int} (hth : ∀ z ∈ l, T.par z ≠ -2) (hok : ∀ z ∈ l, addB (T.wt z) d = true) {fw' : Nat -> Int} (hf : ∀ v, T.par v ≠ -2 -> fw' v = raiseF T.wt l d v) : Says (T.raise l d) n ft fu fw' := by
 refine ⟨h.nn, h.th, h.up, hf, h.wf.raise, h.fit.raise fun x hx => ⟨hth x hx, ?_⟩⟩
 have := hok x hx
 simp only [addB, fitB, Bool.and_eq_true, decide_eq_true_eq] at this
 exact this.2
theorem raiseF_perm {wt : Nat -> Int} {l m : List Nat} {d : Int} (h : l.Perm m) : raiseF wt l d = raiseF wt m d := by
 funext u
 unfold raiseF
 congr 1
 rw [eq_iff_iff]
 exact h.mem_iff
theorem raiseF_nil (wt : Nat -> Int) (d : Int) : raiseF wt [] d = wt := by funext u; simp [raiseF]
structure Ra (w1 W : World) (q bt bu bw n : Nat) (ft : Nat -> Bool) (fu fw : Nat -> Int) (T : Tr) (l : List Nat) (d : Int) : Prop where
 rin : RIn W q bt bu bw n ft fu fw
 kp : Keep [bw] w1 W
 wt : ∀ v, T.par v ≠ -2 -> fw v = raiseF T.wt l d v
theorem Ra.step {w1 W : World} {q bt bu bw n : Nat} {ft : Nat -> Bool} {fu fw : Nat -> Int} {T : Tr} {l : List Nat} {d : Int} {x : Nat} (h : Ra w1 W q bt bu bw n ft fu fw T l d) (hx : x ∉ l) : Ra w1 (W.setCell ⟨bw, x, none⟩ (zi (T.wt x + d))) q bt bu bw n ft fu (updF fw x (T.wt x + d)) T (l ++ [x]) d := by
 refine ⟨(h.rin.setW x _).1, h.kp.setCell (p := ⟨bw, x, none⟩) (.inl (by simp)) _, fun v hv => ?_⟩
 by_cases e : v = x
 ·subst e; simp [updF, raiseF]
 ·rw [updF_other _ _ e, h.wt v hv]; simp [raiseF, e]
theorem Ra.drew {w1 W : World} {q bt bu bw n : Nat} {ft : Nat -> Bool} {fu fw : Nat -> Int} {T : Tr} {l : List Nat} {d : Int} (h : Ra w1 W q bt bu bw n ft fu fw T l d) : Ra w1 W.drew q bt bu bw n ft fu fw T l d := ⟨h.rin.below (Below.refl _ _).drew, h.kp.drew, h.wt⟩
set_option maxHeartbeats 4000000 in
theorem rpathAdd_any (x y d : Int) (w : World) (q bt bu bw n : Nat) (ft : Nat -> Bool) (fu fw : Nat -> Int) (T : Tr) (h : RIn w q bt bu bw n ft fu fw) (hs : Says T n ft fu fw) :
  Calls Try.prog 30 #[zp q 0, zi x, zi y, zi d] w fun e w' => e = .returned (.bool (T.raiseB x y d)) /\ ∃ fw', RIn w' q bt bu bw n ft fu fw' /\ Says (T.pathAdd x y d) n ft fu fw' /\ Keep [q, bt, bu, bw] w w' := by
 obtain ⟨f1, f2, f3, f4⟩ := hs.wf.way_facts x y
 have h1 := hide (rway_any x y w q bt bu bw n ft fu fw T h hs)
 have hn := hs.le
 have f5 : (T.wayI x y).length <= 1048576 := Nat.le_trans f4 hs.fit.n
 obtain ⟨_, _, c2⟩ := h.cells
 have hp : q < w.heap.size := blk_lt h.blk
 have hbw0 : bw < w.heap.size := h.rw.lt
 have HH := hide h
 have HSA := hide hs
 have HC : Hid (∀ z, T.par z ≠ -2 -> z < n /\ w.cell? ⟨bw, z, none⟩ = some (zi (T.wt z)) /\ -1099511627776 <= T.wt z /\ T.wt z <= 1099511627776) := fun z hz => ⟨hs.lt hz, by rw [h.rw.cell (hs.lt hz), inV, hs.wt z hz], hs.fit.wt z⟩
 have HF : Hid (∀ l : List Nat, l.Perm (T.wayI x y) -> l.Nodup /\ (∀ z ∈ l, T.par z ≠ -2) /\ l.length <= 1048576 /\ decide (0 < l.length) = T.sameI x y) := fun l hp => ⟨hp.symm.nodup f1, fun z hz => f2 z (hp.mem_iff.1 hz), by rw [hp.length_eq]; exact f5, by rw [hp.length_eq]; exact f3⟩
 clear h hs f1 f2 f3 f4 f5
 go_enter Try.func30, Try.ntmps30
 go_wp2_with fail
 refine (unhide h1).mono ?_
 rintro e w1 ⟨⟨s, l, rfl, hrow, hperm⟩, hb1⟩
 obtain ⟨hnd, hth, hll, hsm⟩ := unhide HF l hperm
 have HTH := hide (And.intro hth (And.intro hnd (And.intro hperm hsm)))
 obtain ⟨xs, cap', rfl, r1, r2, r3⟩ := hrow.form
 have HW := hide r3
 have HB1 := hide hb1
 have hsz : w.heap.size <= w1.heap.size := hb1.size
 clear hrow r3 hb1 h1 HF hperm hth hnd hsm
 have HL : Hid (∃ m, l.length = m) := ⟨_, rfl⟩
 obtain ⟨m, hm⟩ := HL.out
 rw [hm] at r1 hll ⊢
 have HM := hide hm
 clear hm HL
 unfold maxLen at r2
 go_wp2
 go_loopw [10] (fun i w' => ∃ k : Nat, k <= m /\ i = zi k /\ Hid (Below w1.heap.size w1 w' /\ ∀ j, (hj : j < l.length) -> j < k -> addB (T.wt l[j]) d = true)) (fun i _ => m - (intOf i).toNat)
 case atStart => exact ⟨0, Nat.zero_le _, rfl, Below.refl _ _, fun j _ hj => by omega⟩
 case round =>
  obtain ⟨k, hk, rfl, HK⟩ := hrel
  by_cases hlt : k < m
  ·have hkl : k < l.length := by rw [unhide HM]; exact hlt
   obtain ⟨g', rfl, hg3, hg', r5⟩ := unhide HW (by omega)
   have dl := r5 k hkl
   clear r5
   obtain ⟨x0, d2, hn1, hn2⟩ := unhide HC l[k] ((unhide HTH).1 _ (List.getElem_mem hkl))
   rw [← (unhide HK).1.cell (p := ⟨g', k, none⟩) hg3] at dl
   have c2' := c2
   rw [← (unhide HB1).cell (p := ⟨q, 2, none⟩) hp, ← (unhide HK).1.cell (p := ⟨q, 2, none⟩) (by show q < _; omega)] at c2'
   rw [← (unhide HB1).cell (p := ⟨bw, l[k], none⟩) hbw0, ← (unhide HK).1.cell (p := ⟨bw, l[k], none⟩) (by show bw < _; omega)] at d2
   have HLK := hide (rfl : l[k] = l[k])
   generalize hx : l[k] = z at dl x0 d2 hn1 hn2
   have HX := hide hx
   clear hx HLK
   have e0 : (0 : Int) <= (k : Int) := by omega
   have e1 : (k : Int) < (m : Int) := by omega
   have e2 : (0 : Int) <= (z : Int) := by omega
   have e3 : (z : Int) < (n : Int) := by omega
   have HAV := hide (fun W => radd_any (T.wt z) d W)
   have HWZ : Hid (∃ wz, T.wt z = wz) := ⟨_, rfl⟩
   obtain ⟨wz, hwz⟩ := HWZ.out
   have HAZ := hide hwz
   rw [hwz] at d2 HAV
   clear HWZ hwz
   cases hb : addB wz d
   ·rw [hb] at HAV
    have HBB := hide hb
    clear hb
    generalize addV wz d = av at *
    go_wp2
    go_region_held3 (fun w' => w'.cell? ⟨q, 2, none⟩ = some (.slice (some ⟨bw, 0, none⟩) n n) /\ w'.cell? ⟨g', k, none⟩ = some (zi z) /\ w'.cell? ⟨bw, z, none⟩ = some (zi wz))
     (simp [go_sem, *])
     (first
      | (go_at_call 68; refine (unhide HAV _).mono ?_; rintro e w2 ⟨rfl, rfl⟩))
    go_wp2
    go_ret
    have hraise : T.raiseB x y d = false := by
     rw [Tr.raiseB]
     have : (T.wayI x y).all (fun u => addB (T.wt u) d) = false := by
      rw [List.all_eq_false]
      refine ⟨z, (unhide HTH).2.2.1.mem_iff.1 (by rw [← unhide HX]; exact List.getElem_mem hkl), ?_⟩
      rw [unhide HAZ, unhide HBB]; simp
     rw [this]; simp
    have hbel : Below w.heap.size w wr.drew := (unhide HB1).trans (((unhide HK).1.mono hsz).drew)
    exact ⟨by rw [hraise]; rfl, fw, (unhide HH).below hbel, by rw [Tr.pathAdd, hraise]; exact unhide HSA, Keep.ofBelow hbel _⟩
   ·rw [hb] at HAV
    have HBB := hide hb
    clear hb
    generalize addV wz d = av at *
    go_wp2
    go_region_held3 (fun w' => w'.cell? ⟨q, 2, none⟩ = some (.slice (some ⟨bw, 0, none⟩) n n) /\ w'.cell? ⟨g', k, none⟩ = some (zi z) /\ w'.cell? ⟨bw, z, none⟩ = some (zi wz))
     (simp [go_sem, *])
     (first
      | (go_at_call 68; refine (unhide HAV _).mono ?_; rintro e w2 ⟨rfl, rfl⟩))
    go_wp2
    go_roundw
    case rel =>
     refine ⟨k + 1, by omega, by go_num, (unhide HK).1.drew, fun j hj hjk => ?_⟩
     by_cases e : j = k
     ·subst e; rw [unhide HX, unhide HAZ]; exact unhide HBB
     ·exact (unhide HK).2 j hj (by omega)
    case measure => simp [intOf]; omega
  ·have hkl : k = m := by omega
   subst hkl
   have HOK : Hid (∀ z ∈ l, addB (T.wt z) d = true) := fun z hz => by
    obtain ⟨j, hj, e⟩ := List.mem_iff_getElem.1 hz
    rw [← e]; exact (unhide HK).2 j hj (by rw [← unhide HM]; exact hj)
   have hB2 := (unhide HB1).trans ((unhide HK).1.mono hsz)
   have HR0 : Hid (Ra wr wr q bt bu bw n ft fu fw T (l.take 0) d) := ⟨(unhide HH).below hB2, Keep.refl _ _, fun v hv => by rw [List.take_zero, raiseF_nil]; exact (unhide HSA).wt v hv⟩
   have HB2 := hide hB2
   have hszr : w1.heap.size <= wr.heap.size := (unhide HK).1.size
   have HD : Hid (0 < k -> ∃ g', xs = some ⟨g', 0, none⟩ /\ g' < wr.heap.size /\ w.heap.size <= g' /\ ∀ j, (hj : j < l.length) -> wr.cell? ⟨g', j, none⟩ = some (zi ((l[j] : Nat) : Int))) := fun h0 => by
    obtain ⟨g', e, hg3, hg', r5⟩ := unhide HW (by rw [unhide HM]; exact h0)
    exact ⟨g', e, by omega, hg', fun j hj => by rw [(unhide HK).1.cell (p := ⟨g', j, none⟩) hg3]; exact r5 j hj⟩
   clear HK HW hB2 HC c2
   go_wp2
   go_loopw [13] (fun i w' => ∃ (j : Nat) (fw' : Nat -> Int), j <= k /\ i = zi j /\ Hid (Ra wr w' q bt bu bw n ft fu fw' T (l.take j) d)) (fun i _ => k - (intOf i).toNat)
   case atStart => exact ⟨0, fw, Nat.zero_le _, rfl, HR0⟩
   case round =>
    clear HR0
    obtain ⟨j, fw', hj, rfl, HR⟩ := hrel
    by_cases hlt' : j < k
    ·have hjl : j < l.length := by rw [unhide HM]; exact hlt'
     obtain ⟨g', rfl, hg3, hg', r5⟩ := unhide HD (by omega)
     have dl := r5 j hjl
     rw [← (unhide HR).kp.cell (p := ⟨g', j, none⟩) hg3 (by simp; omega)] at dl
     clear r5
     have hzt := (unhide HTH).1 _ (List.getElem_mem hjl)
     have hni : l[j] ∉ l.take j := fun hm => by
      obtain ⟨i, hi, e⟩ := List.mem_iff_getElem.1 hm
      rw [List.length_take] at hi
      rw [List.getElem_take] at e
      have := (List.getElem_inj (unhide HTH).2.1).1 e
      omega
     have x0 := (unhide HSA).lt hzt
     have hcur : fw' l[j] = T.wt l[j] := by rw [(unhide HR).wt _ hzt]; simp [raiseF, hni]
     have hst := (unhide HR).step hni
     rw [← List.take_succ_eq_append_getElem hjl] at hst
     have d2 := (unhide HR).rin.rw.cell x0
     have f2 := (unhide HR).rin.rw.frozen l[j]
     unfold inV at d2
     rw [hcur] at d2
     obtain ⟨_, _, c2⟩ := (unhide HR).rin.cells
     have hb2 := unhide HOK _ (List.getElem_mem hjl)
     have hw1 := (unhide HSA).fit.wt l[j]
     simp only [addB, fitB, Bool.and_eq_true, decide_eq_true_eq] at hb2
     have R := hide hst.drew
     clear HR hst hcur hzt hni
     generalize T.wt l[j] = y at *
     generalize l[j] = z at *
     have e0 : (0 : Int) <= (j : Int) := by omega
     have e1 : (j : Int) < (k : Int) := by omega
     have e2 : (0 : Int) <= (z : Int) := by omega
     have e3 : (z : Int) < (n : Int) := by omega
     have wr1 : IntKind.i64.wrap (y + d) = y + d := IntWalk.i64_in _ (by omega)
     go_wp2
     go_region
     all_goals
      go_wp2
      go_roundw
      case rel => exact ⟨j + 1, _, by omega, by go_num, R⟩
      case measure => simp [intOf]; omega
    ·have : j = k := by omega
     subst this
     have hall := unhide HR
     rw [show l.take j = l from List.take_of_length_le (by rw [unhide HM]; exact Nat.le_refl _)] at hall
     have HA := hide hall
     clear hall HR
     go_wp2
     go_ret
     obtain ⟨hth, hnd, hperm, hsm⟩ := unhide HTH
     have hall2 : (T.wayI x y).all (fun u => addB (T.wt u) d) = true := by
      rw [List.all_eq_true]
      exact fun u hu => unhide HOK u (hperm.mem_iff.2 hu)
     have hraise : T.raiseB x y d = T.sameI x y := by rw [Tr.raiseB, hall2]; simp
     refine ⟨?_, fw', (unhide HA).rin, ?_, ((Keep.ofBelow (unhide HB2) _).trans (unhide HA).kp (fun i hi => .inl (by simp at hi; simp [hi])))⟩
     ·rw [hraise, ← hsm, unhide HM]; simp
     ·rw [Tr.pathAdd, hraise]
      have hSR : Says (T.raise (T.wayI x y) d) n ft fu fw' := (unhide HSA).raise (fun z hz => hth z (hperm.mem_iff.2 hz)) (fun z hz => unhide HOK z (hperm.mem_iff.2 hz)) (fun v hv => by rw [(unhide HA).wt v hv, raiseF_perm hperm])
      cases hq : T.sameI x y
      ·rw [hq] at hsm
       have hl0 : l = [] := by simpa using hsm
       rw [hl0] at hperm
       have hw0 : T.wayI x y = [] := List.perm_nil.1 hperm.symm
       rw [hw0] at hSR
       have : T.raise [] d = T := by simp [Tr.raise, raiseF_nil]
       rw [this] at hSR
       exact hSR
      ·exact hSR
structure Lies (R : World -> Nat -> Tr -> List Nat -> Prop) : Prop where
 lt : ∀ {W : World} {q : Nat} {T : Tr} {ks : List Nat}, R W q T ks -> ∀ k ∈ ks, k < W.heap.size
 keep : ∀ {W W' : World} {q : Nat} {T : Tr} {ks js : List Nat}, R W q T ks -> Keep js W W' -> Off ks js -> R W' q T ks
theorem At.lies : Lies At := ⟨fun h => h.lt, fun h hk ho => h.keep hk ho⟩
structure Ob2 (R : World -> Nat -> Tr -> List Nat -> Prop) (w W : World) (p q : Nat) (T T' : Tr) (js : List Nat) : Prop where
 bel : Below w.heap.size w W
 ex : ∃ ks ls, At W p T ks /\ R W q T' ls /\ (∀ k ∈ ks, w.heap.size <= k) /\ (∀ k ∈ ls, w.heap.size <= k) /\ Off ks ls /\ ∀ j ∈ js, j ∉ ks /\ j ∉ ls
 jl : ∀ j ∈ js, j < W.heap.size
section
variable {R : World -> Nat -> Tr -> List Nat -> Prop} {w W W' : World} {p q : Nat} {T T' T2 : Tr} {js : List Nat}
theorem Ob2.wf (h : Ob2 R w W p q T T' js) : T.Wf := by obtain ⟨ks, ls, h1, _⟩ := h.ex; exact h1.wf
theorem Ob2.fit (h : Ob2 R w W p q T T' js) : T.Fit := by obtain ⟨ks, ls, h1, _⟩ := h.ex; exact h1.fit
theorem Ob2.fst (hR : Lies R) {f : Nat} {args : Array Value} {r : Value} (h : Ob2 R w W p q T T' js)
  (hc : ∀ ks, At W p T ks -> Calls Try.prog f args W fun e W' => e = .returned r /\ ∃ ks', At W' p T2 ks' /\ Keep ks W W' /\ Grew W ks ks') :
  Calls Try.prog f args W fun e W' => e = .returned r /\ Ob2 R w W' p q T2 T' js /\ Kept js W W' := by
 obtain ⟨ks, ls, h1, h2, h3, h4, h5, h6⟩ := h.ex
 refine (hc ks h1).mono ?_
 rintro e W' ⟨rfl, ks', q1, q2, q3⟩
 refine ⟨rfl, ⟨q2.below h.bel h.bel.size h3, ⟨ks', ls, q1, hR.keep h2 q2 h5.symm, ge_grew h3 h.bel.size q3, h4, ((h5.symm).grew (fun k hk => hR.lt h2 k hk) q3).symm, fun j hj => ⟨fun hm => ?_, (h6 j hj).2⟩⟩, fun j hj => Nat.lt_of_lt_of_le (h.jl j hj) q2.size⟩, fun j hj => q2.block j (h.jl j hj) (h6 j hj).1⟩
 rcases q3 j hm with h7 | h7
 ·exact (h6 j hj).1 h7
 ·have := h.jl j hj; omega
theorem Ob2.snd (hR : Lies R) {f : Nat} {args : Array Value} {r : Value} (h : Ob2 R w W p q T T' js)
  (hc : ∀ ks, R W q T' ks -> Calls Try.prog f args W fun e W' => e = .returned r /\ ∃ ks', R W' q T2 ks' /\ Keep ks W W' /\ Grew W ks ks') :
  Calls Try.prog f args W fun e W' => e = .returned r /\ Ob2 R w W' p q T T2 js /\ Kept js W W' := by
 obtain ⟨ks, ls, h1, h2, h3, h4, h5, h6⟩ := h.ex
 refine (hc ls h2).mono ?_
 rintro e W' ⟨rfl, ls', q1, q2, q3⟩
 refine ⟨rfl, ⟨q2.below h.bel h.bel.size h4, ⟨ks, ls', h1.keep q2 h5, q1, h3, ge_grew h4 h.bel.size q3, h5.grew (fun k hk => h1.lt k hk) q3, fun j hj => ⟨(h6 j hj).1, fun hm => ?_⟩⟩, fun j hj => Nat.lt_of_lt_of_le (h.jl j hj) q2.size⟩, fun j hj => q2.block j (h.jl j hj) (h6 j hj).2⟩
 rcases q3 j hm with h7 | h7
 ·exact (h6 j hj).2 h7
 ·have := h.jl j hj; omega
theorem Ob2.below (hR : Lies R) (h : Ob2 R w W p q T T' js) (hb : Below W.heap.size W W') : Ob2 R w W' p q T T' js /\ Kept js W W' := by
 obtain ⟨ks, ls, h1, h2, h3, h4, h5, h6⟩ := h.ex
 exact ⟨⟨h.bel.trans (hb.mono h.bel.size), ⟨ks, ls, h1.below hb, hR.keep h2 (Keep.ofBelow hb []) (fun _ _ => by simp), h3, h4, h5, h6⟩, fun j hj => Nat.lt_of_lt_of_le (h.jl j hj) hb.size⟩, fun j hj => hb.block j (h.jl j hj)⟩
theorem Ob2.alloc (hR : Lies R) (h : Ob2 R w W p q T T' js) (o : Obj) : Ob2 R w (W.alloc o) p q T T' js /\ Kept js W (W.alloc o) := h.below hR ((Below.refl _ _).alloc (Nat.le_refl _) o)
theorem Ob2.push (hR : Lies R) (h : Ob2 R w W p q T T' js) (o : Obj) : Ob2 R w (W.alloc o) p q T T' (W.heap.size :: js) := by
 have h' := (h.alloc hR o).1
 obtain ⟨ks, ls, h1, h2, h3, h4, h5, h6⟩ := h.ex
 have hb := (Below.refl W.heap.size W).alloc (Nat.le_refl _) o
 refine ⟨h'.bel, ⟨ks, ls, h1.below hb, hR.keep h2 (Keep.ofBelow hb []) (fun _ _ => by simp), h3, h4, h5, fun j hj => ?_⟩, fun j hj => ?_⟩
 ·rcases List.mem_cons.1 hj with rfl | hj
  ·exact ⟨fun hm => by have := h1.lt _ hm; omega, fun hm => by have := hR.lt h2 _ hm; omega⟩
  ·exact h6 j hj
 ·rcases List.mem_cons.1 hj with rfl | hj
  ·simp
  ·exact h'.jl j hj
theorem Ob2.less {is : List Nat} (h : Ob2 R w W p q T T' js) (hs : ∀ j ∈ is, j ∈ js) : Ob2 R w W p q T T' is := by
 obtain ⟨ks, ls, h1, h2, h3, h4, h5, h6⟩ := h.ex
 exact ⟨h.bel, ⟨ks, ls, h1, h2, h3, h4, h5, fun j hj => h6 j (hs j hj)⟩, fun j hj => h.jl j (hs j hj)⟩
theorem Ob.pair (h : Ob w W p T js) {ls : List Nat} (hb : Below W.heap.size W W') (hr : R W' q T' ls) (hl : ∀ k ∈ ls, W.heap.size <= k) : Ob2 R w W' p q T T' js /\ Kept js W W' := by
 obtain ⟨h', hk⟩ := h.below hb
 obtain ⟨ks, h1, h2, h3⟩ := h.ex
 refine ⟨⟨h'.bel, ⟨ks, ls, h1.below hb, hr, h2, fun k hk => Nat.le_trans h.bel.size (hl k hk), fun k hk hm => ?_, fun j hj => ⟨h3 j hj, fun hm => ?_⟩⟩, h'.jl⟩, hk⟩
 ·have := h1.lt k hk
  have := hl k hm
  omega
 ·have := h.jl j hj
  have := hl j hm
  omega
end
theorem RfAt.lt {w : World} {q : Nat} {T : Tr} {ks : List Nat} (h : RfAt w q T ks) : ∀ k ∈ ks, k < w.heap.size := by
 obtain ⟨bt, bu, bw, n, ft, fu, fw, h1, h2, rfl⟩ := h
 exact h1.lt
theorem RfAt.keep {w w' : World} {q : Nat} {T : Tr} {ks js : List Nat} (h : RfAt w q T ks) (hk : Keep js w w') (ho : Off ks js) : RfAt w' q T ks := by
 obtain ⟨bt, bu, bw, n, ft, fu, fw, h1, h2, rfl⟩ := h
 exact ⟨bt, bu, bw, n, ft, fu, fw, h1.keep hk ho, h2, rfl⟩
theorem Rf.lies : Lies RfAt := ⟨fun h => h.lt, fun h hk ho => h.keep hk ho⟩
theorem RfAt.same {w : World} {q : Nat} {T : Tr} {ks : List Nat} (h : RfAt w q T ks) : ∃ ks', RfAt w q T ks' /\ Keep ks w w /\ Grew w ks ks' := ⟨ks, h, Keep.refl _ _, Grew.refl _ _⟩
theorem RfAt.stays {w w' : World} {q : Nat} {T : Tr} {ks : List Nat} (h : RfAt w q T ks) (hb : Below w.heap.size w w') : ∃ ks', RfAt w' q T ks' /\ Keep ks w w' /\ Grew w ks ks' := ⟨ks, h.keep (Keep.ofBelow hb []) (fun _ _ => by simp), Keep.ofBelow hb _, Grew.refl _ _⟩
section
variable {w w' : World} {q : Nat} {T : Tr} {ks : List Nat}
theorem xHas (x : Int) (h : RfAt w q T ks) : Calls Try.prog 38 #[zp q 0, zi x] w fun e w' => e = .returned (.bool (T.hasI x)) /\ ∃ ks', RfAt w' q T ks' /\ Keep ks w w' /\ Grew w ks ks' := by
 obtain ⟨bt, bu, bw, n, ft, fu, fw, h1, h2, rfl⟩ := id h
 refine (rhas_any x w q bt bu bw n ft fu fw T h1 h2).mono ?_
 rintro e w' ⟨rfl, rfl⟩
 exact ⟨rfl, h.same⟩
theorem xParent (x : Int) (h : RfAt w q T ks) : Calls Try.prog 42 #[zp q 0, zi x] w fun e w' => e = .returned (zi (T.parI x)) /\ ∃ ks', RfAt w' q T ks' /\ Keep ks w w' /\ Grew w ks ks' := by
 obtain ⟨bt, bu, bw, n, ft, fu, fw, h1, h2, rfl⟩ := id h
 refine (rparent_any x w q bt bu bw n ft fu fw T h1 h2).mono ?_
 rintro e w' ⟨rfl, rfl⟩
 exact ⟨rfl, h.same⟩
theorem xGet (x : Int) (h : RfAt w q T ks) : Calls Try.prog 36 #[zp q 0, zi x] w fun e w' => e = .returned (.tuple #[zi (T.getI x), .bool (T.hasI x)]) /\ ∃ ks', RfAt w' q T ks' /\ Keep ks w w' /\ Grew w ks ks' := by
 obtain ⟨bt, bu, bw, n, ft, fu, fw, h1, h2, rfl⟩ := id h
 refine (rget_any x w q bt bu bw n ft fu fw T h1 h2).mono ?_
 rintro e w' ⟨rfl, rfl⟩
 exact ⟨rfl, h.same⟩
theorem xRoot (x : Int) (h : RfAt w q T ks) : Calls Try.prog 40 #[zp q 0, zi x] w fun e w' => e = .returned (zi (T.rootI x)) /\ ∃ ks', RfAt w' q T ks' /\ Keep ks w w' /\ Grew w ks ks' := by
 obtain ⟨bt, bu, bw, n, ft, fu, fw, h1, h2, rfl⟩ := id h
 refine (rroot_any x w q bt bu bw n ft fu fw T h1 h2).mono ?_
 rintro e w' ⟨rfl, rfl⟩
 exact ⟨rfl, h.same⟩
theorem xSame (x y : Int) (h : RfAt w q T ks) : Calls Try.prog 44 #[zp q 0, zi x, zi y] w fun e w' => e = .returned (.bool (T.sameI x y)) /\ ∃ ks', RfAt w' q T ks' /\ Keep ks w w' /\ Grew w ks ks' := by
 obtain ⟨bt, bu, bw, n, ft, fu, fw, h1, h2, rfl⟩ := id h
 refine (rsame_any x y w q bt bu bw n ft fu fw T h1 h2).mono ?_
 rintro e w' ⟨rfl, rfl⟩
 exact ⟨rfl, h.same⟩
theorem xLca (x y : Int) (h : RfAt w q T ks) : Calls Try.prog 46 #[zp q 0, zi x, zi y] w fun e w' => e = .returned (zi (T.lcaI x y)) /\ ∃ ks', RfAt w' q T ks' /\ Keep ks w w' /\ Grew w ks ks' := by
 obtain ⟨bt, bu, bw, n, ft, fu, fw, h1, h2, rfl⟩ := id h
 refine (rlca_any x y w q bt bu bw n ft fu fw T h1 h2).mono ?_
 rintro e w' ⟨rfl, hb⟩
 exact ⟨rfl, h.stays hb⟩
theorem xSub (x : Int) (h : RfAt w q T ks) : Calls Try.prog 34 #[zp q 0, zi x] w fun e w' => e = .returned (.tuple #[zi (T.subI x).c, zi (T.subI x).s, .bool (T.hasI x)]) /\ ∃ ks', RfAt w' q T ks' /\ Keep ks w w' /\ Grew w ks ks' := by
 obtain ⟨bt, bu, bw, n, ft, fu, fw, h1, h2, rfl⟩ := id h
 refine (rsub_any x w q bt bu bw n ft fu fw T h1 h2).mono ?_
 rintro e w' ⟨rfl, hb⟩
 exact ⟨rfl, h.stays hb⟩
theorem xSize (x : Int) (h : RfAt w q T ks) : Calls Try.prog 48 #[zp q 0, zi x] w fun e w' => e = .returned (zi (T.sizeI x)) /\ ∃ ks', RfAt w' q T ks' /\ Keep ks w w' /\ Grew w ks ks' := by
 obtain ⟨bt, bu, bw, n, ft, fu, fw, h1, h2, rfl⟩ := id h
 refine (rsize_any x w q bt bu bw n ft fu fw T h1 h2).mono ?_
 rintro e w' ⟨rfl, hb⟩
 exact ⟨rfl, h.stays hb⟩
theorem xPath (x y : Int) (h : RfAt w q T ks) : Calls Try.prog 32 #[zp q 0, zi x, zi y] w fun e w' => e = .returned (.tuple #[smV (T.pathI x y), .bool (T.sameI x y)]) /\ ∃ ks', RfAt w' q T ks' /\ Keep ks w w' /\ Grew w ks ks' := by
 obtain ⟨bt, bu, bw, n, ft, fu, fw, h1, h2, rfl⟩ := id h
 refine (rpath_any x y w q bt bu bw n ft fu fw T h1 h2).mono ?_
 rintro e w' ⟨rfl, hb⟩
 exact ⟨rfl, h.stays hb⟩
theorem xCut (x : Int) (h : RfAt w q T ks) : Calls Try.prog 24 #[zp q 0, zi x] w fun e w' => e = .returned (.bool (T.cutB x)) /\ ∃ ks', RfAt w' q (T.cutI x) ks' /\ Keep ks w w' /\ Grew w ks ks' := by
 obtain ⟨bt, bu, bw, n, ft, fu, fw, h1, h2, rfl⟩ := id h
 refine (rcut_any x w q bt bu bw n ft fu fw T h1 h2).mono ?_
 rintro e w' ⟨rfl, f', r1, r2, r3⟩
 exact ⟨rfl, [q, bt, bu, bw], ⟨bt, bu, bw, n, _, _, _, r1, r2, rfl⟩, r3, Grew.refl _ _⟩
theorem xSet (x y : Int) (h : RfAt w q T ks) : Calls Try.prog 28 #[zp q 0, zi x, zi y] w fun e w' => e = .returned (.bool (T.hasI x && fitB y)) /\ ∃ ks', RfAt w' q (T.setI x y) ks' /\ Keep ks w w' /\ Grew w ks ks' := by
 obtain ⟨bt, bu, bw, n, ft, fu, fw, h1, h2, rfl⟩ := id h
 refine (rset_any x y w q bt bu bw n ft fu fw T h1 h2).mono ?_
 rintro e w' ⟨rfl, f', r1, r2, r3⟩
 exact ⟨rfl, [q, bt, bu, bw], ⟨bt, bu, bw, n, _, _, _, r1, r2, rfl⟩, r3, Grew.refl _ _⟩
theorem xEvert (x : Int) (h : RfAt w q T ks) : Calls Try.prog 26 #[zp q 0, zi x] w fun e w' => e = .returned (.bool (T.hasI x)) /\ ∃ ks', RfAt w' q (T.evertI x) ks' /\ Keep ks w w' /\ Grew w ks ks' := by
 obtain ⟨bt, bu, bw, n, ft, fu, fw, h1, h2, rfl⟩ := id h
 refine (revert_any x w q bt bu bw n ft fu fw T h1 h2).mono ?_
 rintro e w' ⟨rfl, f', r1, r2, r3⟩
 exact ⟨rfl, [q, bt, bu, bw], ⟨bt, bu, bw, n, _, _, _, r1, r2, rfl⟩, r3, Grew.refl _ _⟩
theorem xLink (x y : Int) (h : RfAt w q T ks) : Calls Try.prog 22 #[zp q 0, zi x, zi y] w fun e w' => e = .returned (.bool (T.linkB x y)) /\ ∃ ks', RfAt w' q (T.linkI x y) ks' /\ Keep ks w w' /\ Grew w ks ks' := by
 obtain ⟨bt, bu, bw, n, ft, fu, fw, h1, h2, rfl⟩ := id h
 refine (rlink_any x y w q bt bu bw n ft fu fw T h1 h2).mono ?_
 rintro e w' ⟨rfl, f', r1, r2, r3⟩
 exact ⟨rfl, [q, bt, bu, bw], ⟨bt, bu, bw, n, _, _, _, r1, r2, rfl⟩, r3, Grew.refl _ _⟩
theorem xDrop (x : Int) (h : RfAt w q T ks) : Calls Try.prog 20 #[zp q 0, zi x] w fun e w' => e = .returned (.bool (T.goB x)) /\ ∃ ks', RfAt w' q (T.dropI x) ks' /\ Keep ks w w' /\ Grew w ks ks' := by
 obtain ⟨bt, bu, bw, n, ft, fu, fw, h1, h2, rfl⟩ := id h
 refine (rdrop_any x w q bt bu bw n ft fu fw T h1 h2).mono ?_
 rintro e w' ⟨rfl, f', r1, r2, r3⟩
 exact ⟨rfl, [q, bt, bu, bw], ⟨bt, bu, bw, n, _, _, _, r1, r2, rfl⟩, r3, Grew.refl _ _⟩
theorem xPathAdd (x y d : Int) (h : RfAt w q T ks) : Calls Try.prog 30 #[zp q 0, zi x, zi y, zi d] w fun e w' => e = .returned (.bool (T.raiseB x y d)) /\ ∃ ks', RfAt w' q (T.pathAdd x y d) ks' /\ Keep ks w w' /\ Grew w ks ks' := by
 obtain ⟨bt, bu, bw, n, ft, fu, fw, h1, h2, rfl⟩ := id h
 refine (rpathAdd_any x y d w q bt bu bw n ft fu fw T h1 h2).mono ?_
 rintro e w' ⟨rfl, f', r1, r2, r3⟩
 exact ⟨rfl, [q, bt, bu, bw], ⟨bt, bu, bw, n, _, _, _, r1, r2, rfl⟩, r3, Grew.refl _ _⟩
theorem xAdd (x y : Int) (h : RfAt w q T ks) : Calls Try.prog 18 #[zp q 0, zi x, zi y] w fun e w' => e = .returned (.bool (T.addB x y)) /\ ∃ ks', RfAt w' q (T.addI x y) ks' /\ Keep ks w w' /\ Grew w ks ks' := by
 obtain ⟨bt, bu, bw, n, ft, fu, fw, h1, h2, rfl⟩ := id h
 refine (rAdd_any x y w q bt bu bw n ft fu fw T h1 h2).mono ?_
 rintro e w' ⟨rfl, f1, f2, f3, r1, r2, r3⟩
 exact ⟨rfl, [q, bt, bu, bw], ⟨bt, bu, bw, n, _, _, _, r1, r2, rfl⟩, r3, Grew.refl _ _⟩
end
theorem x2New {w W : World} {p : Nat} {T : Tr} {js : List Nat} (h : Ob w W p T js) (n : Nat) (h1 : n <= 1048576) :
  Calls Try.prog 16 #[zi n] W fun e W' => ∃ q, e = .returned (zp q 0) /\ Ob2 RfAt w W' p q T (Tr.new n) js /\ Kept js W W' := by
 refine (rnew_any n W h1).mono ?_
 rintro e W' ⟨q, bt, bu, bw, fu, rfl, q1, q2, q3⟩
 exact ⟨q, rfl, h.pair q2 ⟨bt, bu, bw, n, _, _, _, q1, Says.new n h1 fu, rfl⟩ q3⟩
end Go.Proofs.Ytjnkgakajenoaaa
namespace Go.Proofs.Ytjnkgakajenoaaa
open Go.ChangeShapes Go.WideShapes Go.ChangeAt Go.RowKit Go.Joins Go.Deep
def ARow (w : World) (x : Option Addr) (len : Nat) : Prop := 0 < len -> ∃ b o, x = some ⟨b, o, none⟩ /\ b < w.heap.size /\ ∀ i, i < len -> ∃ k a s g : Int,
  w.cell? ⟨b, o + i * 4, none⟩ = some (zi k) /\ w.cell? ⟨b, o + i * 4 + 1, none⟩ = some (zi a) /\ w.cell? ⟨b, o + i * 4 + 2, none⟩ = some (zi s) /\ w.cell? ⟨b, o + i * 4 + 3, none⟩ = some (zi g)
theorem ARow.get {w W : World} {x : Option Addr} {len : Nat} (h : ARow w x len) (hb : Below w.heap.size w W) (i : Nat) (hi : i < len) :
  ∃ b o k a s g, x = some ⟨b, o, none⟩ /\ W.cell? ⟨b, o + i * 4, none⟩ = some (zi k) /\ W.cell? ⟨b, o + i * 4 + 1, none⟩ = some (zi a) /\ W.cell? ⟨b, o + i * 4 + 2, none⟩ = some (zi s) /\ W.cell? ⟨b, o + i * 4 + 3, none⟩ = some (zi g) := by
 obtain ⟨b, o, hx, hlt, hc⟩ := h (by omega)
 obtain ⟨k, a, s, g, c0, c1, c2, c3⟩ := hc i hi
 refine ⟨b, o, k, a, s, g, hx, ?_, ?_, ?_, ?_⟩
 ·rw [hb.cell (p := ⟨b, _, none⟩) hlt]; exact c0
 ·rw [hb.cell (p := ⟨b, _, none⟩) hlt]; exact c1
 ·rw [hb.cell (p := ⟨b, _, none⟩) hlt]; exact c2
 ·rw [hb.cell (p := ⟨b, _, none⟩) hlt]; exact c3
theorem Try.cellsAct : Try.prog.cellsOf 29 = 4 := by kernel_rfl
theorem Try.cells3 : Try.prog.cellsOf 3 = 1 := by kernel_rfl
section
variable {H : Type} {enc : TypeId × Value -> H} {w : World} {base : Nat} {spare : Nat -> Bool} {held : Bool}
theorem act_cells {fuel : Nat} {cs : List Value} {x : DataW H × List MemPlace} (h : DataW.trod enc Try.prog w base spare held fuel 29 cs = some x) : ∃ k a s g, cs = [zi k, zi a, zi s, zi g] := by
 obtain ⟨y0, y1, y2, y3, n, _, hl, h0, h1, h2, h3⟩ := trod_struct4 Try.underlying29 h
 rw [Try.cellsAct] at hl
 simp only [Try.cells3, List.drop_zero] at h0 h1 h2 h3
 obtain ⟨k, e0, _⟩ := DataW.trod_int Try.underlying3 h0
 obtain ⟨a, e1, _⟩ := DataW.trod_int Try.underlying3 h1
 obtain ⟨s, e2, _⟩ := DataW.trod_int Try.underlying3 h2
 obtain ⟨g, e3, _⟩ := DataW.trod_int Try.underlying3 h3
 match cs, hl with
 | [c0, c1, c2, c3], _ =>
  simp at e0 e1 e2 e3
  exact ⟨k, a, s, g, by rw [e0, e1, e2, e3]⟩
theorem acts_open {fuel : Nat} {x : Option Addr} {len cap : Nat} {y : DataW H × List MemPlace} (h : DataW.trod enc Try.prog w base (fun _ => true) held fuel 22 [.slice x len cap] = some y) : len <= maxLen /\ ARow w x len := by
 rcases open_slice Try.underlying22 h with ⟨hcs, _⟩ | ⟨a, len', cap', m, n, D, Pl, hcs, _, hl, hm, hmm, _, hel⟩
 ·simp at hcs
  obtain ⟨rfl, rfl, rfl⟩ := hcs
  exact ⟨Nat.zero_le _, fun h => by omega⟩
 ·simp at hcs
  obtain ⟨rfl, rfl, rfl⟩ := hcs
  simp only [if_true] at hmm
  subst hmm
  rw [Try.cellsAct] at hel
  refine ⟨by omega, fun h0 => ?_⟩
  have hall : ∀ i, i < m -> ∃ k b s g : Int, w.cell? ((a.add (i * 4)).add 0) = some (zi k) /\ w.cell? ((a.add (i * 4)).add 1) = some (zi b) /\ w.cell? ((a.add (i * 4)).add 2) = some (zi s) /\ w.cell? ((a.add (i * 4)).add 3) = some (zi g) := by
   intro i hi
   obtain ⟨cs', h1, h2⟩ := hel i hi
   obtain ⟨k, b, s, g, rfl⟩ := act_cells h2
   obtain ⟨_, _, h3⟩ := World.cells?_some h1
   exact ⟨k, b, s, g, h3 0 (by omega), h3 1 (by omega), h3 2 (by omega), h3 3 (by omega)⟩
  obtain ⟨_, _, _, _, hc, _⟩ := hall 0 (by omega)
  obtain ⟨b, off, spot⟩ := a
  have hspot : spot = none := by simpa [Addr.add] using World.cell?_spot hc
  subst hspot
  refine ⟨b, off, rfl, World.block_lt_of_cell? w _ hc, fun i hi => ?_⟩
  obtain ⟨k, b', s, g, z0, z1, z2, z3⟩ := hall i (by omega)
  simp only [add_plain] at z0 z1 z2 z3
  refine ⟨k, b', s, g, ?_, ?_, ?_, ?_⟩
  ·simpa [Nat.add_assoc] using z0
  ·simpa [Nat.add_assoc] using z1
  ·simpa [Nat.add_assoc] using z2
  ·simpa [Nat.add_assoc] using z3
end
end Go.Proofs.Ytjnkgakajenoaaa
