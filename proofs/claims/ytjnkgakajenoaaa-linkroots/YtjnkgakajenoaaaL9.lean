/- The program's forest (part 9 of its contracts and the laws' common texts). -/
import Derived.Test.YtjnkgakajenoaaaL8
import Derived.Test.YtjnkgakajenoaaaL1
import Derived.Test.YtjnkgakajenoaaaL4
import Derived.Test.YtjnkgakajenoaaaL5
import Derived.Deep.QuietTactic
import Derived.Deep.RegionWith
import Derived.WalkSmall
import Derived.BigQuiet
/- The program's forest as one plain forest: nodes that come, links. -/

namespace Go.Proofs.Ytjnkgakajenoaaa
open Go.RowKit Go.Arb
set_option linter.unusedVariables false
set_option linter.unusedSimpArgs false
section
variable {w w' : World} {p : Nat} {T T1 : Tr} {ks js : List Nat}
theorem aAdd (x y : Int) (h : At w p T ks) : Calls Try.prog 17 #[.pointer (some ⟨p, 0, none⟩), .int .i64 x, .int .i64 y] w fun e w' => e = .returned (.bool (T.addB x y)) ∧ ∃ ks', At w' p (T.addI x y) ks' ∧ Keep ks w w' ∧ Grew w ks ks' := by
  obtain ⟨g, n, cap, S, G, h1, h2, rfl⟩ := h
  have no : T.addB x y = false → ∀ e w', e = Ending.returned (.bool false) ∧ Keep [g] w w' ∧ Pool w' p g n cap T.n S → e = .returned (.bool (T.addB x y)) ∧ ∃ ks', At w' p (T.addI x y) ks' ∧ Keep [p, g] w w' ∧ Grew w [p, g] ks' := by
    rintro hb e w' ⟨rfl, q1, q2⟩
    exact ⟨by rw [hb], by rw [Tr.addI, hb]; exact At.of rfl q1 q2 h2⟩
  by_cases c1 : x < 0
  · refine (addN1 h1 h2 c1).mono (no ?_)
    rw [Tr.addB, decide_eq_false (show ¬ 0 ≤ x by omega)]; rfl
  by_cases c2 : (T.n : Int) ≤ x
  · refine (addN2 h1 h2 (by omega) c2).mono (no ?_)
    rw [Tr.addB, decide_eq_false (show ¬ x < (T.n : Int) by omega)]; simp
  obtain ⟨i, rfl⟩ := Int.eq_ofNat_of_zero_le (show 0 ≤ x by omega)
  have hr : i < T.n := by omega
  cases hx : T.hasI (i : Int)
  · cases hf : fitB y
    · refine (addN4 h1 h2 hx hr hf).mono (no ?_)
      rw [Tr.addB, hf]; simp
    · have hb : T.addB (i : Int) y = true := by rw [Tr.addB, hf, hx]; simp; omega
      refine (addY h1 h2 rfl hx hr hf).mono ?_
      rintro e w' ⟨rfl, q1, g2, n2, cap2, S1, G1, q2, q3, q4⟩
      refine ⟨by rw [hb], ?_⟩
      rw [Tr.addI, hb, if_pos rfl, Int.toNat_natCast]
      exact ⟨[p, g2], ⟨g2, n2, cap2, S1, G1, q2, q3, rfl⟩, q1, fun k hk => by
        simp at hk ⊢
        rcases hk with rfl | rfl
        · exact .inl (.inl rfl)
        · rcases q4 with e | e
          · exact .inl (.inr e)
          · exact .inr e⟩
  · obtain ⟨j, hj, hj2⟩ := Tr.hasI_true hx
    obtain rfl : i = j := by omega
    refine (addN3 h1 h2 (t := i + 1) ⟨by omega, by simpa using hj2⟩ rfl hr).mono (no ?_)
    rw [Tr.addB, hx]; simp
theorem linkB_of {T : Tr} (W : T.Wf) {i j : Nat} (hi : Th T (i + 1)) (hj : Th T (j + 1)) (hp : ps T (i + 1) = 0) : T.linkB (i : Int) (j : Int) = !T.sameI (i : Int) (j : Int) := by
  have hroot : T.par i = -1 := by have := par_root W hi hp; simpa using this
  have h1 : T.hasI (i : Int) = true := by rw [T.hasI_nat]; simpa using hi.2
  have h2 : T.hasI (j : Int) = true := by rw [T.hasI_nat]; simpa using hj.2
  have r1 : T.rootI (i : Int) = (i : Int) := by
    have := root_of (r := i + 1) W (by simpa using hi.2) (U_self W hi) hp
    rw [this]; omega
  unfold Tr.linkB Tr.sameI
  rw [h1, h2, Int.toNat_natCast, hroot, r1]
  have : ((i : Int) != -1) = true := by simp
  rw [this]
  by_cases e : T.rootI (j : Int) = (i : Int)
  · rw [e]; simp
  · have e2 : (T.rootI (j : Int) != (i : Int)) = true := by simp; exact e
    have e3 : ((i : Int) == T.rootI (j : Int)) = false := by simp; exact fun k => e k.symm
    rw [e2, e3]; rfl
theorem aLink (x y : Int) (h : At w p T ks) : Calls Try.prog 21 #[.pointer (some ⟨p, 0, none⟩), .int .i64 x, .int .i64 y] w fun e w' => e = .returned (.bool (T.linkB x y)) ∧ ∃ ks', At w' p (T.linkI x y) ks' ∧ Keep ks w w' ∧ Grew w ks ks' := by
  obtain ⟨g, n, cap, S, G, h1, h2, rfl⟩ := h
  have no : T.linkB x y = false → ∀ e w', (e = Ending.returned (.bool false) ∧ Keep [g] w w' ∧ ∃ S1 G1, Pool w' p g n cap T.n S1 ∧ Lc S1 n T G1) → e = .returned (.bool (T.linkB x y)) ∧ ∃ ks', At w' p (T.linkI x y) ks' ∧ Keep [p, g] w w' ∧ Grew w [p, g] ks' := by
    rintro hb e w' ⟨rfl, q1, S1, G1, q2, q3⟩
    exact ⟨by rw [hb], by rw [Tr.linkI, hb]; exact At.of rfl q1 q2 q3⟩
  rcases hasI_cases T x with ⟨i, rfl, hi, hx⟩ | hx
  · by_cases hp : ps T (i + 1) = 0
    · rcases hasI_cases T y with ⟨j, rfl, hj, hy⟩ | hy
      · have lb := linkB_of h2.wf hi hj hp
        cases hs : T.sameI (i : Int) (j : Int)
        · rw [hs] at lb
          refine (linkY h1 h2 hi rfl hp hj rfl hs).mono ?_
          rintro e w' ⟨rfl, q1, S1, G1, q2, q3⟩
          exact ⟨by rw [lb]; rfl, by rw [Tr.linkI, lb]; exact At.of rfl q1 q2 q3⟩
        · rw [hs] at lb
          exact (linkN4 h1 h2 hi rfl hp hj rfl hs).mono (no lb)
      · exact (linkN3 h1 h2 hi rfl hp hy).mono (no (by rw [Tr.linkB, hy]; simp))
    · refine (linkN2 h1 h2 hi rfl hp).mono (no ?_)
      have q := ps_par hi h2.wf
      rw [Nat.add_sub_cancel] at q
      have : (T.par i == -1) = false := by simp; omega
      rw [Tr.linkB, Int.toNat_natCast, this]; simp
  · refine (linkN1 h1 h2 hx).mono ?_
    rintro e w' ⟨rfl, q1, q2⟩
    have hb : T.linkB x y = false := by rw [Tr.linkB, hx]; rfl
    exact ⟨by rw [hb], by rw [Tr.linkI, hb]; exact At.of rfl q1 q2 h2⟩
end
end Go.Proofs.Ytjnkgakajenoaaa
/- The program's forest as one plain forest: nodes that go. -/

namespace Go.Proofs.Ytjnkgakajenoaaa
open Go.RowKit Go.Arb
set_option linter.unusedVariables false
set_option linter.unusedSimpArgs false
def Tr.kidB (T : Tr) (v : Int) : Bool := (List.range T.n).any (fun u => T.par u == v)
def Tr.goB (T : Tr) (v : Int) : Bool := (T.hasI v && (T.par v.toNat == -1)) && !T.kidB v
def Tr.dropI (T : Tr) (v : Int) : Tr := if T.goB v then T.drop v.toNat else T
section
variable {w w' : World} {p : Nat} {T T1 : Tr} {ks js : List Nat}
/-- Two in a tree are more than one. -/
theorem Dc_two {T : Tr} (W : T.Wf) {r x y : Nat} (hx : r ∈ U T x) (hy : r ∈ U T y) (hne : x ≠ y) : 2 ≤ Dc T r := by
  have tx := U_mem_th' W hx
  have ty := U_mem_th' W hy
  have x1 := tx.1
  have y1 := ty.1
  have h1 : sumF T.n (fun u => (if u = x - 1 then (1 : Int) else 0) + (if u = y - 1 then 1 else 0)) = 2 := by
    rw [sumF_add, sumF_one _ _ (th_lt W tx), sumF_one _ _ (th_lt W ty)]; rfl
  rw [← h1]
  unfold Dc
  refine sumF_le fun u _ => ?_
  by_cases e1 : u = x - 1
  · have e2 : ¬ u = y - 1 := by omega
    rw [if_pos e1, if_neg e2, if_pos (by rw [e1, Nat.sub_add_cancel x1]; exact hx)]; omega
  · by_cases e2 : u = y - 1
    · rw [if_neg e1, if_pos e2, if_pos (by rw [e2, Nat.sub_add_cancel y1]; exact hy)]; omega
    · rw [if_neg e1, if_neg e2]; split <;> omega
theorem goB_iff {T : Tr} (W : T.Wf) {i : Nat} (hi : Th T (i + 1)) : T.goB (i : Int) = true ↔ (ps T (i + 1) = 0 ∧ ∀ y, Th T y → ps T y ≠ i + 1) := by
  have h1 : T.hasI (i : Int) = true := by rw [T.hasI_nat]; simpa using hi.2
  have q := ps_par hi W
  rw [Nat.add_sub_cancel] at q
  unfold Tr.goB Tr.kidB
  rw [h1, Int.toNat_natCast]
  simp only [Bool.true_and, Bool.and_eq_true, beq_iff_eq, Bool.not_eq_true', List.any_eq_false, List.mem_range]
  constructor
  · rintro ⟨a, b⟩
    refine ⟨by omega, fun y hy e => ?_⟩
    have q2 := ps_par hy W
    exact b (y - 1) (th_lt W hy) (by rw [q2, e]; omega)
  · rintro ⟨a, b⟩
    refine ⟨by omega, fun u hu e => ?_⟩
    have hu2 : Th T (u + 1) := ⟨by omega, by rw [Nat.add_sub_cancel]; omega⟩
    have q2 := ps_par hu2 W
    rw [Nat.add_sub_cancel] at q2
    exact b _ hu2 (by omega)
/-- A tree of one. -/
theorem alone_one {T : Tr} (W : T.Wf) {t : Nat} (ht : Th T t) (h0 : ps T t = 0) (hk : ∀ y, Th T y → ps T y ≠ t) : Dc T t = 1 := by
  have hU : U T t = [t] := by rw [U_th W ht, h0, U_zero]
  have key : ∀ (k : Nat) (u : Nat), dp T u ≤ k → t ∈ U T u → u = t := by
    intro k
    induction k with
    | zero => intro u hu hm; have := dp_pos W (U_mem_th' W hm); omega
    | succ k ih =>
      intro u hu hm
      have hut := U_mem_th' W hm
      rcases (U_up W hut).1 hm with e | e
      · exact e.symm
      · have hd := dp_th W hut
        exact absurd (ih _ (by omega) e) (hk u hut)
  unfold Dc
  refine (sumF_congr fun u _ => ?_).trans (sumF_one (t - 1) 1 (th_lt W ht))
  have t1 := ht.1
  by_cases e : u = t - 1
  · rw [if_pos e, if_pos (by rw [e, Nat.sub_add_cancel t1]; exact U_self W ht)]
  · rw [if_neg e, if_neg (fun hm => e (by have := key _ _ (Nat.le_refl _) hm; omega))]
theorem aDrop (x : Int) (h : At w p T ks) : Calls Try.prog 19 #[.pointer (some ⟨p, 0, none⟩), .int .i64 x] w fun e w' => e = .returned (.bool (T.goB x)) ∧ ∃ ks', At w' p (T.dropI x) ks' ∧ Keep ks w w' ∧ Grew w ks ks' := by
  obtain ⟨g, n, cap, S, G, h1, h2, rfl⟩ := h
  have W := h2.wf
  rcases hasI_cases T x with ⟨i, rfl, hi, hx⟩ | hx
  · have gi := goB_iff W hi
    cases hb : T.goB (i : Int)
    · have nd : ∀ r, r ∈ U T (i + 1) → ps T r = 0 → Dc T r ≠ 1 := fun r hr hr0 e => by
        have hg : ¬ (ps T (i + 1) = 0 ∧ ∀ y, Th T y → ps T y ≠ i + 1) := fun k => by rw [gi.2 k] at hb; cases hb
        by_cases e0 : ps T (i + 1) = 0
        · have hr2 : r = i + 1 := by rw [U_th W hi, e0, U_zero] at hr; simpa using hr
          refine hg ⟨e0, fun y hy ey => ?_⟩
          have := Dc_two W (r := r) (x := i + 1) (y := y) (by rw [hr2]; exact U_self W hi) (by rw [hr2, ← ey]; exact U_ps W hy (by omega)) (fun k => by rw [← k, e0] at ey; omega)
          omega
        · have hrt := U_mem_th W hr
          have := Dc_two W (r := r) (x := i + 1) (y := r) hr (U_self W hrt) (fun k => by rw [← k] at hr0; exact e0 hr0)
          omega
      refine (dropN2 h1 h2 hi rfl nd).mono ?_
      rintro e w' ⟨rfl, q1, S1, G1, q2, q3⟩
      exact ⟨rfl, by rw [Tr.dropI, hb]; exact At.of rfl q1 q2 q3⟩
    · obtain ⟨e0, hk⟩ := gi.1 hb
      have d1 : ∀ r, r ∈ U T (i + 1) → ps T r = 0 → Dc T r = 1 := fun r hr _ => by
        have hr2 : r = i + 1 := by rw [U_th W hi, e0, U_zero] at hr; simpa using hr
        rw [hr2]; exact alone_one W hi e0 hk
      refine (dropY h1 h2 hi rfl d1 e0 hk).mono ?_
      rintro e w' ⟨rfl, q1, S1, G1, q2, q3⟩
      exact ⟨rfl, by rw [Tr.dropI, hb, if_pos rfl, Int.toNat_natCast]; exact At.of rfl q1 q2 q3⟩
  · have hb : T.goB x = false := by rw [Tr.goB, hx]; rfl
    refine (dropN h1 h2 hx).mono ?_
    rintro e w' ⟨rfl, q1, q2⟩
    exact ⟨by rw [hb], by rw [Tr.dropI, hb]; exact At.of rfl q1 q2 h2⟩
end
end Go.Proofs.Ytjnkgakajenoaaa
/- The program's forest as one plain forest: ways. -/

namespace Go.Proofs.Ytjnkgakajenoaaa
open Go.RowKit Go.Arb
set_option linter.unusedVariables false
set_option linter.unusedSimpArgs false
def Tr.raiseB (T : Tr) (a b n : Int) : Bool := T.sameI a b && (T.wayI a b).all (fun x => _root_.Go.Proofs.Ytjnkgakajenoaaa.addB (T.wt x) n)
def Tr.pathAdd (T : Tr) (a b n : Int) : Tr := if T.raiseB a b n then T.raise (T.wayI a b) n else T
theorem ofR_perm {l m : List Int} (h : l.Perm m) : ofR l = ofR m := by
  induction h with
  | nil => rfl
  | cons x _ ih => rw [ofR, ofR, ih]
  | swap x y l =>
    show jn (one y) (jn (one x) (ofR l)) = jn (one x) (jn (one y) (ofR l))
    rw [← jn_assoc (ok_one _) (ok_one _) (ok_ofR _), jn_comm (ok_one y) (ok_one x), jn_assoc (ok_one _) (ok_one _) (ok_ofR _)]
  | trans _ _ h1 h2 => rw [h1, h2]
theorem ofR_att : ∀ {l : List Int}, l ≠ [] → (ofR l).a ∈ l ∧ (ofR l).b ∈ l
  | [], h => absurd rfl h
  | k :: l, _ => by
    by_cases e : l = []
    · subst e
      show (jn (one k) zero).a ∈ [k] ∧ (jn (one k) zero).b ∈ [k]
      rw [jn_zero_right (ok_one k)]; simp [one]
    · obtain ⟨h1, h2⟩ := ofR_att e
      have hc : (ofR l).c ≠ 0 := by rw [ofR_c]; have := List.length_pos_iff.2 e; omega
      show (jn (one k) (ofR l)).a ∈ k :: l ∧ (jn (one k) (ofR l)).b ∈ k :: l
      rw [jn, if_neg (by simp [one]), if_neg hc]
      show min k (ofR l).a ∈ k :: l ∧ max k (ofR l).b ∈ k :: l
      constructor
      · by_cases q : k ≤ (ofR l).a
        · rw [Int.min_eq_left q]; simp
        · rw [Int.min_eq_right (by omega)]; simp [h1]
      · by_cases q : (ofR l).b ≤ k
        · rw [Int.max_eq_left q]; simp
        · rw [Int.max_eq_right (by omega)]; simp [h2]
theorem way_perm {T : Tr} (W : T.Wf) {i j : Nat} (hs : T.sameI (i : Int) (j : Int) = true) : ((T.evert i).up j).Perm (T.wayI (i : Int) (j : Int)) ∧ T.wayI (i : Int) (j : Int) ≠ [] := by
  obtain ⟨i', j', e1, e2, hi, hj, t, a, b, c, hm⟩ := W.same_true hs
  obtain rfl : i = i' := by omega
  obtain rfl : j = j' := by omega
  have e3 : (T.evert i).up j = b ++ t :: a.reverse := (W.evert hi).eq (W.evert_in hm.symm)
  have e4 : T.wayI (i : Int) (j : Int) = t :: (a ++ b) := by rw [Tr.wayI, T.upI_nat, T.upI_nat, hm.way]
  rw [e3, e4]
  refine ⟨List.perm_middle.trans ?_, by simp⟩
  exact (List.perm_append_comm.trans (List.Perm.append_right b (List.reverse_perm a))).cons t
theorem all_can {T : Tr} {l m : List Nat} (hp : m.Perm l) (hne : l ≠ []) (d : Int) : (addB (ofL (m.map T.wt)).a d && addB (ofL (m.map T.wt)).b d) = l.all (fun x => addB (T.wt x) d) := by
  have e : ofR (m.map T.wt) = ofR (l.map T.wt) := ofR_perm (hp.map _)
  rw [ofL_eq, e]
  have hn : l.map T.wt ≠ [] := by simpa using hne
  obtain ⟨h1, h2⟩ := ofR_att hn
  rw [Bool.eq_iff_iff]
  simp only [Bool.and_eq_true, List.all_eq_true]
  constructor
  · rintro ⟨a1, a2⟩ x hx
    have := ofR_ab (List.mem_map.2 ⟨x, hx, rfl⟩ : T.wt x ∈ l.map T.wt)
    simp [addB, fitB, inB] at a1 a2 ⊢
    omega
  · intro h
    obtain ⟨x, hx, ex⟩ := List.mem_map.1 h1
    obtain ⟨y, hy, ey⟩ := List.mem_map.1 h2
    rw [← ex, ← ey]
    exact ⟨h x hx, h y hy⟩
theorem raise_perm {T : Tr} {l m : List Nat} (hp : m.Perm l) (d : Int) : T.raise m d = T.raise l d := by
  unfold Tr.raise
  congr 1
  funext u
  unfold raiseF
  by_cases e : u ∈ l
  · rw [if_pos e, if_pos (hp.mem_iff.2 e)]
  · rw [if_neg e, if_neg (fun q => e (hp.mem_iff.1 q))]
section
variable {w w' : World} {p : Nat} {T T1 : Tr} {ks js : List Nat}
theorem aPath (x y : Int) (h : At w p T ks) : Calls Try.prog 31 #[.pointer (some ⟨p, 0, none⟩), .int .i64 x, .int .i64 y] w fun e w' => e = .returned (.tuple #[smV (T.pathI x y), .bool (T.sameI x y)]) ∧ ∃ ks', At w' p T ks' ∧ Keep ks w w' ∧ Grew w ks ks' := by
  obtain ⟨g, n, cap, S, G, h1, h2, rfl⟩ := h
  have W := h2.wf
  cases hs : T.sameI x y
  · have e0 : T.pathI x y = zero := by rw [Tr.pathI, Tr.wayI, way_none (W.same_false hs)]; rfl
    refine (pathN h1 h2 hs).mono ?_
    rintro e w' ⟨rfl, q1, S1, G1, q2, q3⟩; exact ⟨by rw [e0]; rfl, At.of rfl q1 q2 q3⟩
  · obtain ⟨i, j, rfl, rfl, hi, hj⟩ := same_there W hs
    obtain ⟨r, e1, _, _⟩ := W.rootI_in (v := i) (by simpa using hi.2)
    have e0 : ofL (((T.evert i).up j).map T.wt) = T.pathI (i : Int) (j : Int) := by rw [Tr.pathI, ofL_eq, ofL_eq]; exact ofR_perm ((way_perm W hs).1.map _)
    refine (pathY h1 h2 hi rfl hj rfl hs e1).mono ?_
    rintro e w' ⟨rfl, q1, S1, G1, q2, q3⟩; exact ⟨by rw [e0]; rfl, At.of rfl q1 q2 q3⟩
theorem aPathAdd (x y d : Int) (h : At w p T ks) : Calls Try.prog 29 #[.pointer (some ⟨p, 0, none⟩), .int .i64 x, .int .i64 y, .int .i64 d] w fun e w' => e = .returned (.bool (T.raiseB x y d)) ∧ ∃ ks', At w' p (T.pathAdd x y d) ks' ∧ Keep ks w w' ∧ Grew w ks ks' := by
  obtain ⟨g, n, cap, S, G, h1, h2, rfl⟩ := h
  have W := h2.wf
  cases hs : T.sameI x y
  · have hb : T.raiseB x y d = false := by rw [Tr.raiseB, hs]; rfl
    refine (pathAddN0 h1 h2 hs).mono ?_
    rintro e w' ⟨rfl, q1, S1, G1, q2, q3⟩; exact ⟨by rw [hb], by rw [Tr.pathAdd, hb]; exact At.of rfl q1 q2 q3⟩
  · obtain ⟨i, j, rfl, rfl, hi, hj⟩ := same_there W hs
    obtain ⟨r, e1, _, _⟩ := W.rootI_in (v := i) (by simpa using hi.2)
    obtain ⟨hp, hne⟩ := way_perm W hs
    have ac := all_can (T := T) hp hne d
    have hb : T.raiseB (i : Int) (j : Int) d = (T.wayI (i : Int) (j : Int)).all (fun x => addB (T.wt x) d) := by rw [Tr.raiseB, hs]; rfl
    cases hc : (T.wayI (i : Int) (j : Int)).all (fun x => addB (T.wt x) d)
    · rw [hc] at ac hb
      refine (pathAddN h1 h2 hi rfl hj rfl hs e1 ac).mono ?_
      rintro e w' ⟨rfl, q1, S1, G1, q2, q3⟩; exact ⟨by rw [hb], by rw [Tr.pathAdd, hb]; exact At.of rfl q1 q2 q3⟩
    · rw [hc] at ac hb
      refine (pathAddY h1 h2 hi rfl hj rfl hs e1 ac).mono ?_
      rintro e w' ⟨rfl, q1, S1, G1, q2, q3⟩
      rw [raise_perm hp] at q3
      exact ⟨by rw [hb], by rw [Tr.pathAdd, hb, if_pos rfl]; exact At.of rfl q1 q2 q3⟩
end
end Go.Proofs.Ytjnkgakajenoaaa
/- A statement whose order is drawn: each operation is looked at once, whatever the order, by what holds while some have come up. Nothing of the dump. -/

namespace Go.Arb
set_option linter.unusedVariables false
set_option linter.unusedSimpArgs false
def setF (f : Nat → Bool) (i : Nat) : Nat → Bool := fun k => bif Nat.beq k i then true else f k
theorem setF_same (f : Nat → Bool) (i : Nat) : setF f i i = true := by simp [setF]
theorem setF_ne (f : Nat → Bool) {i k : Nat} (h : k ≠ i) : setF f i k = f k := by
  have : Nat.beq k i = false := by cases e : Nat.beq k i; rfl; exact absurd (Nat.eq_of_beq_eq_true e) h
  simp [setF, this]
theorem setF_inv {f : Nat → Bool} {i k : Nat} (h : setF f i k = true) : k = i ∨ f k = true := by
  by_cases e : k = i
  · exact .inl e
  · rw [setF_ne f e] at h; exact .inr h
def unl (f : Nat → Bool) : Nat → Nat
  | 0 => 0
  | n + 1 => unl f n + (bif f n then 0 else 1)
theorem unl_le (f : Nat → Bool) : ∀ n, unl f n ≤ n
  | 0 => Nat.le_refl _
  | n + 1 => by have := unl_le f n; simp only [unl]; cases f n <;> simp <;> omega
theorem unl_zero {f : Nat → Bool} : ∀ {n : Nat}, unl f n = 0 → ∀ k, k < n → f k = true
  | 0, _, k, hk => by omega
  | n + 1, h, k, hk => by
    simp only [unl] at h
    cases e : f n
    · rw [e] at h; simp at h
    · by_cases c : k = n
      · subst c; exact e
      · have hz : unl f n = 0 := by omega
        exact unl_zero hz k (by omega)
theorem unl_far {f : Nat → Bool} {i : Nat} : ∀ {n : Nat}, n ≤ i → unl (setF f i) n = unl f n
  | 0, _ => rfl
  | n + 1, h => by simp only [unl]; rw [unl_far (by omega), setF_ne f (by omega)]
theorem unl_set {f : Nat → Bool} {i : Nat} (hf : f i = false) : ∀ {n : Nat}, i < n → unl (setF f i) n + 1 = unl f n
  | 0, h => by omega
  | n + 1, h => by
    simp only [unl]
    by_cases c : i = n
    · subst c; rw [unl_far (Nat.le_refl _), setF_same, hf]; simp
    · have := unl_set hf (n := n) (by omega)
      rw [setF_ne f (by omega)]; omega

section
variable {P : Program} {ops : Array Oper} {Q : Exit → Act → World → Prop} {A : Type} {V : A → Nat → Value} {J : A → (Nat → Bool) → World → Prop} {a : Act} {w w' : World} {s d n i : Nat} {u v : Value} {o : Oper} {L0 : List (Nat × Value)} {f : Nat → Bool} {g : A}
/-- What is known of a frame when some operations have come up. -/
def dstOk (ops : Array Oper) (n : Nat) : Bool := (List.range ops.size).all fun i => match (ops[i]?).bind (·.dst) with
  | none => true
  | some d => Nat.blt d n && (List.range ops.size).all fun k => Nat.beq k i || !((ops[k]?).bind (·.dst) == some d)
structure Kr (ops : Array Oper) (n : Nat) (L0 : List (Nat × Value)) (V : Nat → Value) (f : Nat → Bool) (a : Act) : Prop where
  ok : dstOk ops n = true
  size : a.tmps.size = n
  defers : a.defers = []
  base : ∀ s v, look L0 s = some v → (ops.all fun o => !(o.dst == some s)) = true → a.tmps[s]? = some v
  has : ∀ k d, f k = true → (ops[k]?).bind (·.dst) = some d → a.tmps[d]? = some (V k)
/-- What an operation that waits for some others may look at. -/
def Uses (ops : Array Oper) (i : Nat) (L0 : List (Nat × Value)) (V : Nat → Value) : List (Nat × Value) → Prop
  | [] => True
  | (s, v) :: r => ((∃ k, Region.waitsFor .any ops i k = true ∧ (ops[k]?).bind (·.dst) = some s ∧ V k = v) ∨ (look L0 s = some v ∧ (ops.all fun o => !(o.dst == some s)) = true)) ∧ Uses ops i L0 V r
theorem Uses.sees (hk : Kr ops n L0 (V g) f a) (hd : ∀ j, Region.waitsFor .any ops i j = true → f j = true) : ∀ {L : List (Nat × Value)}, Uses ops i L0 (V g) L → Sees L a.eval
  | [], _ => ⟨fun s v h => (by simp [look] at h), fun _ => rfl, fun _ => rfl⟩
  | (s, v) :: r, h => by
    have ih := Uses.sees hk hd h.2
    refine ⟨fun t x ht => ?_, fun _ => rfl, fun _ => rfl⟩
    unfold look at ht
    cases e : Nat.beq s t
    · rw [e] at ht; exact ih.tmp t x ht
    · rw [e] at ht
      have e' : s = t := Nat.eq_of_beq_eq_true e
      have hx : v = x := by simpa using ht
      subst e' hx
      have : a.tmps[s]? = some v := by
        rcases h.1 with ⟨k, h1, h2, h3⟩ | ⟨h1, h2⟩
        · rw [← h3]; exact hk.has k s (hd k h1) h2
        · exact hk.base s v h1 h2
      simp [Act.eval, this]
/-- What is known at the end. -/
def Ends (ops : Array Oper) (L0 : List (Nat × Value)) (V : Nat → Value) : List (Nat × Value) → Prop
  | [] => True
  | (s, v) :: r => ((∃ k, Nat.blt k ops.size = true ∧ (ops[k]?).bind (·.dst) = some s ∧ V k = v) ∨ (look L0 s = some v ∧ (ops.all fun o => !(o.dst == some s)) = true)) ∧ Ends ops L0 V r
theorem Kr.kn (hk : Kr ops n L0 (V g) f a) (hf : ∀ k, k < ops.size → f k = true) : ∀ {L : List (Nat × Value)}, Ends ops L0 (V g) L → Kn a n L
  | [], _ => ⟨hk.size, hk.defers, fun s v h => (by simp [look] at h)⟩
  | (s, v) :: r, h => by
    have ih := Kr.kn hk hf h.2
    refine ⟨hk.size, hk.defers, fun t x ht => ?_⟩
    unfold look at ht
    cases e : Nat.beq s t
    · rw [e] at ht; exact ih.has t x ht
    · rw [e] at ht
      have e' : s = t := Nat.eq_of_beq_eq_true e
      have hx : v = x := by simpa using ht
      subst e' hx
      rcases h.1 with ⟨k, h1, h2, h3⟩ | ⟨h1, h2⟩
      · rw [← h3]; exact hk.has k s (hf k (by simpa [Nat.blt_eq] using h1)) h2
      · exact hk.base s v h1 h2
/-- What is to be shown of operation i: it keeps what holds. -/
def Ob (P : Program) (ops : Array Oper) (Q : Exit → Act → World → Prop) (n : Nat) (L0 : List (Nat × Value)) (V : A → Nat → Value) (J : A → (Nat → Bool) → World → Prop) (i : Nat) : Prop :=
  ∀ (g : A) (f : Nat → Bool) (a : Act) (w : World), Kr ops n L0 (V g) f a → J g f w → (∀ j, Region.waitsFor .any ops i j = true → f j = true) → (∀ k, Region.waitsFor .any ops k i = true → f k = false) → f i = false →
    wpOp P ops Q i (fun a' w' => ∃ g', Kr ops n L0 (V g') (setF f i) a' ∧ J g' (setF f i) w') a w
def Obs (P : Program) (ops : Array Oper) (Q : Exit → Act → World → Prop) (n : Nat) (L0 : List (Nat × Value)) (V : A → Nat → Value) (J : A → (Nat → Bool) → World → Prop) : Nat → Nat → Prop
  | _, 0 => True
  | i, m + 1 => Ob P ops Q n L0 V J i ∧ Obs P ops Q n L0 V J (i + 1) m
theorem Obs.at : ∀ {m i : Nat}, Obs P ops Q n L0 V J i m → ∀ k, i ≤ k → k < i + m → Ob P ops Q n L0 V J k
  | 0, i, _, k, h1, h2 => by omega
  | m + 1, i, h, k, h1, h2 => by
    by_cases e : k = i
    · subst e; exact h.1
    · exact Obs.at h.2 k (by omega) (by omega)
/-- Each waits for earlier ones only. -/
def Region.early (ops : Array Oper) : Bool := (List.range ops.size).all fun i => match ops[i]? with | some o => o.after.all (fun e => !Region.binds .any e || Nat.blt e.on i) | none => true
theorem all_listed (he : Region.early ops = true) {l : Array Bool} (hl : l.size = ops.size) (hr : Region.ready .any ops l = []) : ∀ k, k < ops.size → l.getD k false = true := by
  intro k
  induction k using Nat.strongRecOn with
  | ind k ih =>
    intro hk
    refine Classical.byContradiction fun hn => ?_
    have hkl : k < l.size := by omega
    have e1 : l[k] = false := by simpa [Array.getD, hkl] using hn
    have : k ∈ Region.ready .any ops l := by
      unfold Region.ready
      refine List.mem_filter.2 ⟨List.mem_range.2 hk, ?_⟩
      unfold Region.early at he
      have hq := List.all_eq_true.1 he k (List.mem_range.2 hk)
      simp only [Array.getElem?_eq_getElem hk] at hq
      simp only [Array.getElem?_eq_getElem hk, Option.map_some, Option.getD_some, Bool.and_eq_true]
      refine ⟨by simp [Array.getD, hkl, e1], ?_⟩
      rw [Array.all_eq_true_iff_forall_mem] at hq ⊢
      intro e hm
      have hb := hq e hm
      cases eb : Region.binds .any e
      · rfl
      · rw [eb] at hb
        have : e.on < k := by simpa [Nat.blt_eq] using hb
        rw [ih e.on this (by omega)]; simp
    rw [hr] at this; cases this
theorem wpAny_inv (he : (Region.early ops && dstOk ops n) = true) (hob : Obs P ops Q n L0 V J 0 ops.size)
    (hend : ∀ g f a w, (∀ k, k < ops.size → f k = true) → Kr ops n L0 (V g) f a → J g f w → Q .normal a w) :
    ∀ (fuel : Nat) (l : Array Bool) (g : A) (a : Act) (w : World), l.size = ops.size → unl (fun k => l.getD k false) ops.size ≤ fuel → (∀ i j, Region.waitsFor .any ops i j = true → l.getD i false = true → l.getD j false = true) →
      Kr ops n L0 (V g) (fun k => l.getD k false) a → J g (fun k => l.getD k false) w → wpAny P .any ops Q fuel l a w
  | 0, l, g, a, w, hl, hu, hc, hk, hj => by
    have hall := unl_zero (Nat.le_zero.1 hu)
    refine ⟨?_, hend g _ a w hall hk hj⟩
    unfold Region.ready
    refine List.filter_eq_nil_iff.2 fun i hi => ?_
    have hi' := List.mem_range.1 hi
    have h1 := hall i hi'
    have hil : i < l.size := by omega
    have : l[i] = true := by simpa [Array.getD, hil] using h1
    simp [Array.getD, hil, this]
  | fuel + 1, l, g, a, w, hl, hu, hc, hk, hj => by
    refine ⟨fun hr => hend g _ a w (all_listed (Bool.and_eq_true _ _ ▸ he).1 hl hr) hk hj, fun i hi => ?_⟩
    unfold Region.ready at hi
    obtain ⟨h1, h2⟩ := List.mem_filter.1 hi
    have hi' := List.mem_range.1 h1
    have hil : i < l.size := by omega
    rw [Bool.and_eq_true] at h2
    have hfi : l.getD i false = false := by
      have := h2.1
      simpa [Array.getD, hil] using this
    have hd : ∀ j, Region.waitsFor .any ops i j = true → l.getD j false = true := fun j hj' => by
      obtain ⟨oi, ho, e, em, eb, eo⟩ := Region.waitsFor_spec hj'
      have q := h2.2
      rw [ho] at q
      simp only [Option.map_some, Option.getD_some] at q
      have := Array.all_eq_true_iff_forall_mem.1 q e em
      rw [eb, eo] at this
      simpa using this
    have hnot : ∀ k, Region.waitsFor .any ops k i = true → l.getD k false = false := fun k hkw => by
      cases c : l.getD k false
      · rfl
      · have := hc k i hkw c; rw [hfi] at this; cases this
    have hob' := hob.at i (by omega) (by omega) g _ a w hk hj hd hnot hfi
    have efun : (fun k => (l.setIfInBounds i true).getD k false) = setF (fun k => l.getD k false) i := by
      funext k
      by_cases e : k = i
      · subst e; rw [setF_same]; simp [Array.getD, hil]
      · rw [setF_ne _ e]
        have e' : ¬ i = k := fun h => e h.symm
        by_cases hkl : k < l.size
        · simp [Array.getD, hkl, Array.getElem_setIfInBounds, e']
        · simp [Array.getD, hkl]
    refine wpOp_mono (fun a' w' hq => ?_) hob'
    obtain ⟨g', k1, k2⟩ := hq
    refine wpAny_inv he hob hend fuel _ g' a' w' (by simpa using hl) ?_ ?_ (by rw [efun]; exact k1) (by rw [efun]; exact k2)
    · rw [show (fun k => (l.setIfInBounds i true).getD k false) = setF (fun k => l.getD k false) i from efun]
      have := unl_set (f := fun k => l.getD k false) hfi hi'
      omega
    · rw [show (∀ i_1 j, Region.waitsFor .any ops i_1 j = true → (l.setIfInBounds i true).getD i_1 false = true → (l.setIfInBounds i true).getD j false = true) ↔ (∀ x y, Region.waitsFor .any ops x y = true → (fun k => (l.setIfInBounds i true).getD k false) x = true → (fun k => (l.setIfInBounds i true).getD k false) y = true) from Iff.rfl, efun]
      intro x y hxy hx
      by_cases ey : y = i
      · subst ey; exact setF_same _ _
      · rw [setF_ne _ ey]
        rcases setF_inv hx with rfl | hx'
        · exact hd y hxy
        · exact hc x y hxy hx'
theorem wp_region_inv {id : Nat} (g0 : A) (hm : P.follows .mixedOrders = true) (hk : Kn a n L0) (hJ : J g0 (fun _ => false) w.drew) (he : (Region.early ops && dstOk ops n) = true) (hob : Obs P ops Q n L0 V J 0 ops.size)
    (hend : ∀ g f a w, (∀ k, k < ops.size → f k = true) → Kr ops n L0 (V g) f a → J g f w → Q .normal a w) : (Code.region id ops true).wp P Q a w := by
  have e : (fun k => (Array.replicate ops.size false).getD k false) = (fun _ => false) := by
    funext k
    by_cases h : k < ops.size <;> simp [Array.getD, h]
  refine wp_region_any hm (wpAny_inv he hob hend _ _ g0 a w.drew (by simp) (unl_le _ _) ?_ ?_ (by rw [e]; exact hJ))
  · intro i j _ h
    have := congrFun e i
    exact absurd (h.symm.trans this) (by decide)
  · rw [e]
    exact ⟨(Bool.and_eq_true _ _ ▸ he).2, hk.size, hk.defers, fun s v h _ => hk.has s v h, fun k d h => by cases h⟩
theorem getD_other {l l' : List Value} {i k : Nat} (h : l.set i undef = l'.set i undef) (hk : k ≠ i) : l.getD k undef = l'.getD k undef := by
  have h1 := congrArg (fun m => m[k]?) h
  simp only [List.getElem?_set, if_neg (Ne.symm hk)] at h1
  simp [List.getD_eq_getElem?_getD, h1]
/-- Where an operation may lead. -/
def Leads (P : Program) (ev : Operand → Value) (o : Oper) (w : World) (R : Value → World → Prop) : Prop :=
  (∃ v w', (execOp ev o).run P w = .ok (.value v) w' ∧ R v w') ∨ (∃ w', (execOp ev o).run P w = .ok .skip w' ∧ R undef w') ∨
    ∃ fn args, (execOp ev o).run P w = .ok (.enter fn args) w ∧ Calls P fn args w fun e w' => ∃ v, e = .returned v ∧ R v w'
/-- Whether an operation is wanted. -/
def Wants (ops : Array Oper) (V : A → Nat → Value) (i : Nat) (o : Oper) (b : Bool) : Prop :=
  (o.guard = none ∧ b = true) ∨ (∃ j c, o.guard = some (j, c) ∧ Region.waitsFor .any ops i j = true ∧ (∃ d, (ops[j]?).bind (·.dst) = some d) ∧ ∀ g, ∃ x, V g j = .bool x ∧ (x == c) = b) ∨
    ∃ j c, o.guard = some (j, c) ∧ Region.waitsFor .any ops i j = true ∧ (∃ d, (ops[j]?).bind (·.dst) = some d) ∧ (∀ g, V g j = undef) ∧ b = false
theorem Wants.eq {b : Bool} (h : Wants ops V i o b) (hk : Kr ops n L0 (V g) f a) (hd : ∀ j, Region.waitsFor .any ops i j = true → f j = true) : Region.wanted o (yielded ops a.tmps) = b := by
  rcases h with ⟨h1, rfl⟩ | ⟨j, c, h1, h2, ⟨d, h3⟩, h4⟩ | ⟨j, c, h1, h2, ⟨d, h3⟩, h4, rfl⟩
  · simp [Region.wanted, h1]
  · obtain ⟨x, h5, h6⟩ := h4 g
    have := hk.has j d (hd j h2) h3
    rw [h5] at this
    subst h6
    simp [Region.wanted, h1, yielded, h3, this]
  · have := hk.has j d (hd j h2) h3
    rw [h4 g] at this
    simp [Region.wanted, h1, yielded, h3, this, undef]
theorem want_undef {a : Act} {L : List (Nat × Value)} (hk : Kn a n L) {j : Nat} {b : Bool} (hg : o.guard = some (j, b)) (hd : (ops[j]?).bind (·.dst) = some d) (hv : look L d = some undef) : Region.wanted o (yielded ops a.tmps) = false := by
  have := hk.has d _ hv
  simp [Region.wanted, hg, yielded, hd, this, undef]
theorem Kr.set {g' : A} {o : Oper} (hk : Kr ops n L0 (V g) f a) (hi : ops[i]? = some o)
    (hnot : ∀ k, Region.waitsFor .any ops k i = true → f k = false) (hV : ∀ k, k = i ∨ Region.waitsFor .any ops k i = true ∨ V g' k = V g k) (hv : o.dst = none ∨ V g' i = v) (hfi : f i = false) : Kr ops n L0 (V g') (setF f i) (a.put o.dst v) := by
  have hx : ∀ d, o.dst = some d → Nat.blt d n = true ∧ ((List.range ops.size).all fun k => Nat.beq k i || !((ops[k]?).bind (·.dst) == some d)) = true := fun d hd => by
    have q := List.all_eq_true.1 hk.ok i (List.mem_range.2 (Array.getElem?_eq_some_iff.1 hi).1)
    simp only [hi, Option.bind_some, hd] at q
    rw [Bool.and_eq_true] at q
    exact q
  have old : ∀ k d, f k = true → (ops[k]?).bind (·.dst) = some d → a.tmps[d]? = some (V g' k) := fun k d h1 h2 => by
    rcases hV k with rfl | h | h
    · rw [hfi] at h1; cases h1
    · rw [hnot k h] at h1; cases h1
    · rw [h]; exact hk.has k d h1 h2
  cases hdst : o.dst with
  | none =>
    refine ⟨hk.ok, hk.size, hk.defers, hk.base, fun k d h1 h2 => ?_⟩
    rcases setF_inv h1 with rfl | h
    · rw [hi] at h2; simp [hdst] at h2
    · exact old k d h h2
  | some d =>
    obtain ⟨x1, x2⟩ := hx d hdst
    have hdn : d < n := by simpa [Nat.blt_eq] using x1
    have hv' : V g' i = v := by rcases hv with h | h; (rw [hdst] at h; cases h); exact h
    refine ⟨hk.ok, by simp [Act.put, hk.size], hk.defers, fun s u h1 h2 => ?_, fun k e h1 h2 => ?_⟩
    · have hm := Array.all_eq_true_iff_forall_mem.1 h2 o (Array.mem_of_getElem? hi)
      rw [hdst] at hm
      have hne : d ≠ s := fun e => by subst e; simp at hm
      have := hk.base s u h1 h2
      simpa [Act.put, Array.getElem?_setIfInBounds, hne] using this
    · rcases setF_inv h1 with rfl | h
      · rw [hi] at h2
        simp [hdst] at h2
        subst h2
        simp [Act.put, hk.size, hdn, hv']
      · have hki : k ≠ i := fun e => by subst e; rw [hfi] at h; cases h
        have hks : k < ops.size := by
          rcases Nat.lt_or_ge k ops.size with c | c
          · exact c
          · rw [Array.getElem?_eq_none c] at h2; cases h2
        have q := List.all_eq_true.1 x2 k (List.mem_range.2 hks)
        have hb : Nat.beq k i = false := by cases c : Nat.beq k i; rfl; exact absurd (Nat.eq_of_beq_eq_true c) hki
        rw [hb, h2] at q
        have hne : d ≠ e := fun c => by subst c; simp at q
        have := old k e h h2
        simpa [Act.put, Array.getElem?_setIfInBounds, hne] using this
/-- An operation that is wanted. -/
theorem ob_run (hi : ops[i]? = some o)
    (LL : A → List (Nat × Value)) (hL : ∀ g, Uses ops i L0 (V g) (LL g)) (hw : Wants ops V i o true)
    (hy : ∀ g f w ev, J g f w → f i = false → (∀ j, Region.waitsFor .any ops i j = true → f j = true) → (∀ k, Region.waitsFor .any ops k i = true → f k = false) → Sees (LL g) ev →
      Leads P ev o w fun v w' => ∃ g', (o.dst = none ∨ V g' i = v) ∧ (∀ k, k = i ∨ Region.waitsFor .any ops k i = true ∨ V g' k = V g k) ∧ J g' (setF f i) w') : Ob P ops Q n L0 V J i := fun g f a w hk hj hd hn hf => by
  have hwt := hw.eq hk hd
  have hs := (hL g).sees hk hd
  refine wpOp_step hi (fun K hK => ?_)
  rw [if_pos hwt]
  unfold Oper.wp
  rcases hy g f w _ hj hf hd hn hs with ⟨v, w', h1, g', h2, h3, h4⟩ | ⟨w', h1, g', h2, h3, h4⟩ | ⟨fn, args, h1, h2⟩
  · rw [h1, Oper.upon_value]
    exact hK _ _ ⟨g', hk.set hi hn h3 h2 hf, h4⟩
  · rw [h1, Oper.upon_skip]
    exact hK _ _ ⟨g', hk.set hi hn h3 h2 hf, h4⟩
  · rw [h1, Oper.upon_enter]
    refine h2.mono ?_
    rintro e w' ⟨v, rfl, g', h2, h3, h4⟩
    exact hK _ _ ⟨g', hk.set hi hn h3 h2 hf, h4⟩
/-- An operation that only looks. -/
theorem ob_look (hi : ops[i]? = some o)
    (LL : A → List (Nat × Value)) (hL : ∀ g, Uses ops i L0 (V g) (LL g)) (hw : Wants ops V i o true) (hJ : ∀ g f w, J g f w → J g (setF f i) w)
    (hy : ∀ g f w ev, J g f w → (∀ j, Region.waitsFor .any ops i j = true → f j = true) → (∀ k, Region.waitsFor .any ops k i = true → f k = false) → Sees (LL g) ev → (execOp ev o).run P w = .ok (.value (V g i)) w) : Ob P ops Q n L0 V J i :=
  ob_run hi LL hL hw fun g f w ev hj _ hd hn hs => .inl ⟨_, _, hy g f w ev hj hd hn hs, g, .inr rfl, fun _ => .inr (.inr rfl), hJ g f w hj⟩
/-- An operation that is not wanted. -/
theorem ob_skip (hi : ops[i]? = some o)
    (hw : Wants ops V i o false) (hJ : ∀ g f w, J g f w → J g (setF f i) w) (hu : ∀ g, V g i = undef) : Ob P ops Q n L0 V J i := fun g f a w hk hj hd hn hf => by
  have hwt := hw.eq hk hd
  refine wpOp_step hi (fun K hK => ?_)
  rw [if_neg (by rw [hwt]; simp)]
  exact hK _ _ ⟨g, hk.set hi hn (fun _ => .inr (.inr rfl)) (.inr (hu g)) hf, hJ g f w hj⟩
/-- One that only hands a value on. -/
def copies (o : Oper) (u : Nat) : Bool := match o.op with
  | .move (.tmp k) => Nat.beq k u
  | .assign (.tmp k) => Nat.beq k u
  | _ => false
theorem ob_copy {u : Nat} (hi : ops[i]? = some o) (hop : copies o u = true) (hL : ∀ g, Uses ops i L0 (V g) [(u, V g i)]) (hw : Wants ops V i o true) (hJ : ∀ g f w, J g f w → J g (setF f i) w) : Ob P ops Q n L0 V J i :=
  ob_look hi (fun g => [(u, V g i)]) hL hw hJ fun g f w ev _ _ _ E => by
    have e := E.tmp u (V g i) (by simp [look])
    unfold copies at hop
    split at hop
    · rename_i k hk
      rw [Nat.eq_of_beq_eq_true hop] at hk
      simp [execOp, hk, e, go_sem]
    · rename_i k hk
      rw [Nat.eq_of_beq_eq_true hop] at hk
      simp [execOp, hk, e, go_sem]
    · cases hop
theorem obsC {i j m q : Nat} (hj : j = i + 1) (hq : q = m + 1) (h : Ob P ops Q n L0 V J i) (h2 : Obs P ops Q n L0 V J j m) : Obs P ops Q n L0 V J i q := by
  subst hj hq; exact ⟨h, h2⟩
/-- A drawn statement: each operation once. -/
theorem wp_region_once {id : Nat} (g0 : A) (m : Nat) (hm : P.follows .mixedOrders = true) (hs : ops.size = m) (hk : Kn a n L0) (hJ : J g0 (fun _ => false) w.drew) (he : (Region.early ops && dstOk ops n) = true) (hob : Obs P ops Q n L0 V J 0 m)
    (hend : ∀ g f a w, (∀ k, Nat.blt k m = true → f k = true) → Kr ops n L0 (V g) f a → J g f w → Q .normal a w) : (Code.region id ops true).wp P Q a w := by
  subst hs
  exact wp_region_inv g0 hm hk hJ he hob fun g f a w hf => hend g f a w fun k hb => hf k (by simpa [Nat.blt_eq] using hb)
theorem Kr.kn' {m : Nat} (hs : ops.size = m) (hk : Kr ops n L0 (V g) f a) (hf : ∀ k, Nat.blt k m = true → f k = true) {L : List (Nat × Value)} (h : Ends ops L0 (V g) L) : Kn a n L := by
  subst hs
  exact hk.kn (fun k hb => hf k (by simpa [Nat.blt_eq] using hb)) h
end
end Go.Arb
/- Plain mathematics for link: what hangs at a slot is the sum of the wholes of all tops that hang there. No Go in sight. -/

namespace Go.Proofs.Ytjnkgakajenoaaa
set_option linter.unusedVariables false
set_option linter.unusedSimpArgs false
section
variable {S : Ss} {n : Nat} {T : Tr} {G : Gh} {t u x y z k : Nat}
theorem sumF_swap (m : Nat) (f : Nat → Nat → Int) : ∀ n, sumF n (fun x => sumF m (fun u => f x u)) = sumF m (fun u => sumF n (fun x => f x u))
  | 0 => (sumF_zero fun i _ => rfl).symm
  | n + 1 => by
    have := sumF_swap m f n
    simp only [sumF]
    rw [this, ← sumF_add]
theorem sumF_ind (P : Nat → Prop) [DecidablePred P] (n : Nat) (hu : ∀ x y, P x → P y → x = y) :
    (∃ x, x < n ∧ P x ∧ sumF n (fun i => if P i then 1 else 0) = 1) ∨ ((∀ x, x < n → ¬ P x) ∧ sumF n (fun i => if P i then 1 else 0) = 0) := by
  by_cases h : ∃ x, x < n ∧ P x
  · obtain ⟨x, hx, hp⟩ := h
    refine .inl ⟨x, hx, hp, ?_⟩
    refine (sumF_congr fun i _ => ?_).trans (sumF_one (n := n) x 1 hx)
    by_cases e : i = x
    · subst e; simp [hp]
    · rw [if_neg e, if_neg fun hi => e (hu _ _ hi hp)]
  · exact .inr ⟨fun x hx hp => h ⟨x, hx, hp⟩, sumF_zero fun i hi => if_neg fun hp => h ⟨i, hi, hp⟩⟩

/-- A top that hangs at t, and of which u is a part, or hangs at it. -/
def Hq (S : Ss) (T : Tr) (G : Gh) (t u x : Nat) : Prop := (Th T x ∧ Top S x ∧ (S x).up = t) ∧ G.fi x ∈ U T (u + 1)
def decHq (S : Ss) (T : Tr) (G : Gh) (t u x : Nat) : Decidable (Hq S T G t u x) := by unfold Hq Th Top; infer_instance
def hqI (S : Ss) (T : Tr) (G : Gh) (t u x : Nat) : Int := @ite _ (Hq S T G t u x) (decHq S T G t u x) 1 0
theorem hqI_pos (h : Hq S T G t u x) : hqI S T G t u x = 1 := if_pos h
theorem hqI_neg (h : ¬ Hq S T G t u x) : hqI S T G t u x = 0 := if_neg h

theorem kid_uniq (W : T.Wf) {a b : Nat} (ha : a ∈ U T z) (hb : b ∈ U T z) (e : ps T a = ps T b) : a = b := by
  have key : ∀ a b, a ∈ U T z → b ∈ U T z → ps T a = ps T b → a ∈ U T b → a = b := fun a b ha hb e hm => by
    rcases (U_up W (U_mem_th W hb)).1 hm with r | r
    · exact r
    · rw [← e] at r
      exact absurd r (ps_notin W (U_mem_th W ha))
  rcases U_cmp' W ha hb with r | r
  · exact key a b ha hb e r
  · exact (key b a hb ha e.symm r).symm
theorem Lc.hq_uniq (h : Lc S n T G) (hx : Hq S T G t u x) (hy : Hq S T G t u y) : x = y := by
  obtain ⟨⟨x1, x2, x3⟩, x4⟩ := hx
  obtain ⟨⟨y1, y2, y3⟩, y4⟩ := hy
  have ex := ((h.loc x x1).tp x2).fi
  have ey := ((h.loc y y1).tp y2).fi
  exact h.uniq x1 y1 x2 y2 (kid_uniq h.wf x4 y4 (by rw [ex, ey, x3, y3]))
/-- Each node stands between the ends of a top's part. -/
theorem Lc.in_top (h : Lc S n T G) : ∀ (k : Nat) (x : Nat), Th T x → 1048576 - (S x).sm.c < k → G.fi x ∈ U T z → z ∈ U T (G.la x) → ∃ y, Th T y ∧ Top S y ∧ G.fi y ∈ U T z ∧ z ∈ U T (G.la y)
  | 0, x, hx, hk, h1, h2 => by have := (h.c_le x).2; omega
  | k + 1, x, hx, hk, h1, h2 => by
    by_cases ht : Top S x
    · exact ⟨x, hx, ht, h1, h2⟩
    · obtain ⟨u1, u2, u3⟩ := h.nt_up hx ht
      have hb := (h.c_le (S x).up).2
      have W := h.wf
      have L := h.loc _ u1
      have en := L.en
      have x0 := hx.1
      have key : ∀ P Q : Nat, (P ≠ 0 → G.fi (S x).up = G.fi P ∧ G.pn (G.la P) = (S x).up) → (Q ≠ 0 → G.la (S x).up = G.la Q ∧ G.pn (S x).up = G.fi Q) → (x = P ∨ x = Q) →
          G.fi (S x).up ∈ U T z ∧ z ∈ U T (G.la (S x).up) := fun P Q e1 e2 e3 => by
        rcases e3 with rfl | rfl
        · obtain ⟨q1, q2⟩ := e1 (by omega)
          refine ⟨by rw [q1]; exact h1, ?_⟩
          obtain ⟨q3, q4⟩ := h.ps_pn (U_mem_th' W (h.la_in hx)) q2 (by have := u1.1; omega)
          have q5 : G.la x ∈ U T (S x).up := by
            rw [← q4]; refine U_ps W u1 ?_
            rw [q4]; have := (U_mem_th' W (h.la_in hx)).1; omega
          exact U_trans W (U_trans W (h.la_in u1) q5) h2
        · obtain ⟨q1, q2⟩ := e2 (by omega)
          refine ⟨?_, by rw [q1]; exact h2⟩
          obtain ⟨q3, q4⟩ := h.ps_pn u1 q2 (by have := (h.fi_th hx).1; omega)
          have q5 : (S x).up ∈ U T (G.fi x) := by
            have := U_ps W q3 (by rw [q4]; have := u1.1; omega)
            rwa [q4] at this
          exact U_trans W (U_trans W h1 q5) (h.fi_in u1)
      have fin : G.fi (S x).up ∈ U T z ∧ z ∈ U T (G.la (S x).up) := by
        cases hb : G.b (S x).up with
        | false =>
          rw [hb] at en
          refine key (S (S x).up).l (S (S x).up).r (fun e => ?_) (fun e => ?_) u2
          · have := en.l1 e; simpa [Gh.f, Gh.g, Gh.nx] using this
          · have := en.r1 e; simpa [Gh.f, Gh.g, Gh.nx] using this
        | true =>
          rw [hb] at en
          refine key (S (S x).up).r (S (S x).up).l (fun e => ?_) (fun e => ?_) u2.symm
          · have := en.r1 e; simpa [Gh.f, Gh.g, Gh.nx] using this
          · have := en.l1 e; simpa [Gh.f, Gh.g, Gh.nx] using this
      exact Lc.in_top h k _ u1 (by omega) fin.1 fin.2
/-- A node that nobody goes on with is the upper end of a top's part. -/
theorem Lc.hd_top (h : Lc S n T G) (hz : Th T z) (hp : ps T z ≠ 0) (hn : G.pn (ps T z) ≠ z) : ∃ y, Th T y ∧ Top S y ∧ G.fi y = z := by
  obtain ⟨y, y1, y2, y3, y4⟩ := h.in_top (z := z) (1048577 - (S z).sm.c).toNat z hz (by omega) (h.fi_in hz) (h.la_in hz)
  refine ⟨y, y1, y2, Classical.byContradiction fun e => ?_⟩
  have c := h.chain y1
  rcases U_cmp' h.wf y4 (h.la_in y1) with r | r
  · exact hn (c.1 z r y3 (Ne.symm e))
  · by_cases e2 : z = y
    · subst e2; exact hn (c.1 z (U_self h.wf hz) y3 (Ne.symm e))
    · exact hn (c.2 z y4 r e2)
/-- Below t, on the way up from z, is one of its kids. -/
theorem kid_on (W : T.Wf) : ∀ (k : Nat) {z : Nat}, dp T z ≤ k → t ∈ U T z → z ≠ t → ∃ c, c ∈ U T z ∧ ps T c = t
  | 0, z, hk, hm, _ => by have := dp_pos W (U_mem_th' W hm); omega
  | k + 1, z, hk, hm, hne => by
    have hz := U_mem_th' W hm
    rcases (U_up W hz).1 hm with e | r
    · exact absurd e.symm hne
    · by_cases e : ps T z = t
      · exact ⟨z, U_self W hz, e⟩
      · have := dp_th W hz
        obtain ⟨c, c1, c2⟩ := kid_on W k (by omega) r e
        exact ⟨c, (U_up W hz).2 (.inr c1), c2⟩
theorem Lc.hq_ex (h : Lc S n T G) (ht : Th T t) (h1 : t ∈ U T (u + 1)) (h2 : u + 1 ≠ t) (h3 : G.pn t ∉ U T (u + 1)) : ∃ x, x < n ∧ Hq S T G t u x := by
  obtain ⟨c, c1, c2⟩ := kid_on h.wf _ (Nat.le_refl _) h1 h2
  have t0 := ht.1
  obtain ⟨y, y1, y2, y3⟩ := h.hd_top (U_mem_th h.wf c1) (by omega) (by rw [c2]; intro e; exact h3 (e ▸ c1))
  refine ⟨y, h.lt y y1, ⟨y1, y2, ?_⟩, by rw [y3]; exact c1⟩
  rw [← ((h.loc y y1).tp y2).fi, y3, c2]
theorem Lc.hq_of (h : Lc S n T G) (ht : Th T t) (hx : Hq S T G t u x) : t ∈ U T (u + 1) ∧ u + 1 ≠ t ∧ G.pn t ∉ U T (u + 1) := by
  obtain ⟨⟨x1, x2, x3⟩, x4⟩ := hx
  have W := h.wf
  have P := (h.loc x x1).tp x2
  have e := P.fi
  rw [x3] at e
  have f := h.fi_th x1
  have t0 := ht.1
  have m := U_ps W f (by omega)
  rw [e] at m
  refine ⟨U_trans W x4 m, fun e2 => ?_, fun hm => ?_⟩
  · rw [e2] at x4
    have := U_dp W x4
    have := U_dp W m
    have := dp_th W f
    rw [e] at this
    rcases U_dp W x4 with r | r
    · rw [r] at this; omega
    · omega
  · have p0 : G.pn t ≠ 0 := fun e => zero_U W (e ▸ hm)
    obtain ⟨q1, q2⟩ := (h.loc t ht).nx p0
    have := kid_uniq W hm x4 (by rw [q2, e])
    exact P.nv (by rw [x3]; exact this)

theorem Lc.hq_sum (h : Lc S n T G) (k : Nat) : 0 ≤ sumF k (hqI S T G t u) ∧ sumF k (hqI S T G t u) ≤ 1 := by
  have := @sumF_ind (Hq S T G t u) (decHq S T G t u) k (fun x y hx hy => h.hq_uniq hx hy)
  unfold hqI
  rcases this with ⟨_, _, _, e⟩ | ⟨_, e⟩ <;> rw [e] <;> omega
theorem Lc.hq_all (h : Lc S n T G) (ht : Th T t) : sumF n (hqI S T G t u) = hgI T t (G.pn t) u := by
  have := @sumF_ind (Hq S T G t u) (decHq S T G t u) n (fun x y hx hy => h.hq_uniq hx hy)
  unfold hqI hgI
  rcases this with ⟨x, hx, hp, e⟩ | ⟨hn, e⟩
  · rw [e, if_pos (h.hq_of ht hp)]
  · rw [e, if_neg]
    rintro ⟨h1, h2, h3⟩
    obtain ⟨x, hx, hp⟩ := h.hq_ex ht h1 h2 h3
    exact hn x hx hp

/-- What hangs at t of the first k slots. -/
def HA (S : Ss) (k t : Nat) : Ms :=
  ⟨sumF k (fun x => if isTopB S x = true ∧ (S x).up = t then (wh (S x)).c else 0), sumF k (fun x => if isTopB S x = true ∧ (S x).up = t then (wh (S x)).w else 0)⟩
theorem Lc.ha_c (h : Lc S n T G) (k t : Nat) : (HA S k t).c = sumF T.n (fun u => sumF k (hqI S T G t u)) := by
  rw [← sumF_swap T.n (fun x u => hqI S T G t u x) k]
  refine sumF_congr fun x _ => ?_
  by_cases hx : Th T x
  · by_cases hT : Top S x ∧ (S x).up = t
    · rw [if_pos ⟨(isTopB_iff S x).2 hT.1, hT.2⟩]
      show (S x).hu.c + (S x).sm.c = _
      rw [(h.top_whole hx hT.1).1]
      refine sumF_congr fun u _ => ?_
      by_cases q : G.fi x ∈ U T (u + 1)
      · rw [if_pos q, hqI_pos ⟨⟨hx, hT⟩, q⟩]
      · rw [if_neg q, hqI_neg fun r => q r.2]
    · rw [if_neg (by rw [isTopB_iff]; exact hT)]
      refine (sumF_zero fun u _ => ?_).symm
      exact hqI_neg fun q => hT q.1.2
  · have e : (if isTopB S x = true ∧ (S x).up = t then (wh (S x)).c else 0) = 0 := by rw [h.out x hx]; split <;> rfl
    rw [e]
    refine (sumF_zero fun u _ => ?_).symm
    exact hqI_neg fun q => hx q.1.1
theorem Lc.ha_w (h : Lc S n T G) (k t : Nat) : (HA S k t).w = sumF T.n (fun u => sumF k (hqI S T G t u) * T.wt u) := by
  have e : ∀ u, u < T.n → sumF k (hqI S T G t u) * T.wt u = sumF k (fun x => hqI S T G t u x * T.wt u) := fun u _ => by
    rw [Int.mul_comm, ← sumF_mul]
    exact sumF_congr fun x _ => Int.mul_comm _ _
  rw [sumF_congr e, ← sumF_swap T.n (fun x u => hqI S T G t u x * T.wt u) k]
  refine sumF_congr fun x _ => ?_
  by_cases hx : Th T x
  · by_cases hT : Top S x ∧ (S x).up = t
    · rw [if_pos ⟨(isTopB_iff S x).2 hT.1, hT.2⟩]
      show (S x).hu.w + (S x).sm.s = _
      rw [(h.top_whole hx hT.1).2]
      refine sumF_congr fun u _ => ?_
      by_cases q : G.fi x ∈ U T (u + 1)
      · rw [if_pos q, hqI_pos ⟨⟨hx, hT⟩, q⟩, Int.one_mul]
      · rw [if_neg q, hqI_neg fun r => q r.2, Int.zero_mul]
    · rw [if_neg (by rw [isTopB_iff]; exact hT)]
      refine (sumF_zero fun u _ => ?_).symm
      rw [hqI_neg fun q => hT q.1.2, Int.zero_mul]
  · have e : (if isTopB S x = true ∧ (S x).up = t then (wh (S x)).w else 0) = 0 := by rw [h.out x hx]; split <;> rfl
    rw [e]
    refine (sumF_zero fun u _ => ?_).symm
    rw [hqI_neg fun q => hx q.1.1, Int.zero_mul]
theorem Lc.ha_all (h : Lc S n T G) (ht : Th T t) : HA S n t = (S t).hg := by
  have L := h.loc t ht
  have e1 : (HA S n t).c = (S t).hg.c := by
    rw [h.ha_c, L.hgc, Dc_hg h.wf ht L.nx]
    exact sumF_congr fun u _ => h.hq_all ht
  have e2 : (HA S n t).w = (S t).hg.w := by
    rw [h.ha_w, L.hgw, Dw_hg h.wf ht L.nx]
    exact sumF_congr fun u _ => by rw [h.hq_all ht]
  generalize HA S n t = a at *
  generalize (S t).hg = b at *
  cases a; cases b; simp_all
theorem Lc.ha_bd (h : Lc S n T G) (k t : Nat) : 0 ≤ (HA S k t).c ∧ (HA S k t).c ≤ 1048576 ∧ -1152921504606846976 ≤ (HA S k t).w ∧ (HA S k t).w ≤ 1152921504606846976 := by
  have f := h.ft
  have fn := f.n
  have c1 : 0 ≤ (HA S k t).c := by rw [h.ha_c]; exact sumF_nn fun u _ => (h.hq_sum k).1
  have c2 : (HA S k t).c ≤ 1048576 := by
    rw [h.ha_c]
    have := sumF_le (n := T.n) (f := fun u => sumF k (hqI S T G t u)) (g := fun _ => 1) (fun u _ => (h.hq_sum k).2)
    rw [sumF_const] at this
    omega
  refine ⟨c1, c2, ?_⟩
  have b : ∀ u, -1099511627776 ≤ sumF k (hqI S T G t u) * T.wt u ∧ sumF k (hqI S T G t u) * T.wt u ≤ 1099511627776 := fun u => by
    have q := h.hq_sum (t := t) (u := u) k
    have w := f.wt u
    have : sumF k (hqI S T G t u) = 0 ∨ sumF k (hqI S T G t u) = 1 := by omega
    rcases this with e | e <;> rw [e] <;> simp <;> omega
  rw [h.ha_w]
  have b1 := sumF_le (n := T.n) (f := fun _ => (-1099511627776 : Int)) (g := fun u => sumF k (hqI S T G t u) * T.wt u) (fun u _ => (b u).1)
  have b2 := sumF_le (n := T.n) (f := fun u => sumF k (hqI S T G t u) * T.wt u) (g := fun _ => (1099511627776 : Int)) (fun u _ => (b u).2)
  rw [sumF_const] at b1 b2
  omega
theorem HA_zero (S : Ss) (t : Nat) : HA S 0 t = ⟨0, 0⟩ := rfl
theorem HA_step (S : Ss) (k t : Nat) : HA S (k + 1) t = if isTopB S k = true ∧ (S k).up = t then ⟨(HA S k t).c + (wh (S k)).c, (HA S k t).w + (wh (S k)).w⟩ else HA S k t := by
  unfold HA
  simp only [sumF]
  split <;> simp
end
end Go.Proofs.Ytjnkgakajenoaaa
/- The program's forest, with boxes of a call's own beside it; rows of masses. -/

namespace Go.Proofs.Ytjnkgakajenoaaa
open Go.RowKit Go.Arb
set_option linter.unusedVariables false
set_option linter.unusedSimpArgs false

/-- Values laid into a block, from cell k on. -/
def putF (W : World) (b : Nat) : Nat → List Value → World
  | _, [] => W
  | k, v :: r => putF (W.setCell ⟨b, k, none⟩ v) b (k + 1) r
def setAll (c : Array Value) : Nat → List Value → Array Value
  | _, [] => c
  | k, v :: r => setAll (c.setIfInBounds k v) (k + 1) r
theorem putF_heap {b T : Nat} : ∀ (r : List Value) (k : Nat) (W : World) (c : Array Value), W.heap[b]? = some (.cells c T (0, 0)) → (putF W b k r).heap[b]? = some (.cells (setAll c k r) T (0, 0))
  | [], _, _, _, h => h
  | v :: r, k, W, c, h => putF_heap r (k + 1) _ _ (heap_setCell_same W b k _ _ v h)
theorem putF_keep {b : Nat} : ∀ (r : List Value) (k : Nat) (W : World), Keep [b] W (putF W b k r)
  | [], _, W => Keep.refl _ _
  | v :: r, k, W => (keep_cell W b k v).tr (putF_keep r (k + 1) _)

/-- The pool, and boxes of the call's own. -/
structure Fr (w W : World) (p g n cap room : Nat) (S : Ss) (Bs : List (Nat × Obj)) : Prop where
  po : Pool W p g n cap room S
  keep : Keep [g] w W
  bs : ∀ x ∈ Bs, W.heap[x.1]? = some x.2 ∧ w.heap.size ≤ x.1 ∧ x.1 ≠ g ∧ x.1 ≠ p
  nd : (Bs.map Prod.fst).Nodup
section
variable {w W W' : World} {p g n cap room b c T t : Nat} {S : Ss} {Bs Cs : List (Nat × Obj)} {o o' : Obj} {x y : Nat × Obj} {cs : Array Value}
theorem Fr.start (h : Pool w p g n cap room S) : Fr w w p g n cap room S [] := ⟨h, Keep.refl _ _, by simp, by simp⟩
theorem Fr.call (h : Fr w W p g n cap room S Bs) (hk : Keep [g] W W') (hp : Pool W' p g n cap room S) : Fr w W' p g n cap room S Bs :=
  ⟨hp, h.keep.tr hk, fun x hx => by
    obtain ⟨h1, h2, h3, h4⟩ := h.bs x hx
    exact ⟨by rw [hk.block x.1 (blk_lt h1) (by simpa using h3)]; exact h1, h2, h3, h4⟩, h.nd⟩
theorem Fr.below (h : Fr w W p g n cap room S Bs) (hb : Below W.heap.size W W') : Fr w W' p g n cap room S Bs := h.call (Keep.ofBelow hb _) (h.po.below hb)
theorem Fr.drew (h : Fr w W p g n cap room S Bs) : Fr w W.drew p g n cap room S Bs := h.below (Below.refl _ _).drew
theorem Fr.alloc (h : Fr w W p g n cap room S Bs) (o : Obj) : Fr w (W.alloc o) p g n cap room S ((W.heap.size, o) :: Bs) := by
  have hb := (Below.refl W.heap.size W).alloc (Nat.le_refl _) o
  have k := h.below hb
  have l := h.po.lt
  refine ⟨k.po, k.keep, fun x hx => ?_, ?_⟩
  · rcases List.mem_cons.1 hx with rfl | hx
    · exact ⟨heap_alloc_new W o, h.keep.size, by simp; omega, by simp; omega⟩
    · exact k.bs x hx
  · rw [List.map_cons, List.nodup_cons]
    refine ⟨fun hm => ?_, h.nd⟩
    obtain ⟨y, hy, e⟩ := List.mem_map.1 hm
    have := blk_lt (h.bs y hy).1
    simp only at e
    omega
theorem Fr.sub (h : Fr w W p g n cap room S Bs) (hs : ∀ x ∈ Cs, x ∈ Bs) (hn : (Cs.map Prod.fst).Nodup) : Fr w W p g n cap room S Cs := ⟨h.po, h.keep, fun x hx => h.bs x (hs x hx), hn⟩
theorem Fr.perm (h : Fr w W p g n cap room S Bs) (hp : Bs.Perm Cs) : Fr w W p g n cap room S Cs := h.sub (fun x hx => hp.symm.subset hx) ((hp.map _).nodup_iff.1 h.nd)
theorem Fr.tail (h : Fr w W p g n cap room S (x :: Bs)) : Fr w W p g n cap room S Bs := h.sub (fun y hy => by simp [hy]) (by have := h.nd; rw [List.map_cons, List.nodup_cons] at this; exact this.2)
theorem Fr.put (h : Fr w W p g n cap room S ((b, o) :: Bs)) (hk : Keep [b] W W') (ho : W'.heap[b]? = some o') : Fr w W' p g n cap room S ((b, o') :: Bs) := by
  obtain ⟨h1, h2, h3, h4⟩ := h.bs (b, o) (by simp)
  have nd := h.nd
  rw [List.map_cons, List.nodup_cons] at nd
  refine ⟨h.po.keep hk (by simpa using Ne.symm h4) (by simpa using Ne.symm h3), h.keep.trans hk (fun i hi => by simp at hi; subst hi; exact .inr h2), fun x hx => ?_, by rw [List.map_cons, List.nodup_cons]; exact nd⟩
  rcases List.mem_cons.1 hx with rfl | hx
  · exact ⟨ho, h2, h3, h4⟩
  · obtain ⟨k1, k2, k3, k4⟩ := h.bs x (by simp [hx])
    refine ⟨?_, k2, k3, k4⟩
    rw [hk.block x.1 (blk_lt k1) (fun hm => nd.1 (by simp only [List.mem_singleton] at hm; have hq := List.mem_map_of_mem (f := Prod.fst) hx; rw [hm] at hq; exact hq))]
    exact k1
theorem Fr.putF (h : Fr w W p g n cap room S ((b, .cells cs T (0, 0)) :: Bs)) (k : Nat) (r : List Value) : Fr w (Go.Proofs.Ytjnkgakajenoaaa.putF W b k r) p g n cap room S ((b, .cells (setAll cs k r) T (0, 0)) :: Bs) :=
  h.put (putF_keep r k W) (putF_heap r k W cs (h.bs (b, .cells cs T (0, 0)) (by simp)).1)
/-- A box's cells. -/
theorem Fr.box (h : Fr w W p g n cap room S Bs) (hm : (b, Obj.cells cs T (0, 0)) ∈ Bs) (k : Nat) : W.cell? ⟨b, k, none⟩ = cs[k]? ∧ (k < cs.size → W.frozen? ⟨b, k, none⟩ = false) := by
  have := (h.bs _ hm).1
  exact ⟨by simp [World.cell?, this], fun _ => by simp [World.frozen?, this]⟩
end

/-- Masses in a row. -/
def msL (x : Ms) : List Value := [.int .i64 x.c, .int .i64 x.w]
theorem msL_len (x : Ms) : (msL x).length = 2 := rfl
def hs (h : Nat → Ms) (n : Nat) : List Ms := (List.range n).map h
theorem hs_len (h : Nat → Ms) (n : Nat) : (hs h n).length = n := by simp [hs]
theorem hs_get (h : Nat → Ms) {n t : Nat} (ht : t < n) : (hs h n)[t]? = some (h t) := by simp [hs, ht]
theorem hs_set (h : Nat → Ms) (n t : Nat) (x : Ms) : (hs h n).set t x = hs (fun j => if j = t then x else h j) n := by
  apply List.ext_getElem (by simp [hs])
  intro i h1 h2
  simp only [hs, List.length_map, List.length_range, List.length_set] at h1
  by_cases e : i = t
  · subst e; simp [hs]
  · have e' : ¬ t = i := fun c => e c.symm
    simp [hs, e, e', List.getElem_set]
def hsA (h : Nat → Ms) (n : Nat) : Array Value := (flat msL (hs h n)).toArray
theorem hsA_size (h : Nat → Ms) (n : Nat) : (hsA h n).size = n * 2 := by simp [hsA, flat_length msL_len, hs_len]
theorem hsA_get (h : Nat → Ms) {n t : Nat} (ht : t < n) : (hsA h n)[t * 2]? = some (.int .i64 (h t).c) ∧ (hsA h n)[t * 2 + 1]? = some (.int .i64 (h t).w) := by
  have e := List.getElem?_eq_getElem (l := hs h n) (i := t) (by simpa [hs_len] using ht)
  have e2 := hs_get h ht
  rw [e] at e2
  simp only [Option.some.injEq] at e2
  have k := fun k hk => flat_get msL_len (hs h n) t k hk
  refine ⟨?_, ?_⟩
  · have := k 0 (by omega)
    rw [hsA, List.getElem?_toArray]
    rw [Nat.add_zero] at this
    rw [this, e, e2]; rfl
  · have := k 1 (by omega)
    rw [hsA, List.getElem?_toArray, this, e, e2]; rfl
theorem hsA_put (h : Nat → Ms) {n t : Nat} (ht : t < n) (x : Ms) : setAll (hsA h n) (t * 2) (msL x) = hsA (fun j => if j = t then x else h j) n := by
  have q := hs_set h n t x
  have hl := hs_len h n
  have e1 := flat_set msL_len (hs h n) t 0 (by omega) (by omega) ⟨x.c, (h t).w⟩ (.int .i64 x.c) (by rw [show (hs h n)[t]'(by omega) = h t from by simp [hs]]; rfl)
  have e2 := flat_set msL_len ((hs h n).set t ⟨x.c, (h t).w⟩) t 1 (by simp; omega) (by omega) x (.int .i64 x.w) (by simp [msL])
  rw [List.set_set] at e2
  unfold hsA
  rw [← q]
  simp only [msL, setAll, List.setIfInBounds_toArray]
  rw [Nat.add_zero] at e1
  rw [e2, e1]
end Go.Proofs.Ytjnkgakajenoaaa
/- The program's forest: what Check asks of a slot's neighbours, and of the list. -/

namespace Go.Proofs.Ytjnkgakajenoaaa
open Go.RowKit Go.Arb
set_option linter.unusedVariables false
set_option linter.unusedSimpArgs false
set_option maxRecDepth 100000

section
variable {p g n cap room : Nat} {T : Tr} {S : Ss} {G : Gh} {w : World} {t u : Nat}
set_option maxHeartbeats 4000000 in
theorem isUpL (h : Pool w p g n cap room S) (L : Lc S n T G) (ht : t ≠ 0 → Th T t) :
    Calls Try.prog 90 #[.pointer (some ⟨p, 0, none⟩), .int .i64 (t : Int)] w fun e w' => e = .returned (.bool true) ∧ Keep [g] w w' ∧ Pool w' p g n cap room S := by
  by_cases e : t = 0
  · subst e
    go_enter Try.func90, Try.ntmps90
    go_wp2
    go_ret
    exact ⟨rfl, Keep.refl _ _, h⟩
  · have e1 : ¬ (t : Int) = 0 := by omega
    have e2 : ((t : Int) == 0) = false := by simp; omega
    have lt := L.lt t (ht e)
    have w1 : IntKind.i64.wrap ((t : Int) - 1) = ((t - 1 : Nat) : Int) := by have := L.nn; have := L.ft.n; rw [IntWalk.i64_in _ (by omega)]; omega
    go_enter Try.func90, Try.ntmps90
    go_wp2_with fail
    refine (findY h L (ht e) (i := t - 1) (by omega)).mono ?_
    rintro e w' ⟨rfl, q1, q2⟩
    go_wp2
    go_ret
    exact ⟨rfl, q1, q2⟩
set_option maxHeartbeats 4000000 in
theorem isBesideL (h : Pool w p g n cap room S) (L : Lc S n T G) (ht : t ≠ 0 → Th T t ∧ (S t).up = u) :
    Calls Try.prog 91 #[.pointer (some ⟨p, 0, none⟩), .int .i64 (t : Int), .int .i64 (u : Int)] w fun e w' => e = .returned (.bool true) ∧ Keep [g] w w' ∧ Pool w' p g n cap room S := by
  by_cases e : t = 0
  · subst e
    go_enter Try.func91, Try.ntmps91
    go_wp2
    go_ret
    exact ⟨rfl, Keep.refl _ _, h⟩
  · have e1 : ¬ (t : Int) = 0 := by omega
    have e2 : ((t : Int) == 0) = false := by simp; omega
    obtain ⟨hth, hup⟩ := ht e
    have lt := L.lt t hth
    have e3 : (0 : Int) ≤ (t : Int) := by omega
    have e4 : (t : Int) < (n : Int) := by omega
    have w1 : IntKind.i64.wrap ((t : Int) - 1) = ((t - 1 : Nat) : Int) := by have := L.nn; have := L.ft.n; rw [IntWalk.i64_in _ (by omega)]; omega
    go_enter Try.func91, Try.ntmps91
    go_wp2_with fail
    refine (findY h L hth (i := t - 1) (by omega)).mono ?_
    rintro e w' ⟨rfl, q1, q2⟩
    obtain ⟨_, c1, _⟩ := q2.head
    obtain ⟨s0, _⟩ := q2.slot lt
    rw [hup] at s0
    clear hup hth ht
    go_wp2
    go_ret
    exact ⟨rfl, q1, q2⟩
set_option maxHeartbeats 4000000 in
theorem listFitsR (hr : room = T.n) (h : Pool w p g n cap room S) (L : Lc S n T G) :
    Calls Try.prog 76 #[.pointer (some ⟨p, 0, none⟩)] w fun e w' => e = .returned (.bool true) ∧ Keep [g] w w' ∧ Pool w' p g n cap room S := by
  have n0 := L.n0
  have nnn := L.nn
  have hTn := L.ft.n
  have e1 : (1 : Int) ≤ (n : Int) := by omega
  have e2 : (n : Int) - 1 ≤ (room : Int) := by omega
  have e3 : (room : Int) ≤ 1048576 := by omega
  have e4 : IntKind.i64.wrap ((n : Int) - 1) = (n : Int) - 1 := IntWalk.i64_in _ (by omega)
  have e5 : (0 : Int) < (n : Int) := by omega
  obtain ⟨c0, c1, _⟩ := h.head
  obtain ⟨s0, s1, s2, s3, s4, s5, s6, s7, s8, s9, s10, s11, s12, s13⟩ := h.slot (t := 0) n0
  rw [L.s0] at s0 s1 s2 s3 s4 s5 s6 s7 s8 s9 s10 s11 s12 s13
  simp only [Sl.zero, zero, Nat.zero_mul, Nat.zero_add] at s0 s1 s2 s3 s4 s5 s6 s7 s8 s9 s10 s11 s12 s13
  have H := hide h
  clear h L n0 nnn hTn hr
  go_enter Try.func76, Try.ntmps76
  go_wp2
  go_quiet (fail)
  go_wp2
  go_ret
  exact ⟨rfl, Keep.ofBelow (below_drewN (Below.refl _ _) _) _, (unhide H).below (below_drewN (Below.refl _ _) _)⟩
end
end Go.Proofs.Ytjnkgakajenoaaa
/- The program's forest: what Check asks of all slots' links. -/

namespace Go.Proofs.Ytjnkgakajenoaaa
open Go.RowKit Go.Arb
set_option linter.unusedVariables false
set_option linter.unusedSimpArgs false
set_option maxRecDepth 100000

def slZ : Array Value := #[.int .i64 0, .int .i64 0, .int .i64 0, .bool false, .int .i64 0, .int .i64 0, .int .i64 0, .int .i64 0, .int .i64 0, .int .i64 0, .int .i64 0, .int .i64 0, .int .i64 0, .int .i64 0]
def slC (s : Sl) : Array Value := (slV s).toArray
theorem setAll_slZ (s : Sl) : setAll slZ 0 (slV s) = slC s := by simp [setAll, slC, slV, slZ]
def smZ : Array Value := #[.int .i64 0, .int .i64 0, .int .i64 0, .int .i64 0]
def smL (x : Sm) : List Value := [.int .i64 x.c, .int .i64 x.s, .int .i64 x.a, .int .i64 x.b]
def smC (x : Sm) : Array Value := (smL x).toArray
theorem setAll_smZ (s : Sm) : setAll smZ 0 (smL s) = smC s := by simp [setAll, smC, smL, smZ]
theorem thenN {P : Program} {Q : Exit → Act → World → Prop} {a : Act} {w : World} {x : Code} (h : x.wp P Q a w) : Exit.then (fun a w => x.wp P Q a w) Q .normal a w := h

section
variable {p g n cap room : Nat} {T : Tr} {S : Ss} {G : Gh} {w : World} {t u : Nat}
theorem Lc.up_th (L : Lc S n T G) (ht : Th T t) : (S t).up ≠ 0 → Th T (S t).up := fun e => by
  by_cases hT : Top S t
  · have P := (L.loc t ht).tp hT
    have f := L.fi_th ht
    rw [← P.fi] at e ⊢
    exact ps_th L.wf f e
  · exact (L.nt_up ht hT).1
theorem Lc.kid_l (L : Lc S n T G) (ht : Th T t) : (S t).l ≠ 0 → Th T (S t).l ∧ (S (S t).l).up = t := fun e => ⟨((L.loc t ht).kl e).th, ((L.loc t ht).kl e).up⟩
theorem Lc.kid_r (L : Lc S n T G) (ht : Th T t) : (S t).r ≠ 0 → Th T (S t).r ∧ (S (S t).r).up = t := fun e => ⟨((L.loc t ht).kr e).th, ((L.loc t ht).kr e).up⟩
theorem Fr.sl {W : World} {B : Nat} {Bs : List (Nat × Obj)} {s : Sl} (h : Fr w W p g n cap room S ((B, .cells (slC s) 75 (0, 0)) :: Bs)) :
    W.cell? ⟨B, 1, none⟩ = some (.int .i64 (s.l : Int)) ∧ W.cell? ⟨B, 2, none⟩ = some (.int .i64 (s.r : Int)) := ⟨(h.box (List.Mem.head _) 1).1, (h.box (List.Mem.head _) 2).1⟩
set_option maxHeartbeats 4000000 in
theorem linksFitL (h : Pool w p g n cap room S) (L : Lc S n T G) :
    Calls Try.prog 77 #[.pointer (some ⟨p, 0, none⟩)] w fun e w' => e = .returned (.bool true) ∧ Keep [g] w w' ∧ Pool w' p g n cap room S := by
  obtain ⟨_, c1, _, _, k1, k2⟩ := h.head
  have HP := hide (Fr.start h)
  have hn : (n : Int) ≤ 1048577 := by have := L.nn; have := L.ft.n; omega
  have LH := hide L
  clear h L
  go_enter Try.func77, Try.ntmps77
  go_wp2
  go_loopg [10] n (fun gk a w' => ∃ t : Nat, t + gk = n ∧ a = .int .i64 (t : Int) ∧ Hid (Fr w w' p g n cap room S []))
  case atStart => exact ⟨0, by omega, rfl, unhide HP⟩
  case round =>
    obtain ⟨t, ht, rfl, HK⟩ := hrel
    by_cases htn : t < n
    · have i1 : (0 : Int) ≤ (t : Int) := by omega
      have i2 : (t : Int) < (n : Int) := by omega
      obtain ⟨v0, v1, v2, v3, v4, v5, v6, v7, v8, v9, v10, v11, v12, v13⟩ := (unhide HK).po.slot htn
      have G0 := hide ((unhide HK).alloc (.cells (slC (S t)) 75 (0, 0)))
      by_cases hth : Th T t
      · have hc := (unhide LH).th_c.1 hth
        have hc2 : ((S t).sm.c == 0) = false := by rw [beq_eq_false_iff_ne]; exact hc
        have hlr : ((S t).l = 0 ∧ (S t).r = 0) ∨ (((S t).l : Int) == ((S t).r : Int)) = false := by
          by_cases e : (S t).l = (S t).r
          · have := ((unhide LH).loc t hth).lr e; exact .inl ⟨this, by omega⟩
          · exact .inr (by rw [beq_eq_false_iff_ne]; omega)
        have HT := hide hth
        have HL := hide hlr
        clear hth hlr
        go_wp2_with fail
        refine (isUpL (unhide G0).po (unhide LH) ((unhide LH).up_th (unhide HT))).mono ?_
        rintro e w1 ⟨rfl, q1, q2⟩
        have F1 := hide ((unhide G0).call q1 q2)
        obtain ⟨b1, b2⟩ := (unhide F1).sl
        clear q1 q2 G0
        go_wp2_with fail
        refine (isBesideL (unhide F1).po (unhide LH) ((unhide LH).kid_l (unhide HT))).mono ?_
        rintro e w2 ⟨rfl, q1, q2⟩
        have F2 := hide ((unhide F1).call q1 q2)
        clear b1 b2 q1 q2 F1
        obtain ⟨b1, b2⟩ := (unhide F2).sl
        go_wp2_with fail
        refine (isBesideL (unhide F2).po (unhide LH) ((unhide LH).kid_r (unhide HT))).mono ?_
        rintro e w3 ⟨rfl, q1, q2⟩
        have F3 := hide ((unhide F2).call q1 q2)
        clear b1 b2 q1 q2 F2
        obtain ⟨b1, b2⟩ := (unhide F3).sl
        rcases unhide HL with ⟨z1, z2⟩ | hne
        · rw [z1] at b1
          rw [z2] at b2
          clear z1 z2 HL
          go_wp2
          go_roundg (gk - 1)
          case rel => exact ⟨t + 1, by omega, by go_num, (unhide F3).tail⟩
          all_goals omega
        · clear HL
          go_wp2
          go_roundg (gk - 1)
          case rel => exact ⟨t + 1, by omega, by go_num, (unhide F3).tail⟩
          all_goals omega
      · have hz := (unhide LH).out t hth
        rw [hz] at v0 v1 v2 v3 v4 v5 v6 v7 v8 v9 v10 v11 v12 v13 G0
        simp only [Sl.zero, zero] at v0 v1 v2 v3 v4 v5 v6 v7 v8 v9 v10 v11 v12 v13
        clear hz hth
        go_wp2
        go_roundg (gk - 1)
        case rel => exact ⟨t + 1, by omega, by go_num, (unhide G0).tail⟩
        all_goals omega
    · have hnt : t = n := by omega
      subst hnt
      have R := hide (unhide HK)
      clear HK ht
      go_wp2
      go_ret
      exact ⟨rfl, (unhide R).keep, (unhide R).po⟩
end
end Go.Proofs.Ytjnkgakajenoaaa
/- The program's forest: what hangs at each slot, added up. -/

namespace Go.Proofs.Ytjnkgakajenoaaa
open Go.RowKit Go.Arb
set_option linter.unusedVariables false
set_option linter.unusedSimpArgs false
set_option maxRecDepth 100000

section
variable {S : Ss} {n : Nat} {T : Tr} {G : Gh} {t : Nat}
theorem HA_top (hT : isTopB S t = true) : HA S (t + 1) = fun j => if j = (S t).up then ⟨(HA S t (S t).up).c + ((S t).hu.c + (S t).sm.c), (HA S t (S t).up).w + ((S t).hu.w + (S t).sm.s)⟩ else HA S t j := by
  funext j
  rw [HA_step]
  by_cases e : j = (S t).up
  · subst e; rw [if_pos ⟨hT, rfl⟩, if_pos rfl]; rfl
  · rw [if_neg (fun h => e h.2.symm), if_neg e]
theorem HA_not (hT : isTopB S t = false) : HA S (t + 1) = HA S t := by
  funext j
  rw [HA_step, if_neg]
  rw [hT]; simp
theorem Lc.wh_bd (h : Lc S n T G) (hT : isTopB S t = true) : (-4611686018427387904 ≤ (S t).hu.c + (S t).sm.c ∧ (S t).hu.c + (S t).sm.c ≤ 4611686018427387904) ∧ (-4611686018427387904 ≤ (S t).hu.w + (S t).sm.s ∧ (S t).hu.w + (S t).sm.s ≤ 4611686018427387904) := by
  by_cases ht : Th T t
  · have q := h.top_whole ht ((isTopB_iff S t).1 hT)
    have q1 := Dc_bd T (G.fi t)
    have q2 := Dw_abs h.ft (G.fi t)
    have q3 := h.ft.n
    omega
  · rw [h.out t ht]
    exact ⟨by decide, by decide⟩
theorem Lc.ups_lt (h : Lc S n T G) (t : Nat) : (S t).up < n := by
  by_cases ht : Th T t
  · exact h.up_lt ht
  · rw [h.out t ht]; exact h.n0
end
theorem isTopK {p g n cap room t : Nat} {S : Ss} {w : World} (h : Pool w p g n cap room S) (ht : t < n) (hu : (S t).up < n) :
    Calls Try.prog 87 #[.pointer (some ⟨p, 0, none⟩), .int .i64 (t : Int)] w fun e w' => e = .returned (.bool (isTopB S t)) ∧ Keep [g] w w' ∧ Pool w' p g n cap room S := by
  refine (isTop_any h ht hu).mono ?_
  rintro e w' ⟨rfl, q1, q2⟩
  exact ⟨rfl, q2.mono (fun k hk => by simp at hk), q1⟩
theorem Fr.head1 {w W : World} {p g n cap room : Nat} {S : Ss} {Bs : List (Nat × Obj)} {x : Nat × Obj} (h : Fr w W p g n cap room S (x :: Bs)) : Fr w W p g n cap room S [x] := h.sub (fun y hy => by simp at hy; simp [hy]) (by simp)
theorem info73 : (Try.prog.info? 73).map (fun i => (i.zero, i.size, i.bytes)) = some (some (.agg #[.int .i64 0, .int .i64 0]), 2, 16) := by kernel_rfl
theorem make_ms (n : Nat) (hn : n ≤ 1048577) (w : World) :
    (Instr.makeSlice 87 (.int .i64 (n : Int)) (.int .i64 (n : Int))).run Try.prog w = .ok (.slice (some ⟨w.heap.size, 0, none⟩) n n) (w.alloc (.cells (madeCells #[.int .i64 0, .int .i64 0] (n * 2)) 73)) := by
  obtain ⟨i, hi, hzz⟩ := Option.map_eq_some_iff.1 info73
  simp only [Prod.mk.injEq] at hzz
  obtain ⟨hz, hs, hb⟩ := hzz
  have hr := run_make (P := Try.prog) w 87 73 i _ Try.underlying87 hi hz .i64 .i64 n n (by omega) (Int.le_refl _) (by rw [hb]; omega) (by omega)
  rw [hs] at hr
  exact hr
theorem made_hs (n : Nat) : madeCells #[.int .i64 0, .int .i64 0] (n * 2) = hsA (fun _ => ⟨0, 0⟩) n := by
  apply Array.ext (by rw [size_madeCells, hsA_size])
  intro i h1 h2
  rw [size_madeCells] at h1
  have e1 : (madeCells #[.int .i64 0, .int .i64 0] (n * 2))[i]? = some (.int .i64 0) := by
    have : i % 2 = 0 ∨ i % 2 = 1 := by omega
    rcases this with e | e <;> simp [madeCells, h1, e]
  have e2 : (hsA (fun _ => ⟨0, 0⟩) n)[i]? = some (.int .i64 0) := by
    have q := hsA_get (fun _ => (⟨0, 0⟩ : Ms)) (n := n) (t := i / 2) (by omega)
    have : i % 2 = 0 ∨ i % 2 = 1 := by omega
    rcases this with e | e
    · rw [show i = i / 2 * 2 from by omega]; exact q.1
    · rw [show i = i / 2 * 2 + 1 from by omega]; exact q.2
  rw [Array.getElem?_eq_getElem (by rw [size_madeCells]; exact h1)] at e1
  rw [Array.getElem?_eq_getElem h2] at e2
  exact (Option.some.inj e1).trans (Option.some.inj e2).symm
def O92_6_0 : Oper := ⟨some 25, .move (.tmp 3), 87, "check.go:61", #[], none⟩
def O92_6_1 : Oper := ⟨some 26, .fieldAddr 75 (.tmp 5) 0, 0, "check.go:61", #[], none⟩
def O92_6_2 : Oper := ⟨some 27, .load 3 (.tmp 26), 3, "check.go:61", #[⟨1, .data⟩], none⟩
def O92_6_3 : Oper := ⟨some 28, .move (.tmp 3), 87, "check.go:61", #[], none⟩
def O92_6_4 : Oper := ⟨some 29, .fieldAddr 75 (.tmp 5) 0, 0, "check.go:61", #[], none⟩
def O92_6_5 : Oper := ⟨some 30, .load 3 (.tmp 29), 3, "check.go:61", #[⟨4, .data⟩], none⟩
def O92_6_6 : Oper := ⟨some 31, .indexAddr 87 (.tmp 28) (.tmp 30), 0, "check.go:61", #[⟨3, .data⟩, ⟨5, .data⟩], none⟩
def O92_6_7 : Oper := ⟨some 32, .load 73 (.tmp 31), 73, "check.go:61", #[⟨6, .data⟩], none⟩
def O92_6_8 : Oper := ⟨some 33, .load 75 (.tmp 5), 75, "check.go:61", #[], none⟩
def O92_6_9 : Oper := ⟨some 34, .call { callee := (.value (.func 75)), args := #[(.tmp 33)], argTypes := #[75] }, 73, "check.go:61", #[⟨8, .data⟩], none⟩
def O92_6_10 : Oper := ⟨some 35, .call { callee := (.value (.func 80)), args := #[(.tmp 32), (.tmp 34)], argTypes := #[73, 73] }, 73, "check.go:61", #[⟨7, .data⟩, ⟨9, .data⟩, ⟨9, .chain⟩], none⟩
def O92_6_11 : Oper := ⟨some 36, .indexAddr 87 (.tmp 25) (.tmp 27), 0, "check.go:61", #[⟨0, .data⟩, ⟨2, .data⟩, ⟨0, .phase⟩, ⟨1, .phase⟩, ⟨2, .phase⟩, ⟨3, .phase⟩, ⟨4, .phase⟩, ⟨5, .phase⟩, ⟨6, .phase⟩, ⟨7, .phase⟩, ⟨8, .phase⟩, ⟨9, .phase⟩, ⟨10, .phase⟩], none⟩
def O92_6_12 : Oper := ⟨none, .store 73 (.tmp 36) (.tmp 35), 0, "check.go:61", #[⟨11, .data⟩, ⟨10, .data⟩, ⟨10, .chain⟩, ⟨0, .phase⟩, ⟨1, .phase⟩, ⟨2, .phase⟩, ⟨3, .phase⟩, ⟨4, .phase⟩, ⟨5, .phase⟩, ⟨6, .phase⟩, ⟨7, .phase⟩, ⟨8, .phase⟩, ⟨9, .phase⟩, ⟨10, .phase⟩], none⟩
def OPS92_6 : List Oper := [O92_6_0, O92_6_1, O92_6_2, O92_6_3, O92_6_4, O92_6_5, O92_6_6, O92_6_7, O92_6_8, O92_6_9, O92_6_10, O92_6_11, O92_6_12]
theorem NS92_6 : Region.noSelect OPS92_6.toArray = true := by kernel_rfl
set_option maxHeartbeats 4000000 in
theorem round92 {p g n cap room t hb : Nat} {T : Tr} {S : Ss} {G : Gh} {Q : Exit → Act → World → Prop} {a0 : Act} {w w1 : World} (K0 : Kn a0 39 [(0, .pointer (some ⟨p, 0, none⟩)), (3, .slice (some ⟨hb, 0, none⟩) n n), (15, .slice (some ⟨g, 0, none⟩) n cap), (16, .int .i64 (n : Int)), (17, .int .i64 (t : Int))]) (F0 : Fr w w1 p g n cap room S [(hb, .cells (hsA (HA S t) n) 73 (0, 0))]) (L : Lc S n T G) (htn : t ≤ n)
    (hN : ∀ a' W, t < n → Kn a' 39 [(0, .pointer (some ⟨p, 0, none⟩)), (3, .slice (some ⟨hb, 0, none⟩) n n), (15, .slice (some ⟨g, 0, none⟩) n cap), (16, .int .i64 (n : Int)), (17, .int .i64 ((t + 1 : Nat) : Int))] → Fr w W p g n cap room S [(hb, .cells (hsA (HA S (t + 1)) n) 73 (0, 0))] → Q .normal a' W)
    (hX : ∀ a' W, t = n → Kn a' 39 [(0, .pointer (some ⟨p, 0, none⟩)), (3, .slice (some ⟨hb, 0, none⟩) n n), (15, .slice (some ⟨g, 0, none⟩) n cap), (16, .int .i64 (n : Int)), (17, .int .i64 (t : Int))] → Fr w W p g n cap room S [(hb, .cells (hsA (HA S t) n) 73 (0, 0))] → Q (.exit 0) a' W) : (Code.seq (Code.region 3 (rg [1, 1, 0, 1, 0, 0, 0] Try.f92).toArray false) (Code.seq (Code.cond (Operand.tmp 18) Code.skip (Code.exit 0)) (Code.seq (Code.block 1 (Code.seq (Code.region 4 (rg [1, 1, 0, 1, 0, 0, 1, 1, 0, 0, 0] Try.f92).toArray false) (Code.seq (Code.region 5 (rg [1, 1, 0, 1, 0, 0, 1, 1, 0, 0, 1, 0] Try.f92).toArray false) (Code.cond (Operand.tmp 24) (Code.region 6 OPS92_6.toArray true) Code.skip)))) (Code.region 7 (rg [1, 1, 0, 1, 0, 0, 1, 1, 1] Try.f92).toArray false)))).wp Try.prog Q a0 w1 := by
  have FH := hide F0
  have HN := hide hN
  have HX := hide hX
  have LH := hide L
  have nnn := L.nn
  have hTn := L.ft.n
  have wr : IntKind.i64.wrap ((t : Int) + 1) = ((t + 1 : Nat) : Int) := by rw [IntWalk.i64_in _ (by omega)]; omega
  have WR := hide wr
  clear hN hX L F0 wr nnn hTn
  by_cases n0 : n ≤ t
  · have i0 : ¬ (t : Int) < (n : Int) := by omega
    have i1 : t = n := by omega
    have I1 := hide i1
    clear i1
    refine seqR ?_
    refine ltake (v := .bool false) (w' := w1) K0 rfl rfl (want_none rfl) (fun ev E => ?_) (fun a1 K1 => ?_)
    · have E16 := E.tmp 16 _ rfl; have E17 := E.tmp 17 _ rfl; clear E; clear FH HN HX LH WR I1; (try simp only [slZ, smZ, putF, slV, smL, msL] at *); go_simp
    refine nilN ?_
    refine wp_seq ?_
    refine knCond (b := false) K1 rfl ?_
    refine wp_exit ?_
    exact unhide HX _ _ (unhide I1) (K1.less ⟨rfl, rfl, rfl, rfl, rfl, trivial⟩) (unhide FH)
  have i0 : (t : Int) < (n : Int) := by omega
  have lt1 : t < n := by omega
  have e1 : (0 : Int) ≤ (t : Int) := by omega
  have ul := (unhide LH).ups_lt t
  have e3 : (0 : Int) ≤ ((S t).up : Int) := by omega
  have e4 : ((S t).up : Int) < (n : Int) := by omega
  cases hT : isTopB S t
  · have HT := hide hT
    clear hT
    refine seqR ?_
    refine ltake (v := .bool true) (w' := w1) K0 rfl rfl (want_none rfl) (fun ev E => ?_) (fun a1 K1 => ?_)
    · have E16 := E.tmp 16 _ rfl; have E17 := E.tmp 17 _ rfl; clear E; clear FH HN HX LH WR HT; (try simp only [slZ, smZ, putF, slV, smL, msL] at *); go_simp
    refine nilN ?_
    refine seqN ?_
    refine knCond (b := true) K1 rfl (wp_skip ?_)
    show Code.wp _ _ _ _ _
    refine seqN ?_
    refine blockN ?_
    refine seqR ?_
    refine lmv K1 rfl rfl (want_none rfl) rfl rfl (fun a2 K2 => ?_)
    clear K1
    refine ltake (v := .pointer (some ⟨g, t * 14, none⟩)) (w' := w1) K2 rfl rfl (want_none rfl) (fun ev E => ?_) (fun a3 K3 => ?_)
    · have E15 := E.tmp 15 _ rfl; have E17 := E.tmp 17 _ rfl; clear E; clear FH HN HX LH WR HT; (try simp only [slZ, smZ, putF, slV, smL, msL] at *); go_simp
    clear K2
    refine ltake (v := .agg #[.int .i64 ((S t).up : Int), .int .i64 ((S t).l : Int), .int .i64 ((S t).r : Int), .bool (S t).tn, .int .i64 (S t).wt, .int .i64 (S t).wa, .int .i64 (S t).sm.c, .int .i64 (S t).sm.s, .int .i64 (S t).sm.a, .int .i64 (S t).sm.b, .int .i64 (S t).hg.c, .int .i64 (S t).hg.w, .int .i64 (S t).hu.c, .int .i64 (S t).hu.w]) (w' := w1) K3 rfl rfl (want_none rfl) (fun ev E => ?_) (fun a4 K4 => ?_)
    · obtain ⟨s0, s1, s2, s3, s4, s5, s6, s7, s8, s9, s10, s11, s12, s13⟩ := (unhide FH).po.slot (t := t) (by assumption); have E20 := E.tmp 20 _ rfl; clear E; clear FH HN HX LH WR HT; (try simp only [slZ, smZ, putF, slV, smL, msL] at *); go_simp
    clear K3
    refine ltake (v := .pointer (some ⟨w1.heap.size, 0, none⟩)) (w' := (w1.alloc (.cells slZ 75))) K4 rfl rfl (want_none rfl) (fun ev E => ?_) (fun a5 K5 => ?_)
    · clear E; clear FH HN HX LH WR HT; (try simp only [slZ, smZ, putF, slV, smL, msL] at *); go_simp
    clear K4
    have F2 := hide ((unhide FH).alloc (.cells slZ 75))
    clear FH
    have FH := F2
    clear F2
    generalize (w1.alloc (.cells slZ 75)) = Ab5 at *
    obtain ⟨b5, hd⟩ : ∃ z, z = w1.heap.size := ⟨_, rfl⟩
    rw [← hd] at FH K5
    clear hd
    refine las K5 rfl rfl (want_none rfl) rfl rfl (fun a6 K6 => ?_)
    clear K5
    refine lstore (w' := (putF Ab5 b5 0 (slV (S t)))) K6 rfl (want_none rfl) (fun ev E => ?_) ?_
    · have q0 := (unhide FH).box (List.Mem.head _) 0; have f0 := q0.2 (by decide); replace q0 := q0.1; change _ = some (.int .i64 0 : Value) at q0; have q1 := (unhide FH).box (List.Mem.head _) 1; have f1 := q1.2 (by decide); replace q1 := q1.1; change _ = some (.int .i64 0 : Value) at q1; have q2 := (unhide FH).box (List.Mem.head _) 2; have f2 := q2.2 (by decide); replace q2 := q2.1; change _ = some (.int .i64 0 : Value) at q2; have q3 := (unhide FH).box (List.Mem.head _) 3; have f3 := q3.2 (by decide); replace q3 := q3.1; change _ = some (.bool false : Value) at q3; have q4 := (unhide FH).box (List.Mem.head _) 4; have f4 := q4.2 (by decide); replace q4 := q4.1; change _ = some (.int .i64 0 : Value) at q4; have q5 := (unhide FH).box (List.Mem.head _) 5; have f5 := q5.2 (by decide); replace q5 := q5.1; change _ = some (.int .i64 0 : Value) at q5; have q6 := (unhide FH).box (List.Mem.head _) 6; have f6 := q6.2 (by decide); replace q6 := q6.1; change _ = some (.int .i64 0 : Value) at q6; have q7 := (unhide FH).box (List.Mem.head _) 7; have f7 := q7.2 (by decide); replace q7 := q7.1; change _ = some (.int .i64 0 : Value) at q7; have q8 := (unhide FH).box (List.Mem.head _) 8; have f8 := q8.2 (by decide); replace q8 := q8.1; change _ = some (.int .i64 0 : Value) at q8; have q9 := (unhide FH).box (List.Mem.head _) 9; have f9 := q9.2 (by decide); replace q9 := q9.1; change _ = some (.int .i64 0 : Value) at q9; have q10 := (unhide FH).box (List.Mem.head _) 10; have f10 := q10.2 (by decide); replace q10 := q10.1; change _ = some (.int .i64 0 : Value) at q10; have q11 := (unhide FH).box (List.Mem.head _) 11; have f11 := q11.2 (by decide); replace q11 := q11.1; change _ = some (.int .i64 0 : Value) at q11; have q12 := (unhide FH).box (List.Mem.head _) 12; have f12 := q12.2 (by decide); replace q12 := q12.1; change _ = some (.int .i64 0 : Value) at q12; have q13 := (unhide FH).box (List.Mem.head _) 13; have f13 := q13.2 (by decide); replace q13 := q13.1; change _ = some (.int .i64 0 : Value) at q13; have E5 := E.tmp 5 _ rfl; have E21 := E.tmp 21 _ rfl; clear E; clear FH HN HX LH WR HT; (try simp only [slZ, smZ, putF, slV, smL, msL] at *); go_simp
    have F2 := hide ((unhide FH).putF (0) (slV (S t)))
    clear FH
    have FH := F2
    clear F2
    generalize (putF Ab5 b5 0 (slV (S t))) = V3 at *
    rw [setAll_slZ] at FH
    refine nilN ?_
    refine seqR ?_
    refine lmv K6 rfl rfl (want_none rfl) rfl rfl (fun a8 K8 => ?_)
    clear K6
    refine lmv K8 rfl rfl (want_none rfl) rfl rfl (fun a9 K9 => ?_)
    clear K8
    refine lcall (f := 87) (args := #[.pointer (some ⟨p, 0, none⟩), .int .i64 (t : Int)]) K9 rfl rfl (want_none rfl) (fun ev E => ?_) (isTopK (unhide FH).po lt1 ul) (fun e W10 hR => ?_)
    · have EF := E.func; have E22 := E.tmp 22 _ rfl; have E23 := E.tmp 23 _ rfl; clear E; clear FH HN HX LH WR HT; (try simp only [slZ, smZ, putF, slV, smL, msL] at *); go_simp
    obtain ⟨rfl, Q1, P1⟩ := hR
    have F2 := hide ((unhide FH).call Q1 P1)
    clear FH Q1 P1
    have FH := F2
    clear F2
    refine ⟨_, rfl, fun a11 K11 => ?_⟩
    clear K9
    rw [unhide HT] at K11
    refine nilN ?_
    refine knCond (b := false) K11 rfl (wp_skip ?_)
    have F2 := (unhide FH).tail
    rw [← HA_not (unhide HT)] at F2
    clear FH
    have FH := hide F2
    clear F2
    show Code.wp _ _ _ _ _
    have wr := unhide WR
    clear WR
    refine wp_region_lit ?_
    refine ltake (v := .int .i64 ((t + 1 : Nat) : Int)) (w' := W10) K11 rfl rfl (want_none rfl) (fun ev E => ?_) (fun a12 K12 => ?_)
    · have EC := E.const; have E17 := E.tmp 17 _ rfl; clear E; clear FH HN HX LH HT; (try simp only [slZ, smZ, putF, slV, smL, msL] at *); go_simp
    clear K11
    refine lmv K12 rfl rfl (want_none rfl) rfl rfl (fun a13 K13 => ?_)
    clear K12
    refine wpList_nil ?_
    exact unhide HN _ _ lt1 (K13.less ⟨rfl, rfl, rfl, rfl, rfl, trivial⟩) (unhide FH)
  · have HT := hide hT
    clear hT
    refine seqR ?_
    refine ltake (v := .bool true) (w' := w1) K0 rfl rfl (want_none rfl) (fun ev E => ?_) (fun a1 K1 => ?_)
    · have E16 := E.tmp 16 _ rfl; have E17 := E.tmp 17 _ rfl; clear E; clear FH HN HX LH WR HT; (try simp only [slZ, smZ, putF, slV, smL, msL] at *); go_simp
    refine nilN ?_
    refine seqN ?_
    refine knCond (b := true) K1 rfl (wp_skip ?_)
    show Code.wp _ _ _ _ _
    refine seqN ?_
    refine blockN ?_
    refine seqR ?_
    refine lmv K1 rfl rfl (want_none rfl) rfl rfl (fun a2 K2 => ?_)
    clear K1
    refine ltake (v := .pointer (some ⟨g, t * 14, none⟩)) (w' := w1) K2 rfl rfl (want_none rfl) (fun ev E => ?_) (fun a3 K3 => ?_)
    · have E15 := E.tmp 15 _ rfl; have E17 := E.tmp 17 _ rfl; clear E; clear FH HN HX LH WR HT; (try simp only [slZ, smZ, putF, slV, smL, msL] at *); go_simp
    clear K2
    refine ltake (v := .agg #[.int .i64 ((S t).up : Int), .int .i64 ((S t).l : Int), .int .i64 ((S t).r : Int), .bool (S t).tn, .int .i64 (S t).wt, .int .i64 (S t).wa, .int .i64 (S t).sm.c, .int .i64 (S t).sm.s, .int .i64 (S t).sm.a, .int .i64 (S t).sm.b, .int .i64 (S t).hg.c, .int .i64 (S t).hg.w, .int .i64 (S t).hu.c, .int .i64 (S t).hu.w]) (w' := w1) K3 rfl rfl (want_none rfl) (fun ev E => ?_) (fun a4 K4 => ?_)
    · obtain ⟨s0, s1, s2, s3, s4, s5, s6, s7, s8, s9, s10, s11, s12, s13⟩ := (unhide FH).po.slot (t := t) (by assumption); have E20 := E.tmp 20 _ rfl; clear E; clear FH HN HX LH WR HT; (try simp only [slZ, smZ, putF, slV, smL, msL] at *); go_simp
    clear K3
    refine ltake (v := .pointer (some ⟨w1.heap.size, 0, none⟩)) (w' := (w1.alloc (.cells slZ 75))) K4 rfl rfl (want_none rfl) (fun ev E => ?_) (fun a5 K5 => ?_)
    · clear E; clear FH HN HX LH WR HT; (try simp only [slZ, smZ, putF, slV, smL, msL] at *); go_simp
    clear K4
    have F2 := hide ((unhide FH).alloc (.cells slZ 75))
    clear FH
    have FH := F2
    clear F2
    generalize (w1.alloc (.cells slZ 75)) = Ab5 at *
    obtain ⟨b5, hd⟩ : ∃ z, z = w1.heap.size := ⟨_, rfl⟩
    rw [← hd] at FH K5
    clear hd
    refine las K5 rfl rfl (want_none rfl) rfl rfl (fun a6 K6 => ?_)
    clear K5
    refine lstore (w' := (putF Ab5 b5 0 (slV (S t)))) K6 rfl (want_none rfl) (fun ev E => ?_) ?_
    · have q0 := (unhide FH).box (List.Mem.head _) 0; have f0 := q0.2 (by decide); replace q0 := q0.1; change _ = some (.int .i64 0 : Value) at q0; have q1 := (unhide FH).box (List.Mem.head _) 1; have f1 := q1.2 (by decide); replace q1 := q1.1; change _ = some (.int .i64 0 : Value) at q1; have q2 := (unhide FH).box (List.Mem.head _) 2; have f2 := q2.2 (by decide); replace q2 := q2.1; change _ = some (.int .i64 0 : Value) at q2; have q3 := (unhide FH).box (List.Mem.head _) 3; have f3 := q3.2 (by decide); replace q3 := q3.1; change _ = some (.bool false : Value) at q3; have q4 := (unhide FH).box (List.Mem.head _) 4; have f4 := q4.2 (by decide); replace q4 := q4.1; change _ = some (.int .i64 0 : Value) at q4; have q5 := (unhide FH).box (List.Mem.head _) 5; have f5 := q5.2 (by decide); replace q5 := q5.1; change _ = some (.int .i64 0 : Value) at q5; have q6 := (unhide FH).box (List.Mem.head _) 6; have f6 := q6.2 (by decide); replace q6 := q6.1; change _ = some (.int .i64 0 : Value) at q6; have q7 := (unhide FH).box (List.Mem.head _) 7; have f7 := q7.2 (by decide); replace q7 := q7.1; change _ = some (.int .i64 0 : Value) at q7; have q8 := (unhide FH).box (List.Mem.head _) 8; have f8 := q8.2 (by decide); replace q8 := q8.1; change _ = some (.int .i64 0 : Value) at q8; have q9 := (unhide FH).box (List.Mem.head _) 9; have f9 := q9.2 (by decide); replace q9 := q9.1; change _ = some (.int .i64 0 : Value) at q9; have q10 := (unhide FH).box (List.Mem.head _) 10; have f10 := q10.2 (by decide); replace q10 := q10.1; change _ = some (.int .i64 0 : Value) at q10; have q11 := (unhide FH).box (List.Mem.head _) 11; have f11 := q11.2 (by decide); replace q11 := q11.1; change _ = some (.int .i64 0 : Value) at q11; have q12 := (unhide FH).box (List.Mem.head _) 12; have f12 := q12.2 (by decide); replace q12 := q12.1; change _ = some (.int .i64 0 : Value) at q12; have q13 := (unhide FH).box (List.Mem.head _) 13; have f13 := q13.2 (by decide); replace q13 := q13.1; change _ = some (.int .i64 0 : Value) at q13; have E5 := E.tmp 5 _ rfl; have E21 := E.tmp 21 _ rfl; clear E; clear FH HN HX LH WR HT; (try simp only [slZ, smZ, putF, slV, smL, msL] at *); go_simp
    have F2 := hide ((unhide FH).putF (0) (slV (S t)))
    clear FH
    have FH := F2
    clear F2
    generalize (putF Ab5 b5 0 (slV (S t))) = V3 at *
    rw [setAll_slZ] at FH
    refine nilN ?_
    refine seqR ?_
    refine lmv K6 rfl rfl (want_none rfl) rfl rfl (fun a8 K8 => ?_)
    clear K6
    refine lmv K8 rfl rfl (want_none rfl) rfl rfl (fun a9 K9 => ?_)
    clear K8
    refine lcall (f := 87) (args := #[.pointer (some ⟨p, 0, none⟩), .int .i64 (t : Int)]) K9 rfl rfl (want_none rfl) (fun ev E => ?_) (isTopK (unhide FH).po lt1 ul) (fun e W10 hR => ?_)
    · have EF := E.func; have E22 := E.tmp 22 _ rfl; have E23 := E.tmp 23 _ rfl; clear E; clear FH HN HX LH WR HT; (try simp only [slZ, smZ, putF, slV, smL, msL] at *); go_simp
    obtain ⟨rfl, Q1, P1⟩ := hR
    have F2 := hide ((unhide FH).call Q1 P1)
    clear FH Q1 P1
    have FH := F2
    clear F2
    refine ⟨_, rfl, fun a11 K11 => ?_⟩
    clear K9
    rw [unhide HT] at K11
    refine nilN ?_
    have K12 : Kn _ 39 [(0, .pointer (some ⟨p, 0, none⟩)), (3, .slice (some ⟨hb, 0, none⟩) n n), (5, .pointer (some ⟨b5, 0, none⟩)), (15, .slice (some ⟨g, 0, none⟩) n cap), (16, .int .i64 (n : Int)), (17, .int .i64 (t : Int)), (24, .bool true)] := K11.less ⟨rfl, rfl, rfl, rfl, rfl, rfl, rfl, trivial⟩
    clear K11
    refine knCond (b := true) K12 rfl ?_
    have PM : List.Perm (α := Nat × Obj) [(b5, .cells (slC (S t)) 75 (0, 0)), (hb, .cells (hsA (HA S t) n) 73 (0, 0))] [(hb, .cells (hsA (HA S t) n) 73 (0, 0)), (b5, .cells (slC (S t)) 75 (0, 0))] := List.perm_middle (l₁ := ([(b5, .cells (slC (S t)) 75 (0, 0))] : List (Nat × Obj))) (l₂ := ([] : List (Nat × Obj)))
    have F2 := hide ((unhide FH).perm PM)
    clear FH PM
    have FH := F2
    clear F2
    have b1 := hide ((unhide LH).wh_bd (unhide HT))
    have b2 := hide (show (-4611686018427387904 ≤ (HA S t (S t).up).c + ((S t).hu.c + (S t).sm.c) ∧ (HA S t (S t).up).c + ((S t).hu.c + (S t).sm.c) ≤ 4611686018427387904) ∧ (-4611686018427387904 ≤ (HA S t (S t).up).w + ((S t).hu.w + (S t).sm.s) ∧ (HA S t (S t).up).w + ((S t).hu.w + (S t).sm.s) ≤ 4611686018427387904) from by
      have q := (unhide LH).ha_bd (t + 1) (S t).up
      rw [HA_top (unhide HT)] at q
      simp only [if_true] at q
      omega)
    have FD := (unhide FH).drew
    obtain ⟨V, hV⟩ : ∃ V : (Unit) → Nat → Value, V = fun gg k => ([.slice (some ⟨hb, 0, none⟩) n n, .pointer (some ⟨b5, 0, none⟩), .int .i64 ((S t).up : Int), .slice (some ⟨hb, 0, none⟩) n n, .pointer (some ⟨b5, 0, none⟩), .int .i64 ((S t).up : Int), .pointer (some ⟨hb, (S t).up * 2, none⟩), .agg #[.int .i64 (HA S t (S t).up).c, .int .i64 (HA S t (S t).up).w], .agg #[.int .i64 ((S t).up : Int), .int .i64 ((S t).l : Int), .int .i64 ((S t).r : Int), .bool (S t).tn, .int .i64 (S t).wt, .int .i64 (S t).wa, .int .i64 (S t).sm.c, .int .i64 (S t).sm.s, .int .i64 (S t).sm.a, .int .i64 (S t).sm.b, .int .i64 (S t).hg.c, .int .i64 (S t).hg.w, .int .i64 (S t).hu.c, .int .i64 (S t).hu.w], .agg #[.int .i64 ((S t).hu.c + (S t).sm.c), .int .i64 ((S t).hu.w + (S t).sm.s)], .agg #[.int .i64 ((HA S t (S t).up).c + ((S t).hu.c + (S t).sm.c)), .int .i64 ((HA S t (S t).up).w + ((S t).hu.w + (S t).sm.s))], .pointer (some ⟨hb, (S t).up * 2, none⟩), undef] : List Value).getD k undef := ⟨_, rfl⟩
    have vv : ∀ gg k, V gg k = ([.slice (some ⟨hb, 0, none⟩) n n, .pointer (some ⟨b5, 0, none⟩), .int .i64 ((S t).up : Int), .slice (some ⟨hb, 0, none⟩) n n, .pointer (some ⟨b5, 0, none⟩), .int .i64 ((S t).up : Int), .pointer (some ⟨hb, (S t).up * 2, none⟩), .agg #[.int .i64 (HA S t (S t).up).c, .int .i64 (HA S t (S t).up).w], .agg #[.int .i64 ((S t).up : Int), .int .i64 ((S t).l : Int), .int .i64 ((S t).r : Int), .bool (S t).tn, .int .i64 (S t).wt, .int .i64 (S t).wa, .int .i64 (S t).sm.c, .int .i64 (S t).sm.s, .int .i64 (S t).sm.a, .int .i64 (S t).sm.b, .int .i64 (S t).hg.c, .int .i64 (S t).hg.w, .int .i64 (S t).hu.c, .int .i64 (S t).hu.w], .agg #[.int .i64 ((S t).hu.c + (S t).sm.c), .int .i64 ((S t).hu.w + (S t).sm.s)], .agg #[.int .i64 ((HA S t (S t).up).c + ((S t).hu.c + (S t).sm.c)), .int .i64 ((HA S t (S t).up).w + ((S t).hu.w + (S t).sm.s))], .pointer (some ⟨hb, (S t).up * 2, none⟩), undef] : List Value).getD k undef := fun _ _ => by rw [hV]
    have HV := hide (And.intro True.intro hV)
    clear hV
    show (Code.region 6 OPS92_6.toArray true).wp _ _ _ _
    refine wp_region_once (A := Unit) (V := V) (J := fun gg f W => Fr w W p g n cap room S [(hb, .cells (bif f 12 then hsA (fun j => if j = (S t).up then ⟨(HA S t (S t).up).c + ((S t).hu.c + (S t).sm.c), (HA S t (S t).up).w + ((S t).hu.w + (S t).sm.s)⟩ else HA S t j) n else hsA (HA S t) n) 73 (0, 0)), (b5, .cells (slC (S t)) 75 (0, 0))]) () 13 (by kernel_rfl) (by kernel_rfl) K12 (FD) (by kernel_rfl) ?_ (fun gg f a9 W9 hf hk hj => ?_)
    · clear FH FD K12
      refine obsC (j := 1) (m := 12) rfl rfl ?_ ?_
      · exact ob_copy (o := O92_6_0) (u := 3) rfl rfl (fun gg => ⟨.inr ⟨by rw [vv]; rfl, by kernel_rfl⟩, trivial⟩) (.inl ⟨rfl, rfl⟩) (fun _ _ _ h => h)
      refine obsC (j := 2) (m := 11) rfl rfl ?_ ?_
      · refine ob_look (o := O92_6_1) rfl (fun gg => [(5, .pointer (some ⟨b5, 0, none⟩))]) (fun gg => ⟨.inr ⟨rfl, by kernel_rfl⟩, trivial⟩) (.inl ⟨rfl, rfl⟩) (fun _ _ _ h => h) (fun gg f W ev hJ hd hn E => ?_)
        rw [show V gg 1 = .pointer (some ⟨b5, 0, none⟩) from vv gg 1]; clear hJ hd hn; have E5 := E.tmp 5 _ rfl; clear E; clear vv HV HN HX LH WR HT b1 b2; unfold O92_6_1; (try simp only [slZ, smZ, putF, slV, smL, msL] at *); go_simp
      refine obsC (j := 3) (m := 10) rfl rfl ?_ ?_
      · refine ob_look (o := O92_6_2) rfl (fun gg => [(26, .pointer (some ⟨b5, 0, none⟩))]) (fun gg => ⟨.inl ⟨1, by kernel_rfl, rfl, vv gg 1⟩, trivial⟩) (.inl ⟨rfl, rfl⟩) (fun _ _ _ h => h) (fun gg f W ev hJ hd hn E => ?_)
        rw [show V gg 2 = .int .i64 ((S t).up : Int) from vv gg 2]; have hJ9 := hJ; simp only [hn 12 (by kernel_rfl), cond_false] at hJ9; have q0 := (hJ9.box (List.Mem.tail _ (List.Mem.head _)) 0).1; change _ = some (.int .i64 ((S t).up : Int) : Value) at q0; clear hJ9; clear hJ hd hn; have E26 := E.tmp 26 _ rfl; clear E; clear vv HV HN HX LH WR HT b1 b2; unfold O92_6_2; (try simp only [slZ, smZ, putF, slV, smL, msL] at *); go_simp
      refine obsC (j := 4) (m := 9) rfl rfl ?_ ?_
      · exact ob_copy (o := O92_6_3) (u := 3) rfl rfl (fun gg => ⟨.inr ⟨by rw [vv]; rfl, by kernel_rfl⟩, trivial⟩) (.inl ⟨rfl, rfl⟩) (fun _ _ _ h => h)
      refine obsC (j := 5) (m := 8) rfl rfl ?_ ?_
      · refine ob_look (o := O92_6_4) rfl (fun gg => [(5, .pointer (some ⟨b5, 0, none⟩))]) (fun gg => ⟨.inr ⟨rfl, by kernel_rfl⟩, trivial⟩) (.inl ⟨rfl, rfl⟩) (fun _ _ _ h => h) (fun gg f W ev hJ hd hn E => ?_)
        rw [show V gg 4 = .pointer (some ⟨b5, 0, none⟩) from vv gg 4]; clear hJ hd hn; have E5 := E.tmp 5 _ rfl; clear E; clear vv HV HN HX LH WR HT b1 b2; unfold O92_6_4; (try simp only [slZ, smZ, putF, slV, smL, msL] at *); go_simp
      refine obsC (j := 6) (m := 7) rfl rfl ?_ ?_
      · refine ob_look (o := O92_6_5) rfl (fun gg => [(29, .pointer (some ⟨b5, 0, none⟩))]) (fun gg => ⟨.inl ⟨4, by kernel_rfl, rfl, vv gg 4⟩, trivial⟩) (.inl ⟨rfl, rfl⟩) (fun _ _ _ h => h) (fun gg f W ev hJ hd hn E => ?_)
        rw [show V gg 5 = .int .i64 ((S t).up : Int) from vv gg 5]; have hJ9 := hJ; simp only [hn 12 (by kernel_rfl), cond_false] at hJ9; have q0 := (hJ9.box (List.Mem.tail _ (List.Mem.head _)) 0).1; change _ = some (.int .i64 ((S t).up : Int) : Value) at q0; clear hJ9; clear hJ hd hn; have E29 := E.tmp 29 _ rfl; clear E; clear vv HV HN HX LH WR HT b1 b2; unfold O92_6_5; (try simp only [slZ, smZ, putF, slV, smL, msL] at *); go_simp
      refine obsC (j := 7) (m := 6) rfl rfl ?_ ?_
      · refine ob_look (o := O92_6_6) rfl (fun gg => [(28, .slice (some ⟨hb, 0, none⟩) n n), (30, .int .i64 ((S t).up : Int))]) (fun gg => ⟨.inl ⟨3, by kernel_rfl, rfl, vv gg 3⟩, .inl ⟨5, by kernel_rfl, rfl, vv gg 5⟩, trivial⟩) (.inl ⟨rfl, rfl⟩) (fun _ _ _ h => h) (fun gg f W ev hJ hd hn E => ?_)
        rw [show V gg 6 = .pointer (some ⟨hb, (S t).up * 2, none⟩) from vv gg 6]; clear hJ hd hn; have E28 := E.tmp 28 _ rfl; have E30 := E.tmp 30 _ rfl; clear E; clear vv HV HN HX LH WR HT b1 b2; unfold O92_6_6; (try simp only [slZ, smZ, putF, slV, smL, msL] at *); go_simp
      refine obsC (j := 8) (m := 5) rfl rfl ?_ ?_
      · refine ob_look (o := O92_6_7) rfl (fun gg => [(31, .pointer (some ⟨hb, (S t).up * 2, none⟩))]) (fun gg => ⟨.inl ⟨6, by kernel_rfl, rfl, vv gg 6⟩, trivial⟩) (.inl ⟨rfl, rfl⟩) (fun _ _ _ h => h) (fun gg f W ev hJ hd hn E => ?_)
        rw [show V gg 7 = .agg #[.int .i64 (HA S t (S t).up).c, .int .i64 (HA S t (S t).up).w] from vv gg 7]; have hJ9 := hJ; simp only [hn 12 (by kernel_rfl), cond_false] at hJ9; have q0 := (hJ9.box (List.Mem.head _) ((S t).up * 2)).1; rw [(hsA_get _ ul).1] at q0; have q1 := (hJ9.box (List.Mem.head _) ((S t).up * 2 + 1)).1; rw [(hsA_get _ ul).2] at q1; clear hJ9; clear hJ hd hn; have E31 := E.tmp 31 _ rfl; clear E; clear vv HV HN HX LH WR HT b1 b2; unfold O92_6_7; (try simp only [slZ, smZ, putF, slV, smL, msL] at *); go_simp
      refine obsC (j := 9) (m := 4) rfl rfl ?_ ?_
      · refine ob_look (o := O92_6_8) rfl (fun gg => [(5, .pointer (some ⟨b5, 0, none⟩))]) (fun gg => ⟨.inr ⟨rfl, by kernel_rfl⟩, trivial⟩) (.inl ⟨rfl, rfl⟩) (fun _ _ _ h => h) (fun gg f W ev hJ hd hn E => ?_)
        rw [show V gg 8 = .agg #[.int .i64 ((S t).up : Int), .int .i64 ((S t).l : Int), .int .i64 ((S t).r : Int), .bool (S t).tn, .int .i64 (S t).wt, .int .i64 (S t).wa, .int .i64 (S t).sm.c, .int .i64 (S t).sm.s, .int .i64 (S t).sm.a, .int .i64 (S t).sm.b, .int .i64 (S t).hg.c, .int .i64 (S t).hg.w, .int .i64 (S t).hu.c, .int .i64 (S t).hu.w] from vv gg 8]; have hJ9 := hJ; simp only [hn 12 (by kernel_rfl), cond_false] at hJ9; have q0 := (hJ9.box (List.Mem.tail _ (List.Mem.head _)) 0).1; change _ = some (.int .i64 ((S t).up : Int) : Value) at q0; have q1 := (hJ9.box (List.Mem.tail _ (List.Mem.head _)) 1).1; change _ = some (.int .i64 ((S t).l : Int) : Value) at q1; have q2 := (hJ9.box (List.Mem.tail _ (List.Mem.head _)) 2).1; change _ = some (.int .i64 ((S t).r : Int) : Value) at q2; have q3 := (hJ9.box (List.Mem.tail _ (List.Mem.head _)) 3).1; change _ = some (.bool (S t).tn : Value) at q3; have q4 := (hJ9.box (List.Mem.tail _ (List.Mem.head _)) 4).1; change _ = some (.int .i64 (S t).wt : Value) at q4; have q5 := (hJ9.box (List.Mem.tail _ (List.Mem.head _)) 5).1; change _ = some (.int .i64 (S t).wa : Value) at q5; have q6 := (hJ9.box (List.Mem.tail _ (List.Mem.head _)) 6).1; change _ = some (.int .i64 (S t).sm.c : Value) at q6; have q7 := (hJ9.box (List.Mem.tail _ (List.Mem.head _)) 7).1; change _ = some (.int .i64 (S t).sm.s : Value) at q7; have q8 := (hJ9.box (List.Mem.tail _ (List.Mem.head _)) 8).1; change _ = some (.int .i64 (S t).sm.a : Value) at q8; have q9 := (hJ9.box (List.Mem.tail _ (List.Mem.head _)) 9).1; change _ = some (.int .i64 (S t).sm.b : Value) at q9; have q10 := (hJ9.box (List.Mem.tail _ (List.Mem.head _)) 10).1; change _ = some (.int .i64 (S t).hg.c : Value) at q10; have q11 := (hJ9.box (List.Mem.tail _ (List.Mem.head _)) 11).1; change _ = some (.int .i64 (S t).hg.w : Value) at q11; have q12 := (hJ9.box (List.Mem.tail _ (List.Mem.head _)) 12).1; change _ = some (.int .i64 (S t).hu.c : Value) at q12; have q13 := (hJ9.box (List.Mem.tail _ (List.Mem.head _)) 13).1; change _ = some (.int .i64 (S t).hu.w : Value) at q13; clear hJ9; clear hJ hd hn; have E5 := E.tmp 5 _ rfl; clear E; clear vv HV HN HX LH WR HT b1 b2; unfold O92_6_8; (try simp only [slZ, smZ, putF, slV, smL, msL] at *); go_simp
      refine obsC (j := 10) (m := 3) rfl rfl ?_ ?_
      · refine ob_run (o := O92_6_9) rfl (fun gg => [(33, .agg #[.int .i64 ((S t).up : Int), .int .i64 ((S t).l : Int), .int .i64 ((S t).r : Int), .bool (S t).tn, .int .i64 (S t).wt, .int .i64 (S t).wa, .int .i64 (S t).sm.c, .int .i64 (S t).sm.s, .int .i64 (S t).sm.a, .int .i64 (S t).sm.b, .int .i64 (S t).hg.c, .int .i64 (S t).hg.w, .int .i64 (S t).hu.c, .int .i64 (S t).hu.w])]) (fun gg => ⟨.inl ⟨8, by kernel_rfl, rfl, vv gg 8⟩, trivial⟩) (.inl ⟨rfl, rfl⟩) (fun gg f W ev hJ hf hd hn E => ?_)
        refine .inr (.inr ⟨75, #[.agg #[.int .i64 ((S t).up : Int), .int .i64 ((S t).l : Int), .int .i64 ((S t).r : Int), .bool (S t).tn, .int .i64 (S t).wt, .int .i64 (S t).wa, .int .i64 (S t).sm.c, .int .i64 (S t).sm.s, .int .i64 (S t).sm.a, .int .i64 (S t).sm.b, .int .i64 (S t).hg.c, .int .i64 (S t).hg.w, .int .i64 (S t).hu.c, .int .i64 (S t).hu.w]], ?_, (whole_any _ _ _ _ _ _ _ _ _ _ _ _ _ _ _ (unhide b1).1 (unhide b1).2).mono ?_⟩)
        · clear hJ hf hd hn; have EF := E.func; have E33 := E.tmp 33 _ rfl; clear E; clear vv HV HN HX LH WR HT b1 b2; unfold O92_6_9; go_simp
        · rintro e w9 ⟨rfl, hb9⟩
          exact ⟨_, rfl, gg, .inr (vv gg 9), fun _ => .inr (.inr rfl), hJ.below hb9⟩
      refine obsC (j := 11) (m := 2) rfl rfl ?_ ?_
      · refine ob_run (o := O92_6_10) rfl (fun gg => [(32, .agg #[.int .i64 (HA S t (S t).up).c, .int .i64 (HA S t (S t).up).w]), (34, .agg #[.int .i64 ((S t).hu.c + (S t).sm.c), .int .i64 ((S t).hu.w + (S t).sm.s)])]) (fun gg => ⟨.inl ⟨7, by kernel_rfl, rfl, vv gg 7⟩, .inl ⟨9, by kernel_rfl, rfl, vv gg 9⟩, trivial⟩) (.inl ⟨rfl, rfl⟩) (fun gg f W ev hJ hf hd hn E => ?_)
        refine .inr (.inr ⟨80, #[.agg #[.int .i64 (HA S t (S t).up).c, .int .i64 (HA S t (S t).up).w], .agg #[.int .i64 ((S t).hu.c + (S t).sm.c), .int .i64 ((S t).hu.w + (S t).sm.s)]], ?_, (with_any _ _ _ _ _ (unhide b2).1 (unhide b2).2).mono ?_⟩)
        · clear hJ hf hd hn; have EF := E.func; have E32 := E.tmp 32 _ rfl; have E34 := E.tmp 34 _ rfl; clear E; clear vv HV HN HX LH WR HT b1 b2; unfold O92_6_10; go_simp
        · rintro e w9 ⟨rfl, hb9⟩
          exact ⟨_, rfl, gg, .inr (vv gg 10), fun _ => .inr (.inr rfl), hJ.below hb9⟩
      refine obsC (j := 12) (m := 1) rfl rfl ?_ ?_
      · refine ob_look (o := O92_6_11) rfl (fun gg => [(25, .slice (some ⟨hb, 0, none⟩) n n), (27, .int .i64 ((S t).up : Int))]) (fun gg => ⟨.inl ⟨0, by kernel_rfl, rfl, vv gg 0⟩, .inl ⟨2, by kernel_rfl, rfl, vv gg 2⟩, trivial⟩) (.inl ⟨rfl, rfl⟩) (fun _ _ _ h => h) (fun gg f W ev hJ hd hn E => ?_)
        rw [show V gg 11 = .pointer (some ⟨hb, (S t).up * 2, none⟩) from vv gg 11]; clear hJ hd hn; have E25 := E.tmp 25 _ rfl; have E27 := E.tmp 27 _ rfl; clear E; clear vv HV HN HX LH WR HT b1 b2; unfold O92_6_11; (try simp only [slZ, smZ, putF, slV, smL, msL] at *); go_simp
      refine obsC (j := 13) (m := 0) rfl rfl ?_ ?_
      · refine ob_run (o := O92_6_12) rfl (fun gg => [(35, .agg #[.int .i64 ((HA S t (S t).up).c + ((S t).hu.c + (S t).sm.c)), .int .i64 ((HA S t (S t).up).w + ((S t).hu.w + (S t).sm.s))]), (36, .pointer (some ⟨hb, (S t).up * 2, none⟩))]) (fun gg => ⟨.inl ⟨10, by kernel_rfl, rfl, vv gg 10⟩, .inl ⟨11, by kernel_rfl, rfl, vv gg 11⟩, trivial⟩) (.inl ⟨rfl, rfl⟩) (fun gg f W ev hJ hf hd hn E => ?_)
        have q := hJ
        simp only [hf, cond_false] at q
        have q2 := q.putF ((S t).up * 2) (msL ⟨(HA S t (S t).up).c + ((S t).hu.c + (S t).sm.c), (HA S t (S t).up).w + ((S t).hu.w + (S t).sm.s)⟩)
        rw [hsA_put _ ul] at q2
        refine .inr (.inl ⟨_, ?_, gg, .inl rfl, fun _ => .inr (.inr rfl), q2⟩)
        have z := q.bs _ (List.Mem.head _)
        have y0 := (q.box (List.Mem.head _) ((S t).up * 2)); have y1 := (q.box (List.Mem.head _) ((S t).up * 2 + 1))
        have f0 := y0.2 (by rw [hsA_size]; omega); have f1 := y1.2 (by rw [hsA_size]; omega); replace y0 := y0.1; replace y1 := y1.1; rw [(hsA_get _ ul).1] at y0; rw [(hsA_get _ ul).2] at y1
        clear hJ hf hd hn q q2 z; have E35 := E.tmp 35 _ rfl; have E36 := E.tmp 36 _ rfl; clear E; clear vv HV HN HX LH WR HT b1 b2; unfold O92_6_12; (try simp only [slZ, smZ, putF, slV, smL, msL] at *); go_simp
      exact True.intro
    have K13 : Kn a9 39 [(0, .pointer (some ⟨p, 0, none⟩)), (3, .slice (some ⟨hb, 0, none⟩) n n), (15, .slice (some ⟨g, 0, none⟩) n cap), (16, .int .i64 (n : Int)), (17, .int .i64 (t : Int))] := hk.kn' (by kernel_rfl) hf ⟨.inr ⟨rfl, by kernel_rfl⟩, .inr ⟨rfl, by kernel_rfl⟩, .inr ⟨rfl, by kernel_rfl⟩, .inr ⟨rfl, by kernel_rfl⟩, .inr ⟨rfl, by kernel_rfl⟩, trivial⟩
    clear hk FH FD HV vv K12
    simp only [hf 12 rfl, cond_true] at hj
    rw [← HA_top (unhide HT)] at hj
    clear hf b1 b2
    have FH := hide hj.head1
    clear hj
    show Code.wp _ _ _ _ _
    have wr := unhide WR
    clear WR
    refine wp_region_lit ?_
    refine ltake (v := .int .i64 ((t + 1 : Nat) : Int)) (w' := W9) K13 rfl rfl (want_none rfl) (fun ev E => ?_) (fun a14 K14 => ?_)
    · have EC := E.const; have E17 := E.tmp 17 _ rfl; clear E; clear FH HN HX LH HT; (try simp only [slZ, smZ, putF, slV, smL, msL] at *); go_simp
    clear K13
    refine lmv K14 rfl rfl (want_none rfl) rfl rfl (fun a15 K15 => ?_)
    clear K14
    refine wpList_nil ?_
    exact unhide HN _ _ lt1 (K15.less ⟨rfl, rfl, rfl, rfl, rfl, trivial⟩) (unhide FH)
set_option maxHeartbeats 4000000 in
theorem hangingL {p g n cap room : Nat} {T : Tr} {S : Ss} {G : Gh} {w : World} (h : Pool w p g n cap room S) (L : Lc S n T G) :
    Calls Try.prog 92 #[.pointer (some ⟨p, 0, none⟩)] w fun e w' => ∃ hb : Nat, e = .returned (.slice (some ⟨hb, 0, none⟩) n n) ∧ Fr w w' p g n cap room S [(hb, .cells (hsA (HA S n) n) 73 (0, 0))] := by
  have FH := hide (Fr.start h)
  have LH := hide L
  have nle : n ≤ 1048577 := by have := L.nn; have := L.ft.n; omega
  clear h L
  refine callsK (n := 39) (L := [(0, .pointer (some ⟨p, 0, none⟩))]) Try.func92 rfl Try.ntmps92 rfl rfl (fun a0 K0 => ?_)
  refine seqR ?_
  refine lac K0 rfl rfl (want_none rfl) rfl (fun a1 K1 => ?_)
  refine nilN ?_
  refine seqR ?_
  refine lmv K1 rfl rfl (want_none rfl) rfl rfl (fun a2 K2 => ?_)
  clear K1
  refine lnc K2 rfl rfl (want_none rfl) rfl rfl (fun a3 K3 => ?_)
  clear K2
  refine lfa K3 rfl rfl (want_none rfl) rfl rfl FA66_1 (fun a4 K4 => ?_)
  clear K3
  refine ltake (v := .slice (some ⟨g, 0, none⟩) n cap) (w' := w) K4 rfl rfl (want_none rfl) (fun ev E => ?_) (fun a5 K5 => ?_)
  · obtain ⟨c0, c1, _⟩ := (unhide FH).po.head; have E8 := E.tmp 8 _ rfl; clear E; clear FH LH; (try simp only [slZ, smZ, putF, slV, smL, msL] at *); go_simp
  clear K4
  refine ltake (v := .int .i64 (n : Int)) (w' := w) K5 rfl rfl (want_none rfl) (fun ev E => ?_) (fun a6 K6 => ?_)
  · have E9 := E.tmp 9 _ rfl; clear E; clear FH LH; (try simp only [slZ, smZ, putF, slV, smL, msL] at *); go_simp
  clear K5
  have hmk := make_ms n nle w
  refine ltake (v := .slice (some ⟨w.heap.size, 0, none⟩) n n) (w' := (w.alloc (.cells (madeCells #[.int .i64 0, .int .i64 0] (n * 2)) 73))) K6 rfl rfl (want_none rfl) (fun ev E => ?_) (fun a7 K7 => ?_)
  · have E10 := E.tmp 10 _ rfl; clear E; clear FH LH; (try simp only [slZ, smZ, putF, slV, smL, msL] at *); go_simp
  clear K6 hmk
  have F2 := hide ((unhide FH).alloc (.cells (madeCells #[.int .i64 0, .int .i64 0] (n * 2)) 73))
  clear FH
  have FH := F2
  clear F2
  generalize (w.alloc (.cells (madeCells #[.int .i64 0, .int .i64 0] (n * 2)) 73)) = A at *
  obtain ⟨hb, hd⟩ : ∃ z, z = w.heap.size := ⟨_, rfl⟩
  rw [← hd] at FH K7
  clear hd
  rw [made_hs] at FH
  refine las K7 rfl rfl (want_none rfl) rfl rfl (fun a8 K8 => ?_)
  clear K7
  refine nilN ?_
  refine seqN ?_
  refine seqR ?_
  refine lmv K8 rfl rfl (want_none rfl) rfl rfl (fun a9 K9 => ?_)
  clear K8
  refine lnc K9 rfl rfl (want_none rfl) rfl rfl (fun a10 K10 => ?_)
  clear K9
  refine lfa K10 rfl rfl (want_none rfl) rfl rfl FA66_1 (fun a11 K11 => ?_)
  clear K10
  refine ltake (v := .slice (some ⟨g, 0, none⟩) n cap) (w' := A) K11 rfl rfl (want_none rfl) (fun ev E => ?_) (fun a12 K12 => ?_)
  · obtain ⟨c0, c1, _⟩ := (unhide FH).po.head; have E14 := E.tmp 14 _ rfl; clear E; clear FH LH; (try simp only [slZ, smZ, putF, slV, smL, msL] at *); go_simp
  clear K11
  refine ltake (v := .int .i64 (n : Int)) (w' := A) K12 rfl rfl (want_none rfl) (fun ev E => ?_) (fun a13 K13 => ?_)
  · have E15 := E.tmp 15 _ rfl; clear E; clear FH LH; (try simp only [slZ, smZ, putF, slV, smL, msL] at *); go_simp
  clear K12
  refine ltake (v := .int .i64 (0)) (w' := A) K13 rfl rfl (want_none rfl) (fun ev E => ?_) (fun a14 K14 => ?_)
  · have EC := E.const; clear E; clear FH LH; (try simp only [slZ, smZ, putF, slV, smL, msL] at *); go_simp
  clear K13
  refine nilN ?_
  have K15 : Kn _ 39 [(0, .pointer (some ⟨p, 0, none⟩)), (3, .slice (some ⟨hb, 0, none⟩) n n), (15, .slice (some ⟨g, 0, none⟩) n cap), (16, .int .i64 (n : Int)), (17, .int .i64 ((0 : Nat) : Int))] := K14.less ⟨rfl, rfl, rfl, rfl, rfl, trivial⟩
  clear K14
  refine wp_block ?_
  refine wp_loop_ghost (fun k a w' => ∃ t : Nat, Kn a 39 [(0, .pointer (some ⟨p, 0, none⟩)), (3, .slice (some ⟨hb, 0, none⟩) n n), (15, .slice (some ⟨g, 0, none⟩) n cap), (16, .int .i64 (n : Int)), (17, .int .i64 (t : Int))] ∧ Fr w w' p g n cap room S [(hb, .cells (hsA (HA S t) n) 73 (0, 0))] ∧ t ≤ n ∧ k = n - t) _ ⟨0, K15, unhide FH, Nat.zero_le _, rfl⟩ ?_
  rintro k a w1 ⟨t, K1, F1, hle, hk⟩
  refine round92 K1 F1 (unhide LH) hle (fun a' W lt K2 F2 => ?_) (fun a' W n0 KZ F2 => ?_)
  · exact ⟨_, by omega, t + 1, K2, F2, by omega, rfl⟩
  show Code.wp _ _ _ _ _
  clear FH F1 K1 hk
  have FH := hide F2
  clear F2
  have N0 := hide n0
  clear n0
  refine seqR ?_
  refine lmv KZ rfl rfl (want_none rfl) rfl rfl (fun a16 K16 => ?_)
  clear KZ
  refine las K16 rfl rfl (want_none rfl) rfl rfl (fun a17 K17 => ?_)
  clear K16
  refine nilN ?_
  refine wp_ret ?_
  refine bodyPost_ret (v := .slice (some ⟨hb, 0, none⟩) n n) ?_ K17.defers ⟨hb, rfl, by have q := unhide FH; rw [unhide N0] at q; exact q⟩
  have e2 := K17.has 2 _ rfl
  simp [results, Try.results92, go_sem, e2]
end Go.Proofs.Ytjnkgakajenoaaa
