/- A line, and the line turned round: plain mathematics. -/
import Derived.Test.YtjnkgakajenoaaaL12
namespace Go.Proofs.Ytjnkgakajenoaaa
set_option linter.unusedVariables false
set_option linter.unusedSimpArgs false

def lineF : Nat → Int := fun i => (i : Int) - 1
theorem lineF_low : Low lineF := fun i => by
  unfold lineF
  by_cases h : i = 0
  · subst h; exact .inl rfl
  · exact .inr ⟨i - 1, by omega, by omega⟩
def idI : Nat → Int := fun i => (i : Int)
abbrev line (k : Nat) : Tr := gr k k lineF idI

/-- From a on, n numbers more than one. -/
theorem seg_sum (a : Nat) : ∀ n : Nat, ∃ S : Int, ofL ((List.range' a (n + 1)).map idI) = ⟨(n : Int) + 1, S, a, (a : Int) + n⟩ ∧ 2 * S = (2 * (a : Int) + n) * ((n : Int) + 1)
  | 0 => ⟨a, by simp [idI, ofL, jn_zero_left, one], by simp⟩
  | n + 1 => by
    obtain ⟨S, h1, h2⟩ := seg_sum a n
    refine ⟨S + ((a : Int) + (n + 1 : Nat)), ?_, ?_⟩
    · rw [show List.range' a (n + 1 + 1) = List.range' a (n + 1) ++ [a + (n + 1)] from by rw [← List.range'_append_1]; simp, List.map_append, ofL_append, h1]
      simp only [List.map_cons, List.map_nil, ofL_one, idI]
      unfold jn one
      rw [if_neg (by dsimp only; omega), if_neg (by dsimp only; omega)]
      exact Sm.same (by dsimp only; omega) (by dsimp only; omega) (by dsimp only; omega) (by dsimp only; omega)
    · have e : (2 * (a : Int) + ((n + 1 : Nat) : Int)) * (((n + 1 : Nat) : Int) + 1) = (2 * (a : Int) + n) * ((n : Int) + 1) + 2 * ((a : Int) + ((n + 1 : Nat) : Int)) := by
        rw [Int.natCast_add]
        simp only [Int.add_mul, Int.mul_add, Int.mul_one, Int.one_mul, Int.natCast_one]
        omega
      rw [e, ← h2]
      omega
theorem sumTo_ge (b : Nat) : ∀ m : Nat, b ≤ m → sumTo (fun u => if b ≤ u then 1 else 0) m = (m : Int) - b ∧ 2 * sumTo (fun u => if b ≤ u then idI u else 0) m = ((b : Int) + m - 1) * ((m : Int) - b) := by
  intro m
  induction m with
  | zero => intro h; have : b = 0 := by omega
            subst this; simp [sumTo]
  | succ m ih =>
    intro h
    rw [sumTo, sumTo]
    by_cases e : b = m + 1
    · subst e
      rw [sumTo_none (fun i hi => by simp; omega), sumTo_none (fun i hi => by simp; omega), if_neg (by omega), if_neg (by omega)]
      refine ⟨by omega, ?_⟩
      rw [show (((m + 1 : Nat) : Int) - ((m + 1 : Nat) : Int)) = 0 from by omega]; simp
    · obtain ⟨h1, h2⟩ := ih (by omega)
      rw [h1, if_pos (by omega), if_pos (by omega)]
      refine ⟨by omega, ?_⟩
      rw [Int.mul_add, h2]
      unfold idI
      rw [Int.natCast_add]
      simp only [Int.add_mul, Int.mul_add, Int.sub_mul, Int.mul_sub, Int.mul_one, Int.one_mul, Int.natCast_one]
      rw [Int.mul_comm (b : Int) (m : Int)]
      omega
theorem sumTo_le (a : Nat) : ∀ m : Nat, a < m → sumTo (fun u => if u ≤ a then 1 else 0) m = (a : Int) + 1 ∧ 2 * sumTo (fun u => if u ≤ a then idI u else 0) m = (a : Int) * ((a : Int) + 1) := by
  have all : ∀ n : Nat, sumTo (fun u => 1) n = (n : Int) ∧ 2 * sumTo idI (n + 1) = (n : Int) * ((n : Int) + 1) := by
    intro n
    refine ⟨sumTo_one n, ?_⟩
    induction n with
    | zero => simp [sumTo, idI]
    | succ n ih =>
      rw [sumTo, Int.mul_add, ih]
      unfold idI
      rw [Int.natCast_add]
      simp only [Int.add_mul, Int.mul_add, Int.mul_one, Int.one_mul, Int.natCast_one]
      omega
  intro m
  induction m with
  | zero => intro h; omega
  | succ m ih =>
    intro h
    by_cases e : a = m
    · subst e
      rw [sumTo_congr (G := fun _ => 1) (fun i hi => if_pos (by omega)), sumTo_congr (G := idI) (fun i hi => if_pos (by omega)), (all (a + 1)).1, (all a).2]
      exact ⟨by omega, rfl⟩
    · obtain ⟨h1, h2⟩ := ih (by omega)
      rw [sumTo, sumTo, if_neg (by omega), if_neg (by omega), h1]
      simp only [Int.add_zero]
      exact ⟨trivial, h2⟩

section
variable {k a b i u : Nat}
theorem line_wf (k : Nat) : (line k).Wf := gr_wf lineF_low (Nat.le_refl k)
theorem line_all (hu : u < k) : (line k).par u ≠ -2 := gr_there lineF_low hu
theorem line_top (hk : 0 < k) : (line k).par 0 = -1 := by rw [gr_par hk]; rfl
theorem line_step (hi : i + 1 < k) : (line k).par (i + 1) = (i : Int) := by rw [gr_par hi, lineF]; omega
theorem line_up : ∀ {i : Nat}, i < k → (line k).up i = (List.range (i + 1)).reverse
  | 0, h => by rw [(line_wf k).up_root (line_top h)]; rfl
  | i + 1, h => by
    rw [(line_wf k).up_step (line_step h), line_up (by omega), List.range_succ (n := i + 1), List.reverse_append]; rfl
theorem seg_split (hab : a ≤ b) : (List.range (b + 1)).reverse = (List.range' (a + 1) (b - a)).reverse ++ a :: (List.range a).reverse := by
  rw [List.range_eq_range', List.range_eq_range', show b + 1 = a + 1 + (b - a) from by omega, ← List.range'_append_1, List.reverse_append, show List.range' 0 (a + 1) = List.range' 0 a ++ [a] from by rw [← List.range'_append_1]; simp, List.reverse_append]
  simp
theorem line_meet (hab : a ≤ b) (hb : b < k) : Meet ((line k).up b) ((line k).up a) a (List.range' (a + 1) (b - a)).reverse [] (List.range a).reverse := by
  have ea : (line k).up a = a :: (List.range a).reverse := by rw [line_up (by omega), List.range_succ, List.reverse_append]; rfl
  refine ⟨by rw [line_up hb]; exact seg_split hab, ea, fun y hy => ?_, by simp⟩
  rw [List.mem_reverse, List.mem_range'_1] at hy
  rw [ea]
  simp
  omega
theorem seg_perm (hab : a ≤ b) : (a :: ((List.range' (a + 1) (b - a)).reverse ++ [])).Perm (List.range' a (b - a + 1)) := by
  rw [List.append_nil, List.range'_succ]
  exact List.Perm.cons _ (List.reverse_perm _)
/-- What a law asks of a way in a line. -/
structure Seg (a b : Nat) (s : Sm) : Prop where
  c : s.c = (b : Int) - a + 1
  s2 : 2 * s.s = ((a : Int) + b) * ((b : Int) - a + 1)
  lo : s.a = a
  hi : s.b = b
theorem seg_of {l : List Nat} {g : Nat → Int} (hab : a ≤ b) (hp : l.Perm (List.range' a (b - a + 1))) (hg : ∀ x, x ≤ b → g x = (x : Int)) : Seg a b (ofL (l.map g)) := by
  rw [ofL_perm (List.Perm.map g hp), List.map_congr_left (g := idI) (fun x hx => by
    rw [List.mem_range'_1] at hx
    exact hg x (by omega))]
  obtain ⟨S, h1, h2⟩ := seg_sum a (b - a)
  rw [h1]
  refine ⟨by dsimp only; omega, ?_, rfl, by dsimp only; omega⟩
  dsimp only
  rw [h2]
  rw [show (2 * (a : Int) + ((b - a : Nat) : Int)) = (a : Int) + b from by omega, show (((b - a : Nat) : Int) + 1) = (b : Int) - a + 1 from by omega]
theorem line_wt (h : i < k) : (line k).wt i = (i : Int) := by rw [gr_wt h]; rfl
theorem line_path (hab : a ≤ b) (hb : b < k) : Seg a b ((line k).pathI b a) ∧ (line k).sameI b a = true ∧ (line k).lcaI a b = a := by
  have hm := line_meet hab hb
  refine ⟨?_, (line_wf k).same_nat hm, ?_⟩
  · rw [Tr.pathI, Tr.wayI, Tr.upI_nat, Tr.upI_nat, hm.way]
    exact seg_of hab (seg_perm hab) (fun x hx => line_wt (by omega))
  · rw [Tr.lcaI, Tr.upI_nat, Tr.upI_nat, hm.symm.lca]
theorem line_root (ha : a < k) : (line k).rootI a = 0 := by
  have := ((line_wf k).root_mem (line_top (by omega)) a).1 (by rw [line_up ha]; simp)
  exact this
theorem line_size (hb : b < k) : (line k).sizeI b = k := by
  rw [Tr.sizeI, line_root hb]
  have := one_root (line_wf k) (fun u hu => line_all hu) (line_top (k := k) (by omega)) (fun u hu hne => by
    obtain ⟨j, rfl⟩ : ∃ j, u = j + 1 := ⟨u - 1, by omega⟩
    rw [line_step (k := k) hu]; omega)
  exact this
theorem line_sub (hb : b < k) : ((line k).subI b).c = (k : Int) - b ∧ 2 * ((line k).subI b).s = ((b : Int) + k - 1) * ((k : Int) - b) := by
  obtain ⟨h1, h2⟩ := Tr.subI_tot (T := line k) (line_all hb)
  obtain ⟨g1, g2⟩ := sumTo_ge b k (by omega)
  have hmem : ∀ u, u < k → (b ∈ (line k).up u ↔ b ≤ u) := fun u hu => by rw [line_up hu]; simp; omega
  constructor
  · rw [h1, ← g1]
    refine sumTo_congr fun u hu => ?_
    simp only [hmem u hu]
  · rw [h2, ← g2]
    congr 1
    refine sumTo_congr fun u hu => ?_
    simp only [hmem u hu]
    rw [line_wt (k := k) hu]; rfl

/- Turned round. -/
abbrev enil (k : Nat) : Tr := (line k).evert (k - 1)
theorem enil_wf (hk : 0 < k) : (enil k).Wf := (line_wf k).evert (line_all (by omega))
theorem enil_all (hk : 0 < k) (hu : u < k) : (enil k).par u ≠ -2 := fun e => line_all hu (((line_wf k).evert_there (line_all (by omega))).1 e)
theorem enil_par (hi : i < k) : (enil k).par i = if i = k - 1 then -1 else ((i + 1 : Nat) : Int) := by
  have e := seg_split (a := i) (b := k - 1) (by omega)
  have nd := ((line_wf k).spec (line_all (k := k) (u := k - 1) (by omega))).nodup
  rw [line_up (by omega), e] at nd
  show turn (line k).par (-1) ((line k).up (k - 1)) i = _
  rw [line_up (by omega), e, turn_at nd]
  by_cases h : i = k - 1
  · subst h; simp
  · rw [if_neg, if_neg h]
    · rw [show k - 1 - i = (k - 1 - i - 1) + 1 from by omega, List.range'_succ, List.reverse_cons, lastI_snoc]
    · intro e0
      have := congrArg List.length e0
      simp at this
      omega
theorem enil_up : ∀ (n : Nat) {i : Nat}, i < k → k - 1 - i = n → (enil k).up i = List.range' i (k - i)
  | 0, i, hi, hn => by
    have : i = k - 1 := by omega
    rw [(enil_wf (by omega)).up_root (by rw [enil_par hi, if_pos this]), show k - i = 1 from by omega]; rfl
  | n + 1, i, hi, hn => by
    rw [(enil_wf (by omega)).up_step (by rw [enil_par hi, if_neg (by omega)]), enil_up n (by omega) (by omega), show k - i = (k - (i + 1)) + 1 from by omega, List.range'_succ]
theorem enil_meet (hab : a ≤ b) (hb : b < k) : Meet ((enil k).up b) ((enil k).up a) b [] (List.range' a (b - a)) (List.range' (b + 1) (k - b - 1)) := by
  have eb : (enil k).up b = b :: List.range' (b + 1) (k - b - 1) := by rw [enil_up _ hb rfl, show k - b = (k - b - 1) + 1 from by omega, List.range'_succ]; simp
  refine ⟨eb, ?_, by simp, fun y hy => ?_⟩
  · rw [enil_up _ (by omega) rfl, ← List.range'_succ, show k - a = (b - a) + (k - b - 1 + 1) from by omega, ← List.range'_append_1, show a + (b - a) = b from by omega]
  · rw [List.mem_range'_1] at hy
    rw [eb]
    simp
    omega
theorem enil_wt (h : i < k) : (enil k).wt i = (i : Int) := line_wt h
theorem enil_path (hab : a ≤ b) (hb : b < k) : Seg a b ((enil k).pathI b a) ∧ (enil k).sameI b a = true ∧ (enil k).lcaI a b = b := by
  have hm := enil_meet hab hb
  refine ⟨?_, (enil_wf (by omega)).same_nat hm, ?_⟩
  · rw [Tr.pathI, Tr.wayI, Tr.upI_nat, Tr.upI_nat, hm.way]
    refine seg_of hab ?_ (fun x hx => enil_wt (by omega))
    rw [List.nil_append, show List.range' a (b - a + 1) = List.range' a (b - a) ++ [b] from by rw [← List.range'_append_1, show a + (b - a) = b from by omega]; rfl]
    exact (List.perm_append_singleton b _).symm
  · rw [Tr.lcaI, Tr.upI_nat, Tr.upI_nat, hm.symm.lca]
theorem enil_top (hk : 0 < k) : (enil k).par (k - 1) = -1 := by rw [enil_par (by omega), if_pos rfl]
theorem enil_root (ha : a < k) : (enil k).rootI a = (k : Int) - 1 := by
  have hk : 0 < k := by omega
  have := ((enil_wf hk).root_mem (enil_top hk) a).1 (by rw [enil_up _ ha rfl, List.mem_range'_1]; omega)
  rw [this]; omega
theorem enil_size (hb : b < k) : (enil k).sizeI b = k := by
  rw [Tr.sizeI, enil_root hb]
  have := one_root (enil_wf (k := k) (by omega)) (fun u hu => enil_all (by omega) hu) (enil_top (k := k) (by omega)) (fun u hu hne => by
    rw [enil_par (k := k) hu, if_neg hne]; omega)
  rw [show (k : Int) - 1 = ((k - 1 : Nat) : Int) from by omega, this]; rfl
theorem enil_sub (ha : a < k) : ((enil k).subI a).c = (a : Int) + 1 ∧ 2 * ((enil k).subI a).s = (a : Int) * ((a : Int) + 1) := by
  obtain ⟨h1, h2⟩ := Tr.subI_tot (T := enil k) (enil_all (by omega) ha)
  obtain ⟨g1, g2⟩ := sumTo_le a k ha
  have hmem : ∀ u, u < k → (a ∈ (enil k).up u ↔ u ≤ a) := fun u hu => by rw [enil_up _ hu rfl, List.mem_range'_1]; omega
  constructor
  · rw [h1, ← g1]
    refine sumTo_congr fun u hu => ?_
    simp only [hmem u hu]
  · rw [h2, ← g2]
    congr 1
    refine sumTo_congr fun u hu => ?_
    simp only [hmem u hu]
    rw [enil_wt (k := k) hu]; rfl
end
end Go.Proofs.Ytjnkgakajenoaaa
