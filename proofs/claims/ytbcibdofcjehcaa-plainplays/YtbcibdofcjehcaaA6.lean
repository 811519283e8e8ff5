/- What is at or below a node is the node, and what is at or below each of its kids: plain mathematics. -/
import Derived.Test.YtbcibdofcjehcaaA3
namespace Go.Proofs.Ytbcibdofcjehcaa
set_option linter.unusedVariables false
set_option linter.unusedSimpArgs false

def sumTo (F : Nat → Int) : Nat → Int
  | 0 => 0
  | m + 1 => sumTo F m + F m
theorem sumTo_congr {F G : Nat → Int} : ∀ {m : Nat}, (∀ i, i < m → F i = G i) → sumTo F m = sumTo G m
  | 0, _ => rfl
  | m + 1, h => by rw [sumTo, sumTo, sumTo_congr (fun i hi => h i (by omega)), h m (by omega)]
theorem sumTo_add (F G : Nat → Int) : ∀ m, sumTo (fun i => F i + G i) m = sumTo F m + sumTo G m
  | 0 => rfl
  | m + 1 => by rw [sumTo, sumTo, sumTo, sumTo_add F G m]; omega
theorem sumTo_zero : ∀ m, sumTo (fun _ => 0) m = 0
  | 0 => rfl
  | m + 1 => by rw [sumTo, sumTo_zero m]; rfl
theorem sumTo_one : ∀ m : Nat, sumTo (fun _ => 1) m = (m : Int)
  | 0 => rfl
  | m + 1 => by rw [sumTo, sumTo_one m]; omega
theorem sumTo_comm (F : Nat → Nat → Int) (n : Nat) : ∀ m, sumTo (fun i => sumTo (fun j => F i j) n) m = sumTo (fun j => sumTo (fun i => F i j) m) n
  | 0 => (sumTo_zero n).symm
  | m + 1 => by
    rw [sumTo, sumTo_comm F n m, ← sumTo_add]
    rfl
theorem sumTo_single {k : Nat} {x : Int} : ∀ {m : Nat}, k < m → sumTo (fun i => if i = k then x else 0) m = x
  | 0, h => by omega
  | m + 1, h => by
    rw [sumTo]
    by_cases e : m = k
    · subst e
      rw [sumTo_congr (G := fun _ => 0) (fun i hi => by rw [if_neg (by omega)]), sumTo_zero]
      simp
    · rw [sumTo_single (by omega), if_neg e]; omega
theorem sumTo_bd {F : Nat → Int} {lo hi : Int} (h0 : lo ≤ 0) (h1 : 0 ≤ hi) : ∀ {m : Nat}, (∀ i, i < m → lo ≤ F i ∧ F i ≤ hi) → (m : Int) * lo ≤ sumTo F m ∧ sumTo F m ≤ (m : Int) * hi
  | 0, _ => by simp [sumTo]
  | m + 1, h => by
    have i1 := sumTo_bd h0 h1 (m := m) (fun i hi => h i (by omega))
    have i2 := h m (by omega)
    rw [sumTo]
    have e1 : ((m + 1 : Nat) : Int) * lo = (m : Int) * lo + lo := by rw [Int.natCast_add, Int.add_mul]; simp
    have e2 : ((m + 1 : Nat) : Int) * hi = (m : Int) * hi + hi := by rw [Int.natCast_add, Int.add_mul]; simp
    omega

theorem ofR_cons_s (n : Int) (l : List Int) : (ofR (n :: l)).s = n + (ofR l).s := by
  rw [ofR, jn, if_neg (by simp [one])]
  split
  · rename_i h
    have := (ok_ofR l).2 h
    rw [this]; simp [one, zero]
  · rfl
theorem ofR_append_s (l m : List Int) : (ofR (l ++ m)).s = (ofR l).s + (ofR m).s := by
  induction l with
  | nil => simp [ofR, zero]
  | cons n l ih => rw [List.cons_append, ofR_cons_s, ofR_cons_s, ih]; omega
theorem filter_sum (p : Nat → Bool) (g : Nat → Int) : ∀ m, (ofL (((List.range m).filter p).map g)).s = sumTo (fun u => if p u then g u else 0) m
  | 0 => by simp [sumTo, ofL, zero]
  | m + 1 => by
    rw [sumTo, ← filter_sum p g m, List.range_succ, List.filter_append, List.map_append, ofL_eq, ofL_eq, ofR_append_s]
    congr 1
    by_cases h : p m = true <;> simp [h, ofR, zero, jn, one]
theorem filter_count (p : Nat → Bool) : ∀ m, (((List.range m).filter p).length : Int) = sumTo (fun u => if p u then 1 else 0) m
  | 0 => rfl
  | m + 1 => by
    rw [sumTo, ← filter_count p m, List.range_succ, List.filter_append, List.length_append]
    by_cases h : p m = true <;> simp [h]

section
variable {T : Tr} {u v k : Nat}
/-- What a number given to each node comes to, at or below v. -/
def Tr.tot (T : Tr) (h : Nat → Int) (v : Nat) : Int := sumTo (fun u => if v ∈ T.up u then h u else 0) T.n
theorem Tr.subI_tot (hv : T.par v ≠ -2) : (T.subI v).c = T.tot (fun _ => 1) v ∧ (T.subI v).s = T.tot T.wt v := by
  rw [Tr.subI_c hv, Tr.subI_nat hv]
  unfold Tr.sub Tr.tot
  rw [filter_sum, filter_count]
  constructor
  · refine sumTo_congr fun i _ => ?_
    by_cases h : v ∈ T.up i <;> simp [h]
  · refine sumTo_congr fun i _ => ?_
    by_cases h : v ∈ T.up i <;> simp [h]
/-- The kid of v on a way up. -/
theorem Tr.Wf.kid_on (h : T.Wf) (hm : v ∈ T.up u) (hne : u ≠ v) : ∃ k0, ∀ k, (T.par k = (v : Int) ∧ k ∈ T.up u) ↔ k = k0 := by
  obtain ⟨a, b, e⟩ := List.append_of_mem hm
  have hu := h.spec (Tr.there hm)
  have ha : a ≠ [] := fun e0 => by
    subst e0
    obtain ⟨t, e'⟩ := hu.head
    rw [e] at e'
    simp at e'
    exact hne e'.1.symm
  have e2 : a = a.dropLast ++ [a.getLast ha] := (List.dropLast_concat_getLast ha).symm
  have hv := h.tail e
  refine ⟨a.getLast ha, fun k => ⟨fun ⟨h1, h2⟩ => ?_, fun hk => ?_⟩⟩
  · have hk := h.up_step h1
    rw [hv] at hk
    obtain ⟨a', b', e'⟩ := List.append_of_mem h2
    have h3 := h.tail e'
    rw [hk] at h3
    simp at h3
    rw [e, ← h3] at e'
    have e4 : a ++ v :: b = (a' ++ [k]) ++ v :: b := by rw [e']; simp
    have e5 := List.append_cancel_right e4
    clear e e2 e4 e'
    subst e5
    simp
  · subst hk
    generalize a.dropLast = a', a.getLast ha = y at *
    subst e2
    rw [List.append_assoc] at e
    have h3 := h.tail (x := y) (a := a') (b := v :: b) (by rw [e]; rfl)
    have h4 := h.spec (v := y) (Tr.there (x := y) (by rw [h3]; simp))
    rw [h3] at h4
    rcases h4.next with ⟨_, e3⟩ | ⟨q, hq, hq'⟩
    · simp at e3
    · obtain ⟨t, e4⟩ := hq'.head
      simp at e4
      exact ⟨by rw [hq, e4.1], by rw [e]; simp⟩
theorem Tr.Wf.kid_off (h : T.Wf) (hn : v ∉ T.up u ∨ u = v) : ¬ (T.par k = (v : Int) ∧ k ∈ T.up u) := fun ⟨h1, h2⟩ => by
  have hk := h.up_step h1
  have hvt := h.par_there h1
  have hvk : v ∈ T.up k := by rw [hk]; exact List.mem_cons_of_mem _ (h.self hvt)
  rcases hn with hn | rfl
  · exact hn (h.trans h2 hvk)
  · obtain ⟨a, b, e⟩ := List.append_of_mem h2
    have h3 := h.tail e
    rw [hk] at h3
    simp at h3
    rw [h3] at e
    have := congrArg List.length e
    simp at this
    omega
theorem Tr.Wf.tot_kids (h : T.Wf) (hv : T.par v ≠ -2) (g : Nat → Int) : T.tot g v = g v + sumTo (fun k => if T.par k = (v : Int) then T.tot g k else 0) T.n := by
  have e1 : sumTo (fun k => if T.par k = (v : Int) then T.tot g k else 0) T.n = sumTo (fun u => sumTo (fun k => if T.par k = (v : Int) ∧ k ∈ T.up u then g u else 0) T.n) T.n := by
    rw [← sumTo_comm]
    refine sumTo_congr fun k _ => ?_
    by_cases hk : T.par k = (v : Int)
    · simp [hk, Tr.tot]
    · simp [hk, sumTo_zero]
  have e2 : ∀ u, u < T.n → sumTo (fun k => if T.par k = (v : Int) ∧ k ∈ T.up u then g u else 0) T.n = if v ∈ T.up u ∧ u ≠ v then g u else 0 := fun u _ => by
    by_cases hc : v ∈ T.up u ∧ u ≠ v
    · rw [if_pos hc]
      obtain ⟨k0, hk0⟩ := h.kid_on hc.1 hc.2
      have hlt : k0 < T.n := h.lt k0 (by have := ((hk0 k0).2 rfl).1; omega)
      exact (sumTo_congr fun k _ => by simp only [hk0]).trans (sumTo_single hlt)
    · rw [if_neg hc]
      refine (sumTo_congr (G := fun _ => 0) fun k _ => if_neg (h.kid_off ?_)).trans (sumTo_zero T.n)
      by_cases hm : v ∈ T.up u
      · right; exact Classical.byContradiction fun hne => hc ⟨hm, hne⟩
      · exact .inl hm
  rw [e1, sumTo_congr e2, Tr.tot]
  have e3 := sumTo_single (x := g v) (h.lt v hv)
  refine Eq.trans ?_ (congrArg (· + sumTo (fun u => if v ∈ T.up u ∧ u ≠ v then g u else 0) T.n) e3)
  rw [← sumTo_add]
  refine sumTo_congr fun u _ => ?_
  by_cases e : u = v
  · subst e; simp [h.self hv]
  · by_cases hm : v ∈ T.up u <;> simp [e, hm]
theorem Tr.Wf.tot_roots (h : T.Wf) (hall : ∀ u, u < T.n → T.par u ≠ -2) : sumTo (fun r => if T.par r = -1 then T.tot (fun _ => 1) r else 0) T.n = T.n := by
  have e1 : sumTo (fun r => if T.par r = -1 then T.tot (fun _ => 1) r else 0) T.n = sumTo (fun u => sumTo (fun r => if T.par r = -1 ∧ r ∈ T.up u then 1 else 0) T.n) T.n := by
    rw [← sumTo_comm]
    refine sumTo_congr fun k _ => ?_
    by_cases hk : T.par k = -1
    · simp [hk, Tr.tot]
    · simp [hk, sumTo_zero]
  rw [e1, ← sumTo_one T.n]
  refine sumTo_congr fun u hu => ?_
  obtain ⟨r, er, h1, h2⟩ := h.rootN (hall u hu)
  refine Eq.trans (sumTo_congr fun k _ => ?_) (sumTo_single (x := 1) (h.lt r (by omega)))
  have : (T.par k = -1 ∧ k ∈ T.up u) ↔ k = r := by
    constructor
    · rintro ⟨h3, h4⟩
      have := (h.root_mem h3 u).1 h4
      omega
    · rintro rfl; exact ⟨h1, h2⟩
  simp only [this]
end
end Go.Proofs.Ytbcibdofcjehcaa
namespace Go.Proofs.Ytbcibdofcjehcaa
/-- What the law reckons of the kids. -/
def kidC (T : Tr) (v : Nat) : Nat → Int := fun k => if T.par k = (v : Int) then (T.subI k).c else 0
def kidS (T : Tr) (v : Nat) : Nat → Int := fun k => if T.par k = (v : Int) then (T.subI k).s else 0
def rootC (T : Tr) : Nat → Int := fun r => if T.par r = -1 then (T.subI r).c else 0
section
variable {T : Tr} {u v k : Nat}
theorem Tr.Wf.sub_kids (h : T.Wf) (hall : ∀ u, u < T.n → T.par u ≠ -2) (hv : v < T.n) : (T.subI v).c = 1 + sumTo (kidC T v) T.n ∧ (T.subI v).s = T.wt v + sumTo (kidS T v) T.n := by
  obtain ⟨h1, h2⟩ := Tr.subI_tot (hall v hv)
  rw [h1, h2, h.tot_kids (hall v hv), h.tot_kids (hall v hv) T.wt]
  constructor
  · congr 1
    refine sumTo_congr fun k hk => ?_
    unfold kidC
    rw [(Tr.subI_tot (hall k hk)).1]
  · congr 1
    refine sumTo_congr fun k hk => ?_
    unfold kidS
    rw [(Tr.subI_tot (hall k hk)).2]
theorem Tr.Wf.sub_roots (h : T.Wf) (hall : ∀ u, u < T.n → T.par u ≠ -2) : sumTo (rootC T) T.n = T.n := by
  rw [← h.tot_roots hall]
  refine sumTo_congr fun r hr => ?_
  unfold rootC
  rw [(Tr.subI_tot (hall r hr)).1]
theorem Tr.sub_bd (hn : T.n ≤ 30) (hw : ∀ u, -32768 ≤ T.wt u ∧ T.wt u ≤ 32767) (hv : T.par v ≠ -2) : 0 ≤ (T.subI v).c ∧ (T.subI v).c ≤ 30 ∧ -1000000 ≤ (T.subI v).s ∧ (T.subI v).s ≤ 1000000 := by
  have hc := Tr.sub_le hv
  have hs := (Tr.subI_tot hv).2
  have := sumTo_bd (F := fun u => if v ∈ T.up u then T.wt u else 0) (lo := -32768) (hi := 32767) (by omega) (by omega) (m := T.n) (fun i _ => by
    have := hw i
    by_cases hm : v ∈ T.up i <;> simp [hm] <;> omega)
  unfold Tr.tot at hs
  omega
theorem Tr.kid_bd (hn : T.n ≤ 30) (hw : ∀ u, -32768 ≤ T.wt u ∧ T.wt u ≤ 32767) (hall : ∀ u, u < T.n → T.par u ≠ -2) {m : Nat} (hm : m ≤ T.n) :
    (0 ≤ sumTo (kidC T v) m ∧ sumTo (kidC T v) m ≤ 900) ∧ (-30000000 ≤ sumTo (kidS T v) m ∧ sumTo (kidS T v) m ≤ 30000000) ∧ (0 ≤ sumTo (rootC T) m ∧ sumTo (rootC T) m ≤ 900) := by
  have b := fun k (hk : k < m) => Tr.sub_bd hn hw (hall k (by omega))
  have h1 := sumTo_bd (F := kidC T v) (lo := 0) (hi := 30) (by omega) (by omega) (m := m) (fun i hi => by
    have := b i hi
    unfold kidC; split <;> omega)
  have h2 := sumTo_bd (F := kidS T v) (lo := -1000000) (hi := 1000000) (by omega) (by omega) (m := m) (fun i hi => by
    have := b i hi
    unfold kidS; split <;> omega)
  have h3 := sumTo_bd (F := rootC T) (lo := 0) (hi := 30) (by omega) (by omega) (m := m) (fun i hi => by
    have := b i hi
    unfold rootC; split <;> omega)
  omega
theorem Tr.Wf.root_ne (h : T.Wf) (hv : T.par v ≠ -2) (hr : T.par v ≠ -1) : T.rootI v ≠ v := fun e => hr ((h.root_iff hv).1 e).2
end
end Go.Proofs.Ytbcibdofcjehcaa
