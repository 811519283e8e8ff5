/- The program's forest (part 12 of its contracts and the laws' common texts). -/
import Derived.Test.YtjnkgakajenoaaaL11
/- Two objects of a law's own: the program's forest, and another one, beside blocks that neither touches. -/

namespace Go.Proofs.Ytjnkgakajenoaaa
open Go.RowKit Go.Arb
set_option linter.unusedVariables false
set_option linter.unusedSimpArgs false

structure Lies (R : World → Nat → Tr → List Nat → Prop) : Prop where
  lt : ∀ {W : World} {q : Nat} {T : Tr} {ks : List Nat}, R W q T ks → ∀ k ∈ ks, k < W.heap.size
  keep : ∀ {W W' : World} {q : Nat} {T : Tr} {ks js : List Nat}, R W q T ks → Keep js W W' → Off ks js → R W' q T ks
theorem At.lies : Lies At := ⟨fun h => h.lt, fun h hk ho => h.keep hk ho⟩

structure Ob2 (R : World → Nat → Tr → List Nat → Prop) (w W : World) (p q : Nat) (T T' : Tr) (js : List Nat) : Prop where
  bel : Below w.heap.size w W
  ex : ∃ ks ls, At W p T ks ∧ R W q T' ls ∧ (∀ k ∈ ks, w.heap.size ≤ k) ∧ (∀ k ∈ ls, w.heap.size ≤ k) ∧ Off ks ls ∧ ∀ j ∈ js, j ∉ ks ∧ j ∉ ls
  jl : ∀ j ∈ js, j < W.heap.size

section
variable {R : World → Nat → Tr → List Nat → Prop} {w W W' : World} {p q : Nat} {T T' T2 : Tr} {js : List Nat}
theorem Ob2.wf (h : Ob2 R w W p q T T' js) : T.Wf := by obtain ⟨ks, ls, h1, _⟩ := h.ex; exact h1.wf
theorem Ob2.fit (h : Ob2 R w W p q T T' js) : T.Fit := by obtain ⟨ks, ls, h1, _⟩ := h.ex; exact h1.fit
theorem Ob2.fst (hR : Lies R) {f : Nat} {args : Array Value} {r : Value} (h : Ob2 R w W p q T T' js)
    (hc : ∀ ks, At W p T ks → Calls Try.prog f args W fun e W' => e = .returned r ∧ ∃ ks', At W' p T2 ks' ∧ Keep ks W W' ∧ Grew W ks ks') :
    Calls Try.prog f args W fun e W' => e = .returned r ∧ Ob2 R w W' p q T2 T' js ∧ Kept js W W' := by
  obtain ⟨ks, ls, h1, h2, h3, h4, h5, h6⟩ := h.ex
  refine (hc ks h1).mono ?_
  rintro e W' ⟨rfl, ks', q1, q2, q3⟩
  refine ⟨rfl, ⟨q2.below h.bel h.bel.size h3, ⟨ks', ls, q1, hR.keep h2 q2 h5.symm, ge_grew h3 h.bel.size q3, h4, ((h5.symm).grew (fun k hk => hR.lt h2 k hk) q3).symm, fun j hj => ⟨fun hm => ?_, (h6 j hj).2⟩⟩, fun j hj => Nat.lt_of_lt_of_le (h.jl j hj) q2.size⟩, fun j hj => q2.block j (h.jl j hj) (h6 j hj).1⟩
  rcases q3 j hm with h7 | h7
  · exact (h6 j hj).1 h7
  · have := h.jl j hj; omega
theorem Ob2.snd (hR : Lies R) {f : Nat} {args : Array Value} {r : Value} (h : Ob2 R w W p q T T' js)
    (hc : ∀ ks, R W q T' ks → Calls Try.prog f args W fun e W' => e = .returned r ∧ ∃ ks', R W' q T2 ks' ∧ Keep ks W W' ∧ Grew W ks ks') :
    Calls Try.prog f args W fun e W' => e = .returned r ∧ Ob2 R w W' p q T T2 js ∧ Kept js W W' := by
  obtain ⟨ks, ls, h1, h2, h3, h4, h5, h6⟩ := h.ex
  refine (hc ls h2).mono ?_
  rintro e W' ⟨rfl, ls', q1, q2, q3⟩
  refine ⟨rfl, ⟨q2.below h.bel h.bel.size h4, ⟨ks, ls', h1.keep q2 h5, q1, h3, ge_grew h4 h.bel.size q3, h5.grew (fun k hk => h1.lt k hk) q3, fun j hj => ⟨(h6 j hj).1, fun hm => ?_⟩⟩, fun j hj => Nat.lt_of_lt_of_le (h.jl j hj) q2.size⟩, fun j hj => q2.block j (h.jl j hj) (h6 j hj).2⟩
  rcases q3 j hm with h7 | h7
  · exact (h6 j hj).2 h7
  · have := h.jl j hj; omega
theorem Ob2.below (hR : Lies R) (h : Ob2 R w W p q T T' js) (hb : Below W.heap.size W W') : Ob2 R w W' p q T T' js ∧ Kept js W W' := by
  obtain ⟨ks, ls, h1, h2, h3, h4, h5, h6⟩ := h.ex
  exact ⟨⟨h.bel.trans (hb.mono h.bel.size), ⟨ks, ls, h1.below hb, hR.keep h2 (Keep.ofBelow hb []) (fun _ _ => by simp), h3, h4, h5, h6⟩, fun j hj => Nat.lt_of_lt_of_le (h.jl j hj) hb.size⟩, fun j hj => hb.block j (h.jl j hj)⟩
theorem Ob2.drewN (hR : Lies R) (h : Ob2 R w W p q T T' js) (m : Nat) : Ob2 R w (W.drewN m) p q T T' js := (h.below hR (below_drewN (Below.refl _ _) m)).1
theorem Ob2.alloc (hR : Lies R) (h : Ob2 R w W p q T T' js) (o : Obj) : Ob2 R w (W.alloc o) p q T T' js ∧ Kept js W (W.alloc o) := h.below hR ((Below.refl _ _).alloc (Nat.le_refl _) o)
theorem Ob2.push (hR : Lies R) (h : Ob2 R w W p q T T' js) (o : Obj) : Ob2 R w (W.alloc o) p q T T' (W.heap.size :: js) := by
  have h' := (h.alloc hR o).1
  obtain ⟨ks, ls, h1, h2, h3, h4, h5, h6⟩ := h.ex
  have hb := (Below.refl W.heap.size W).alloc (Nat.le_refl _) o
  refine ⟨h'.bel, ⟨ks, ls, h1.below hb, hR.keep h2 (Keep.ofBelow hb []) (fun _ _ => by simp), h3, h4, h5, fun j hj => ?_⟩, fun j hj => ?_⟩
  · rcases List.mem_cons.1 hj with rfl | hj
    · exact ⟨fun hm => by have := h1.lt _ hm; omega, fun hm => by have := hR.lt h2 _ hm; omega⟩
    · exact h6 j hj
  · rcases List.mem_cons.1 hj with rfl | hj
    · simp
    · exact h'.jl j hj
theorem Ob2.less {is : List Nat} (h : Ob2 R w W p q T T' js) (hs : ∀ j ∈ is, j ∈ js) : Ob2 R w W p q T T' is := by
  obtain ⟨ks, ls, h1, h2, h3, h4, h5, h6⟩ := h.ex
  exact ⟨h.bel, ⟨ks, ls, h1, h2, h3, h4, h5, fun j hj => h6 j (hs j hj)⟩, fun j hj => h.jl j (hs j hj)⟩
/-- A second object is made. -/
theorem Ob.pair (h : Ob w W p T js) {ls : List Nat} (hb : Below W.heap.size W W') (hr : R W' q T' ls) (hl : ∀ k ∈ ls, W.heap.size ≤ k) : Ob2 R w W' p q T T' js ∧ Kept js W W' := by
  obtain ⟨h', hk⟩ := h.below hb
  obtain ⟨ks, h1, h2, h3⟩ := h.ex
  refine ⟨⟨h'.bel, ⟨ks, ls, h1.below hb, hr, h2, fun k hk => Nat.le_trans h.bel.size (hl k hk), fun k hk hm => ?_, fun j hj => ⟨h3 j hj, fun hm => ?_⟩⟩, h'.jl⟩, hk⟩
  · have := h1.lt k hk
    have := hl k hm
    omega
  · have := h.jl j hj
    have := hl j hm
    omega
theorem o2New (h : Ob w W p T js) (n : Nat) (h1 : n ≤ 1048576) :
    Calls Try.prog 14 #[.int .i64 (n : Int)] W fun e W' => ∃ q, e = .returned (.pointer (some ⟨q, 0, none⟩)) ∧ Ob2 At w W' p q T (Tr.new n) js ∧ Kept js W W' := by
  refine (aNew n W h1).mono ?_
  rintro e W' ⟨q, ls, rfl, q1, q2, q3⟩
  exact ⟨q, rfl, h.pair q2 q1 q3⟩
end
end Go.Proofs.Ytjnkgakajenoaaa
/- A forest whose links are made from the last one on: plain mathematics. -/

namespace Go.Proofs.Ytjnkgakajenoaaa
set_option linter.unusedVariables false
set_option linter.unusedSimpArgs false

/-- The links of those behind i alone. -/
def hiF (f : Nat → Int) (i : Nat) : Nat → Int := fun j => if i < j then f j else -1
theorem hiF_low {f : Nat → Int} (hf : Low f) (i : Nat) : Low (hiF f i) := fun j => by
  unfold hiF
  split
  · exact hf j
  · exact .inl rfl
theorem hiF_zero {f : Nat → Int} (h0 : f 0 = -1) : hiF f 0 = f := by
  funext j
  unfold hiF
  split
  · rfl
  · rw [show j = 0 by omega, h0]
theorem hiF_top {n : Nat} (f g : Nat → Int) : gr n n (fun _ => -1) g = gr n n (hiF f (n - 1)) g := by
  simp only [gr]
  congr 1
  funext j
  by_cases h : j < n
  · simp only [h, if_true, hiF]; rw [if_neg (by omega)]
  · simp [h]
theorem gr_getI {n i : Nat} {f g : Nat → Int} (hf : Low f) (h : i < n) : (gr n n f g).getI i = g i := by
  rw [Tr.getI, if_pos (Tr.hasI_there (gr_there hf h)), Int.toNat_natCast, gr_wt h]
theorem hi_linkB {n i j : Nat} {f g : Nat → Int} (hf : Low f) (hi : i < n) (hj : j < i) : (gr n n (hiF f i) g).linkB i j = true := by
  have hl := hiF_low hf i
  have hw := gr_wf (g := g) hl (Nat.le_refl n)
  have hip : (gr n n (hiF f i) g).par i = -1 := by rw [gr_par hi]; simp [hiF]
  have hjp : (gr n n (hiF f i) g).par j = -1 := by rw [gr_par (by omega)]; simp [hiF]; omega
  rw [hw.linkB_iff hip (by omega), (hw.same_root hip (by omega)).2 (by rw [hw.up_root hjp]; simp; omega)]
  rfl
theorem hi_link {n i j : Nat} {f g : Nat → Int} (hi : 0 < i) (hin : i < n) (h : f i = (j : Int)) : (gr n n (hiF f i) g).link i j = gr n n (hiF f (i - 1)) g := by
  simp only [gr, Tr.link]
  congr 1
  funext u
  by_cases e : u = i
  · subst e; simp only [updF, if_true, hin]; rw [hiF, if_pos (by omega), h]
  · simp only [updF, e, if_false, hiF]
    by_cases hu : u < n
    · simp only [hu, if_true]; congr 1; rw [eq_iff_iff]; omega
    · simp [hu]
theorem hi_root {n i : Nat} {f g : Nat → Int} (hi : 0 < i) (h : f i = -1) : gr n n (hiF f i) g = gr n n (hiF f (i - 1)) g := by
  have : hiF f i = hiF f (i - 1) := by
    funext u
    unfold hiF
    by_cases e : u = i
    · subst e; rw [if_neg (by omega), if_pos (by omega), h]
    · congr 1; rw [eq_iff_iff]; omega
  rw [this]
theorem all_root {n m : Nat} {g : Nat → Int} : gr n (m + 1) (updF (fun _ => -1) m (-1)) g = gr n (m + 1) (fun _ => -1) g := gr_root rfl
theorem all_low : Low (fun _ => -1) := fun _ => .inl rfl
end Go.Proofs.Ytjnkgakajenoaaa
/- What is at or below a node is the node, and what is at or below each of its kids: plain mathematics. -/

namespace Go.Proofs.Ytjnkgakajenoaaa
set_option linter.unusedVariables false
set_option linter.unusedSimpArgs false

def sumTo (F : Nat → Int) : Nat → Int
  | 0 => 0
  | m + 1 => sumTo F m + F m
theorem sumTo_congr {F G : Nat → Int} : ∀ {m : Nat}, (∀ i, i < m → F i = G i) → sumTo F m = sumTo G m
  | 0, _ => rfl
  | m + 1, h => by rw [sumTo, sumTo, sumTo_congr (fun i hi => h i (by omega)), h m (by omega)]
theorem sumTo_add (F G : Nat → Int) : ∀ m, sumTo (fun i => F i + G i) m = sumTo F m + sumTo G m
  | 0 => rfl
  | m + 1 => by rw [sumTo, sumTo, sumTo, sumTo_add F G m]; omega
theorem sumTo_zero : ∀ m, sumTo (fun _ => 0) m = 0
  | 0 => rfl
  | m + 1 => by rw [sumTo, sumTo_zero m]; rfl
theorem sumTo_one : ∀ m : Nat, sumTo (fun _ => 1) m = (m : Int)
  | 0 => rfl
  | m + 1 => by rw [sumTo, sumTo_one m]; omega
theorem sumTo_comm (F : Nat → Nat → Int) (n : Nat) : ∀ m, sumTo (fun i => sumTo (fun j => F i j) n) m = sumTo (fun j => sumTo (fun i => F i j) m) n
  | 0 => (sumTo_zero n).symm
  | m + 1 => by
    rw [sumTo, sumTo_comm F n m, ← sumTo_add]
    rfl
theorem sumTo_single {k : Nat} {x : Int} : ∀ {m : Nat}, k < m → sumTo (fun i => if i = k then x else 0) m = x
  | 0, h => by omega
  | m + 1, h => by
    rw [sumTo]
    by_cases e : m = k
    · subst e
      rw [sumTo_congr (G := fun _ => 0) (fun i hi => by rw [if_neg (by omega)]), sumTo_zero]
      simp
    · rw [sumTo_single (by omega), if_neg e]; omega
theorem sumTo_bd {F : Nat → Int} {lo hi : Int} (h0 : lo ≤ 0) (h1 : 0 ≤ hi) : ∀ {m : Nat}, (∀ i, i < m → lo ≤ F i ∧ F i ≤ hi) → (m : Int) * lo ≤ sumTo F m ∧ sumTo F m ≤ (m : Int) * hi
  | 0, _ => by simp [sumTo]
  | m + 1, h => by
    have i1 := sumTo_bd h0 h1 (m := m) (fun i hi => h i (by omega))
    have i2 := h m (by omega)
    rw [sumTo]
    have e1 : ((m + 1 : Nat) : Int) * lo = (m : Int) * lo + lo := by rw [Int.natCast_add, Int.add_mul]; simp
    have e2 : ((m + 1 : Nat) : Int) * hi = (m : Int) * hi + hi := by rw [Int.natCast_add, Int.add_mul]; simp
    omega

theorem ofR_cons_s (n : Int) (l : List Int) : (ofR (n :: l)).s = n + (ofR l).s := by
  rw [ofR, jn, if_neg (by simp [one])]
  split
  · rename_i h
    have := (ok_ofR l).2 h
    rw [this]; simp [one, zero]
  · rfl
theorem ofR_append_s (l m : List Int) : (ofR (l ++ m)).s = (ofR l).s + (ofR m).s := by
  induction l with
  | nil => simp [ofR, zero]
  | cons n l ih => rw [List.cons_append, ofR_cons_s, ofR_cons_s, ih]; omega
theorem filter_sum (p : Nat → Bool) (g : Nat → Int) : ∀ m, (ofL (((List.range m).filter p).map g)).s = sumTo (fun u => if p u then g u else 0) m
  | 0 => by simp [sumTo, ofL, zero]
  | m + 1 => by
    rw [sumTo, ← filter_sum p g m, List.range_succ, List.filter_append, List.map_append, ofL_eq, ofL_eq, ofR_append_s]
    congr 1
    by_cases h : p m = true <;> simp [h, ofR, zero, jn, one]
theorem filter_count (p : Nat → Bool) : ∀ m, (((List.range m).filter p).length : Int) = sumTo (fun u => if p u then 1 else 0) m
  | 0 => rfl
  | m + 1 => by
    rw [sumTo, ← filter_count p m, List.range_succ, List.filter_append, List.length_append]
    by_cases h : p m = true <;> simp [h]

section
variable {T : Tr} {u v k : Nat}
/-- What a number given to each node comes to, at or below v. -/
def Tr.tot (T : Tr) (h : Nat → Int) (v : Nat) : Int := sumTo (fun u => if v ∈ T.up u then h u else 0) T.n
theorem Tr.subI_tot (hv : T.par v ≠ -2) : (T.subI v).c = T.tot (fun _ => 1) v ∧ (T.subI v).s = T.tot T.wt v := by
  rw [Tr.subI_c hv, Tr.subI_nat hv]
  unfold Tr.sub Tr.tot
  rw [filter_sum, filter_count]
  constructor
  · refine sumTo_congr fun i _ => ?_
    by_cases h : v ∈ T.up i <;> simp [h]
  · refine sumTo_congr fun i _ => ?_
    by_cases h : v ∈ T.up i <;> simp [h]
/-- The kid of v on a way up. -/
theorem Tr.Wf.kid_on (h : T.Wf) (hm : v ∈ T.up u) (hne : u ≠ v) : ∃ k0, ∀ k, (T.par k = (v : Int) ∧ k ∈ T.up u) ↔ k = k0 := by
  obtain ⟨a, b, e⟩ := List.append_of_mem hm
  have hu := h.spec (Tr.there hm)
  have ha : a ≠ [] := fun e0 => by
    subst e0
    obtain ⟨t, e'⟩ := hu.head
    rw [e] at e'
    simp at e'
    exact hne e'.1.symm
  have e2 : a = a.dropLast ++ [a.getLast ha] := (List.dropLast_concat_getLast ha).symm
  have hv := h.tail e
  refine ⟨a.getLast ha, fun k => ⟨fun ⟨h1, h2⟩ => ?_, fun hk => ?_⟩⟩
  · have hk := h.up_step h1
    rw [hv] at hk
    obtain ⟨a', b', e'⟩ := List.append_of_mem h2
    have h3 := h.tail e'
    rw [hk] at h3
    simp at h3
    rw [e, ← h3] at e'
    have e4 : a ++ v :: b = (a' ++ [k]) ++ v :: b := by rw [e']; simp
    have e5 := List.append_cancel_right e4
    clear e e2 e4 e'
    subst e5
    simp
  · subst hk
    generalize a.dropLast = a', a.getLast ha = y at *
    subst e2
    rw [List.append_assoc] at e
    have h3 := h.tail (x := y) (a := a') (b := v :: b) (by rw [e]; rfl)
    have h4 := h.spec (v := y) (Tr.there (x := y) (by rw [h3]; simp))
    rw [h3] at h4
    rcases h4.next with ⟨_, e3⟩ | ⟨q, hq, hq'⟩
    · simp at e3
    · obtain ⟨t, e4⟩ := hq'.head
      simp at e4
      exact ⟨by rw [hq, e4.1], by rw [e]; simp⟩
theorem Tr.Wf.kid_off (h : T.Wf) (hn : v ∉ T.up u ∨ u = v) : ¬ (T.par k = (v : Int) ∧ k ∈ T.up u) := fun ⟨h1, h2⟩ => by
  have hk := h.up_step h1
  have hvt := h.par_there h1
  have hvk : v ∈ T.up k := by rw [hk]; exact List.mem_cons_of_mem _ (h.self hvt)
  rcases hn with hn | rfl
  · exact hn (h.trans h2 hvk)
  · obtain ⟨a, b, e⟩ := List.append_of_mem h2
    have h3 := h.tail e
    rw [hk] at h3
    simp at h3
    rw [h3] at e
    have := congrArg List.length e
    simp at this
    omega
theorem Tr.Wf.tot_kids (h : T.Wf) (hv : T.par v ≠ -2) (g : Nat → Int) : T.tot g v = g v + sumTo (fun k => if T.par k = (v : Int) then T.tot g k else 0) T.n := by
  have e1 : sumTo (fun k => if T.par k = (v : Int) then T.tot g k else 0) T.n = sumTo (fun u => sumTo (fun k => if T.par k = (v : Int) ∧ k ∈ T.up u then g u else 0) T.n) T.n := by
    rw [← sumTo_comm]
    refine sumTo_congr fun k _ => ?_
    by_cases hk : T.par k = (v : Int)
    · simp [hk, Tr.tot]
    · simp [hk, sumTo_zero]
  have e2 : ∀ u, u < T.n → sumTo (fun k => if T.par k = (v : Int) ∧ k ∈ T.up u then g u else 0) T.n = if v ∈ T.up u ∧ u ≠ v then g u else 0 := fun u _ => by
    by_cases hc : v ∈ T.up u ∧ u ≠ v
    · rw [if_pos hc]
      obtain ⟨k0, hk0⟩ := h.kid_on hc.1 hc.2
      have hlt : k0 < T.n := h.lt k0 (by have := ((hk0 k0).2 rfl).1; omega)
      exact (sumTo_congr fun k _ => by simp only [hk0]).trans (sumTo_single hlt)
    · rw [if_neg hc]
      refine (sumTo_congr (G := fun _ => 0) fun k _ => if_neg (h.kid_off ?_)).trans (sumTo_zero T.n)
      by_cases hm : v ∈ T.up u
      · right; exact Classical.byContradiction fun hne => hc ⟨hm, hne⟩
      · exact .inl hm
  rw [e1, sumTo_congr e2, Tr.tot]
  have e3 := sumTo_single (x := g v) (h.lt v hv)
  refine Eq.trans ?_ (congrArg (· + sumTo (fun u => if v ∈ T.up u ∧ u ≠ v then g u else 0) T.n) e3)
  rw [← sumTo_add]
  refine sumTo_congr fun u _ => ?_
  by_cases e : u = v
  · subst e; simp [h.self hv]
  · by_cases hm : v ∈ T.up u <;> simp [e, hm]
theorem Tr.Wf.tot_roots (h : T.Wf) (hall : ∀ u, u < T.n → T.par u ≠ -2) : sumTo (fun r => if T.par r = -1 then T.tot (fun _ => 1) r else 0) T.n = T.n := by
  have e1 : sumTo (fun r => if T.par r = -1 then T.tot (fun _ => 1) r else 0) T.n = sumTo (fun u => sumTo (fun r => if T.par r = -1 ∧ r ∈ T.up u then 1 else 0) T.n) T.n := by
    rw [← sumTo_comm]
    refine sumTo_congr fun k _ => ?_
    by_cases hk : T.par k = -1
    · simp [hk, Tr.tot]
    · simp [hk, sumTo_zero]
  rw [e1, ← sumTo_one T.n]
  refine sumTo_congr fun u hu => ?_
  obtain ⟨r, er, h1, h2⟩ := h.rootN (hall u hu)
  refine Eq.trans (sumTo_congr fun k _ => ?_) (sumTo_single (x := 1) (h.lt r (by omega)))
  have : (T.par k = -1 ∧ k ∈ T.up u) ↔ k = r := by
    constructor
    · rintro ⟨h3, h4⟩
      have := (h.root_mem h3 u).1 h4
      omega
    · rintro rfl; exact ⟨h1, h2⟩
  simp only [this]
end
end Go.Proofs.Ytjnkgakajenoaaa
namespace Go.Proofs.Ytjnkgakajenoaaa
/-- What the law reckons of the kids. -/
def kidC (T : Tr) (v : Nat) : Nat → Int := fun k => if T.par k = (v : Int) then (T.subI k).c else 0
def kidS (T : Tr) (v : Nat) : Nat → Int := fun k => if T.par k = (v : Int) then (T.subI k).s else 0
def rootC (T : Tr) : Nat → Int := fun r => if T.par r = -1 then (T.subI r).c else 0
section
variable {T : Tr} {u v k : Nat}
theorem Tr.Wf.sub_kids (h : T.Wf) (hall : ∀ u, u < T.n → T.par u ≠ -2) (hv : v < T.n) : (T.subI v).c = 1 + sumTo (kidC T v) T.n ∧ (T.subI v).s = T.wt v + sumTo (kidS T v) T.n := by
  obtain ⟨h1, h2⟩ := Tr.subI_tot (hall v hv)
  rw [h1, h2, h.tot_kids (hall v hv), h.tot_kids (hall v hv) T.wt]
  constructor
  · congr 1
    refine sumTo_congr fun k hk => ?_
    unfold kidC
    rw [(Tr.subI_tot (hall k hk)).1]
  · congr 1
    refine sumTo_congr fun k hk => ?_
    unfold kidS
    rw [(Tr.subI_tot (hall k hk)).2]
theorem Tr.Wf.sub_roots (h : T.Wf) (hall : ∀ u, u < T.n → T.par u ≠ -2) : sumTo (rootC T) T.n = T.n := by
  rw [← h.tot_roots hall]
  refine sumTo_congr fun r hr => ?_
  unfold rootC
  rw [(Tr.subI_tot (hall r hr)).1]
theorem Tr.sub_bd (hn : T.n ≤ 30) (hw : ∀ u, -32768 ≤ T.wt u ∧ T.wt u ≤ 32767) (hv : T.par v ≠ -2) : 0 ≤ (T.subI v).c ∧ (T.subI v).c ≤ 30 ∧ -1000000 ≤ (T.subI v).s ∧ (T.subI v).s ≤ 1000000 := by
  have hc := Tr.sub_le hv
  have hs := (Tr.subI_tot hv).2
  have := sumTo_bd (F := fun u => if v ∈ T.up u then T.wt u else 0) (lo := -32768) (hi := 32767) (by omega) (by omega) (m := T.n) (fun i _ => by
    have := hw i
    by_cases hm : v ∈ T.up i <;> simp [hm] <;> omega)
  unfold Tr.tot at hs
  omega
theorem Tr.kid_bd (hn : T.n ≤ 30) (hw : ∀ u, -32768 ≤ T.wt u ∧ T.wt u ≤ 32767) (hall : ∀ u, u < T.n → T.par u ≠ -2) {m : Nat} (hm : m ≤ T.n) :
    (0 ≤ sumTo (kidC T v) m ∧ sumTo (kidC T v) m ≤ 900) ∧ (-30000000 ≤ sumTo (kidS T v) m ∧ sumTo (kidS T v) m ≤ 30000000) ∧ (0 ≤ sumTo (rootC T) m ∧ sumTo (rootC T) m ≤ 900) := by
  have b := fun k (hk : k < m) => Tr.sub_bd hn hw (hall k (by omega))
  have h1 := sumTo_bd (F := kidC T v) (lo := 0) (hi := 30) (by omega) (by omega) (m := m) (fun i hi => by
    have := b i hi
    unfold kidC; split <;> omega)
  have h2 := sumTo_bd (F := kidS T v) (lo := -1000000) (hi := 1000000) (by omega) (by omega) (m := m) (fun i hi => by
    have := b i hi
    unfold kidS; split <;> omega)
  have h3 := sumTo_bd (F := rootC T) (lo := 0) (hi := 30) (by omega) (by omega) (m := m) (fun i hi => by
    have := b i hi
    unfold rootC; split <;> omega)
  omega
theorem Tr.Wf.root_ne (h : T.Wf) (hv : T.par v ≠ -2) (hr : T.par v ≠ -1) : T.rootI v ≠ v := fun e => hr ((h.root_iff hv).1 e).2
end
end Go.Proofs.Ytjnkgakajenoaaa
/- A star, in plain mathematics. -/

namespace Go.Proofs.Ytjnkgakajenoaaa
set_option linter.unusedVariables false
set_option linter.unusedSimpArgs false

def starF : Nat → Int := fun i => if i = 0 then -1 else 0
theorem starF_low : Low starF := fun i => by
  unfold starF
  split
  · exact .inl rfl
  · exact .inr ⟨0, by omega, rfl⟩
abbrev star (k : Nat) : Tr := gr k k starF (fun _ => 1)

section
variable {k a b i : Nat}
theorem star_wf (k : Nat) : (star k).Wf := gr_wf starF_low (Nat.le_refl k)
theorem star_mid (hk : 3 ≤ k) : (star k).par 0 = -1 := by rw [gr_par (by omega)]; rfl
theorem star_ray (hi : 0 < i) (hk : i < k) : (star k).par i = ((0 : Nat) : Int) := by rw [gr_par hk, starF, if_neg (by omega)]; rfl
theorem star_all {u : Nat} (hu : u < (star k).n) : (star k).par u ≠ -2 := gr_there starF_low hu
theorem star_up0 (hk : 3 ≤ k) : (star k).up 0 = [0] := (star_wf k).up_root (star_mid hk)
theorem star_up (hk : 3 ≤ k) (hi : 0 < i) (hik : i < k) : (star k).up i = [i, 0] := by rw [(star_wf k).up_step (star_ray hi hik), star_up0 hk]
theorem star_meet (hk : 3 ≤ k) (ha : 0 < a) (hak : a < k) (hb : 0 < b) (hbk : b < k) (hne : a ≠ b) : Meet ((star k).up a) ((star k).up b) 0 [a] [b] [] := by
  rw [star_up hk ha hak, star_up hk hb hbk]
  exact ⟨rfl, rfl, by simp; omega, by simp; omega⟩
theorem sumTo_none {F : Nat → Int} {m : Nat} (h : ∀ i, i < m → F i = 0) : sumTo F m = 0 := (sumTo_congr h).trans (sumTo_zero m)
theorem sumTo_at {F : Nat → Int} {m j : Nat} (hj : j < m) (h : ∀ i, i < m → i ≠ j → F i = 0) : sumTo F m = F j := by
  refine (sumTo_congr (G := fun i => if i = j then F j else 0) fun i hi => ?_).trans (sumTo_single hj)
  by_cases e : i = j
  · subst e; simp
  · simp [e, h i hi e]
/-- The one root has all. -/
theorem one_root {T : Tr} (h : T.Wf) (hall : ∀ u, u < T.n → T.par u ≠ -2) {r : Nat} (hr : T.par r = -1) (hone : ∀ u, u < T.n → u ≠ r → T.par u ≠ -1) : (T.subI r).c = T.n := by
  have h1 := h.sub_roots hall
  rw [sumTo_at (j := r) (h.lt r (by omega)) (fun i hi hne => by unfold rootC; rw [if_neg (hone i hi hne)])] at h1
  unfold rootC at h1
  rwa [if_pos hr] at h1
theorem star_leaf (ha : 0 < a) (hak : a < k) : ((star k).subI a).c = 1 := by
  have := ((star_wf k).sub_kids (fun u hu => star_all hu) (v := a) hak).1
  rw [sumTo_none] at this
  · exact this
  · intro i hi
    unfold kidC
    rw [if_neg]
    by_cases e : i = 0
    · subst e; rw [gr_par (m := k) hi]; simp [starF]
    · rw [star_ray (k := k) (by omega) hi]; omega
theorem star_size (hk : 3 ≤ k) (hak : a < k) : (star k).sizeI a = k := by
  have h0 : (star k).sizeI a = ((star k).subI (0 : Nat)).c := by
    rw [Tr.sizeI]
    congr 2
    by_cases e : a = 0
    · subst e; exact (star_wf k).root_self (star_mid hk)
    · rw [Tr.rootI, Tr.upI_nat, star_up hk (by omega) hak]; rfl
  rw [h0, one_root (star_wf k) (fun u hu => star_all hu) (star_mid hk) (fun u hu hne => by rw [star_ray (k := k) (by omega) hu]; omega)]
  rfl

/- A ray made the root. -/
theorem turned_par (hk : 3 ≤ k) (ha : 0 < a) (hak : a < k) : ((star k).evert a).par = updF (updF (star k).par a (-1)) 0 (a : Int) := by
  show turn (star k).par (-1) ((star k).up a) = _
  rw [star_up hk ha hak]
  rfl
theorem turned_facts (hk : 3 ≤ k) (ha : 0 < a) (hak : a < k) : ((star k).evert a).par 0 = (a : Int) ∧ ((star k).evert a).par a = -1 ∧ ∀ i, 0 < i → i < k → i ≠ a → ((star k).evert a).par i = ((0 : Nat) : Int) := by
  rw [turned_par hk ha hak]
  refine ⟨by simp [updF], ?_, fun i hi hik hne => ?_⟩
  · rw [updF_other _ _ (by omega), updF_same]
  · rw [updF_other _ _ (by omega), updF_other _ _ hne, star_ray hi hik]
theorem turned_wf (hak : a < k) : ((star k).evert a).Wf := (star_wf k).evert (star_all hak)
theorem turned_all (hk : 3 ≤ k) (ha : 0 < a) (hak : a < k) {u : Nat} (hu : u < k) : ((star k).evert a).par u ≠ -2 := fun e => star_all hu (((star_wf k).evert_there (star_all hak)).1 e)
theorem turned_sub (hk : 3 ≤ k) (ha : 0 < a) (hak : a < k) : ((star k).evert a).subI (0 : Nat) = ⟨(k : Int) - 1, (k : Int) - 1, (((star k).evert a).subI (0 : Nat)).a, (((star k).evert a).subI (0 : Nat)).b⟩ := by
  obtain ⟨p0, pa, pi⟩ := turned_facts hk ha hak
  have hw := turned_wf hak
  have hall : ∀ u, u < ((star k).evert a).n → ((star k).evert a).par u ≠ -2 := fun u hu => turned_all hk ha hak hu
  have h1 := one_root hw hall pa (fun u hu hne => by
    by_cases e : u = 0
    · subst e; rw [p0]; omega
    · rw [pi u (by omega) hu hne]; omega)
  have h2 := (hw.sub_kids hall (v := a) hak).1
  rw [sumTo_at (j := 0) (show 0 < ((star k).evert a).n from (show 0 < k by omega)) (fun i hi hne => by
    unfold kidC
    rw [if_neg]
    by_cases e : i = a
    · subst e; rw [pa]; omega
    · rw [pi i (by omega) hi e]; omega)] at h2
  unfold kidC at h2
  rw [if_pos p0] at h2
  have hn : ((star k).evert a).n = k := rfl
  have hc : (((star k).evert a).subI (0 : Nat)).c = (k : Int) - 1 := by rw [hn] at h1; omega
  have h3 := Tr.subI_tot (T := (star k).evert a) (v := 0) (by rw [p0]; omega)
  have h4 : ((star k).evert a).tot ((star k).evert a).wt 0 = ((star k).evert a).tot (fun _ => 1) 0 := by
    unfold Tr.tot
    refine sumTo_congr fun u hu => ?_
    have : ((star k).evert a).wt u = 1 := by
      show (star k).wt u = 1
      rw [gr_wt (m := k) hu]
    rw [this]
  exact Sm.same hc (by show (((star k).evert a).subI (0 : Nat)).s = _; rw [h3.2, h4, ← h3.1, hc]) rfl rfl
theorem turned_lca (hk : 3 ≤ k) (ha : 0 < a) (hak : a < k) (hb : 0 < b) (hbk : b < k) (hne : a ≠ b) : ((star k).evert a).lcaI (0 : Nat) b = 0 := by
  obtain ⟨p0, pa, pi⟩ := turned_facts hk ha hak
  have hw := turned_wf hak
  have u0 : ((star k).evert a).up 0 = [0, a] := by rw [hw.up_step p0, hw.up_root pa]
  have ub : ((star k).evert a).up b = [b, 0, a] := by rw [hw.up_step (pi b hb hbk (by omega)), u0]
  have hm : Meet (((star k).evert a).up 0) (((star k).evert a).up b) 0 [] [b] [a] := by
    rw [u0, ub]; exact ⟨rfl, rfl, by simp, by simp; omega⟩
  rw [Tr.lcaI, Tr.upI_nat, Tr.upI_nat, hm.lca]
  rfl
theorem turned_back (hk : 3 ≤ k) (ha : 0 < a) (hak : a < k) : ((star k).evert a).evert 0 = star k := by
  obtain ⟨p0, pa, pi⟩ := turned_facts hk ha hak
  have hw := turned_wf hak
  have u0 : ((star k).evert a).up 0 = [0, a] := by rw [hw.up_step p0, hw.up_root pa]
  have e : turn ((star k).evert a).par (-1) (((star k).evert a).up 0) = (star k).par := by
    rw [u0, turned_par hk ha hak]
    show updF (updF (updF (updF (star k).par a (-1)) 0 (a : Int)) 0 (-1)) a ((0 : Nat) : Int) = _
    funext u
    by_cases e : u = a
    · subst e; rw [updF_same, star_ray ha hak]
    · rw [updF_other _ _ e]
      by_cases e0 : u = 0
      · subst e0; rw [updF_same, star_mid hk]
      · rw [updF_other _ _ e0, updF_other _ _ e0, updF_other _ _ e]
  unfold Tr.evert at e ⊢
  rw [e]
theorem star_facts (hk : 3 ≤ k) (ha : 0 < a) (hak : a < k) (hb : 0 < b) (hbk : b < k) (hne : a ≠ b) :
    (((star k).pathI a b).c = 3 ∧ (star k).sameI a b = true ∧ (star k).lcaI a b = 0 ∧ (star k).hasI a = true ∧ (star k).evertI a = (star k).evert a) ∧
    (((star k).evert a).parI 0 = a ∧ ((star k).evert a).parI b = 0 ∧ ((star k).evert a).lcaI 0 b = 0 ∧ ((star k).evert a).hasI 0 = true ∧ ((star k).evert a).evertI 0 = star k) := by
  have hm := star_meet hk ha hak hb hbk hne
  obtain ⟨p0, pa, pi⟩ := turned_facts hk ha hak
  have h0 : ((star k).evert a).hasI 0 = true := Tr.hasI_there (v := 0) (by rw [p0]; omega)
  have ha' : (star k).hasI a = true := Tr.hasI_there (star_all hak)
  refine ⟨⟨?_, (star_wf k).same_nat hm, ?_, ha', evertI_yes ha'⟩, ?_, ?_, turned_lca hk ha hak hb hbk hne, h0, ?_⟩
  · rw [Tr.pathI, Tr.wayI, Tr.upI_nat, Tr.upI_nat, hm.way, ofL_c]; rfl
  · rw [Tr.lcaI, Tr.upI_nat, Tr.upI_nat, hm.lca]; rfl
  · have := parI_nat (T := (star k).evert a) (c := 0) (by rw [p0]; omega)
    rw [p0] at this; exact this
  · rw [parI_nat (by rw [pi b hb hbk (by omega)]; omega), pi b hb hbk (by omega)]; rfl
  · rw [evertI_yes h0]; exact turned_back hk ha hak
theorem star_cut (hk : 3 ≤ k) (ha : 0 < a) (hak : a < k) (hb : 0 < b) (hbk : b < k) (hne : a ≠ b) :
    ((star k).cutB a = true ∧ (star k).cutI a = (star k).cut a ∧ ((star k).cut a).sizeI a = 1 ∧ ((star k).cut a).sizeI 0 = (k : Int) - 1 ∧ ((star k).cut a).sameI a b = false) ∧
    (((star k).cut a).goB a = true ∧ ((star k).cut a).dropI a = ((star k).cut a).drop a ∧ (((star k).cut a).drop a).hasI a = false ∧ (((star k).cut a).drop a).goB 0 = false ∧ (((star k).cut a).drop a).dropI 0 = ((star k).cut a).drop a) := by
  have hpa := star_ray ha hak
  obtain ⟨⟨_, _, c3, c4⟩, ⟨_, c6, c7, _, c9, c10, _⟩, _⟩ := (star_wf k).cut_facts hpa
  have hs := star_leaf ha hak
  have hz := star_size hk hak
  have w' := (star_wf k).cut (star_all hak)
  have hub : ((star k).cut a).up b = [b, 0] := by rw [(star_wf k).cut_up_out (star_all hak) (by rw [star_up hk hb hbk]; simp; omega), star_up hk hb hbk]
  have hbp : ((star k).cut a).par b = ((0 : Nat) : Int) := by
    show updF (star k).par a (-1) b = _
    rw [updF_other _ _ (by omega), star_ray hb hbk]
  have hgo : ((star k).cut a).goB a = true := by
    have hkid : ((star k).cut a).kidB a = false := by
      rw [Tr.kidB, List.any_eq_false]
      intro u hu
      rw [beq_iff_eq]
      show ¬ updF (star k).par a (-1) u = _
      by_cases e : u = a
      · subst e; rw [updF_same]; omega
      · rw [updF_other _ _ e]
        by_cases e0 : u = 0
        · subst e0; rw [star_mid hk]; omega
        · rw [star_ray (k := k) (by omega) (List.mem_range.1 hu)]; omega
    rw [Tr.goB, c6, Int.toNat_natCast, cut_par, hkid]; rfl
  have hgo0 : (((star k).cut a).drop a).goB 0 = false := by
    have hkid : (((star k).cut a).drop a).kidB 0 = true := by
      rw [Tr.kidB, List.any_eq_true]
      refine ⟨b, List.mem_range.2 hbk, ?_⟩
      rw [beq_iff_eq]
      show updF ((star k).cut a).par a (-2) b = 0
      rw [updF_other _ _ (by omega), hbp]; rfl
    rw [Tr.goB, hkid]; simp
  refine ⟨⟨c3, c4, by rw [c9, hs], ?_, ?_⟩, hgo, dropI_yes hgo, ?_, hgo0, dropI_no hgo0⟩
  · have h9 : ((star k).cut a).sizeI ((0 : Nat) : Int) = (k : Int) - 1 := by rw [c10, hs, hz]
    exact h9
  · refine (w'.same_root (cut_par _ _) (by rw [hbp]; omega)).2 ?_
    rw [hub]; simp; omega
  · rw [Tr.hasI_nat]
    simp [Tr.drop, updF]
end
end Go.Proofs.Ytjnkgakajenoaaa
/- A way by its two parts, and a way raised: plain mathematics. -/

namespace Go.Proofs.Ytjnkgakajenoaaa
set_option linter.unusedVariables false
set_option linter.unusedSimpArgs false
theorem Meet.way_nodup {T : Tr} (h : T.Wf) {i j t : Nat} {a b c : List Nat} (hm : Meet (T.up i) (T.up j) t a b c) : (t :: (a ++ b)).Nodup ∧ ∀ x ∈ t :: (a ++ b), T.par x ≠ -2 := by
  have h1 := h.spec (v := i) (Tr.there (x := t) (by rw [hm.el]; simp))
  have h2 := h.spec (v := j) (Tr.there (x := t) (by rw [hm.em]; simp))
  have n1 := h1.nodup
  have n2 := h2.nodup
  have m1 := h1.mem
  have m2 := h2.mem
  have na := hm.na
  have nb := hm.nb
  rw [hm.el] at n1 m1
  rw [hm.em] at n2 m2
  refine ⟨List.nodup_cons.2 ⟨by simp [na, nb], List.nodup_append.2 ⟨(List.nodup_append.1 n1).1, (List.nodup_append.1 n2).1, fun x hx y hy e => ?_⟩⟩, fun x hx => ?_⟩
  · subst e; exact hm.ha x hx (by rw [hm.em]; simp [hy])
  · simp only [List.mem_cons, List.mem_append] at hx
    rcases hx with rfl | hx | hx
    · exact m1 x (by simp)
    · exact m1 x (by simp [hx])
    · exact m2 x (by simp [hx])

/-- Two sums that share one number. -/
theorem two_parts (z : Int) (l m : List Int) :
    (ofL (z :: l)).c + (ofL (z :: m)).c - 1 = (ofL (z :: (l ++ m))).c ∧ (ofL (z :: l)).s + (ofL (z :: m)).s - z = (ofL (z :: (l ++ m))).s ∧ min (ofL (z :: l)).a (ofL (z :: m)).a = (ofL (z :: (l ++ m))).a ∧ max (ofL (z :: l)).b (ofL (z :: m)).b = (ofL (z :: (l ++ m))).b := by
  have e : ofL (z :: (l ++ m)) = jn (ofL (z :: l)) (ofL m) := by rw [← List.cons_append, ofL_append]
  have e1 : ofL (z :: m) = jn (one z) (ofL m) := by rw [ofL_eq, ofL_eq]; rfl
  have e2 : ofL (z :: l) = jn (one z) (ofL l) := by rw [ofL_eq, ofL_eq]; rfl
  have k1 : (ofL (z :: l)).a ≤ z ∧ z ≤ (ofL (z :: l)).b := by
    rw [e2, jn, if_neg (by simp [one])]
    split
    · simp [one]
    · simp only [one]; omega
  have kc : (ofL (z :: l)).c ≠ 0 := by rw [ofL_c]; simp; omega
  rw [e, e1]
  generalize ofL (z :: l) = X at *
  have ho := (ofL_eq m).symm ▸ ok_ofR m
  generalize ofL m = Y at *
  obtain ⟨xc, xs, xa, xb⟩ := X
  obtain ⟨yc, ys, ya, yb⟩ := Y
  dsimp only at *
  by_cases h0 : yc = 0
  · have := ho.2 h0
    simp only [zero, Sm.mk.injEq] at this
    obtain ⟨rfl, rfl, rfl, rfl⟩ := this
    simp only [jn, one, kc, if_false, if_true]
    refine ⟨by simp, by simp, by simp; omega, by simp; omega⟩
  · simp only [jn, one, kc, h0, if_false]
    refine ⟨by simp; omega, by simp; omega, by simp; omega, by simp; omega⟩

section
variable {T : Tr} {a b t : Nat} {a0 b0 c : List Nat}
theorem Tr.Wf.same_comm (h : T.Wf) (ha : T.par a ≠ -2) (hb : T.par b ≠ -2) : T.sameI b a = T.sameI a b := by
  rw [h.same_iff ha, h.same_iff hb, Bool.eq_iff_iff]
  simp only [beq_iff_eq]
  exact ⟨fun e => e.symm, fun e => e.symm⟩
theorem Tr.Wf.apart_facts (h : T.Wf) (ha : T.par a ≠ -2) (hb : T.par b ≠ -2) (hs : T.sameI a b = false) (n : Int) :
    T.pathI a b = zero ∧ T.pathI b a = zero ∧ T.sameI b a = false ∧ T.raiseB a b n = false ∧ T.pathAdd a b n = T ∧ T.lcaI a b = -1 := by
  have hs' : T.sameI b a = false := by rw [h.same_comm ha hb]; exact hs
  have h1 := h.same_false hs
  have h2 := h.same_false hs'
  have h3 : T.raiseB a b n = false := by simp [Tr.raiseB, hs]
  refine ⟨?_, ?_, hs', h3, by simp [Tr.pathAdd, h3], ?_⟩
  · rw [Tr.pathI, Tr.wayI, way_none h1]; rfl
  · rw [Tr.pathI, Tr.wayI, way_none h2]; rfl
  · rw [Tr.lcaI, lca_none h1]
theorem Tr.Wf.way_facts (h : T.Wf) (hm : Meet (T.up a) (T.up b) t a0 b0 c) :
    (T.pathI a b = ofL ((t :: (a0 ++ b0)).map T.wt) ∧ T.pathI b a = T.pathI a b ∧ T.sameI a b = true ∧ T.sameI b a = true ∧ T.lcaI a b = t) ∧
    (T.pathI a t = ofL ((t :: a0).map T.wt) ∧ T.pathI t b = ofL ((t :: b0).map T.wt) ∧ T.getI t = T.wt t ∧ T.hasI t = true ∧ T.sameI a t = true ∧ T.sameI t b = true) ∧
    T.wayI a b = t :: (a0 ++ b0) := by
  have ht : T.up t = t :: c := h.tail hm.el
  have htt : T.par t ≠ -2 := Tr.there (x := t) (by rw [ht]; simp)
  have m1 : Meet (T.up a) (T.up t) t a0 [] c := ⟨hm.el, by rw [ht]; rfl, fun y hy => by
    rw [ht]
    intro hx
    exact hm.ha y hy (by rw [hm.em, List.mem_append]; exact .inr hx), by simp⟩
  have m2 : Meet (T.up t) (T.up b) t [] b0 c := ⟨by rw [ht]; rfl, hm.em, by simp, fun y hy => by
    rw [ht]
    intro hx
    exact hm.hb y hy (by rw [hm.el, List.mem_append]; exact .inr hx)⟩
  have hw : T.wayI a b = t :: (a0 ++ b0) := by rw [Tr.wayI, T.upI_nat, T.upI_nat, hm.way]
  refine ⟨⟨by rw [Tr.pathI, hw], ?_, h.same_nat hm, h.same_nat hm.symm, by rw [Tr.lcaI, T.upI_nat, T.upI_nat, hm.lca]⟩, ⟨?_, ?_, by simp [Tr.getI, Tr.hasI_there htt], Tr.hasI_there htt, h.same_nat m1, h.same_nat m2⟩, hw⟩
  · rw [Tr.pathI, Tr.pathI, hw, Tr.wayI, T.upI_nat, T.upI_nat, hm.symm.way]
    exact ofL_perm (List.Perm.map _ (List.Perm.cons _ List.perm_append_comm))
  · rw [Tr.pathI, Tr.wayI, T.upI_nat, T.upI_nat, m1.way, List.append_nil]
  · rw [Tr.pathI, Tr.wayI, T.upI_nat, T.upI_nat, m2.way, List.nil_append]
theorem raise_ok {l : List Nat} {n : Int} (hw : ∀ u, -32768 ≤ T.wt u ∧ T.wt u ≤ 32767) (hn : -200 ≤ n ∧ n ≤ 200) : l.all (fun x => addB (T.wt x) n) = true := by
  rw [List.all_eq_true]
  intro x _
  have := hw x
  simp only [addB, fitB, inB, Bool.and_eq_true, decide_eq_true_eq]
  omega
theorem Tr.Wf.raise_facts (h : T.Wf) (hm : Meet (T.up a) (T.up b) t a0 b0 c) (hw : ∀ u, -32768 ≤ T.wt u ∧ T.wt u ≤ 32767) {n : Int} (hn : -200 ≤ n ∧ n ≤ 200) :
    T.raiseB a b n = true ∧ T.pathAdd a b n = T.raise (t :: (a0 ++ b0)) n ∧ (T.raise (t :: (a0 ++ b0)) n).pathI a b = lf (T.pathI a b) n ∧ (T.raise (t :: (a0 ++ b0)) n).sameI a b = true := by
  obtain ⟨⟨h1, _, h3, _, _⟩, _, h7⟩ := h.way_facts hm
  have e1 : T.raiseB a b n = true := by rw [Tr.raiseB, h3, h7, raise_ok hw hn]; rfl
  refine ⟨e1, by simp [Tr.pathAdd, e1, h7], ?_, h3⟩
  rw [h1, lf_ofL]
  show ofL (((T.raise (t :: (a0 ++ b0)) n).wayI a b).map (raiseF T.wt (t :: (a0 ++ b0)) n)) = _
  have e2 : (T.raise (t :: (a0 ++ b0)) n).wayI a b = t :: (a0 ++ b0) := h7
  rw [e2, List.map_map]
  congr 1
  refine List.map_congr_left fun x hx => ?_
  simp only [raiseF, hx, if_true, Function.comp]
/-- As many nodes are on the way as it has. -/
theorem count_mem {l : List Nat} (hd : l.Nodup) {n : Nat} (hl : ∀ x ∈ l, x < n) : sumTo (fun i => if i ∈ l then 1 else 0) n = (l.length : Int) := by
  have h := filter_count (fun i => decide (i ∈ l)) n
  have e : sumTo (fun u => if decide (u ∈ l) = true then (1 : Int) else 0) n = sumTo (fun i => if i ∈ l then 1 else 0) n := sumTo_congr fun i _ => by simp
  rw [e] at h
  rw [← h]
  congr 1
  refine List.Perm.length_eq ((List.perm_ext_iff_of_nodup (List.Nodup.sublist List.filter_sublist List.nodup_range) hd).2 fun x => ?_)
  simp only [List.mem_filter, List.mem_range, decide_eq_true_eq]
  exact ⟨fun h => h.2, fun h => ⟨hl x h, h⟩⟩
theorem path_bd {l : List Nat} (hl : l.length ≤ 25) (hne : l ≠ []) (hw : ∀ u, -32768 ≤ T.wt u ∧ T.wt u ≤ 32767) :
    (1 ≤ (ofL (l.map T.wt)).c ∧ (ofL (l.map T.wt)).c ≤ 25) ∧ (-1000000 ≤ (ofL (l.map T.wt)).s ∧ (ofL (l.map T.wt)).s ≤ 1000000) ∧ (-32768 ≤ (ofL (l.map T.wt)).a ∧ (ofL (l.map T.wt)).a ≤ 32767) ∧ (-32768 ≤ (ofL (l.map T.wt)).b ∧ (ofL (l.map T.wt)).b ≤ 32767) := by
  have hb : ∀ n ∈ l.map T.wt, -32768 ≤ n ∧ n ≤ 32767 := fun n hn => by
    obtain ⟨y, _, rfl⟩ := List.mem_map.1 hn
    exact hw y
  have h1 := ofR_s _ _ _ hb
  obtain ⟨i1, i2, i3, _, _⟩ := ofR_bd _ _ _ hb (by simpa using hne)
  have hp := List.length_pos_iff.2 hne
  rw [ofL_eq, ofR_c]
  rw [List.length_map] at h1 ⊢
  omega
end
end Go.Proofs.Ytjnkgakajenoaaa
