import Derived.Test.YtkfboficcdiojaaD8
namespace Go.Proofs.Ytkfboficcdiojaa
open Go.RowKit Go.Arb
set_option linter.unusedVariables false
set_option linter.unusedSimpArgs false

/-- The weights of some items raised. -/
def upW (W : Nat → Int) (l : List Nat) (d : Int) : Nat → Int := fun v => if v ∈ l then W v + d else W v
def Se.liftB (A : Se) (a b d : Int) : Bool := A.okR a b && (addB (A.rangeI a b).a d && addB (A.rangeI a b).b d)
def Se.liftA (A : Se) (a b d : Int) : Se := if A.liftB a b d then { A with W := upW A.W (A.part a b) d } else A

section
variable {w w' : World} {p g n cap : Nat} {S S' : Ss} {A : Se}
theorem its_up (W : Nat → Int) (d : Int) : ∀ (l : List Nat) (f e : Int), l.Nodup → its (upW W (slc f e l) d) l = rrL f e d (its W l) := by
  intro l
  induction l with
  | nil => intro f e _; rfl
  | cons x l ih =>
    intro f e hn
    rw [List.nodup_cons] at hn
    rw [show its W (x :: l) = (x + 1, W x) :: its W l from rfl, rrL_cons, ← ih (f - 1) (e - 1) hn.2, show its (upW W (slc f e (x :: l)) d) (x :: l) = (x + 1, upW W (slc f e (x :: l)) d x) :: its (upW W (slc f e (x :: l)) d) l from rfl]
    have hx : x ∉ slc (f - 1) (e - 1) l := fun hm => hn.1 (slc_mem hm)
    congr 1
    · rw [upW, slc_cons]
      by_cases h : f ≤ 0 ∧ 0 < e
      · rw [if_pos h, if_pos h, if_pos (by simp)]
      · rw [if_neg h, if_neg h, if_neg (by simpa using hx)]
    · refine its_congr (fun v hv => ?_)
      have hne : v ≠ x := fun e => hn.1 (e ▸ hv)
      unfold upW
      rw [slc_cons]
      have : (v ∈ (if f ≤ 0 ∧ 0 < e then [x] else []) ++ slc (f - 1) (e - 1) l) ↔ v ∈ slc (f - 1) (e - 1) l := by
        split <;> simp [hne]
      simp only [this]
theorem addB_true {x d : Int} (h : addB x d = true) : (-1099511627776 ≤ x ∧ x ≤ 1099511627776) ∧ (-2199023255552 ≤ d ∧ d ≤ 2199023255552) ∧ (-1099511627776 ≤ x + d ∧ x + d ≤ 1099511627776) := by
  simp only [addB, fitB, inB, Bool.and_eq_true, decide_eq_true_eq] at h
  exact ⟨h.1.1, h.1.2, h.2⟩
/-- What a lift raises fits. -/
theorem Spn.fit {a b d : Int} {u r : Nat} (sp : Spn S A a b u r) (hl : A.liftB a b d = true) (h : Inv S A) : (-2199023255552 ≤ d ∧ d ≤ 2199023255552) ∧ FitL (rrL (A.rankI a) (A.rankI b + 1) d (its A.W (A.seq u))) := by
  simp only [Se.liftB, Bool.and_eq_true] at hl
  obtain ⟨ho, h1, h2⟩ := hl
  have f0 := sp.f0
  have fe := sp.fe
  have e : A.rangeI a b = ofR ((A.part a b).map A.W) := by rw [Se.rangeI, if_pos ho]
  have ep : A.part a b = slc (A.rankI a) (A.rankI b + 1) (A.seq u) := by rw [A.part_slc a b f0 (by omega), sp.sq]
  rw [e] at h1 h2
  have g1 := addB_true h1
  have g2 := addB_true h2
  refine ⟨g1.2.1, ?_⟩
  rw [← its_up A.W d _ _ _ (nodup_flatten h.nd (Se.seq_mem sp.mem).1), ← ep]
  intro x hx
  obtain ⟨v, hv, rfl⟩ := List.mem_map.1 hx
  dsimp only
  unfold upW
  split
  · rename_i hm
    have := ofR_mem ((A.part a b).map A.W) (A.W v) (List.mem_map.2 ⟨v, hm, rfl⟩)
    omega
  · exact sp.tr.pt.fit (v + 1, A.W v) (List.mem_map.2 ⟨v, hv, rfl⟩)
/-- The slots behind a lift. -/
theorem Inv.lift {a b d : Int} {u r : Nat} (h : Inv S A) (sp : Spn S A a b u r) (hl : A.liftB a b d = true) (rg : Rg S S' r (its A.W (A.seq u)) (rrL (A.rankI a) (A.rankI b + 1) d (its A.W (A.seq u)))) : Inv S' (A.liftA a b d) := by
  have f0 := sp.f0
  have fe := sp.fe
  have ep : A.part a b = slc (A.rankI a) (A.rankI b + 1) (A.seq u) := by rw [A.part_slc a b f0 (by omega), sp.sq]
  have hm := Se.seq_mem sp.mem
  rw [← its_up A.W d _ _ _ (nodup_flatten h.nd hm.1), ← ep] at rg
  have eA : A.liftA a b d = { A with W := upW A.W (A.part a b) d } := by rw [Se.liftA, if_pos hl]
  rw [eA]
  refine ⟨rg.z, h.nd, h.ne, fun l hlm => ?_, fun t ht => ?_, h.lt, h.n⟩
  · by_cases e : l = A.seq u
    · subst e
      exact ⟨r, rg.pt, by rw [(rg.sh r).2.1]; exact sp.tr.up⟩
    · obtain ⟨r', p', u'⟩ := h.tr l hlm
      have hd : ∀ v ∈ l, v ∉ A.seq u := fun v h1 h2 => e (one_list h.nd hlm hm.1 h1 h2)
      have e1 : its (upW A.W (A.part a b) d) l = its A.W l := its_congr (fun v hv => by
        unfold upW
        rw [if_neg]
        intro hx
        rw [ep] at hx
        exact hd v hv (slc_mem hx))
      dsimp only at hlm ⊢
      rw [e1]
      refine ⟨r', p'.frame (by rw [rg.z, h.z]) (nodup_its.2 (nodup_flatten h.nd hlm)) (fun x hx => rg.off x (fun hy => ?_)), by rw [(rg.sh r').2.1]; exact u'⟩
      rw [ids_its] at hx hy
      obtain ⟨v1, hv1, rfl⟩ := List.mem_map.1 hx
      obtain ⟨v2, hv2, e2⟩ := List.mem_map.1 hy
      have : v2 = v1 := by omega
      subst this
      exact hd _ hv1 hv2
  · rw [rg.off t (fun hx => ?_)]
    · exact h.out t ht
    · rw [ids_its] at hx
      obtain ⟨v, hv, e⟩ := List.mem_map.1 hx
      exact ht v (List.mem_flatten.2 ⟨_, hm.1, hv⟩) e

/-- What a change leaves in memory. -/
structure Chg (w w' : World) (p g : Nat) (n : Nat) (A' : Se) : Prop where
  ex : ∃ cap S', PA w' p g n cap S' A'
  kp : Keep [p, g] w w'

set_option maxHeartbeats 1000000 in
theorem plift_nil (a b d : Int) (w : World) : Calls Try.prog 23 #[.pointer none, .int .i64 a, .int .i64 b, .int .i64 d] w fun e w' => e = .returned (.bool false) ∧ w = w' := by
  go_enter Try.func23, Try.ntmps23
  go_wp2_with (go_at_call 56; refine (span_nil _ _ _).mono ?_; rintro e w' ⟨rfl, rfl⟩)
  go_ret
  exact ⟨rfl, rfl⟩
set_option maxHeartbeats 4000000 in
theorem plift_any (a b d : Int) (h : PA w p g n cap S A) : Calls Try.prog 23 #[.pointer (some ⟨p, 0, none⟩), .int .i64 a, .int .i64 b, .int .i64 d] w fun e w' => e = .returned (.bool (A.liftB a b d)) ∧ ∃ S', PA w' p g n cap S' (A.liftA a b d) ∧ Keep [g] w w' := by
  have HH := hide h
  cases ho : A.okR a b
  · have hl : A.liftB a b d = false := by simp [Se.liftB, ho]
    have SP := hide (span_no a b h ho)
    have eA : A.liftA a b d = A := by simp [Se.liftA, hl]
    rw [hl, eA]
    clear h ho hl eA
    go_enter Try.func23, Try.ntmps23
    go_wp2_with fail
    refine (unhide SP).mono ?_
    rintro e w1 ⟨rfl, hb⟩
    have H1 := hide (And.intro ((unhide HH).below hb) (Keep.ofBelow hb [g]))
    clear hb SP
    go_wp2
    go_ret
    exact ⟨rfl, S, unhide H1⟩
  · obtain ⟨u, r, sp⟩ := h.iv.span ho
    have SP := hide (span_yes a b u r h ho sp)
    have SU := hide (span_sum h ho sp)
    have r0 := sp.tr.r0
    have r1 : ((r : Int) == 0) = false := by rw [beq_eq_false_iff_ne]; omega
    have CR := hide (fun W => canRise_any (A.rangeI a b).c (A.rangeI a b).s (A.rangeI a b).a (A.rangeI a b).b d W)
    have hl : A.liftB a b d = (addB (A.rangeI a b).a d && addB (A.rangeI a b).b d) := by simp [Se.liftB, ho]
    rw [← hl] at CR
    cases hc : A.liftB a b d
    · have eA : A.liftA a b d = A := by simp [Se.liftA, hc]
      rw [hc] at CR
      rw [eA]
      clear h ho hl eA hc sp
      generalize A.rankI a = ra at *
      generalize A.rankI b = rb at *
      generalize A.rangeI a b = y at *
      obtain ⟨yc, ys, ya, yb⟩ := y
      dsimp only at CR
      go_enter Try.func23, Try.ntmps23
      go_wp2_with fail
      refine (unhide SP).mono ?_
      rintro e w1 ⟨rfl, hb⟩
      have H1 := hide (And.intro ((unhide HH).below hb) hb)
      clear hb SP
      go_wp2_with fail
      refine (unhide SU _ (unhide H1).1.po).mono ?_
      rintro e w2 ⟨rfl, hb⟩
      have H2 := hide (And.intro ((unhide H1).1.below hb) ((unhide H1).2.trans (hb.mono (unhide H1).2.size)))
      clear hb SU
      go_wp2_with fail
      refine (unhide CR _).mono ?_
      rintro e w3 ⟨rfl, hb⟩
      have H3 := hide (And.intro ((unhide H2).1.below hb) ((unhide H2).2.trans (hb.mono (unhide H2).2.size)))
      clear hb CR
      go_wp2
      go_ret
      exact ⟨rfl, S, (unhide H3).1, Keep.ofBelow (unhide H3).2 _⟩
    · obtain ⟨⟨d1, d2⟩, fit⟩ := sp.fit hc h.iv
      obtain ⟨b1, b2⟩ := Se.rankI_bd h.iv a
      obtain ⟨b3', b4⟩ := Se.rankI_bd h.iv b
      have fe := sp.fe
      have f0 := sp.f0
      have el := sp.el
      have hl4 := sp.tr.len
      rw [its_length] at hl4
      have RR := hide (raiseRange_any p g n cap A.n h.n0 d d1 d2 _ r _ S (A.rankI a) (A.rankI b + 1) 0 (Nat.le_refl _) h.iv.z sp.tr.pt sp.tr.nd (.inl (by rw [its_length]; omega)) (by omega) (by omega) (by omega) (by rw [its_length]; omega) (by omega) (fun x hx => sp.tr.pt.ltn h.po h.iv.z x hx) sp.tr.len fit)
      have IV : Hid (∀ S', Rg S S' r (its A.W (A.seq u)) (rrL (A.rankI a) (A.rankI b + 1) d (its A.W (A.seq u))) → Inv S' (A.liftA a b d)) := fun S' rg => h.iv.lift sp hc rg
      have hn' : (A.liftA a b d).n = A.n := by simp [Se.liftA, hc]
      have NN := hide (And.intro hn' (And.intro h.n0 h.nn))
      rw [hc] at CR
      clear h ho hl hc sp fit d1 d2 b1 b2 b3' b4 fe f0 el hl4 hn'
      generalize A.liftA a b d = A' at *
      generalize rrL (A.rankI a) (A.rankI b + 1) d (its A.W (A.seq u)) = xs' at *
      generalize A.rankI a = ra at *
      generalize A.rankI b = rb at *
      generalize A.rangeI a b = y at *
      obtain ⟨yc, ys, ya, yb⟩ := y
      dsimp only at CR
      go_enter Try.func23, Try.ntmps23
      go_wp2_with fail
      refine (unhide SP).mono ?_
      rintro e w1 ⟨rfl, hb⟩
      have H1 := hide (And.intro ((unhide HH).below hb) hb)
      clear hb SP
      go_wp2_with fail
      refine (unhide SU _ (unhide H1).1.po).mono ?_
      rintro e w2 ⟨rfl, hb⟩
      have H2 := hide (And.intro ((unhide H1).1.below hb) ((unhide H1).2.trans (hb.mono (unhide H1).2.size)))
      clear hb SU
      go_wp2_with fail
      refine (unhide CR _).mono ?_
      rintro e w3 ⟨rfl, hb⟩
      have H3 := hide (And.intro ((unhide H2).1.below hb) ((unhide H2).2.trans (hb.mono (unhide H2).2.size)))
      clear hb CR
      go_wp2_with fail
      refine (unhide RR _ (unhide H3).1.po).mono ?_
      rintro e w4 ⟨rfl, S', hP, hK, hr⟩
      have R := hide (And.intro hP (And.intro ((Keep.ofBelow (unhide H3).2 [g]).tr hK) (unhide IV S' hr)))
      clear hP hK hr RR IV
      go_wp2
      go_ret
      obtain ⟨x1, x2, x3⟩ := unhide R
      obtain ⟨y1, y2, y3⟩ := unhide NN
      exact ⟨rfl, S', ⟨by rw [y1]; exact x1, x3, y2, by rw [y1]; exact y3⟩, x2⟩
end
end Go.Proofs.Ytkfboficcdiojaa
