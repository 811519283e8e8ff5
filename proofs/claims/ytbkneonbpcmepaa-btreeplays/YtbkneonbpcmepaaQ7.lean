/- The pool: Range, Lift, Set. -/
import Derived.Test.YtbkneonbpcmepaaQ6
namespace Go.Proofs.Ytbkneonbpcmepaa
open Go.RowKit Go.Arb
set_option linter.unusedVariables false
set_option linter.unusedSimpArgs false

/-- What a change leaves. -/
def Out (w w' : World) (p : Nat) (J : List Nat) (A' : Se) : Prop := ∃ v' xs' ad' F', PB w' p v' xs' ad' F' A' ∧ Keep J w w' ∧ Grew w J (p :: (own v' ++ tfs F'))
section
variable {w w' : World} {p : Nat} {v : Value} {xs : List Value} {ad : Nat → Nat} {F F' D G : List Tp} {A A' : Se}
theorem tfs_append (F G : List Tp) : tfs (F ++ G) = tfs F ++ tfs G := by simp [tfs]
theorem tfs_perm (hp : F.Perm F') {k : Nat} : k ∈ tfs F ↔ k ∈ tfs F' := (hp.flatMap_right tf).mem_iff
theorem PB.out (h : PB w' p v xs ad F A) (hk : Keep (p :: (own v ++ tfs F)) w w') : Out w w' p (p :: (own v ++ tfs F)) A := ⟨v, xs, ad, F, h, hk, Grew.refl _ _⟩
theorem PB.stay (h : PB w p v xs ad F A) (hb : Below w.heap.size w w') : Out w w' p (p :: (own v ++ tfs F)) A := (h.below hb).out (Keep.ofBelow hb _)
/-- Some trees become others of the same items. -/
theorem PB.turn (h : PB w p v xs ad (D ++ F') A) (hk : Keep (tfs D) w w') (hG : ∀ S ∈ G, Own1 w' S) (nd : (tfs G).Nodup) (hg : Grew w (tfs D) (tfs G)) (hn : A'.n = A.n) (hfl : A'.L.flatten.Perm A.L.flatten) (hne : ∀ l ∈ A'.L, l ≠ [])
    (hits : ((G ++ F').map ti).Perm (A'.L.map (itw A'.W ad))) : PB w' p v xs ad (G ++ F') A' := by
  have hs := h.sep
  have hlt := h.tlt
  rw [tfs_append, List.nodup_cons, List.nodup_append] at hs
  obtain ⟨s1, s2, s3, s4⟩ := hs
  rw [List.nodup_append] at s3
  obtain ⟨s5, s6, s7⟩ := s3
  simp only [List.mem_append, not_or] at s1
  have old : ∀ x, x = p ∨ x ∈ own v ∨ x ∈ tfs F' → x < w.heap.size := fun x hx => hlt x (by
    rw [tfs_append]; simp only [List.mem_cons, List.mem_append]
    rcases hx with h1 | h1 | h1
    · exact .inl h1
    · exact .inr (.inl h1)
    · exact .inr (.inr (.inr h1)))
  have gfar : ∀ x ∈ tfs G, x ≠ p ∧ x ∉ own v ∧ x ∉ tfs F' := fun x hx => by
    rcases hg x hx with h1 | h1
    · exact ⟨fun e => s1.2.1 (e ▸ h1), fun h2 => s4 x h2 x (List.mem_append.2 (.inl h1)) rfl, fun h2 => s7 x h1 x h2 rfl⟩
    · exact ⟨fun e => by have := old x (.inl e); omega, fun h2 => by have := old x (.inr (.inl h2)); omega, fun h2 => by have := old x (.inr (.inr h2)); omega⟩
  have memq : ∀ i, i ∈ A'.L.flatten ↔ i ∈ A.L.flatten := fun i => hfl.mem_iff
  refine ⟨?_, row_keep h.row hk (fun x h1 h2 => s4 x h1 x (List.mem_append.2 (.inl h2)) rfl), by rw [hn]; exact h.xn, fun i hi => ?_, fun i hi => h.lt i ((memq i).1 hi), fun T hT => ?_, hits, ?_, (hfl.nodup_iff).2 h.nd, hne, by rw [hn]; exact h.n⟩
  · rw [hk.block p (old p (.inl rfl)) s1.2.1, hn]; exact h.po
  · rw [h.cel i hi]
    simp only [memq]
  · rcases List.mem_append.1 hT with hT | hT
    · exact hG T hT
    · exact (h.ow T (List.mem_append.2 (.inr hT))).keep hk (fun x h1 h2 => s7 x h2 x (mem_tfs hT h1) rfl)
  · rw [tfs_append, List.nodup_cons, List.nodup_append, List.nodup_append]
    simp only [List.mem_append, not_or]
    exact ⟨⟨s1.1, fun hc => (gfar p hc).1 rfl, s1.2.2⟩, s2, ⟨nd, s6, fun a ha b hb e => (gfar a ha).2.2 (e ▸ hb)⟩, fun a ha b hb e => by
      rcases hb with hb | hb
      · exact (gfar b hb).2.1 (e ▸ ha)
      · exact s4 a ha b (List.mem_append.2 (.inr hb)) e⟩
theorem PB.turned (h : PB w p v xs ad F A) (hp : F.Perm (D ++ F')) (hk : Keep (tfs D) w w') (hG : ∀ S ∈ G, Own1 w' S) (nd : (tfs G).Nodup) (hg : Grew w (tfs D) (tfs G)) (hn : A'.n = A.n) (hfl : A'.L.flatten.Perm A.L.flatten) (hne : ∀ l ∈ A'.L, l ≠ [])
    (hits : ((G ++ F').map ti).Perm (A'.L.map (itw A'.W ad))) : Out w w' p (p :: (own v ++ tfs F)) A' := by
  have memF : ∀ x, x ∈ tfs F ↔ x ∈ tfs D ∨ x ∈ tfs F' := fun x => by rw [tfs_perm hp, tfs_append, List.mem_append]
  refine ⟨v, xs, ad, G ++ F', (h.perm hp).turn hk hG nd hg hn hfl hne hits, hk.mono (fun x hx => .inl (by simp [(memF x).2 (.inl hx)])), fun x hx => ?_⟩
  rw [tfs_append] at hx
  simp only [List.mem_cons, List.mem_append] at hx ⊢
  rcases hx with h1 | h1 | h1 | h1
  · exact .inl (.inl h1)
  · exact .inl (.inr (.inl h1))
  · rcases hg x h1 with h2 | h2
    · exact .inl (.inr (.inr ((memF x).2 (.inl h2))))
    · exact .inr h2
  · exact .inl (.inr (.inr ((memF x).2 (.inr h1))))

theorem slc_itw (W : Nat → Int) (ad : Nat → Nat) (f e : Int) (l : List Nat) : slc f e (itw W ad l) = itw W ad (slc f e l) := slc_map _
section
variable {T : Tp} {u d : Nat} {c : Cx d 0} {x : Tr 0}
theorem Ctx.ranks (q : Ctx w p v xs ad T F A u d c x) (hu : u ∈ A.L.flatten) {b : Int} (ho : A.okR u b = true) : 0 ≤ A.rankI u ∧ A.rankI u < (its T.h T.t).length ∧ A.rankI u ≤ A.rankI b ∧ A.rankI b ≤ 4194304 ∧ A.part u b = slc (A.rankI u) (A.rankI b + 1) (A.seq u) ∧ T.h ≤ 22 := by
  simp only [Se.okR, Bool.and_eq_true, decide_eq_true_eq] at ho
  have h1 := q.rank hu
  have h2 := List.idxOf_lt_length_of_mem q.mem
  rw [q.split.1] at h2
  have hti : its T.h T.t = itw A.W ad (A.seq u) := q.ti
  have h3 := Se.rankI_bd q.pb b
  have h4 := A.part_slc u b (by omega) (by omega)
  rw [Se.seqI_nat hu] at h4
  rw [hti, itw_length]
  exact ⟨by omega, by omega, ho.2, h3.2, h4, height_le q.own.wf (Nat.le_refl _) q.own.len⟩
theorem Ctx.sum (q : Ctx w p v xs ad T F A u d c x) (hu : u ∈ A.L.flatten) {b : Int} (ho : A.okR u b = true) :
    Calls Try.prog 55 #[.pointer (some ⟨adr T.h T.t, 0, none⟩), .int .i64 (A.rankI u), .int .i64 (A.rankI b + 1)] w fun e w' => e = .returned (smV (A.rangeI u b)) ∧ Below w.heap.size w w' := by
  obtain ⟨r1, r2, r3, r4, r5, r6⟩ := q.ranks hu ho
  have h1 := sumOf_any T.h T.t (.pointer none) (A.rankI u) (A.rankI b + 1) w q.own.mem q.own.wf q.own.len (by omega) r2 (by omega) (by omega) (by omega)
  have hti : its T.h T.t = itw A.W ad (A.seq u) := q.ti
  rw [hti, slc_itw, smL_itw, ← r5] at h1
  rw [Se.rangeI, if_pos ho]
  exact h1
end
theorem below_drewN {B : Nat} {w w' : World} (h : Below B w w') (q : Nat) : Below B w (w'.drewN q) := ⟨h.os, h.tape, h.output, h.size, h.block⟩
theorem range_nil (a b : Int) (w : World) : Calls Try.prog 25 #[.pointer none, .int .i64 a, .int .i64 b] w fun e w' => e = .returned (.tuple #[smV zero, .bool false]) ∧ Below w.heap.size w w' := by
  have S := hide (fun w => span_nil a b w)
  go_enter Try.func25, Try.ntmps25
  go_wp2_with fail
  refine (unhide S _).mono ?_
  rintro e w1 ⟨rfl, q, rfl⟩
  go_wp2
  refine bodyPost_ret (v := .tuple #[smV zero, .bool false]) (by simp [results, Try.results25, go_sem, smV, zero]) rfl ⟨rfl, ?_⟩
  have hb := (Below.refl w.heap.size w).alloc (Nat.le_refl _) (.cells #[.int .i64 0, .int .i64 0, .int .i64 0, .int .i64 0] 33)
  exact below_put (x := zero) (below_drewN hb q) (Nat.le_refl _)
set_option maxRecDepth 100000 in
theorem range_any (a b : Int) (h : PB w p v xs ad F A) : Calls Try.prog 25 #[.pointer (some ⟨p, 0, none⟩), .int .i64 a, .int .i64 b] w fun e w' => e = .returned (.tuple #[smV (A.rangeI a b), .bool (A.okR a b)]) ∧ Below w.heap.size w w' := by
  have hb := (Below.refl w.heap.size w).alloc (Nat.le_refl _) (.cells #[.int .i64 0, .int .i64 0, .int .i64 0, .int .i64 0] 33)
  have s0 := SumAt.zero0 w 33
  have h1 := h.below hb
  cases ho : A.okR a b
  · rw [show A.rangeI a b = zero from by simp [Se.rangeI, ho]]
    have S := hide (span_no a b h1 ho)
    have HB := hide hb
    clear h h1 ho s0
    go_enter Try.func25, Try.ntmps25
    go_wp2_with fail
    refine (unhide S).mono ?_
    rintro e w1 ⟨rfl, q, rfl⟩
    go_wp2
    refine bodyPost_ret (v := .tuple #[smV zero, .bool false]) (by simp [results, Try.results25, go_sem, smV, zero]) rfl ⟨rfl, ?_⟩
    exact below_put (x := zero) (below_drewN (unhide HB) q) (Nat.le_refl _)
  · have ha : A.hasI a = true := by
      simp only [Se.okR, Se.sameI, Bool.and_eq_true] at ho
      exact ho.1.1.1
    obtain ⟨u, rfl, hu⟩ := Se.hasI_true ha
    obtain ⟨T, F', d, c, x, q⟩ := h1.ctx hu
    have S := hide (span_yes b q hu ho)
    have M := hide (fun k => (q.drewN k).sum hu ho)
    have HB := hide (And.intro hb s0)
    clear h h1 ho ha q hb s0 hu
    generalize adr T.h T.t = B1 at *
    generalize A.rangeI u b = s at *
    generalize A.rankI u = ra at *
    generalize A.rankI b = rb at *
    go_enter Try.func25, Try.ntmps25
    go_wp2_with fail
    generalize w.alloc (.cells #[.int .i64 0, .int .i64 0, .int .i64 0, .int .i64 0] 33) = W at *
    generalize hBB : w.heap.size = B at *
    have HE := hide hBB
    clear hBB
    refine (unhide S).mono ?_
    rintro e w1 ⟨rfl, q, rfl⟩
    clear S
    go_wp2_with fail
    refine (unhide M q).mono ?_
    rintro e w2 ⟨rfl, hb2⟩
    have hb3 := below_undrew hb2
    have lB := (unhide HB).2.lt
    have s2 := SumAt.below (unhide HB).2 hb3 lB
    have b3 := (unhide HB).1.trans (hb3.mono (Nat.le_of_lt lB))
    have T := hide (And.intro (SumAt.put (x := s) s2) (below_put (x := s) b3 (Nat.le_refl B)))
    obtain ⟨_, f0, f1, f2, f3⟩ := id s2
    obtain ⟨⟨p0, p1, p2, p3⟩, _⟩ := id s2
    clear M HB hb2 hb3 lB s2 b3
    unfold putSum at T
    unfold smV
    go_wp2
    obtain ⟨⟨⟨z0, z1, z2, z3⟩, _⟩, hb⟩ := unhide T
    refine bodyPost_ret (v := .tuple #[smV s, .bool true]) ?_ rfl ⟨rfl, by rw [unhide HE]; exact hb⟩
    simp [results, Try.results25, go_sem, z0, z1, z2, z3, smV]

theorem itw_congr {W W' : Nat → Int} {ad : Nat → Nat} {l : List Nat} (h : ∀ v ∈ l, W v = W' v) : itw W ad l = itw W' ad l := by
  unfold itw
  exact List.map_congr_left (fun v hv => by rw [h v hv])
theorem itw_up (W : Nat → Int) (ad : Nat → Nat) (d : Int) : ∀ (l : List Nat) (f e : Int), l.Nodup → itw (upW W (slc f e l) d) ad l = rrL f e d (itw W ad l) := by
  intro l
  induction l with
  | nil => intro f e _; rfl
  | cons x l ih =>
    intro f e hn
    rw [List.nodup_cons] at hn
    rw [show itw W ad (x :: l) = ((x, ad x), W x) :: itw W ad l from rfl, rrL_cons, ← ih (f - 1) (e - 1) hn.2, show itw (upW W (slc f e (x :: l)) d) ad (x :: l) = ((x, ad x), upW W (slc f e (x :: l)) d x) :: itw (upW W (slc f e (x :: l)) d) ad l from rfl]
    have hx : x ∉ slc (f - 1) (e - 1) l := fun hm => hn.1 (slc_mem hm)
    congr 1
    · rw [upW, slc_cons]
      by_cases h : f ≤ 0 ∧ 0 < e
      · rw [if_pos h, if_pos h, if_pos (by simp)]
      · rw [if_neg h, if_neg h, if_neg (by simpa using hx)]
    · refine itw_congr (fun v hv => ?_)
      have hne : v ≠ x := fun e => hn.1 (e ▸ hv)
      unfold upW
      rw [slc_cons]
      have : (v ∈ (if f ≤ 0 ∧ 0 < e then [x] else []) ++ slc (f - 1) (e - 1) l) ↔ v ∈ slc (f - 1) (e - 1) l := by
        split <;> simp [hne]
      simp only [this]
section
variable {T : Tp} {u d : Nat} {c : Cx d 0} {x : Tr 0}
theorem Ctx.liftFit (q : Ctx w p v xs ad T F A u d c x) (hu : u ∈ A.L.flatten) {b by_ : Int} (hl : A.liftB u b by_ = true) : itw (A.liftA u b by_).W ad (A.seq u) = rrL (A.rankI u) (A.rankI b + 1) by_ (its T.h T.t) ∧ FitL (rrL (A.rankI u) (A.rankI b + 1) by_ (its T.h T.t)) := by
  have eA : A.liftA u b by_ = { A with W := upW A.W (A.part u b) by_ } := by rw [Se.liftA, if_pos hl]
  simp only [Se.liftB, Bool.and_eq_true] at hl
  obtain ⟨ho, h1, h2⟩ := hl
  obtain ⟨r1, r2, r3, r4, r5, r6⟩ := q.ranks hu ho
  have hti : its T.h T.t = itw A.W ad (A.seq u) := q.ti
  have nd := nodup_flatten q.pb.nd q.inL
  have e1 : itw (upW A.W (A.part u b) by_) ad (A.seq u) = rrL (A.rankI u) (A.rankI b + 1) by_ (its T.h T.t) := by
    rw [hti, ← itw_up A.W ad by_ _ _ _ nd, ← r5]
  rw [eA]
  refine ⟨e1, ?_⟩
  rw [← e1]
  have e : A.rangeI u b = ofR ((A.part u b).map A.W) := by rw [Se.rangeI, if_pos ho]
  rw [e] at h1 h2
  have g1 := addB_true h1
  have g2 := addB_true h2
  intro y hy
  obtain ⟨k, hk, rfl⟩ := List.mem_map.1 hy
  dsimp only
  unfold upW
  split
  · rename_i hm
    have := ofR_mem ((A.part u b).map A.W) (A.W k) (List.mem_map.2 ⟨k, hm, rfl⟩)
    omega
  · exact q.fit ((k, ad k), A.W k) (List.mem_map.2 ⟨k, hk, rfl⟩)
/-- The other sequences' items are as they were. -/
theorem Ctx.far (q : Ctx w p v xs ad T F A u d c x) {l : List Nat} (hl : l ∈ A.L.erase (A.seq u)) : ∀ k ∈ l, k ∉ A.seq u := fun k h1 h2 => by
  have hp := List.perm_cons_erase q.inL
  have hn := (hp.flatten.nodup_iff).1 q.pb.nd
  rw [List.flatten_cons, List.nodup_append] at hn
  exact hn.2.2 k h2 k (List.mem_flatten.2 ⟨l, hl, h1⟩) rfl
end
end
end Go.Proofs.Ytbkneonbpcmepaa
