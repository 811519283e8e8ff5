/- Two knots of one height, one with few parts, become one or two. -/
import Derived.Test.YtbkneonbpcmepaaP10
namespace Go.Proofs.Ytbkneonbpcmepaa
open Go.RowKit Go.Arb
set_option linter.unusedVariables false
set_option linter.unusedSimpArgs false

theorem min_any (a b : Nat) (w : World) : (Builtin.min_ #[3, 3] 3 #[.int .i64 (a : Int), .int .i64 (b : Int)]).run Try.prog w = .ok (.int .i64 ((min a b : Nat) : Int)) w := by
  rw [run_min_int2]
  congr 2
  split <;> omega
theorem min_few {a b : Nat} (h : ¬ (4 ≤ a ∧ 4 ≤ b)) : ¬ (4 : Int) ≤ ((min a b : Nat) : Int) := by omega
theorem few_lens {a b k l : Nat} (h1 : 2 ≤ k) (h2 : 2 ≤ l) (h3 : k ≤ a ∧ a ≤ 8) (h4 : l ≤ b ∧ b ≤ 8) (h : ¬ (4 ≤ a ∧ 4 ≤ b)) : a ≤ 8 ∧ b ≤ 8 ∧ 2 ≤ a ∧ 2 ≤ b ∧ a + b ≤ 11 := by omega
set_option maxRecDepth 100000 in
set_option maxHeartbeats 1000000 in
theorem blend_few {h k l : Nat} (a b : Tr (h + 1)) (ua ub : Value) (w : World) (h9 : h ≤ 1000) (hk : 2 ≤ k) (hk' : 2 ≤ l) (ma : Mem w (h + 1) ua a) (mb : Mem w (h + 1) ub b) (nd : (fp (h + 1) a ++ fp (h + 1) b).Nodup)
    (wa : Wf (h + 1) k a) (wb : Wf (h + 1) l b) (hf : FitL (its (h + 1) a ++ its (h + 1) b)) (hl : (its (h + 1) a ++ its (h + 1) b).length ≤ 4194304) (hm : ¬ (4 ≤ (Nd.ps a).length ∧ 4 ≤ (Nd.ps b).length)) :
    Calls Try.prog 71 #[ptr (adr (h + 1) a), ptr (adr (h + 1) b)] w fun e w' => ∃ rv res, e = .returned rv ∧ Bl w w' (h + 1) (fp (h + 1) a ++ fp (h + 1) b) rv res (its (h + 1) a ++ its (h + 1) b) 4 := by
  have ha := root_ht ma
  have hb := root_ht mb
  have pa := root_pt ma
  have pb := root_pt mb
  obtain ⟨xa, ca, ea, _⟩ := (show Row w (Nd.r a) _ from ma.2.1).form
  obtain ⟨xb, cb, eb, _⟩ := (show Row w (Nd.r b) _ from mb.2.1).form
  rw [show rowOf (h + 1) a = Nd.r a from rfl, ea, List.length_map] at pa
  rw [show rowOf (h + 1) b = Nd.r b from rfl, eb, List.length_map] at pb
  clear ea eb
  have hz : (((h + 1 : Nat) : Int) == 0) = false := by rw [beq_eq_false_iff_ne]; omega
  have hmin := min_any (Nd.ps a).length (Nd.ps b).length
  have hm4 := min_few hm
  have hla : (((Nd.ps a).map (rais (Nd.m a) h)).length = (Nd.ps a).length) ∧ (((Nd.ps b).map (rais (Nd.m b) h)).length = (Nd.ps b).length) := ⟨List.length_map _, List.length_map _⟩
  rw [List.nodup_append] at nd
  obtain ⟨n1, n2, n3⟩ := nd
  rw [List.length_append] at hl
  have A2 := hide (fun q => settle_nod a ua (w.drewN q) (ma.drewN q) n1 wa (by omega))
  have B2 := hide (fun w1 (q : Mem w1 (h + 1) ub b) => settle_nod b ub w1 q n2 wb (by omega))
  have wa' := wa.settl
  have wb' := wb.settl
  have e1 := its_settl h a
  have e2 := its_settl h b
  have f1 := fp_settl h a
  have f2 := fp_settl h b
  rw [← e1, ← e2] at hf hl ⊢
  rw [← f1] at n1 n3 ⊢
  rw [← f2] at n2 n3
  have MB := hide (fun w1 (q : Keep (fp (h + 1) (settl h a)) w w1) => mb.keep q (fun x hx hc => n3 x hc x (by rw [f2]; exact hx) rfl))
  rw [← f2]
  rw [settl_nod] at A2 wa' hf hl n1 n3 MB ⊢
  rw [settl_nod] at B2 wb' hf hl n2 n3 ⊢
  clear ma mb e1 e2 f1 f2 wa wb
  obtain ⟨l1, l2⟩ := hla
  generalize (Nd.ps a).map (rais (Nd.m a) h) = ps at *
  generalize (Nd.ps b).map (rais (Nd.m b) h) = qs at *
  rw [← l1] at hm hm4 hmin pa
  rw [← l2] at hm hm4 hmin pb
  clear l1 l2
  rw [show adr (h + 1) a = Nd.a a from rfl] at ha pa ⊢
  rw [show adr (h + 1) b = Nd.a b from rfl] at hb pb ⊢
  generalize Nd.a a = A0 at *
  generalize Nd.r a = R0 at *
  generalize Nd.a b = B0 at *
  generalize Nd.r b = S0 at *
  rw [its_nod, its_nod] at hf hl ⊢
  rw [← List.flatMap_append] at hf ⊢
  have wl : k ≤ ps.length ∧ ps.length ≤ 8 := wa'.1
  have wl' : l ≤ qs.length ∧ qs.length ≤ 8 := wb'.1
  have wp : ∀ s ∈ ps, Wf h 4 s := wa'.2.2
  have wq : ∀ s ∈ qs, Wf h 4 s := wb'.2.2
  have hl2 : ((ps ++ qs).flatMap (its h)).length ≤ 4194304 := by rw [List.flatMap_append, List.length_append]; exact hl
  obtain ⟨m1, m2, m3, m4⟩ := nod_nd n1
  obtain ⟨o1, o2, o3, o4⟩ := nod_nd n2
  have memJ : ∀ x, (x = A0 ∨ x ∈ own R0 ∨ x ∈ fps h ps) ↔ x ∈ fp (h + 1) (nod h A0 R0 0 ps) := fun x => by
    rw [fp_nod]
    simp only [List.mem_cons, List.mem_append]
  have memK : ∀ x, (x = B0 ∨ x ∈ own S0 ∨ x ∈ fps h qs) ↔ x ∈ fp (h + 1) (nod h B0 S0 0 qs) := fun x => by
    rw [fp_nod]
    simp only [List.mem_cons, List.mem_append]
  have far : ∀ x ∈ fp (h + 1) (nod h A0 R0 0 ps), x ∉ fp (h + 1) (nod h B0 S0 0 qs) := fun x h1 h2 => n3 x h1 x h2 rfl
  have H := hide (And.intro hf (And.intro hl2 (And.intro memJ (And.intro memK (And.intro far (And.intro wp (And.intro wq (And.intro m2 (And.intro m3 o3)))))))))
  have hq : ps.length ≤ 8 ∧ qs.length ≤ 8 ∧ 2 ≤ ps.length ∧ 2 ≤ qs.length ∧ ps.length + qs.length ≤ 11 := few_lens hk hk' wl wl' hm
  have HQ := hide hq
  clear n1 n2 n3 m1 m2 m3 m4 o1 o2 o3 o4 hf hl hl2 memJ memK far wp wq wa' wb' wl wl' hm
  generalize min ps.length qs.length = mn at *
  unfold ptr at A2 B2 ⊢
  generalize hH1 : ((h + 1 : Nat) : Int) = H1 at *
  clear hH1
  go_enter Try.func71, Try.ntmps71
  go_wp2_with fail
  go_quiet (fail)
  go_wp2_with fail
  go_quiet (fail)
  go_wp2_with fail
  go_quiet (fail)
  clear pa pb hmin ha hb
  go_wp2_with fail
  clear hm4 hz
  refine (unhide A2 _).mono ?_
  rintro e w1 ⟨rfl, h1, h2⟩
  have K1 := (keep_drewN (fp (h + 1) (nod h A0 R0 0 ps)) w _).tr h2
  have G1 := hide (And.intro h1 (And.intro K1 (unhide MB w1 K1)))
  clear h1 h2 K1 A2
  go_wp2_with fail
  refine (unhide B2 w1 (unhide G1).2.2).mono ?_
  rintro e w2 ⟨rfl, h1, h2⟩
  have ma2 := (unhide G1).1.keep h2 (fun x hx => (unhide H).2.2.2.2.1 x hx)
  have K2 : Keep (fp (h + 1) (nod h A0 R0 0 ps) ++ fp (h + 1) (nod h B0 S0 0 qs)) w w2 := ((unhide G1).2.1.mono (fun x hx => .inl (by simp [hx]))).tr (h2.mono (fun x hx => .inl (by simp [hx])))
  obtain ⟨x, cap, e, c1, c2, c3, _⟩ := ma2.nrow.form
  rw [List.length_map] at e c1 c3
  obtain ⟨g, rfl, hg, hgo⟩ := c3 (by omega)
  obtain ⟨x', cap', e', c1', c2', c3', _⟩ := h1.nrow.form
  rw [List.length_map] at e' c1' c3'
  obtain ⟨g', rfl, hg', hgo'⟩ := c3' (by omega)
  obtain ⟨_, q1, _, _, _, _, _, _, _⟩ := ma2.kn.cells
  obtain ⟨_, q2, _, _, _, _, _, _, _⟩ := h1.kn.cells
  rw [e] at q1
  rw [e'] at q2
  have v1 := row_vw ma2.nrow
  have v2 := row_vw h1.nrow
  rw [e] at v1
  rw [e'] at v2
  have G := hide (And.intro ma2 (And.intro h1 (And.intro K2 (And.intro v1 v2))))
  clear B2 h1 h2 G1 ma2 K2 c3 c3' v1 v2 hg hgo hg' hgo' e e' MB
  have Y3 := hide (cat_any (ps.map (adr h)) (qs.map (adr h)) _ _ (w2.drewN 1) ((unhide G).2.2.2.1.keep (keep_drewN [] w2 1) (by simp)) ((unhide G).2.2.2.2.keep (keep_drewN [] w2 1) (by simp)) (by rw [List.length_map, List.length_map]; omega) (by rw [List.length_map, List.length_map]; omega))
  rw [← List.map_append] at Y3
  have L3 : Hid (∀ w4 nr v1 v2, Cat (w2.drewN 1) w4 v1 v2 nr ((ps ++ qs).map (adr h)) →
      Calls Try.prog 87 #[.pointer (some ⟨A0, 0, none⟩), nr] w4 fun e w'' => ∃ v res, e = .returned v ∧ Bl w w'' (h + 1) (fp (h + 1) (nod h A0 R0 0 ps) ++ fp (h + 1) (nod h B0 S0 0 qs)) v res ((ps ++ qs).flatMap (its h)) 4) := hide (fun w4 nr v1 v2 C => by
    obtain ⟨hf, hl2, memJ, memK, far, wp, wq, m2, m3, o3⟩ := unhide H
    obtain ⟨ma2, mb2, K2, _⟩ := unhide G
    have hsz := K2.size
    have hpq : ∀ x ∈ fps h ps, x ∉ fps h qs := fun x h1 h2 => far x ((memJ x).1 (.inr (.inr h1))) ((memK x).1 (.inr (.inr h2)))
    have tt : Ts (w2.drewN 1) h (ps ++ qs) := Ts.app.2 ⟨⟨fun t ht => ⟨_, (ma2.part ht).drewN 1⟩, m3⟩, ⟨fun t ht => ⟨_, (mb2.part ht).drewN 1⟩, o3⟩, hpq⟩
    have hAt : A0 ∉ fps h (ps ++ qs) := fun hc => by
      rw [fps_append] at hc
      rcases List.mem_append.1 hc with hc | hc
      · exact m2 hc
      · exact far A0 ((memJ A0).1 (.inl rfl)) ((memK A0).1 (.inr (.inr hc)))
    have htl : (ps ++ qs).length = ps.length + qs.length := List.length_append
    refine (cat_share (ps ++ qs) A0 ua R0 v1 v2 nr _ (w2.drewN 1) w4 h9 (ma2.kn.keep (keep_drewN [] w2 1) (by simp)) tt hAt C hl2 hf (by have := unhide HQ; omega)).mono ?_
    rintro e w5 ⟨v, res, rfl, S⟩
    refine ⟨v, res, rfl, S.bl ((K2.tr (keep_drewN _ w2 1)).tr (C.keep _)) (by rw [List.mem_append]; exact .inl ((memJ A0).1 (.inl rfl))) (fun x hx => ?_) (fun x hx => .inl ?_) (by have := unhide HQ; omega) (by have := unhide HQ; omega) hf (fun t ht => ?_)⟩
    · have h1 := C.new x hx
      have h2 : (w2.drewN 1).heap.size = w2.heap.size := rfl
      omega
    · rw [fps_append] at hx
      rw [List.mem_append]
      rcases List.mem_append.1 hx with hx | hx
      · exact .inl ((memJ x).1 (.inr (.inr hx)))
      · exact .inr ((memK x).1 (.inr (.inr hx)))
    · rcases List.mem_append.1 ht with ht | ht
      · exact wp t ht
      · exact wq t ht)
  have y4 : A0 < w2.heap.size := (unhide G).1.kn.lt
  have y5 : B0 < w2.heap.size := (unhide G).2.1.kn.lt
  go_wp2_with fail
  refine wp_region_tail 11 (by kernel_rfl) (by kernel_rfl) ?_
  simp only [List.take_succ_cons, List.take_zero, List.drop_succ_cons, List.drop_zero, List.length_cons, List.length_nil, Nat.reduceAdd]
  refine wpAny_of_held (S := (fun w' : World => w'.cell? ⟨A0, 1, none⟩ = some (.slice (some ⟨g, 0, none⟩) ps.length cap) ∧ w'.cell? ⟨B0, 1, none⟩ = some (.slice (some ⟨g', 0, none⟩) qs.length cap'))) _ _ _ _ ?_
  have hHeld : (fun w' : World => w'.cell? ⟨A0, 1, none⟩ = some (.slice (some ⟨g, 0, none⟩) ps.length cap) ∧ w'.cell? ⟨B0, 1, none⟩ = some (.slice (some ⟨g', 0, none⟩) qs.length cap')) w2.drew := ⟨q1, q2⟩
  refine wpAnyH_take (i := 0) (v := ?v0) rfl (by kernel_rfl) (by kernel_rfl) (by kernel_rfl) (fun _ _ _ h => h) (Or.inl ⟨by rfl, ?hy0⟩) (by assumption) ?rest0
  case hy0 => intro w hSw; (try dsimp only at hSw); go_simp; (try with_reducible rfl)
  try simp only [Act.put, List.setIfInBounds_toArray, List.set_cons_zero, List.set_cons_succ]
  refine wpAnyH_take (i := 1) (v := ?v1) rfl (by kernel_rfl) (by kernel_rfl) (by kernel_rfl) (fun _ _ _ h => h) (Or.inl ⟨by rfl, ?hy1⟩) (by assumption) ?rest1
  case hy1 => intro w hSw; (try dsimp only at hSw); go_simp; (try with_reducible rfl)
  try simp only [Act.put, List.setIfInBounds_toArray, List.set_cons_zero, List.set_cons_succ]
  refine wpAnyH_take (i := 2) (v := ?v2) rfl (by kernel_rfl) (by kernel_rfl) (by kernel_rfl) (fun _ _ _ h => h) (Or.inl ⟨by rfl, ?hy2⟩) (by assumption) ?rest2
  case hy2 => intro w hSw; (try dsimp only at hSw); go_simp; (try with_reducible rfl)
  try simp only [Act.put, List.setIfInBounds_toArray, List.set_cons_zero, List.set_cons_succ]
  refine wpAnyH_take (i := 3) (v := ?v3) rfl (by kernel_rfl) (by kernel_rfl) (by kernel_rfl) (fun _ _ _ h => h) (Or.inl ⟨by rfl, ?hy3⟩) (by assumption) ?rest3
  case hy3 => intro w hSw; (try dsimp only at hSw); go_simp; (try with_reducible rfl)
  try simp only [Act.put, List.setIfInBounds_toArray, List.set_cons_zero, List.set_cons_succ]
  refine wpAnyH_take (i := 4) (v := ?v4) rfl (by kernel_rfl) (by kernel_rfl) (by kernel_rfl) (fun _ _ _ h => h) (Or.inl ⟨by rfl, ?hy4⟩) (by assumption) ?rest4
  case hy4 => intro w hSw; (try dsimp only at hSw); go_simp; (try with_reducible rfl)
  try simp only [Act.put, List.setIfInBounds_toArray, List.set_cons_zero, List.set_cons_succ]
  refine wpAnyH_take (i := 5) (v := ?v5) rfl (by kernel_rfl) (by kernel_rfl) (by kernel_rfl) (fun _ _ _ h => h) (Or.inl ⟨by rfl, ?hy5⟩) (by assumption) ?rest5
  case hy5 => intro w hSw; (try dsimp only at hSw); go_simp; (try with_reducible rfl)
  try simp only [Act.put, List.setIfInBounds_toArray, List.set_cons_zero, List.set_cons_succ]
  refine wpAnyH_take (i := 6) (v := ?v6) rfl (by kernel_rfl) (by kernel_rfl) (by kernel_rfl) (fun _ _ _ h => h) (Or.inl ⟨by rfl, ?hy6⟩) (by assumption) ?rest6
  case hy6 => intro w hSw; (try dsimp only at hSw); go_simp; (try with_reducible rfl)
  try simp only [Act.put, List.setIfInBounds_toArray, List.set_cons_zero, List.set_cons_succ]
  refine wpAnyH_take (i := 7) (v := ?v7) rfl (by kernel_rfl) (by kernel_rfl) (by kernel_rfl) (fun _ _ _ h => h) (Or.inl ⟨by rfl, ?hy7⟩) (by assumption) ?rest7
  case hy7 => intro w hSw; (try dsimp only at hSw); go_simp; (try with_reducible rfl)
  try simp only [Act.put, List.setIfInBounds_toArray, List.set_cons_zero, List.set_cons_succ]
  refine wpAnyH_take (i := 8) (v := ?v8) rfl (by kernel_rfl) (by kernel_rfl) (by kernel_rfl) (fun _ _ _ h => h) (Or.inl ⟨by rfl, ?hy8⟩) (by assumption) ?rest8
  case hy8 => intro w hSw; (try dsimp only at hSw); go_simp; (try with_reducible rfl)
  try simp only [Act.put, List.setIfInBounds_toArray, List.set_cons_zero, List.set_cons_succ]
  refine wpAnyH_ready (rs := [9]) (by kernel_rfl) (by simp) (AllReadyH.cons rfl (fun K hK => ?_) AllReadyH.nil)
  go_simp
  refine hK.out _ _ (by simp [go_sem, *]) (fun hHeld => ?_)
  clear hK K
  try simp only [Act.put, List.setIfInBounds_toArray, List.set_cons_zero, List.set_cons_succ]
  refine wpAnyH_ready (rs := [10]) (by kernel_rfl) (by simp) (AllReadyH.cons rfl (fun K hK => ?_) AllReadyH.nil)
  go_simp
  refine (unhide Y3).mono ?_
  rintro e w4 ⟨nr, rfl, hC⟩
  have CC := hide hC
  have z1 : w4.cell? ⟨A0, 1, none⟩ = some (.slice (some ⟨g, 0, none⟩) ps.length cap) := (by rw [(hC.keep []).cell (p := ⟨A0, 1, none⟩) y4 (by simp)]; exact q1)
  have z2 : w4.cell? ⟨B0, 1, none⟩ = some (.slice (some ⟨g', 0, none⟩) qs.length cap') := (by rw [(hC.keep []).cell (p := ⟨B0, 1, none⟩) y5 (by simp)]; exact q2)
  clear hC Y3
  refine hK.out _ _ (by simp [go_sem, *]) (fun hHeld => ?_)
  clear hK K
  try simp only [Act.put, List.setIfInBounds_toArray, List.set_cons_zero, List.set_cons_succ]
  refine wpAnyH_done (by kernel_rfl) ?_ _
  unfold HT
  go_wp2_with fail
  refine (unhide L3 _ _ _ _ (unhide CC)).mono ?_
  rintro e w5 ⟨v5, res5, rfl, hZ⟩
  have ZZ := hide hZ
  clear hZ L3
  go_wp2
  go_ret
  exact ⟨v5, res5, rfl, unhide ZZ⟩
end Go.Proofs.Ytbkneonbpcmepaa
