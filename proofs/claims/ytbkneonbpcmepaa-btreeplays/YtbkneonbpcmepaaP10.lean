/- A tree put ahead of a higher one. -/
import Derived.Test.YtbkneonbpcmepaaP9
namespace Go.Proofs.Ytbkneonbpcmepaa
open Go.RowKit Go.Arb
set_option linter.unusedVariables false
set_option linter.unusedSimpArgs false

set_option maxRecDepth 100000 in
set_option maxHeartbeats 1000000 in
/-- Ahead of a knot that is settled: a and its first part become one or two, and these and the other parts are shared out. -/
theorem blend_lo {h i k : Nat} (a : Tr i) (b : Tr (h + 1)) (ua ub : Value) (w : World) (h9 : h ≤ 1000) (hj : i ≤ h) (hk : 2 ≤ k) (ma : Mem w i ua a) (mb : Mem w (h + 1) ub b) (nd : (fp i a ++ fp (h + 1) b).Nodup)
    (wb : Wf (h + 1) k b) (hf : FitL (its i a ++ its (h + 1) b)) (hl : (its i a ++ its (h + 1) b).length ≤ 4194304)
    (ih : ∀ p : Tr h, Wf h 4 p → (fp i a ++ fp h p).Nodup → FitL (its i a ++ its h p) → (its i a ++ its h p).length ≤ 4194304 → BlT i h h 4 a p) :
    Calls Try.prog 71 #[ptr (adr i a), ptr (adr (h + 1) b)] w fun e w' => ∃ rv res, e = .returned rv ∧ Bl w w' (h + 1) (fp i a ++ fp (h + 1) b) rv res (its i a ++ its (h + 1) b) k := by
  have ha := root_ht ma
  have hb := root_ht mb
  rw [List.nodup_append] at nd
  obtain ⟨n2, n1, n3⟩ := nd
  rw [List.length_append] at hl
  have A2 := hide (fun q => settle_nod b ub (w.drewN q) (mb.drewN q) n1 wb (by omega))
  have hgt : ((i : Nat) : Int) < ((h + 1 : Nat) : Int) := by omega
  have hngt : ¬ ((h + 1 : Nat) : Int) < ((i : Nat) : Int) := by omega
  have wb' := wb.settl
  have eb := its_settl h b
  have ef := fp_settl h b
  rw [← eb] at hf hl ⊢
  rw [← ef] at n1 n3 ⊢
  rw [settl_nod] at A2 wb' hf hl n1 n3 ⊢
  clear mb eb ef wb
  generalize (Nd.ps b).map (rais (Nd.m b) h) = ps at *
  rw [show adr (h + 1) b = Nd.a b from rfl] at hb ⊢
  generalize Nd.a b = A0 at *
  generalize Nd.r b = R0 at *
  rw [its_nod] at hf hl ⊢
  have wl : k ≤ ps.length ∧ ps.length ≤ 8 := wb'.1
  have wp : ∀ s ∈ ps, Wf h 4 s := wb'.2.2
  obtain ⟨p, tl, rfl⟩ : ∃ p l, ps = p :: l := by
    match ps, wl with
    | [], wl => simp at wl; omega
    | p :: l, _ => exact ⟨p, l, rfl⟩
  have hpl : (p :: tl).length = tl.length + 1 := by simp
  have eqx : its i a ++ (p :: tl).flatMap (its h) = (its i a ++ its h p) ++ tl.flatMap (its h) := by simp
  rw [eqx] at hf ⊢
  have hl2 : ((its i a ++ its h p) ++ tl.flatMap (its h)).length ≤ 4194304 := by rw [← eqx, List.length_append]; exact hl
  have fpb : FitL (its i a ++ its h p) := (FitL.append.1 hf).1
  have lpb : (its i a ++ its h p).length ≤ 4194304 := by rw [List.length_append] at hl2; omega
  obtain ⟨m1, m2, m3, m4⟩ := nod_nd n1
  rw [fps_cons] at m2 m3 m4
  rw [List.nodup_append] at m3
  obtain ⟨m6, m5, m7⟩ := m3
  have npb : (fp i a ++ fp h p).Nodup := by
    rw [List.nodup_append]
    exact ⟨n2, m6, fun x hx y hy => n3 x hx y (by rw [fp_nod, fps_cons]; simp [hy])⟩
  have IH := hide (ih p (wp p (by simp)) npb fpb lpb)
  have memJ : ∀ x, (x = A0 ∨ x ∈ own R0 ∨ x ∈ fps h tl ∨ x ∈ fp h p) ↔ x ∈ fp (h + 1) (nod h A0 R0 0 (p :: tl)) := fun x => by
    rw [fp_nod, fps_cons]
    simp only [List.mem_cons, List.mem_append]
    constructor
    · rintro (h | h | h | h)
      · exact .inl h
      · exact .inr (.inl h)
      · exact .inr (.inr (.inr h))
      · exact .inr (.inr (.inl h))
    · rintro (h | h | h | h)
      · exact .inl h
      · exact .inr (.inl h)
      · exact .inr (.inr (.inr h))
      · exact .inr (.inr (.inl h))
  have offb : ∀ x ∈ fp i a, x ≠ A0 ∧ x ∉ own R0 ∧ x ∉ fps h tl := fun x hx =>
    ⟨fun e => n3 x hx x ((memJ x).1 (.inl e)) rfl, fun e => n3 x hx x ((memJ x).1 (.inr (.inl e))) rfl, fun e => n3 x hx x ((memJ x).1 (.inr (.inr (.inl e)))) rfl⟩
  have offp : ∀ x ∈ fp h p, x ≠ A0 ∧ x ∉ own R0 ∧ x ∉ fps h tl := fun x hx =>
    ⟨fun e => m2 (by rw [← e]; simp [hx]), fun e => m4 x e (by simp [hx]), fun e => m7 x hx x e rfl⟩
  have kb : ∀ w', Keep (fp (h + 1) (nod h A0 R0 0 (p :: tl))) w w' → Mem w' i ua a := fun w' q => ma.keep q (fun x hx hc => n3 x hx x hc rfl)
  have H := hide (And.intro offb (And.intro offp (And.intro kb (And.intro hf (And.intro hl2 (And.intro memJ (And.intro wp (And.intro m5 (And.intro m1 m2)))))))))
  have hq : tl.length ≤ 7 := by omega
  have hq2 : 2 ≤ tl.length + 1 := by omega
  have HK := hide (show k ≤ tl.length + 1 by omega)
  clear ih n1 n2 n3 m1 m2 m4 m5 m6 m7 hf hl hl2 fpb lpb npb offb offp kb memJ wb' wp eqx ma
  generalize hbb : adr i a = B0 at *
  have HBB := hide hbb
  clear hbb
  unfold ptr at A2 ⊢
  generalize hH1 : ((h + 1 : Nat) : Int) = H1 at *
  clear hH1
  generalize ((i : Nat) : Int) = J1 at *
  go_enter Try.func71, Try.ntmps71
  go_wp2_with fail
  go_quiet (fail)
  go_wp2_with fail
  go_quiet (fail)
  go_wp2_with fail
  refine (unhide A2 _).mono ?_
  rintro e w1 ⟨rfl, h1, h2⟩
  have K1 := (keep_drewN (fp (h + 1) (nod h A0 R0 0 (p :: tl))) w _).tr h2
  have kn := h1.kn
  have mb1 := (unhide H).2.2.1 _ K1
  obtain ⟨x, cap, e, c1, c2, c3, c4⟩ := h1.nrow.form
  rw [List.length_map, hpl] at e c1 c3 c4
  obtain ⟨g, rfl, hg, hgo⟩ := c3 (by omega)
  have c5 := c4 g rfl 0 (by omega)
  rw [mapD _ _ (by rw [hpl]; omega)] at c5
  simp only [List.getElem_cons_zero] at c5
  obtain ⟨_, q1, _, _, _, _, _, _, _⟩ := kn.cells
  rw [e] at q1
  have hgA : g ∈ own R0 := by rw [e]; simp [own, Value.ownBlock]
  have v1 := vw_drop (show Row w1 (.slice (some ⟨g, 0, none⟩) (tl.length + 1) cap) ((p :: tl).map (adr h)) by rw [← e]; exact h1.nrow) (k := 1) (by omega) (cap - 1)
  have e1 : ((p :: tl).map (adr h)).drop 1 = tl.map (adr h) := rfl
  rw [e1, Nat.add_sub_cancel] at v1
  have G := hide (And.intro h1 (And.intro K1 (And.intro mb1 (And.intro v1 (And.intro hgA hg)))))
  have r2 : (1 : Int) < (cap : Int) := by omega
  have r3 : (1 : Int) ≤ (tl.length : Int) + 1 := by omega
  have r4 : ¬ cap = 1 := by omega
  have E := hide e
  clear A2 h1 h2 K1 kn mb1 c3 c4 v1 e1 hgA hg hgo e
  unfold ptr at c5
  have I1 := unhide IH (w1.drewN 1) ua (ptr A0) ((unhide G).2.2.1.drewN 1) (((unhide G).1.part (by simp)).drewN 1)
  rw [unhide HBB] at I1
  unfold ptr at I1
  have I1 := hide I1
  have L2 : Hid (∀ w2 rv1 res1, Bl (w1.drewN 1) w2 h (fp i a ++ fp h p) rv1 res1 (its i a ++ its h p) 4 → w2.cell? ⟨A0, 1, none⟩ = some (.slice (some ⟨g, 0, none⟩) (tl.length + 1) cap) ∧ w2.cell? ⟨g, 0, none⟩ = some (.pointer (some ⟨adr h p, 0, none⟩)) ∧
      Calls Try.prog 88 #[.slice (some ⟨w2.heap.size, 0, none⟩) 2 2] (w2.alloc (.cells #[rv1, .slice (some ⟨g, 1, none⟩) tl.length (cap - 1)] 58)) fun e w' => ∃ nr, e = .returned nr ∧ Cat w2 w' rv1 (.slice (some ⟨g, 1, none⟩) tl.length (cap - 1)) nr ((res1 ++ tl).map (adr h))) := hide (fun w2 rv1 res1 B => by
    have hA : A0 ∉ fp i a ++ fp h p := fun hc => by
      rcases List.mem_append.1 hc with hc | hc
      · exact ((unhide H).1 _ hc).1 rfl
      · exact ((unhide H).2.1 _ hc).1 rfl
    have hG : g ∉ fp i a ++ fp h p := fun hc => by
      rcases List.mem_append.1 hc with hc | hc
      · exact ((unhide H).1 _ hc).2.1 (unhide G).2.2.2.2.1
      · exact ((unhide H).2.1 _ hc).2.1 (unhide G).2.2.2.2.1
    have lA := (unhide G).1.kn.lt
    refine ⟨?_, ?_, ?_⟩
    · rw [B.kp.cell (p := ⟨A0, 1, none⟩) lA hA]; exact q1
    · rw [B.kp.cell (p := ⟨g, 0, none⟩) (unhide G).2.2.2.2.2 hG]; exact c5
    · rw [List.map_append]
      refine cat_any _ _ _ _ w2 (row_vw B.row) (((unhide G).2.2.2.1.keep (keep_drewN [] w1 1) (by simp)).keep B.kp (fun x hx => ?_)) ?_ ?_
      · simp [own, Value.ownBlock] at hx
        subst hx
        exact hG
      · rw [List.length_map, List.length_map]
        rcases B.wf with ⟨t, rfl, _⟩ | ⟨t, s, rfl, _⟩ <;> simp <;> omega
      · rw [List.length_map, List.length_map]
        rcases B.wf with ⟨t, rfl, _⟩ | ⟨t, s, rfl, _⟩ <;> simp <;> omega)
  have L3 : Hid (∀ w2 rv1 res1 w4 nr v1, Bl (w1.drewN 1) w2 h (fp i a ++ fp h p) rv1 res1 (its i a ++ its h p) 4 → Cat w2 w4 rv1 v1 nr ((res1 ++ tl).map (adr h)) →
      Calls Try.prog 87 #[.pointer (some ⟨A0, 0, none⟩), nr] w4 fun e w'' => ∃ v res, e = .returned v ∧ Bl w w'' (h + 1) (fp i a ++ fp (h + 1) (nod h A0 R0 0 (p :: tl))) v res ((its i a ++ its h p) ++ tl.flatMap (its h)) k) := hide (fun w2 rv1 res1 w4 nr v1 B C => by
    have hA : A0 ∉ fp i a ++ fp h p := fun hc => by
      rcases List.mem_append.1 hc with hc | hc
      · exact ((unhide H).1 _ hc).1 rfl
      · exact ((unhide H).2.1 _ hc).1 rfl
    have hI : ∀ x ∈ fps h tl, x ∉ fp i a ++ fp h p := fun x hx hc => by
      rcases List.mem_append.1 hc with hc | hc
      · exact ((unhide H).1 _ hc).2.2 hx
      · exact ((unhide H).2.1 _ hc).2.2 hx
    obtain ⟨_, _, _, hf, hl2, memJ, wp, m5, m1, m2⟩ := unhide H
    have hlt := (unhide G).1.lt
    have hsz := (unhide G).2.1.size
    have k2 := ((unhide G).1.kn.keep (keep_drewN [] w1 1) (by simp)).keep B.kp hA
    have tI : Ts w2 h tl := Ts.keep (w := w1) ⟨fun t ht => ⟨_, (unhide G).1.part (by simp [ht])⟩, m5⟩ ((keep_drewN (fp i a ++ fp h p) w1 1).tr B.kp) hI
    have lI : ∀ x ∈ fps h tl, x < w1.heap.size := fun x hx => hlt x ((memJ x).1 (.inr (.inr (.inl hx))))
    have lA : A0 < w1.heap.size := hlt A0 ((memJ A0).1 (.inl rfl))
    have hR : ∀ x ∈ fps h res1, (x ∈ fp i a ∨ x ∈ fp h p) ∨ w1.heap.size ≤ x := fun x hx => by
      rcases B.gr x hx with h1 | h1
      · exact .inl (List.mem_append.1 h1)
      · exact .inr h1
    have tt : Ts w2 h (res1 ++ tl) := Ts.app.2 ⟨B.tr, tI, fun x h2 h1 => by
      rcases hR x h2 with h3 | h3
      · exact hI x h1 (List.mem_append.2 h3)
      · have := lI x h1; omega⟩
    have hAt : A0 ∉ fps h (res1 ++ tl) := fun hc => by
      rw [fps_append] at hc
      rcases List.mem_append.1 hc with hc | hc
      · rcases hR A0 hc with h3 | h3
        · exact hA (List.mem_append.2 h3)
        · omega
      · exact m2 (by simp [hc])
    have eits : (res1 ++ tl).flatMap (its h) = (its i a ++ its h p) ++ tl.flatMap (its h) := by rw [List.flatMap_append, B.its]
    have hrl : res1.length = 1 ∨ res1.length = 2 := by rcases B.wf with ⟨t, rfl, _⟩ | ⟨t, s, rfl, _⟩ <;> simp
    have htl : (res1 ++ tl).length = res1.length + tl.length := List.length_append
    refine (cat_share (res1 ++ tl) A0 ub R0 rv1 v1 nr _ w2 w4 h9 k2 tt hAt C (by rw [eits]; exact hl2) (by rw [eits]; exact hf) (by omega)).mono ?_
    rintro e w5 ⟨v, res, rfl, S⟩
    refine ⟨v, res, rfl, ?_⟩
    rw [← eits]
    have kJ : Keep (fp i a ++ fp (h + 1) (nod h A0 R0 0 (p :: tl))) w w4 := (((unhide G).2.1.mono (fun x hx => .inl (by simp [hx]))).tr (((keep_drewN _ w1 1).tr (B.kp.mono (fun x hx => .inl (by
      rcases List.mem_append.1 hx with hx | hx
      · simp [hx]
      · rw [List.mem_append]; exact .inr ((memJ x).1 (.inr (.inr (.inr hx))))))))) ).tr (C.keep _)
    refine S.bl kJ (by rw [List.mem_append]; exact .inr ((memJ A0).1 (.inl rfl))) (fun x hx => ?_) (fun x hx => ?_) (by have := unhide HK; omega) (by omega) (by rw [eits]; exact hf) (fun t ht => ?_)
    · have h1 := C.new x hx
      have h2 := B.kp.size
      have h3 : w1.heap.size ≤ w2.heap.size := h2
      omega
    · rw [fps_append] at hx
      rcases List.mem_append.1 hx with hx | hx
      · rcases hR x hx with (h3 | h3) | h3
        · left; simp [h3]
        · left; rw [List.mem_append]; exact .inr ((memJ x).1 (.inr (.inr (.inr h3))))
        · right; omega
      · left; rw [List.mem_append]; exact .inr ((memJ x).1 (.inr (.inr (.inl hx))))
    · rcases List.mem_append.1 ht with ht | ht
      · rcases B.wf with ⟨t', rfl, q⟩ | ⟨t', s', rfl, q, q'⟩
        · simp only [List.mem_singleton] at ht
          subst ht; exact q
        · simp only [List.mem_cons, List.not_mem_nil, or_false] at ht
          rcases ht with rfl | rfl
          · exact q
          · exact q'
      · exact wp t (by simp [ht]))
  go_wp2_with fail
  refine wp_region_tail 16 (by kernel_rfl) (by kernel_rfl) ?_
  simp only [List.take_succ_cons, List.take_zero, List.drop_succ_cons, List.drop_zero, List.length_cons, List.length_nil, Nat.reduceAdd]
  refine wpAny_of_held (S := (fun w' : World => w'.cell? ⟨A0, 1, none⟩ = some (.slice (some ⟨g, 0, none⟩) (tl.length + 1) cap) ∧ w'.cell? ⟨g, 0, none⟩ = some (.pointer (some ⟨adr h p, 0, none⟩)))) _ _ _ _ ?_
  have hHeld : (fun w' : World => w'.cell? ⟨A0, 1, none⟩ = some (.slice (some ⟨g, 0, none⟩) (tl.length + 1) cap) ∧ w'.cell? ⟨g, 0, none⟩ = some (.pointer (some ⟨adr h p, 0, none⟩))) w1.drew := ⟨q1, c5⟩
  refine wpAnyH_take (i := 0) (v := ?v0) rfl (by kernel_rfl) (by kernel_rfl) (by kernel_rfl) (fun _ _ _ h => h) (Or.inl ⟨by rfl, ?hy0⟩) (by assumption) ?rest0
  case hy0 => intro w hSw; (try dsimp only at hSw); go_simp; (try with_reducible rfl)
  try simp only [Act.put, List.setIfInBounds_toArray, List.set_cons_zero, List.set_cons_succ]
  refine wpAnyH_take (i := 1) (v := ?v1) rfl (by kernel_rfl) (by kernel_rfl) (by kernel_rfl) (fun _ _ _ h => h) (Or.inl ⟨by rfl, ?hy1⟩) (by assumption) ?rest1
  case hy1 => intro w hSw; (try dsimp only at hSw); go_simp; (try with_reducible rfl)
  try simp only [Act.put, List.setIfInBounds_toArray, List.set_cons_zero, List.set_cons_succ]
  refine wpAnyH_take (i := 2) (v := ?v2) rfl (by kernel_rfl) (by kernel_rfl) (by kernel_rfl) (fun _ _ _ h => h) (Or.inl ⟨by rfl, ?hy2⟩) (by assumption) ?rest2
  case hy2 => intro w hSw; (try dsimp only at hSw); go_simp; (try with_reducible rfl)
  try simp only [Act.put, List.setIfInBounds_toArray, List.set_cons_zero, List.set_cons_succ]
  refine wpAnyH_take (i := 3) (v := ?v3) rfl (by kernel_rfl) (by kernel_rfl) (by kernel_rfl) (fun _ _ _ h => h) (Or.inl ⟨by rfl, ?hy3⟩) (by assumption) ?rest3
  case hy3 => intro w hSw; (try dsimp only at hSw); go_simp; (try with_reducible rfl)
  try simp only [Act.put, List.setIfInBounds_toArray, List.set_cons_zero, List.set_cons_succ]
  refine wpAnyH_take (i := 4) (v := ?v4) rfl (by kernel_rfl) (by kernel_rfl) (by kernel_rfl) (fun _ _ _ h => h) (Or.inl ⟨by rfl, ?hy4⟩) (by assumption) ?rest4
  case hy4 => intro w hSw; (try dsimp only at hSw); go_simp; (try with_reducible rfl)
  try simp only [Act.put, List.setIfInBounds_toArray, List.set_cons_zero, List.set_cons_succ]
  refine wpAnyH_take (i := 5) (v := ?v5) rfl (by kernel_rfl) (by kernel_rfl) (by kernel_rfl) (fun _ _ _ h => h) (Or.inl ⟨by rfl, ?hy5⟩) (by assumption) ?rest5
  case hy5 => intro w hSw; (try dsimp only at hSw); go_simp; (try with_reducible rfl)
  try simp only [Act.put, List.setIfInBounds_toArray, List.set_cons_zero, List.set_cons_succ]
  refine wpAnyH_take (i := 6) (v := ?v6) rfl (by kernel_rfl) (by kernel_rfl) (by kernel_rfl) (fun _ _ _ h => h) (Or.inl ⟨by rfl, ?hy6⟩) (by assumption) ?rest6
  case hy6 => intro w hSw; (try dsimp only at hSw); go_simp; (try with_reducible rfl)
  try simp only [Act.put, List.setIfInBounds_toArray, List.set_cons_zero, List.set_cons_succ]
  refine wpAnyH_take (i := 7) (v := ?v7) rfl (by kernel_rfl) (by kernel_rfl) (by kernel_rfl) (fun _ _ _ h => h) (Or.inl ⟨by rfl, ?hy7⟩) (by assumption) ?rest7
  case hy7 => intro w hSw; (try dsimp only at hSw); go_simp; (try with_reducible rfl)
  try simp only [Act.put, List.setIfInBounds_toArray, List.set_cons_zero, List.set_cons_succ]
  refine wpAnyH_take (i := 9) (v := ?v9) rfl (by kernel_rfl) (by kernel_rfl) (by kernel_rfl) (fun _ _ _ h => h) (Or.inl ⟨by rfl, ?hy9⟩) (by assumption) ?rest9
  case hy9 => intro w hSw; (try dsimp only at hSw); go_simp; (try with_reducible rfl)
  try simp only [Act.put, List.setIfInBounds_toArray, List.set_cons_zero, List.set_cons_succ]
  refine wpAnyH_take (i := 10) (v := ?v10) rfl (by kernel_rfl) (by kernel_rfl) (by kernel_rfl) (fun _ _ _ h => h) (Or.inl ⟨by rfl, ?hy10⟩) (by assumption) ?rest10
  case hy10 => intro w hSw; (try dsimp only at hSw); go_simp; (try with_reducible rfl)
  try simp only [Act.put, List.setIfInBounds_toArray, List.set_cons_zero, List.set_cons_succ]
  refine wpAnyH_take (i := 11) (v := ?v11) rfl (by kernel_rfl) (by kernel_rfl) (by kernel_rfl) (fun _ _ _ h => h) (Or.inl ⟨by rfl, ?hy11⟩) (by assumption) ?rest11
  case hy11 => intro w hSw; (try dsimp only at hSw); go_simp; (try with_reducible rfl)
  try simp only [Act.put, List.setIfInBounds_toArray, List.set_cons_zero, List.set_cons_succ]
  refine wpAnyH_take (i := 12) (v := ?v12) rfl (by kernel_rfl) (by kernel_rfl) (by kernel_rfl) (fun _ _ _ h => h) (Or.inl ⟨by rfl, ?hy12⟩) (by assumption) ?rest12
  case hy12 => intro w hSw; (try dsimp only at hSw); go_simp; (try with_reducible rfl)
  try simp only [Act.put, List.setIfInBounds_toArray, List.set_cons_zero, List.set_cons_succ]
  refine wpAnyH_take (i := 13) (v := ?v13) rfl (by kernel_rfl) (by kernel_rfl) (by kernel_rfl) (fun _ _ _ h => h) (Or.inl ⟨by rfl, ?hy13⟩) (by assumption) ?rest13
  case hy13 => intro w hSw; (try dsimp only at hSw); go_simp; (try with_reducible rfl)
  try simp only [Act.put, List.setIfInBounds_toArray, List.set_cons_zero, List.set_cons_succ]
  refine wpAnyH_ready (rs := [8]) (by kernel_rfl) (by simp) (AllReadyH.cons rfl (fun K hK => ?_) AllReadyH.nil)
  go_simp
  refine (unhide I1).mono ?_
  rintro e w2 ⟨rv1, res1, rfl, hB⟩
  obtain ⟨g2, cap2, rfl⟩ := hB.some
  have BB := hide hB
  obtain ⟨y1, y2, y3⟩ := unhide L2 w2 _ res1 hB
  have Y3 := hide y3
  have y4 := World.block_lt_of_cell? w2 _ y1
  have y5 := World.block_lt_of_cell? w2 _ y2
  clear hB y3 I1 L2
  refine hK.out _ _ (by simp [go_sem, *]) (fun hHeld => ?_)
  clear hK K
  try simp only [Act.put, List.setIfInBounds_toArray, List.set_cons_zero, List.set_cons_succ]
  refine wpAnyH_ready (rs := [14]) (by kernel_rfl) (by simp) (AllReadyH.cons rfl (fun K hK => ?_) AllReadyH.nil)
  go_simp
  refine hK.out _ _ (by simp [go_sem, *]) (fun hHeld => ?_)
  clear hK K
  try simp only [Act.put, List.setIfInBounds_toArray, List.set_cons_zero, List.set_cons_succ]
  refine wpAnyH_ready (rs := [15]) (by kernel_rfl) (by simp) (AllReadyH.cons rfl (fun K hK => ?_) AllReadyH.nil)
  go_simp
  refine (unhide Y3).mono ?_
  rintro e w4 ⟨nr, rfl, hC⟩
  have CC := hide hC
  have z1 : w4.cell? ⟨A0, 1, none⟩ = some (.slice (some ⟨g, 0, none⟩) (tl.length + 1) cap) := (by rw [(hC.keep []).cell (p := ⟨A0, 1, none⟩) y4 (by simp)]; exact y1)
  have z2 : w4.cell? ⟨g, 0, none⟩ = some (.pointer (some ⟨adr h p, 0, none⟩)) := (by rw [(hC.keep []).cell (p := ⟨g, 0, none⟩) y5 (by simp)]; exact y2)
  clear hC Y3
  refine hK.out _ _ (by simp [go_sem, *]) (fun hHeld => ?_)
  clear hK K
  try simp only [Act.put, List.setIfInBounds_toArray, List.set_cons_zero, List.set_cons_succ]
  refine wpAnyH_done (by kernel_rfl) ?_ _
  unfold HT
  go_wp2_with fail
  refine (unhide L3 _ _ _ _ _ _ (unhide BB) (unhide CC)).mono ?_
  rintro e w5 ⟨v5, res5, rfl, hZ⟩
  have ZZ := hide hZ
  clear hZ L3
  go_wp2
  go_ret
  exact ⟨v5, res5, rfl, unhide ZZ⟩
end Go.Proofs.Ytbkneonbpcmepaa
