/- A tree put to a higher one. -/
import Derived.Test.YtbkneonbpcmepaaP8
import Derived.Test.YtbkneonbpcmepaaHd
namespace Go.Proofs.Ytbkneonbpcmepaa
open Go.RowKit Go.Arb
set_option linter.unusedVariables false
set_option linter.unusedSimpArgs false

/-- What a blend of two trees does. -/
def BlT (i j h k : Nat) (a : Tr i) (b : Tr j) : Prop := ∀ w ua ub, Mem w i ua a → Mem w j ub b → Calls Try.prog 71 #[ptr (adr i a), ptr (adr j b)] w fun e w' => ∃ rv res, e = .returned rv ∧ Bl w w' h (fp i a ++ fp j b) rv res (its i a ++ its j b) k

theorem settl_nod {h : Nat} (t : Tr (h + 1)) : settl h t = nod h (Nd.a t) (Nd.r t) 0 ((Nd.ps t).map (rais (Nd.m t) h)) := rfl
theorem Mem.kn {w : World} {h a : Nat} {u r : Value} {m : Int} {ts : List (Tr h)} (q : Mem w (h + 1) u (nod h a r m ts)) : Kn w a u r ((h : Int) + 1) (-1) m (sm (h + 1) (nod h a r m ts)) := q.1
theorem Mem.nrow {w : World} {h a : Nat} {u r : Value} {m : Int} {ts : List (Tr h)} (q : Mem w (h + 1) u (nod h a r m ts)) : Row w r (ts.map (adr h)) := q.2.1
theorem Mem.part {w : World} {h a : Nat} {u r : Value} {m : Int} {ts : List (Tr h)} (q : Mem w (h + 1) u (nod h a r m ts)) {t : Tr h} (ht : t ∈ ts) : Mem w h (ptr a) t := q.2.2 t ht
theorem nod_nd {h a : Nat} {r : Value} {m : Int} {ts : List (Tr h)} (n : (fp (h + 1) (nod h a r m ts)).Nodup) : a ∉ own r ∧ a ∉ fps h ts ∧ (fps h ts).Nodup ∧ Off (own r) (fps h ts) := by
  rw [fp_nod, List.nodup_cons, List.nodup_append] at n
  obtain ⟨n1, n2, n3, n4⟩ := n
  simp only [List.mem_append, not_or] at n1
  exact ⟨n1.1, n1.2, n3, fun x h1 h2 => n4 x h1 x h2 rfl⟩

theorem keep_drewN (ks : List Nat) (w : World) (q : Nat) : Keep ks w (w.drewN q) := ⟨rfl, rfl, rfl, Nat.le_refl _, fun _ _ _ => rfl⟩
theorem Mem.drewN {w : World} {h : Nat} {u : Value} {t : Tr h} (m : Mem w h u t) (q : Nat) : Mem (w.drewN q) h u t := m.keep (keep_drewN [] w q) (fun _ _ => by simp)
theorem settle_nod {hh k : Nat} (t : Tr (hh + 1)) (u : Value) (w : World) (m : Mem w (hh + 1) u t) (nd : (fp (hh + 1) t).Nodup) (wf : Wf (hh + 1) k t) (hl : (its (hh + 1) t).length ≤ 4194304) :
    Calls Try.prog 79 #[ptr (Nd.a t)] w fun e w' => e = .returned (.tuple #[]) ∧ Mem w' (hh + 1) u (settl hh t) ∧ Keep (fp (hh + 1) (settl hh t)) w w' := by
  refine (settle_tr t u w m nd wf hl).mono ?_
  rintro e w' ⟨rfl, h1, h2⟩
  refine ⟨rfl, h1, h2.mono (fun x hx => .inl ?_)⟩
  rw [fp_settl]
  show x ∈ Nd.a t :: (own (Nd.r t) ++ fps hh (Nd.ps t))
  rcases List.mem_cons.1 hx with rfl | hx
  · simp
  · simp [adrs_fps x hx]

/-- Two slices of knots, put one behind the other. -/
structure Cat (w w' : World) (v1 v2 nr : Value) (l : List Nat) : Prop where
  row : Row w' nr l
  bel : Below (w.alloc (.cells #[v1, v2] 58)).heap.size (w.alloc (.cells #[v1, v2] 58)) w'
  new : ∀ g ∈ own nr, w.heap.size < g
theorem cat_any (l1 l2 : List Nat) (v1 v2 : Value) (w : World) (h1 : Vw w v1 l1) (h2 : Vw w v2 l2) (h0 : 0 < l1.length + l2.length) (h9 : l1.length + l2.length ≤ 2000) :
    Calls Try.prog 88 #[.slice (some ⟨w.heap.size, 0, none⟩) 2 2] (w.alloc (.cells #[v1, v2] 58)) fun e w' => ∃ nr, e = .returned nr ∧ Cat w w' v1 v2 nr (l1 ++ l2) := by
  have kk := (Keep.refl [] w).alloc (.cells #[v1, v2] 58)
  have hc := news_new w #[v1, v2] 58
  refine (concat_any l1 l2 v1 v2 w.heap.size 2 _ (h1.keep kk (by simp)) (h2.keep kk (by simp)) ?_ ?_ h0 h9 (by omega) (by omega)).mono ?_
  · have e := hc 0 v1 rfl
    simp only [Addr.add] at e
    exact e
  · have e := hc 1 v2 rfl
    simp only [Addr.add] at e
    exact e
  · rintro e w' ⟨r, rfl, a1, a2, a3⟩
    exact ⟨r, rfl, a1, a2, fun g hg => by have := a3 g hg; simp at this; omega⟩
theorem Cat.keep {w w' : World} {v1 v2 nr : Value} {l : List Nat} (c : Cat w w' v1 v2 nr l) (ks : List Nat) : Keep ks w w' := ((Keep.refl ks w).alloc _).tr (Keep.ofBelow c.bel ks)
theorem row_some {w : World} {r : Value} {ls : List Nat} (h : Row w r ls) (h0 : 0 < ls.length) : ∃ g cap, r = .slice (some ⟨g, 0, none⟩) ls.length cap := by
  obtain ⟨x, cap, e, _, _, c3, _⟩ := h.form
  obtain ⟨g, rfl, _⟩ := c3 h0
  exact ⟨g, cap, e⟩
theorem Bl.some {w w' : World} {h k : Nat} {J : List Nat} {rv : Value} {res : List (Tr h)} {xs : List It} (b : Bl w w' h J rv res xs k) : ∃ g cap, rv = .slice (some ⟨g, 0, none⟩) res.length cap := by
  have := row_some b.row (by rw [List.length_map]; rcases b.wf with ⟨t, rfl, _⟩ | ⟨t, s, rfl, _⟩ <;> simp)
  rwa [List.length_map] at this
theorem cat_share {h : Nat} (ts : List (Tr h)) (a : Nat) (u r v1 v2 nr : Value) (s : Sm) (w w' : World) (h9 : h ≤ 1000) (k : Kn w a u r ((h : Int) + 1) (-1) 0 s) (m : Ts w h ts) (ha : a ∉ fps h ts) (c : Cat w w' v1 v2 nr (ts.map (adr h)))
    (hl : (ts.flatMap (its h)).length ≤ 4194304) (hf : FitL (ts.flatMap (its h))) (hn : ts.length ≤ 100) :
    Calls Try.prog 87 #[ptr a, nr] w' fun e w'' => ∃ v res, e = .returned v ∧ Shared w' w'' h a ts nr v res := by
  have kk := c.keep []
  refine share_any ts a u r nr s w' h9 (k.keep kk (by simp)) c.row (m.keep kk (fun _ _ => by simp)) ha (fun x h1 h2 => ?_) hl hf hn
  have h3 := c.new x h1
  rcases List.mem_cons.1 h2 with rfl | h2
  · have := k.lt; omega
  · have := m.lt x h2; omega

set_option maxRecDepth 100000 in
set_option maxHeartbeats 1000000 in
/-- Behind a knot that is settled: its last part and b become one or two, and these and the other parts are shared out. -/
theorem blend_hi {h j k : Nat} (a : Tr (h + 1)) (b : Tr j) (ua ub : Value) (w : World) (h9 : h ≤ 1000) (hj : j ≤ h) (hk : 2 ≤ k) (ma : Mem w (h + 1) ua a) (mb : Mem w j ub b) (nd : (fp (h + 1) a ++ fp j b).Nodup)
    (wa : Wf (h + 1) k a) (hf : FitL (its (h + 1) a ++ its j b)) (hl : (its (h + 1) a ++ its j b).length ≤ 4194304)
    (ih : ∀ p : Tr h, Wf h 4 p → (fp h p ++ fp j b).Nodup → FitL (its h p ++ its j b) → (its h p ++ its j b).length ≤ 4194304 → BlT h j h 4 p b) :
    Calls Try.prog 71 #[ptr (adr (h + 1) a), ptr (adr j b)] w fun e w' => ∃ rv res, e = .returned rv ∧ Bl w w' (h + 1) (fp (h + 1) a ++ fp j b) rv res (its (h + 1) a ++ its j b) k := by
  have ha := root_ht ma
  have hb := root_ht mb
  rw [List.nodup_append] at nd
  obtain ⟨n1, n2, n3⟩ := nd
  rw [List.length_append] at hl
  have A2 := hide (fun q => settle_nod a ua (w.drewN q) (ma.drewN q) n1 wa (by omega))
  have hgt : ((j : Nat) : Int) < ((h + 1 : Nat) : Int) := by omega
  have wa' := wa.settl
  have ea := its_settl h a
  have ef := fp_settl h a
  rw [← ea] at hf hl ⊢
  rw [← ef] at n1 n3 ⊢
  rw [settl_nod] at A2 wa' hf hl n1 n3 ⊢
  clear ma ea ef wa
  generalize (Nd.ps a).map (rais (Nd.m a) h) = ps at *
  rw [show adr (h + 1) a = Nd.a a from rfl] at ha ⊢
  generalize Nd.a a = A0 at *
  generalize Nd.r a = R0 at *
  rw [its_nod] at hf hl ⊢
  have wl : k ≤ ps.length ∧ ps.length ≤ 8 := wa'.1
  have wp : ∀ s ∈ ps, Wf h 4 s := wa'.2.2
  obtain ⟨init, p, rfl⟩ : ∃ l p, ps = l ++ [p] := ⟨ps.dropLast, ps.getLast (fun e => by rw [e] at wl; simp at wl; omega), (List.dropLast_concat_getLast _).symm⟩
  have hpl : (init ++ [p]).length = init.length + 1 := by simp
  have eqx : (init ++ [p]).flatMap (its h) ++ its j b = init.flatMap (its h) ++ (its h p ++ its j b) := by simp
  rw [eqx] at hf ⊢
  have hl2 : (init.flatMap (its h) ++ (its h p ++ its j b)).length ≤ 4194304 := by rw [← eqx, List.length_append]; exact hl
  have fpb : FitL (its h p ++ its j b) := (FitL.append.1 hf).2
  have lpb : (its h p ++ its j b).length ≤ 4194304 := by rw [List.length_append] at hl2; omega
  obtain ⟨m1, m2, m3, m4⟩ := nod_nd n1
  rw [fps_append, fps_cons, fps_nil, List.append_nil] at m2 m3 m4
  rw [List.nodup_append] at m3
  obtain ⟨m5, m6, m7⟩ := m3
  have npb : (fp h p ++ fp j b).Nodup := by
    rw [List.nodup_append]
    exact ⟨m6, n2, fun x hx y hy => n3 x (by rw [fp_nod, fps_append, fps_cons, fps_nil, List.append_nil]; simp [hx]) y hy⟩
  have IH := hide (ih p (wp p (by simp)) npb fpb lpb)
  have memJ : ∀ x, (x = A0 ∨ x ∈ own R0 ∨ x ∈ fps h init ∨ x ∈ fp h p) ↔ x ∈ fp (h + 1) (nod h A0 R0 0 (init ++ [p])) := fun x => by
    rw [fp_nod, fps_append, fps_cons, fps_nil, List.append_nil]
    simp only [List.mem_cons, List.mem_append]
  have offb : ∀ x ∈ fp j b, x ≠ A0 ∧ x ∉ own R0 ∧ x ∉ fps h init := fun x hx =>
    ⟨fun e => n3 x ((memJ x).1 (.inl e)) x hx rfl, fun e => n3 x ((memJ x).1 (.inr (.inl e))) x hx rfl, fun e => n3 x ((memJ x).1 (.inr (.inr (.inl e)))) x hx rfl⟩
  have offp : ∀ x ∈ fp h p, x ≠ A0 ∧ x ∉ own R0 ∧ x ∉ fps h init := fun x hx =>
    ⟨fun e => m2 (by rw [← e]; simp [hx]), fun e => m4 x e (by simp [hx]), fun e => m7 x e x hx rfl⟩
  have blt := mb.lt
  have kb : ∀ w', Keep (fp (h + 1) (nod h A0 R0 0 (init ++ [p]))) w w' → Mem w' j ub b := fun w' q => mb.keep q (fun x hx hc => n3 x hc x hx rfl)
  have H := hide (And.intro offb (And.intro offp (And.intro kb (And.intro hf (And.intro hl2 (And.intro memJ (And.intro wp (And.intro m5 (And.intro m1 m2)))))))))
  have hq : init.length ≤ 7 := by omega
  have hq2 : 2 ≤ init.length + 1 := by omega
  have HK := hide (show k ≤ init.length + 1 by omega)
  have MB := hide mb
  clear ih mb n1 n2 n3 m1 m2 m4 m5 m6 m7 hf hl hl2 fpb lpb npb offb offp kb memJ wa' wp eqx blt
  generalize hbb : adr j b = B0 at *
  have HBB := hide hbb
  clear hbb
  unfold ptr at A2 ⊢
  generalize hH1 : ((h + 1 : Nat) : Int) = H1 at *
  clear hH1
  generalize ((j : Nat) : Int) = J1 at *
  go_enter Try.func71, Try.ntmps71
  go_wp2_with fail
  go_quiet (fail)
  go_wp2_with fail
  refine (unhide A2 _).mono ?_
  rintro e w1 ⟨rfl, h1, h2⟩
  have K1 := (keep_drewN (fp (h + 1) (nod h A0 R0 0 (init ++ [p]))) w _).tr h2
  have kn := h1.kn
  have mb1 := (unhide H).2.2.1 _ K1
  obtain ⟨x, cap, e, c1, c2, c3, c4⟩ := h1.nrow.form
  rw [List.length_map, hpl] at e c1 c3 c4
  obtain ⟨g, rfl, hg, hgo⟩ := c3 (by omega)
  have c5 := c4 g rfl init.length (by omega)
  rw [mapD _ _ (by rw [hpl]; omega)] at c5
  rw [List.getElem_append_right (Nat.le_refl _)] at c5
  simp only [Nat.sub_self, List.getElem_singleton] at c5
  obtain ⟨_, q1, _, _, _, _, _, _, _⟩ := kn.cells
  rw [e] at q1
  have hgA : g ∈ own R0 := by rw [e]; simp [own, Value.ownBlock]
  have v1 := vw_take (show Row w1 (.slice (some ⟨g, 0, none⟩) (init.length + 1) cap) ((init ++ [p]).map (adr h)) by rw [← e]; exact h1.nrow) (k := init.length) (by omega)
  have e1 : ((init ++ [p]).map (adr h)).take init.length = init.map (adr h) := by rw [List.map_append, List.take_left' (by simp)]
  rw [e1] at v1
  have G := hide (And.intro h1 (And.intro K1 (And.intro mb1 (And.intro v1 (And.intro hgA hg)))))
  have r1 : ((init.length : Int) + 1) - 1 = (init.length : Int) := by omega
  have r2 : (init.length : Int) ≤ (cap : Int) := by omega
  have r3 : (init.length : Int) < (init.length : Int) + 1 := by omega
  have E := hide e
  clear A2 h1 h2 K1 kn mb1 c3 c4 v1 e1 hgA hg hgo e
  unfold ptr at c5
  have I1 := unhide IH (w1.drewN 1) (ptr A0) ub (((unhide G).1.part (by simp)).drewN 1) ((unhide G).2.2.1.drewN 1)
  rw [unhide HBB] at I1
  unfold ptr at I1
  have I1 := hide I1
  have L2 : Hid (∀ w2 rv1 res1, Bl (w1.drewN 1) w2 h (fp h p ++ fp j b) rv1 res1 (its h p ++ its j b) 4 → w2.cell? ⟨A0, 1, none⟩ = some (.slice (some ⟨g, 0, none⟩) (init.length + 1) cap) ∧ w2.cell? ⟨g, init.length, none⟩ = some (.pointer (some ⟨adr h p, 0, none⟩)) ∧
      Calls Try.prog 88 #[.slice (some ⟨w2.heap.size, 0, none⟩) 2 2] (w2.alloc (.cells #[.slice (some ⟨g, 0, none⟩) init.length cap, rv1] 58)) fun e w' => ∃ nr, e = .returned nr ∧ Cat w2 w' (.slice (some ⟨g, 0, none⟩) init.length cap) rv1 nr ((init ++ res1).map (adr h))) := hide (fun w2 rv1 res1 B => by
    have hA : A0 ∉ fp h p ++ fp j b := fun hc => by
      rcases List.mem_append.1 hc with hc | hc
      · exact ((unhide H).2.1 _ hc).1 rfl
      · exact ((unhide H).1 _ hc).1 rfl
    have hG : g ∉ fp h p ++ fp j b := fun hc => by
      rcases List.mem_append.1 hc with hc | hc
      · exact ((unhide H).2.1 _ hc).2.1 (unhide G).2.2.2.2.1
      · exact ((unhide H).1 _ hc).2.1 (unhide G).2.2.2.2.1
    have lA := (unhide G).1.kn.lt
    refine ⟨?_, ?_, ?_⟩
    · rw [B.kp.cell (p := ⟨A0, 1, none⟩) lA hA]; exact q1
    · rw [B.kp.cell (p := ⟨g, init.length, none⟩) (unhide G).2.2.2.2.2 hG]; exact c5
    · rw [List.map_append]
      refine cat_any _ _ _ _ w2 (((unhide G).2.2.2.1.keep (keep_drewN [] w1 1) (by simp)).keep B.kp (fun x hx => ?_)) (row_vw B.row) ?_ ?_
      · simp [own, Value.ownBlock] at hx
        subst hx
        exact hG
      · rw [List.length_map, List.length_map]
        rcases B.wf with ⟨t, rfl, _⟩ | ⟨t, s, rfl, _⟩ <;> simp
      · rw [List.length_map, List.length_map]
        rcases B.wf with ⟨t, rfl, _⟩ | ⟨t, s, rfl, _⟩ <;> simp <;> omega)
  have L3 : Hid (∀ w2 rv1 res1 w4 nr v1, Bl (w1.drewN 1) w2 h (fp h p ++ fp j b) rv1 res1 (its h p ++ its j b) 4 → Cat w2 w4 v1 rv1 nr ((init ++ res1).map (adr h)) →
      Calls Try.prog 87 #[.pointer (some ⟨A0, 0, none⟩), nr] w4 fun e w'' => ∃ v res, e = .returned v ∧ Bl w w'' (h + 1) (fp (h + 1) (nod h A0 R0 0 (init ++ [p])) ++ fp j b) v res (init.flatMap (its h) ++ (its h p ++ its j b)) k) := hide (fun w2 rv1 res1 w4 nr v1 B C => by
    have hA : A0 ∉ fp h p ++ fp j b := fun hc => by
      rcases List.mem_append.1 hc with hc | hc
      · exact ((unhide H).2.1 _ hc).1 rfl
      · exact ((unhide H).1 _ hc).1 rfl
    have hI : ∀ x ∈ fps h init, x ∉ fp h p ++ fp j b := fun x hx hc => by
      rcases List.mem_append.1 hc with hc | hc
      · exact ((unhide H).2.1 _ hc).2.2 hx
      · exact ((unhide H).1 _ hc).2.2 hx
    obtain ⟨_, _, _, hf, hl2, memJ, wp, m5, m1, m2⟩ := unhide H
    have hlt := (unhide G).1.lt
    have hsz := (unhide G).2.1.size
    have k2 := ((unhide G).1.kn.keep (keep_drewN [] w1 1) (by simp)).keep B.kp hA
    have tI : Ts w2 h init := Ts.keep (w := w1) ⟨fun t ht => ⟨_, (unhide G).1.part (by simp [ht])⟩, m5⟩ ((keep_drewN (fp h p ++ fp j b) w1 1).tr B.kp) hI
    have lI : ∀ x ∈ fps h init, x < w1.heap.size := fun x hx => hlt x ((memJ x).1 (.inr (.inr (.inl hx))))
    have lA : A0 < w1.heap.size := hlt A0 ((memJ A0).1 (.inl rfl))
    have hR : ∀ x ∈ fps h res1, (x ∈ fp h p ∨ x ∈ fp j b) ∨ w1.heap.size ≤ x := fun x hx => by
      rcases B.gr x hx with h1 | h1
      · exact .inl (List.mem_append.1 h1)
      · exact .inr h1
    have tt : Ts w2 h (init ++ res1) := Ts.app.2 ⟨tI, B.tr, fun x h1 h2 => by
      rcases hR x h2 with h3 | h3
      · exact hI x h1 (List.mem_append.2 h3)
      · have := lI x h1; omega⟩
    have hAt : A0 ∉ fps h (init ++ res1) := fun hc => by
      rw [fps_append] at hc
      rcases List.mem_append.1 hc with hc | hc
      · exact m2 (by simp [hc])
      · rcases hR A0 hc with h3 | h3
        · exact hA (List.mem_append.2 h3)
        · omega
    have eits : (init ++ res1).flatMap (its h) = init.flatMap (its h) ++ (its h p ++ its j b) := by rw [List.flatMap_append, B.its]
    have hrl : res1.length = 1 ∨ res1.length = 2 := by rcases B.wf with ⟨t, rfl, _⟩ | ⟨t, s, rfl, _⟩ <;> simp
    have htl : (init ++ res1).length = init.length + res1.length := List.length_append
    refine (cat_share (init ++ res1) A0 ua R0 v1 rv1 nr _ w2 w4 h9 k2 tt hAt C (by rw [eits]; exact hl2) (by rw [eits]; exact hf) (by omega)).mono ?_
    rintro e w5 ⟨v, res, rfl, S⟩
    refine ⟨v, res, rfl, ?_⟩
    rw [← eits]
    have kJ : Keep (fp (h + 1) (nod h A0 R0 0 (init ++ [p])) ++ fp j b) w w4 := (((unhide G).2.1.mono (fun x hx => .inl (by simp [hx]))).tr (((keep_drewN _ w1 1).tr (B.kp.mono (fun x hx => .inl (by
      rcases List.mem_append.1 hx with hx | hx
      · rw [List.mem_append]; exact .inl ((memJ x).1 (.inr (.inr (.inr hx))))
      · simp [hx]))))) ).tr (C.keep _)
    refine S.bl kJ (by rw [List.mem_append]; exact .inl ((memJ A0).1 (.inl rfl))) (fun x hx => ?_) (fun x hx => ?_) (by have := unhide HK; omega) (by omega) (by rw [eits]; exact hf) (fun t ht => ?_)
    · have h1 := C.new x hx
      have h2 := B.kp.size
      have h3 : w1.heap.size ≤ w2.heap.size := h2
      omega
    · rw [fps_append] at hx
      rcases List.mem_append.1 hx with hx | hx
      · left; rw [List.mem_append]; exact .inl ((memJ x).1 (.inr (.inr (.inl hx))))
      · rcases hR x hx with (h3 | h3) | h3
        · left; rw [List.mem_append]; exact .inl ((memJ x).1 (.inr (.inr (.inr h3))))
        · left; simp [h3]
        · right; omega
    · rcases List.mem_append.1 ht with ht | ht
      · exact wp t (by simp [ht])
      · rcases B.wf with ⟨t', rfl, q⟩ | ⟨t', s', rfl, q, q'⟩
        · simp only [List.mem_singleton] at ht
          subst ht; exact q
        · simp only [List.mem_cons, List.not_mem_nil, or_false] at ht
          rcases ht with rfl | rfl
          · exact q
          · exact q')
  go_wp2_with fail
  refine wp_region_tail 18 (by kernel_rfl) (by kernel_rfl) ?_
  simp only [List.take_succ_cons, List.take_zero, List.drop_succ_cons, List.drop_zero, List.length_cons, List.length_nil, Nat.reduceAdd]
  refine wpAny_of_held (S := (fun w' : World => w'.cell? ⟨A0, 1, none⟩ = some (.slice (some ⟨g, 0, none⟩) (init.length + 1) cap) ∧ w'.cell? ⟨g, init.length, none⟩ = some (.pointer (some ⟨adr h p, 0, none⟩)))) _ _ _ _ ?_
  have hHeld : (fun w' : World => w'.cell? ⟨A0, 1, none⟩ = some (.slice (some ⟨g, 0, none⟩) (init.length + 1) cap) ∧ w'.cell? ⟨g, init.length, none⟩ = some (.pointer (some ⟨adr h p, 0, none⟩))) w1.drew := ⟨q1, c5⟩
  refine wpAnyH_take (i := 0) (v := ?v0) rfl (by kernel_rfl) (by kernel_rfl) (by kernel_rfl) (fun _ _ _ h => h) (Or.inl ⟨by rfl, ?hy0⟩) (by assumption) ?rest0
  case hy0 => intro w hSw; (try dsimp only at hSw); go_simp; (try with_reducible rfl)
  try simp only [Act.put, List.setIfInBounds_toArray, List.set_cons_zero, List.set_cons_succ]
  refine wpAnyH_take (i := 1) (v := ?v1) rfl (by kernel_rfl) (by kernel_rfl) (by kernel_rfl) (fun _ _ _ h => h) (Or.inl ⟨by rfl, ?hy1⟩) (by assumption) ?rest1
  case hy1 => intro w hSw; (try dsimp only at hSw); go_simp; (try with_reducible rfl)
  try simp only [Act.put, List.setIfInBounds_toArray, List.set_cons_zero, List.set_cons_succ]
  refine wpAnyH_take (i := 2) (v := ?v2) rfl (by kernel_rfl) (by kernel_rfl) (by kernel_rfl) (fun _ _ _ h => h) (Or.inl ⟨by rfl, ?hy2⟩) (by assumption) ?rest2
  case hy2 => intro w hSw; (try dsimp only at hSw); go_simp; (try with_reducible rfl)
  try simp only [Act.put, List.setIfInBounds_toArray, List.set_cons_zero, List.set_cons_succ]
  refine wpAnyH_take (i := 3) (v := ?v3) rfl (by kernel_rfl) (by kernel_rfl) (by kernel_rfl) (fun _ _ _ h => h) (Or.inl ⟨by rfl, ?hy3⟩) (by assumption) ?rest3
  case hy3 => intro w hSw; (try dsimp only at hSw); go_simp; (try with_reducible rfl)
  try simp only [Act.put, List.setIfInBounds_toArray, List.set_cons_zero, List.set_cons_succ]
  refine wpAnyH_take (i := 4) (v := ?v4) rfl (by kernel_rfl) (by kernel_rfl) (by kernel_rfl) (fun _ _ _ h => h) (Or.inl ⟨by rfl, ?hy4⟩) (by assumption) ?rest4
  case hy4 => intro w hSw; (try dsimp only at hSw); go_simp; (try with_reducible rfl)
  try simp only [Act.put, List.setIfInBounds_toArray, List.set_cons_zero, List.set_cons_succ]
  refine wpAnyH_take (i := 5) (v := ?v5) rfl (by kernel_rfl) (by kernel_rfl) (by kernel_rfl) (fun _ _ _ h => h) (Or.inl ⟨by rfl, ?hy5⟩) (by assumption) ?rest5
  case hy5 => intro w hSw; (try dsimp only at hSw); go_simp; (try with_reducible rfl)
  try simp only [Act.put, List.setIfInBounds_toArray, List.set_cons_zero, List.set_cons_succ]
  refine wpAnyH_take (i := 6) (v := ?v6) rfl (by kernel_rfl) (by kernel_rfl) (by kernel_rfl) (fun _ _ _ h => h) (Or.inl ⟨by rfl, ?hy6⟩) (by assumption) ?rest6
  case hy6 => intro w hSw; (try dsimp only at hSw); go_simp; (try with_reducible rfl)
  try simp only [Act.put, List.setIfInBounds_toArray, List.set_cons_zero, List.set_cons_succ]
  refine wpAnyH_take (i := 7) (v := ?v7) rfl (by kernel_rfl) (by kernel_rfl) (by kernel_rfl) (fun _ _ _ h => h) (Or.inl ⟨by rfl, ?hy7⟩) (by assumption) ?rest7
  case hy7 => intro w hSw; (try dsimp only at hSw); go_simp; (try with_reducible rfl)
  try simp only [Act.put, List.setIfInBounds_toArray, List.set_cons_zero, List.set_cons_succ]
  refine wpAnyH_take (i := 8) (v := ?v8) rfl (by kernel_rfl) (by kernel_rfl) (by kernel_rfl) (fun _ _ _ h => h) (Or.inl ⟨by rfl, ?hy8⟩) (by assumption) ?rest8
  case hy8 => intro w hSw; (try dsimp only at hSw); go_simp; (try with_reducible rfl)
  try simp only [Act.put, List.setIfInBounds_toArray, List.set_cons_zero, List.set_cons_succ]
  refine wpAnyH_take (i := 9) (v := ?v9) rfl (by kernel_rfl) (by kernel_rfl) (by kernel_rfl) (fun _ _ _ h => h) (Or.inl ⟨by rfl, ?hy9⟩) (by assumption) ?rest9
  case hy9 => intro w hSw; (try dsimp only at hSw); go_simp; (try with_reducible rfl)
  try simp only [Act.put, List.setIfInBounds_toArray, List.set_cons_zero, List.set_cons_succ]
  refine wpAnyH_take (i := 10) (v := ?v10) rfl (by kernel_rfl) (by kernel_rfl) (by kernel_rfl) (fun _ _ _ h => h) (Or.inl ⟨by rfl, ?hy10⟩) (by assumption) ?rest10
  case hy10 => intro w hSw; (try dsimp only at hSw); go_simp; (try with_reducible rfl)
  try simp only [Act.put, List.setIfInBounds_toArray, List.set_cons_zero, List.set_cons_succ]
  refine wpAnyH_take (i := 11) (v := ?v11) rfl (by kernel_rfl) (by kernel_rfl) (by kernel_rfl) (fun _ _ _ h => h) (Or.inl ⟨by rfl, ?hy11⟩) (by assumption) ?rest11
  case hy11 => intro w hSw; (try dsimp only at hSw); go_simp; (try with_reducible rfl)
  try simp only [Act.put, List.setIfInBounds_toArray, List.set_cons_zero, List.set_cons_succ]
  refine wpAnyH_take (i := 12) (v := ?v12) rfl (by kernel_rfl) (by kernel_rfl) (by kernel_rfl) (fun _ _ _ h => h) (Or.inl ⟨by rfl, ?hy12⟩) (by assumption) ?rest12
  case hy12 => intro w hSw; (try dsimp only at hSw); go_simp; (try with_reducible rfl)
  try simp only [Act.put, List.setIfInBounds_toArray, List.set_cons_zero, List.set_cons_succ]
  refine wpAnyH_take (i := 13) (v := ?v13) rfl (by kernel_rfl) (by kernel_rfl) (by kernel_rfl) (fun _ _ _ h => h) (Or.inl ⟨by rfl, ?hy13⟩) (by assumption) ?rest13
  case hy13 => intro w hSw; (try dsimp only at hSw); go_simp; (try with_reducible rfl)
  try simp only [Act.put, List.setIfInBounds_toArray, List.set_cons_zero, List.set_cons_succ]
  refine wpAnyH_take (i := 14) (v := ?v14) rfl (by kernel_rfl) (by kernel_rfl) (by kernel_rfl) (fun _ _ _ h => h) (Or.inl ⟨by rfl, ?hy14⟩) (by assumption) ?rest14
  case hy14 => intro w hSw; (try dsimp only at hSw); go_simp; (try with_reducible rfl)
  try simp only [Act.put, List.setIfInBounds_toArray, List.set_cons_zero, List.set_cons_succ]
  refine wpAnyH_ready (rs := [15]) (by kernel_rfl) (by simp) (AllReadyH.cons rfl (fun K hK => ?_) AllReadyH.nil)
  go_simp
  refine (unhide I1).mono ?_
  rintro e w2 ⟨rv1, res1, rfl, hB⟩
  obtain ⟨g2, cap2, rfl⟩ := hB.some
  have BB := hide hB
  obtain ⟨y1, y2, y3⟩ := unhide L2 w2 _ res1 hB
  have Y3 := hide y3
  have y4 := World.block_lt_of_cell? w2 _ y1
  have y5 := World.block_lt_of_cell? w2 _ y2
  clear hB y3 I1 L2
  refine hK.out _ _ (by simp [go_sem, *]) (fun hHeld => ?_)
  clear hK K
  try simp only [Act.put, List.setIfInBounds_toArray, List.set_cons_zero, List.set_cons_succ]
  refine wpAnyH_ready (rs := [16]) (by kernel_rfl) (by simp) (AllReadyH.cons rfl (fun K hK => ?_) AllReadyH.nil)
  go_simp
  refine hK.out _ _ (by simp [go_sem, *]) (fun hHeld => ?_)
  clear hK K
  try simp only [Act.put, List.setIfInBounds_toArray, List.set_cons_zero, List.set_cons_succ]
  refine wpAnyH_ready (rs := [17]) (by kernel_rfl) (by simp) (AllReadyH.cons rfl (fun K hK => ?_) AllReadyH.nil)
  go_simp
  refine (unhide Y3).mono ?_
  rintro e w4 ⟨nr, rfl, hC⟩
  have CC := hide hC
  have z1 : w4.cell? ⟨A0, 1, none⟩ = some (.slice (some ⟨g, 0, none⟩) (init.length + 1) cap) := (by rw [(hC.keep []).cell (p := ⟨A0, 1, none⟩) y4 (by simp)]; exact y1)
  have z2 : w4.cell? ⟨g, init.length, none⟩ = some (.pointer (some ⟨adr h p, 0, none⟩)) := (by rw [(hC.keep []).cell (p := ⟨g, init.length, none⟩) y5 (by simp)]; exact y2)
  clear hC Y3
  refine hK.out _ _ (by simp [go_sem, *]) (fun hHeld => ?_)
  clear hK K
  try simp only [Act.put, List.setIfInBounds_toArray, List.set_cons_zero, List.set_cons_succ]
  refine wpAnyH_done (by kernel_rfl) ?_ _
  unfold HT
  go_wp2_with fail
  refine (unhide L3 _ _ _ _ _ _ (unhide BB) (unhide CC)).mono ?_
  rintro e w5 ⟨v5, res5, rfl, hZ⟩
  have ZZ := hide hZ
  clear hZ L3
  go_wp2
  go_ret
  exact ⟨v5, res5, rfl, unhide ZZ⟩
end Go.Proofs.Ytbkneonbpcmepaa
