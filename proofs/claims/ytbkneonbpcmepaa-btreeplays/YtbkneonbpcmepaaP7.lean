/- share and crown. -/
import Derived.Test.YtbkneonbpcmepaaP6
namespace Go.Proofs.Ytbkneonbpcmepaa
open Go.RowKit Go.Arb
set_option linter.unusedVariables false
set_option linter.unusedSimpArgs false

theorem row_new (w : World) (ls : List Nat) (h : ls.length ≤ 1000) : Row (w.alloc (.cells (ls.map ptr).toArray 66)) (.slice (some ⟨w.heap.size, 0, none⟩) ls.length ls.length) ls :=
  ⟨by simp, .inr ⟨w.heap.size, ls.length, _, rfl, Nat.zero_le _, heap_alloc_new w _, Nat.le_refl _, by unfold maxLen; omega, by simp, by
    simp only [Nat.mul_one]
    exact List.take_of_length_le (by simp)⟩⟩
theorem vw_take {w : World} {g n cap k : Nat} {ls : List Nat} (h : Row w (.slice (some ⟨g, 0, none⟩) n cap) ls) (hk : k ≤ n) : Vw w (.slice (some ⟨g, 0, none⟩) k cap) (ls.take k) := by
  obtain ⟨x, c, e, c1, c2, c3, c4⟩ := h.form
  simp only [Value.slice.injEq] at e
  obtain ⟨rfl, rfl, rfl⟩ := e
  refine .inr ⟨⟨g, 0, none⟩, cap, by rw [List.length_take, Nat.min_eq_left hk], by simp, fun j y hj => ?_⟩
  have hjl : j < k ∧ j < ls.length := by
    have := (List.getElem?_eq_some_iff.1 hj).1
    simp at this
    omega
  have ha : (⟨g, 0, none⟩ : Addr).add j = ⟨g, j, none⟩ := by simp [Addr.add]; intro h; exact h.symm
  rw [ha, c4 g rfl j hjl.2]
  rw [List.getElem?_map, List.getElem?_take, if_pos hjl.1, List.getElem?_eq_getElem hjl.2] at hj
  rw [List.getD_eq_getElem?_getD, List.getElem?_eq_getElem hjl.2]
  exact hj
theorem vw_drop {w : World} {g n cap k : Nat} {ls : List Nat} (h : Row w (.slice (some ⟨g, 0, none⟩) n cap) ls) (hk : k ≤ n) (c' : Nat) : Vw w (.slice (some ⟨g, k, none⟩) (n - k) c') (ls.drop k) := by
  obtain ⟨x, c, e, c1, c2, c3, c4⟩ := h.form
  simp only [Value.slice.injEq] at e
  obtain ⟨rfl, rfl, rfl⟩ := e
  refine .inr ⟨⟨g, k, none⟩, c', by rw [List.length_drop], by simp, fun j y hj => ?_⟩
  have hjl : k + j < ls.length := by
    have := (List.getElem?_eq_some_iff.1 hj).1
    simp at this
    omega
  have ha : (⟨g, k, none⟩ : Addr).add j = ⟨g, k + j, none⟩ := by
    unfold Addr.add
    by_cases e : j = 0
    · simp [e]
    · simp [e]
  rw [ha, c4 g rfl _ hjl]
  rw [List.getElem?_map, List.getElem?_drop, List.getElem?_eq_getElem hjl] at hj
  rw [List.getD_eq_getElem?_getD, List.getElem?_eq_getElem hjl]
  exact hj
theorem Vw.keep {w w' : World} {s : Value} {ls ks : List Nat} (h : Vw w s ls) (hk : Keep ks w w') (ho : ∀ k ∈ own s, k ∉ ks) : Vw w' s ls := by
  rcases h with h | ⟨ad, c, rfl, hl, hc⟩
  · exact .inl h
  · refine .inr ⟨ad, c, rfl, hl, fun j x hj => ?_⟩
    have h1 := hc j x hj
    have hb : (ad.add j).block = ad.block := by unfold Addr.add; split <;> rfl
    rw [hk.cell (p := ad.add j) (World.block_lt_of_cell? w _ h1) (by rw [hb]; exact ho _ (by simp [own, Value.ownBlock]))]
    exact h1
theorem Ts.app {w : World} {h : Nat} {a b : List (Tr h)} : Ts w h (a ++ b) ↔ Ts w h a ∧ Ts w h b ∧ Off (fps h a) (fps h b) := by
  constructor
  · intro m
    have hn := m.nd
    rw [fps_append, List.nodup_append] at hn
    exact ⟨⟨fun t ht => m.mem t (by simp [ht]), hn.1⟩, ⟨fun t ht => m.mem t (by simp [ht]), hn.2.1⟩, fun k h1 h2 => hn.2.2 k h1 k h2 rfl⟩
  · rintro ⟨m1, m2, ho⟩
    refine ⟨fun t ht => ?_, ?_⟩
    · rcases List.mem_append.1 ht with ht | ht
      · exact m1.mem t ht
      · exact m2.mem t ht
    · rw [fps_append, List.nodup_append]
      exact ⟨m1.nd, m2.nd, fun x hx y hy e => ho x hx (e ▸ hy)⟩
theorem Ts.one {w : World} {h : Nat} {u : Value} {t : Tr h} (m : Mem w h u t) (nd : (fp h t).Nodup) : Ts w h [t] :=
  ⟨fun s hs => by simp only [List.mem_singleton] at hs; subst hs; exact ⟨u, m⟩, by rw [fps_cons, fps_nil, List.append_nil]; exact nd⟩
theorem nod_nodup {hh a : Nat} {rv : Value} {m : Int} {ts : List (Tr hh)} (h1 : a ∉ fps hh ts) (h2 : (fps hh ts).Nodup) (h3 : Off (own rv) (a :: fps hh ts)) : (fp (hh + 1) (nod hh a rv m ts)).Nodup := by
  rw [fp_nod, List.nodup_cons, List.nodup_append]
  refine ⟨?_, ?_, h2, ?_⟩
  · simp only [List.mem_append, not_or]
    exact ⟨fun hc => h3 a hc (by simp), h1⟩
  · unfold own; cases rv.ownBlock <;> simp
  · intro x hx y hy e
    subst e
    exact h3 x hx (by simp [hy])
theorem off_take {hh k : Nat} {ts : List (Tr hh)} : ∀ x ∈ fps hh (ts.take k), x ∈ fps hh ts := fun x hx => by
  rw [← List.take_append_drop k ts, fps_append]; simp [hx]
theorem off_drop {hh k : Nat} {ts : List (Tr hh)} : ∀ x ∈ fps hh (ts.drop k), x ∈ fps hh ts := fun x hx => by
  rw [← List.take_append_drop k ts, fps_append]; simp [hx]

/-- What share leaves of a knot and its parts. -/
structure Shared (w w' : World) (hh a : Nat) (ts : List (Tr hh)) (nr rv : Value) (res : List (Tr (hh + 1))) : Prop where
  row : Row w' rv (res.map (adr (hh + 1)))
  new : ∀ k ∈ own rv, w.heap.size ≤ k
  off : Off (own rv) (fps (hh + 1) res)
  tr : Ts w' (hh + 1) res
  kp : Keep (a :: ts.map (adr hh)) w w'
  gr : Grew w (a :: (own nr ++ fps hh ts)) (fps (hh + 1) res)
  few : ts.length ≤ 8 → ∃ r, res = [nod hh a r 0 ts]
  many : 8 < ts.length → ∃ b r r', res = [nod hh a r 0 (ts.take (ts.length / 2)), nod hh b r' 0 (ts.drop (ts.length / 2))]

set_option maxRecDepth 100000 in
theorem share_few {hh : Nat} (ts : List (Tr hh)) (a : Nat) (u r rv : Value) (s : Sm) (w : World) (k : Kn w a u r ((hh : Int) + 1) (-1) 0 s) (hr : Row w rv (ts.map (adr hh)))
    (m : Ts w hh ts) (ha : a ∉ fps hh ts) (ho : Off (own rv) (a :: fps hh ts)) (hl : (ts.flatMap (its hh)).length ≤ 4194304) (hf : FitL (ts.flatMap (its hh))) (h8 : ts.length ≤ 8) :
    Calls Try.prog 87 #[ptr a, rv] w fun e w' => ∃ v res, e = .returned v ∧ Shared w w' hh a ts rv v res := by
  have hlt := m.lt
  have hrl := row_lt hr
  have hal := k.lt
  have hn1 := nod_nodup (m := 0) ha m.nd ho
  have A1 := hide (hold_tr ts a u r rv s w k hr m ha ho hl hf)
  have H := hide (And.intro hlt (And.intro hrl (And.intro hal hn1)))
  obtain ⟨x, cap, e, c1, c2, c3, c4⟩ := hr.form
  rw [List.length_map] at *
  have E := hide e
  clear k hr m ha ho hl hf hlt hrl hal hn1 c3 c4
  subst e
  unfold ptr at A1
  unfold ptr
  go_enter Try.func87, Try.ntmps87
  go_wp2_with fail
  refine (unhide A1).mono ?_
  rintro e w1 ⟨rfl, h1, h2⟩
  have R := hide (row_new w1 [a] (by simp))
  have kal := (Keep.refl [] w1).alloc (.cells ([a].map ptr).toArray 66)
  have M := hide (Mem.keep kal h1 (fun _ _ => by simp))
  have K := hide (h2.alloc (.cells ([a].map ptr).toArray 66))
  have L := hide (And.intro h1.lt h2.size)
  have ND := hide (unhide H).2.2.2
  clear h1 h2 A1 kal
  simp only [List.map_cons, List.map_nil, List.length_cons, List.length_nil] at R M K
  unfold ptr at R M K
  go_wp2
  go_ret
  refine ⟨_, [nod hh a (.slice x ts.length cap) 0 ts], rfl, ⟨unhide R, fun g hg => ?_, fun g h1 h2 => ?_, ⟨fun t ht => ?_, ?_⟩, unhide K, ?_, fun _ => ⟨_, rfl⟩, fun h => by omega⟩⟩
  · simp [own, Value.ownBlock] at hg
    have := (unhide L).2
    omega
  · simp [own, Value.ownBlock] at h1
    rw [fps_cons, fps_nil, List.append_nil] at h2
    have := (unhide L).1 g h2
    omega
  · simp only [List.mem_singleton] at ht
    subst ht
    exact ⟨_, unhide M⟩
  · rw [fps_cons, fps_nil, List.append_nil]
    exact unhide ND
  · rw [fps_cons, fps_nil, List.append_nil, fp_nod]
    exact Grew.refl _ _

theorem map_take {hh k : Nat} (ts : List (Tr hh)) : (ts.take k).map (adr hh) = (ts.map (adr hh)).take k := by rw [List.map_take]
theorem map_drop {hh k : Nat} (ts : List (Tr hh)) : (ts.drop k).map (adr hh) = (ts.map (adr hh)).drop k := by rw [List.map_drop]
theorem flat_drop {h : Nat} (ps : List (Tr h)) (j : Nat) : ∀ x ∈ (ps.drop j).flatMap (its h), x ∈ ps.flatMap (its h) := by
  intro x hx
  obtain ⟨s, hs, hx⟩ := List.mem_flatMap.1 hx
  exact List.mem_flatMap.2 ⟨s, List.mem_of_mem_drop hs, hx⟩
theorem flat_len' {h : Nat} (ps : List (Tr h)) (j : Nat) : ((ps.drop j).flatMap (its h)).length ≤ (ps.flatMap (its h)).length := by
  conv => rhs; rw [← List.take_append_drop j ps, List.flatMap_append, List.length_append]
  omega

set_option maxRecDepth 100000 in
theorem share_many {hh : Nat} (ts : List (Tr hh)) (a : Nat) (u r rv : Value) (s : Sm) (w : World) (hh9 : hh ≤ 1000) (k : Kn w a u r ((hh : Int) + 1) (-1) 0 s) (hr : Row w rv (ts.map (adr hh)))
    (m : Ts w hh ts) (ha : a ∉ fps hh ts) (ho : Off (own rv) (a :: fps hh ts)) (hl : (ts.flatMap (its hh)).length ≤ 4194304) (hf : FitL (ts.flatMap (its hh))) (h8 : 8 < ts.length) (h9 : ts.length ≤ 100) :
    Calls Try.prog 87 #[ptr a, rv] w fun e w' => ∃ v res, e = .returned v ∧ Shared w w' hh a ts rv v res := by
  obtain ⟨q, hq⟩ : ∃ q, ts.length / 2 = q := ⟨_, rfl⟩
  have hq1 : 4 ≤ q ∧ q < ts.length ∧ 2 * q ≤ ts.length ∧ ts.length ≤ 2 * q + 1 := by omega
  have nT : (ts.length : Int) / 2 = (q : Int) := by omega
  have hlt := m.lt
  have hal := k.lt
  have mm := m
  rw [← List.take_append_drop q ts, Ts.app] at mm
  obtain ⟨m1, m2, m12⟩ := mm
  have hrow := hr
  obtain ⟨x, cap, rfl, c1, c2, c3, c4⟩ := hr.form
  rw [List.length_map] at *
  obtain ⟨g, rfl, hg, hgo⟩ := c3 (by omega)
  have V1 := vw_take hrow (k := q) (by omega)
  have V2 := vw_drop hrow (k := q) (by omega) (cap - q)
  rw [← map_take] at V1
  rw [← map_drop] at V2
  have hga : g ≠ a := fun e => ho g (by rw [hgo]; simp) (by simp [e])
  have hgf : g ∉ fps hh ts := fun hc => ho g (by rw [hgo]; simp) (by simp [hc])
  have t1 : (ts.take q).length = q := by rw [List.length_take]; omega
  have t2 : (ts.drop q).length = ts.length - q := by rw [List.length_drop]
  have C1 := hide (clone_any _ _ w V1 (by rw [List.length_map]; omega))
  have b2 : (q : Int) ≤ (cap : Int) := by omega
  have b3 : (q : Int) ≤ (ts.length : Int) := by omega
  have b4 : (q : Int) < (cap : Int) := by omega
  have hle8 : ¬ (ts.length : Int) ≤ 8 := by omega
  have HQ := hide (And.intro hq hq1)
  have H := hide (And.intro k (And.intro m (And.intro m1 (And.intro m2 (And.intro m12 (And.intro ha (And.intro hl (And.intro hf (And.intro V2 (And.intro hlt (And.intro hal (And.intro hga hgf))))))))))))
  have T := hide (And.intro t1 t2)
  clear hq hq1 k m m1 m2 m12 ha ho hl hf hlt hal V1 V2 c3 c4 hr hrow hga hgf t1 t2
  unfold ptr
  go_enter Try.func87, Try.ntmps87
  go_wp2_with fail
  refine (unhide C1).mono ?_
  rintro e w1 ⟨r1, rfl, g1, g2, g3⟩
  have A1 := hide (hold_tr (ts.take q) a u r r1 s w1 ((unhide H).1.below g2) g1 ((unhide H).2.2.1.below g2) (fun hc => (unhide H).2.2.2.2.2.1 (off_take _ hc))
    (fun x h1 h2 => by
      have h3 := g3 x h1
      rcases List.mem_cons.1 h2 with rfl | h2
      · have := (unhide H).2.2.2.2.2.2.2.2.2.2.1; omega
      · have := (unhide H).2.2.2.2.2.2.2.2.2.1 x (off_take _ h2); omega)
    (Nat.le_trans (flat_len ts q) (unhide H).2.2.2.2.2.2.1) ((unhide H).2.2.2.2.2.2.2.1.sub (flat_take ts q)))
  have G1 := hide (And.intro g2 g3)
  clear g1 g2 g3 C1
  unfold ptr at A1
  go_wp2_with fail
  refine (unhide A1).mono ?_
  rintro e w2 ⟨rfl, h1, h2⟩
  have K2 : Keep (a :: (ts.take q).map (adr hh)) w w2 := (Keep.ofBelow (unhide G1).1 _).tr h2
  have V2 := (unhide H).2.2.2.2.2.2.2.2.1.keep K2 (fun x hx hc => by
    simp [own, Value.ownBlock] at hx
    subst hx
    rcases List.mem_cons.1 hc with e | hc
    · exact (unhide H).2.2.2.2.2.2.2.2.2.2.2.1 e
    · exact (unhide H).2.2.2.2.2.2.2.2.2.2.2.2 (off_take _ (adrs_fps _ hc)))
  have C2 := hide (clone_any _ _ w2 V2 (by rw [List.length_map, (unhide T).2]; omega))
  have M2 := hide (And.intro h1 (And.intro h2 K2))
  clear h1 h2 K2 V2 A1
  go_wp2_with fail
  refine (unhide C2).mono ?_
  rintro e w3 ⟨r2, rfl, g1, g2, g3⟩
  have D3 : Ts w3 hh (ts.drop q) := ((unhide H).2.2.2.1.keep (unhide M2).2.2 (fun x h1 h2 => by
    rcases List.mem_cons.1 h2 with rfl | h2
    · exact (unhide H).2.2.2.2.2.1 (off_drop _ h1)
    · exact (unhide H).2.2.2.2.1 x (adrs_fps _ h2) h1)).below g2
  have sz2 := (unhide M2).2.2.size
  have A2 := hide (over_tr (ts.drop q) r2 w3 hh9 g1 (by rw [(unhide T).2]; have := (unhide HQ).2; omega) D3
    (fun x h1 h2 => by
      have h3 := g3 x h1
      have := (unhide H).2.2.2.2.2.2.2.2.2.1 x (off_drop _ h2); omega)
    (Nat.le_trans (flat_len' ts q) (unhide H).2.2.2.2.2.2.1) ((unhide H).2.2.2.2.2.2.2.1.sub (flat_drop ts q)))
  have G2 := hide (And.intro g2 (And.intro g3 (And.intro D3 (row_lt g1))))
  clear g1 g2 g3 D3 C2 sz2
  go_wp2_with fail
  refine (unhide A2).mono ?_
  rintro e w4 ⟨b, rfl, hb, h1, h2⟩
  have F0 : ∀ x ∈ fp (hh + 1) (nod hh a r1 0 (ts.take q)), x ≠ b ∧ x ∉ (ts.drop q).map (adr hh) ∧ x ∉ fps hh (ts.drop q) ∧ x ∉ own r2 := fun x hx => by
    have hx3 : x < w3.heap.size := Nat.lt_of_lt_of_le ((unhide M2).1.lt x hx) (unhide G2).1.size
    have hx2 : x < w2.heap.size := (unhide M2).1.lt x hx
    rw [fp_nod] at hx
    have key : x ∉ fps hh (ts.drop q) := fun hc => by
      rcases List.mem_cons.1 hx with rfl | hx
      · exact (unhide H).2.2.2.2.2.1 (off_drop _ hc)
      · rcases List.mem_append.1 hx with hx | hx
        · have h3 := (unhide G1).2 x hx
          have := (unhide H).2.2.2.2.2.2.2.2.2.1 x (off_drop _ hc); omega
        · exact (unhide H).2.2.2.2.1 x hx hc
    exact ⟨by omega, fun hc => key (adrs_fps _ hc), key, fun hc => by have := (unhide G2).2.1 x hc; omega⟩
  have M4 : Mem w4 (hh + 1) u (nod hh a r1 0 (ts.take q)) := ((unhide M2).1.keep (Keep.ofBelow (unhide G2).1 []) (fun _ _ => by simp)).keep h2 (fun x hx => (F0 x hx).2.1)
  have sz : w.heap.size ≤ w2.heap.size ∧ w2.heap.size ≤ w3.heap.size ∧ w3.heap.size ≤ w4.heap.size := ⟨(unhide M2).2.2.size, (unhide G2).1.size, h2.size⟩
  have kal := (Keep.refl [] w4).alloc (.cells ([a, b].map ptr).toArray 66)
  have R := hide (row_new w4 [a, b] (by simp))
  have k1 : Keep (a :: ts.map (adr hh)) w w2 := (unhide M2).2.2.mono (fun x hx => .inl (by
      rcases List.mem_cons.1 hx with rfl | hx
      · simp
      · rw [map_take] at hx; exact List.mem_cons_of_mem _ (List.mem_of_mem_take hx)))
  have k2 : Keep (a :: ts.map (adr hh)) w3 w4 := h2.mono (fun x hx => .inl (by rw [map_drop] at hx; exact List.mem_cons_of_mem _ (List.mem_of_mem_drop hx)))
  have KP := hide (((k1.tr (Keep.ofBelow (unhide G2).1 _)).tr k2).alloc (.cells ([a, b].map ptr).toArray 66))
  have n1 := nod_nodup (m := 0) (rv := r1) (fun hc => (unhide H).2.2.2.2.2.1 (off_take _ hc)) (unhide H).2.2.1.nd (fun x h1 h2 => by
      have h3 := (unhide G1).2 x h1
      rcases List.mem_cons.1 h2 with rfl | h2
      · have := (unhide H).2.2.2.2.2.2.2.2.2.2.1; omega
      · have := (unhide H).2.2.2.2.2.2.2.2.2.1 x (off_take _ h2); omega)
  have n2 := nod_nodup (m := 0) (rv := r2) (a := b) (fun hc => by have := (unhide G2).2.2.1.lt b hc; omega) (unhide H).2.2.2.1.nd (fun x y1 y2 => by
      have h3 := (unhide G2).2.1 x y1
      have h4 := (unhide G2).2.2.2 x y1
      rcases List.mem_cons.1 y2 with e | y2
      · omega
      · have := (unhide H).2.2.2.2.2.2.2.2.2.1 x (off_drop _ y2); omega)
  have N := hide (And.intro n1 n2)
  have L4 := hide (And.intro M4.lt h1.lt)
  have M5 := hide (And.intro (M4.keep kal (fun _ _ => by simp)) (h1.keep kal (fun _ _ => by simp)))
  have F1 := hide F0
  have SZ := hide sz
  have HB := hide hb
  clear k1 k2 n1 n2 kal F0 M4 h1 h2 sz hb A2
  simp only [List.map_cons, List.map_nil, List.length_cons, List.length_nil] at R M5 KP
  unfold ptr at R M5 KP ⊢
  go_wp2
  go_ret
  refine ⟨_, [nod hh a r1 0 (ts.take q), nod hh b r2 0 (ts.drop q)], rfl, ⟨unhide R, fun x hx => ?_, fun x hx hc => ?_, ?_, unhide KP, fun x hx => ?_, fun h => by omega, fun _ => ⟨b, r1, r2, by rw [(unhide HQ).1]⟩⟩⟩
  · simp [own, Value.ownBlock] at hx
    have := unhide SZ
    omega
  · simp [own, Value.ownBlock] at hx
    rw [fps_cons, fps_cons, fps_nil, List.append_nil] at hc
    rcases List.mem_append.1 hc with hc | hc
    · have := (unhide L4).1 x hc; omega
    · have := (unhide L4).2 x hc; omega
  · rw [show [nod hh a r1 0 (ts.take q), nod hh b r2 0 (ts.drop q)] = [nod hh a r1 0 (ts.take q)] ++ [nod hh b r2 0 (ts.drop q)] from rfl, Ts.app]
    refine ⟨Ts.one (unhide M5).1 (unhide N).1, Ts.one (unhide M5).2 (unhide N).2, fun x h1 h2 => ?_⟩
    rw [fps_cons, fps_nil, List.append_nil] at h1 h2
    obtain ⟨f1, f2, f3, f4⟩ := unhide F1 x h1
    rw [fp_nod] at h2
    rcases List.mem_cons.1 h2 with e | h2
    · exact f1 e
    · rcases List.mem_append.1 h2 with h2 | h2
      · exact f4 h2
      · exact f3 h2
  · rw [fps_cons, fps_cons, fps_nil, List.append_nil, fp_nod, fp_nod] at hx
    have := unhide SZ
    have hb := unhide HB
    rcases List.mem_append.1 hx with hx | hx
    · rcases List.mem_cons.1 hx with rfl | hx
      · left; simp
      · rcases List.mem_append.1 hx with hx | hx
        · right; exact (unhide G1).2 x hx
        · left; simp [off_take _ hx]
    · rcases List.mem_cons.1 hx with rfl | hx
      · right; omega
      · rcases List.mem_append.1 hx with hx | hx
        · right; have := (unhide G2).2.1 x hx; omega
        · left; simp [off_drop _ hx]

theorem share_any {hh : Nat} (ts : List (Tr hh)) (a : Nat) (u r rv : Value) (s : Sm) (w : World) (hh9 : hh ≤ 1000) (k : Kn w a u r ((hh : Int) + 1) (-1) 0 s) (hr : Row w rv (ts.map (adr hh)))
    (m : Ts w hh ts) (ha : a ∉ fps hh ts) (ho : Off (own rv) (a :: fps hh ts)) (hl : (ts.flatMap (its hh)).length ≤ 4194304) (hf : FitL (ts.flatMap (its hh))) (h9 : ts.length ≤ 100) :
    Calls Try.prog 87 #[ptr a, rv] w fun e w' => ∃ v res, e = .returned v ∧ Shared w w' hh a ts rv v res := by
  by_cases h8 : ts.length ≤ 8
  · exact share_few ts a u r rv s w k hr m ha ho hl hf h8
  · exact share_many ts a u r rv s w hh9 k hr m ha ho hl hf (by omega) h9
end Go.Proofs.Ytbkneonbpcmepaa
