/- raiseRange. -/
import Derived.Test.YtbkneonbpcmepaaW2
namespace Go.Proofs.Ytbkneonbpcmepaa
open Go.RowKit Go.Arb
set_option linter.unusedVariables false
set_option linter.unusedSimpArgs false

set_option maxRecDepth 100000 in
theorem within80 {hh : Nat} (ps : List (Tr hh)) (A box : Nat) (u r : Value) (h i m f t : Int) (s : Sm) (w : World) (Iv : Nat → World → Prop) (k : Kn w A u r h i m s) (h8 : ps.length ≤ 8) (hl : (ps.flatMap (its hh)).length ≤ 4194304)
    (b1 : -4398046511104 ≤ f ∧ f ≤ 4398046511104) (b2 : -4398046511104 ≤ t ∧ t ≤ 4398046511104) (hr : Row w r (ps.map (adr hh)))
    (h0 : Iv 0 w) (hrow : ∀ j w', Iv j w' → Row w' r (ps.map (adr hh))) (hcnt : ∀ j (hj : j < ps.length) w', Iv j w' → w'.cell? ⟨adr hh ps[j], 5, none⟩ = some (.int .i64 ((its hh ps[j]).length : Nat)))
    (hs : ∀ j (hj : j < ps.length) w', Iv j w' → f - (((ps.take j).flatMap (its hh)).length : Nat) < (its hh ps[j]).length → 0 < t - (((ps.take j).flatMap (its hh)).length : Nat) →
      Calls Try.prog 80 #[ptr (adr hh ps[j]), .int .i64 (f - (((ps.take j).flatMap (its hh)).length : Nat)), .int .i64 (t - (((ps.take j).flatMap (its hh)).length : Nat)), ptr box] w' fun e w'' => e = .returned (.tuple #[]) ∧ Iv (j + 1) w'')
    (hn : ∀ j (hj : j < ps.length) w', Iv j w' → ¬ (f - (((ps.take j).flatMap (its hh)).length : Nat) < (its hh ps[j]).length ∧ 0 < t - (((ps.take j).flatMap (its hh)).length : Nat)) → Iv (j + 1) w') :
    Calls Try.prog 74 #[ptr A, .int .i64 f, .int .i64 t, .func (.func 80) #[] #[ptr box]] w fun e w' => e = .returned (.tuple #[]) ∧ Iv ps.length w' := by
  obtain ⟨_, q1, _, _, _, _, _, _, _⟩ := k.cells
  obtain ⟨x, cap, e, c1, c2, c3, c4⟩ := hr.form
  rw [e] at q1
  rw [List.length_map] at q1 c1 c3
  have H0 := hide h0
  have HR := hide hrow
  have HC := hide hcnt
  have HS := hide hs
  have HN := hide hn
  have HL := hide hl
  have E := hide e
  clear h0 hrow hcnt hs hn hl c4 hr e k
  unfold ptr
  go_enter Try.func74, Try.ntmps74
  go_wp2_with fail
  go_loopg [1, 2, 16] ps.length (fun gk v1 v2 v3 w' => ∃ j : Nat, j + gk = ps.length ∧ v1 = .int .i64 (f - (((ps.take j).flatMap (its hh)).length : Nat)) ∧ v2 = .int .i64 (t - (((ps.take j).flatMap (its hh)).length : Nat)) ∧ v3 = .int .i64 (j : Int) ∧ Iv j w')
  case atStart => exact ⟨0, by omega, by simp, by simp, rfl, unhide H0⟩
  case round =>
    obtain ⟨j, hj, rfl, rfl, rfl, hI⟩ := hrel
    by_cases h9 : j < ps.length
    · obtain ⟨x', cap', e', _, _, c3', c4'⟩ := (unhide HR j _ hI).form
      have e2 := (unhide E).symm.trans e'
      rw [List.length_map] at c3' c4'
      simp only [Value.slice.injEq] at e2
      obtain ⟨rfl, _, rfl⟩ := e2
      obtain ⟨g, rfl, hg, _⟩ := c3' (by omega)
      have e1 := c4' g rfl j h9
      rw [mapD _ _ h9] at e1
      have e5 := unhide HC j h9 _ hI
      have z1 : ((ps.take (j + 1)).flatMap (its hh)).length = ((ps.take j).flatMap (its hh)).length + (its hh ps[j]).length := by
        rw [take_step _ h9, List.flatMap_append, List.length_append]
        simp
      have z2 := flat_len ps (j + 1)
      have z3 := unhide HL
      have Z1 := hide z1
      rw [z1] at z2
      have S1 := hide (unhide HS j h9 _ hI)
      have N1 := hide (unhide HN j h9 _ hI)
      clear z1 hI e' c3' c4'
      unfold ptr at *
      generalize hn1 : ((ps.take j).flatMap (its hh)).length = n1 at *
      generalize hn2 : (its hh ps[j]).length = n2 at *
      clear hn1 hn2
      generalize adr hh ps[j] = b at *
      have y1 : -9223372036854775808 ≤ f - (n1 : Int) ∧ f - (n1 : Int) ≤ 9223372036854775807 := by omega
      have y2 : -9223372036854775808 ≤ t - (n1 : Int) ∧ t - (n1 : Int) ≤ 9223372036854775807 := by omega
      have y3 : -9223372036854775808 ≤ f - (n1 : Int) - (n2 : Int) ∧ f - (n1 : Int) - (n2 : Int) ≤ 9223372036854775807 := by omega
      have y4 : -9223372036854775808 ≤ t - (n1 : Int) - (n2 : Int) ∧ t - (n1 : Int) - (n2 : Int) ≤ 9223372036854775807 := by omega
      have y5 : (j : Int) < (ps.length : Int) := by omega
      have F1 : f - (n1 : Int) - (n2 : Int) = f - ((n1 + n2 : Nat) : Int) := by omega
      have F2 : t - (n1 : Int) - (n2 : Int) = t - ((n1 + n2 : Nat) : Int) := by omega
      have FF := hide (And.intro F1 F2)
      clear F1 F2 z2 z3
      by_cases a1 : f - (n1 : Int) < (n2 : Int)
      · by_cases a2 : (n1 : Int) < t
        · have S2 := hide (unhide S1 a1 (by omega))
          clear S1 N1
          go_wp2_with fail
          refine (unhide S2).mono ?_
          rintro e w2 ⟨rfl, hI⟩
          have I2 := hide hI
          clear hI S2
          go_wp2
          go_roundg (gk - 1)
          case rel => exact ⟨j + 1, by omega, by rw [unhide Z1, (unhide FF).1], by rw [unhide Z1, (unhide FF).2], rfl, unhide I2⟩
          all_goals omega
        · have I2 := hide (unhide N1 (fun hc => a2 (by omega)))
          clear S1 N1
          go_wp2
          go_roundg (gk - 1)
          case rel => exact ⟨j + 1, by omega, by rw [unhide Z1, (unhide FF).1], by rw [unhide Z1, (unhide FF).2], rfl, unhide I2⟩
          all_goals omega
      · have I2 := hide (unhide N1 (fun hc => a1 hc.1))
        clear S1 N1
        go_wp2
        go_roundg (gk - 1)
        case rel => exact ⟨j + 1, by omega, by rw [unhide Z1, (unhide FF).1], by rw [unhide Z1, (unhide FF).2], rfl, unhide I2⟩
        all_goals omega
    · have hje : j = ps.length := by omega
      subst hje
      have I2 := hide hI
      clear hI
      generalize ((ps.take ps.length).flatMap (its hh)).length = n1 at *
      go_wp2
      go_end0
      exact ⟨rfl, unhide I2⟩
set_option maxRecDepth 100000 in
theorem close80 (b box : Nat) (f t d : Int) (w : World) (P : World → Prop) (hb : w.cell? ⟨box, 0, none⟩ = some (.int .i64 d)) (hc : Calls Try.prog 56 #[ptr b, .int .i64 f, .int .i64 t, .int .i64 d] w fun e w' => e = .returned (.tuple #[]) ∧ P w') :
    Calls Try.prog 80 #[ptr b, .int .i64 f, .int .i64 t, ptr box] w fun e w' => e = .returned (.tuple #[]) ∧ P w' := by
  have C := hide hc
  clear hc
  unfold ptr at *
  go_enter Try.func80, Try.ntmps80
  go_wp2_with fail
  refine (unhide C).mono ?_
  rintro e w' ⟨rfl, h⟩
  have H := hide h
  clear h C
  go_wp2
  go_end0
  exact ⟨rfl, unhide H⟩

/-- Some parts of a knot are raised, one behind the other. -/
structure RI (W w' : World) (hh A : Nat) (u r : Value) (S : Sm) (ps : List (Tr hh)) (a b d : Int) (box j : Nat) : Prop where
  ex : ∃ qs : List (Tr hh), qs.map (adr hh) = (ps.take j).map (adr hh) ∧ fps hh qs = fps hh (ps.take j) ∧ qs.flatMap (its hh) = rrL a b d ((ps.take j).flatMap (its hh)) ∧ (∀ s ∈ qs, Wf hh 4 s) ∧ ∀ s ∈ qs, Mem w' hh (ptr A) s
  rest : ∀ s ∈ ps.drop j, Mem w' hh (ptr A) s
  kn : Kn w' A u r ((hh : Int) + 1) (-1) 0 S
  row : Row w' r (ps.map (adr hh))
  by_ : w'.cell? ⟨box, 0, none⟩ = some (.int .i64 d)
  kp : Keep (fp (hh + 1) (nod hh A r 0 ps)) W w'

theorem rrL_step {h : Nat} (ps : List (Tr h)) (a b d : Int) (j : Nat) (hj : j < ps.length) : rrL a b d ((ps.take (j + 1)).flatMap (its h)) = rrL a b d ((ps.take j).flatMap (its h)) ++ rrL (a - (((ps.take j).flatMap (its h)).length : Nat)) (b - (((ps.take j).flatMap (its h)).length : Nat)) d (its h ps[j]) := by
  rw [take_step _ hj, List.flatMap_append, List.flatMap_cons, List.flatMap_nil, List.append_nil, rrL_append]
theorem rrL_flat {h : Nat} (ps : List (Tr h)) (a b d : Int) (j : Nat) : rrL a b d (ps.flatMap (its h)) = rrL a b d ((ps.take j).flatMap (its h)) ++ rrL (a - (((ps.take j).flatMap (its h)).length : Nat)) (b - (((ps.take j).flatMap (its h)).length : Nat)) d ((ps.drop j).flatMap (its h)) := by
  conv => lhs; rw [← List.take_append_drop j ps, List.flatMap_append]
  rw [rrL_append]
theorem rrL_fit {h : Nat} {ps : List (Tr h)} {a b d : Int} (f : FitL (rrL a b d (ps.flatMap (its h)))) (j : Nat) (hj : j < ps.length) : FitL (rrL (a - (((ps.take j).flatMap (its h)).length : Nat)) (b - (((ps.take j).flatMap (its h)).length : Nat)) d (its h ps[j])) := by
  have h1 := rrL_flat ps a b d (j + 1)
  rw [h1, rrL_step _ _ _ _ _ hj] at f
  exact (FitL.append.1 (FitL.append.1 f).1).2
theorem fps_split {h : Nat} (ps : List (Tr h)) (j : Nat) (hj : j < ps.length) : fps h ps = fps h (ps.take j) ++ (fp h ps[j] ++ fps h (ps.drop (j + 1))) := by
  conv => lhs; rw [← List.take_append_drop j ps, List.drop_eq_getElem_cons hj]
  rw [fps_append, fps_cons]
theorem RI.step {W w' w'' : World} {hh A : Nat} {u r : Value} {S : Sm} {ps : List (Tr hh)} {a b d : Int} {box j : Nat} (R : RI W w' hh A u r S ps a b d box j) (nd : (fp (hh + 1) (nod hh A r 0 ps)).Nodup) (hbx : box ∉ fp (hh + 1) (nod hh A r 0 ps)) (hj : j < ps.length) {t : Tr hh}
    (k : Keep (fp hh ps[j]) w' w'') (m : Mem w'' hh (ptr A) t) (e1 : adr hh t = adr hh ps[j]) (e2 : fp hh t = fp hh ps[j]) (e3 : its hh t = rrL (a - (((ps.take j).flatMap (its hh)).length : Nat)) (b - (((ps.take j).flatMap (its hh)).length : Nat)) d (its hh ps[j])) (wf : Wf hh 4 t) : RI W w'' hh A u r S ps a b d box (j + 1) := by
  obtain ⟨n1, n2, n3, n4⟩ := nod_nd nd
  have sp := fps_split ps j hj
  rw [sp, List.nodup_append] at n3
  obtain ⟨n5, n6, n7⟩ := n3
  rw [List.nodup_append] at n6
  obtain ⟨n8, n9, n10⟩ := n6
  have inA : ∀ x ∈ fp hh ps[j], x ∈ fps hh ps := fun x hx => by rw [sp]; simp [hx]
  have offA : A ∉ fp hh ps[j] := fun hc => n2 (inA _ hc)
  have offR : Off (own r) (fp hh ps[j]) := fun x h1 h2 => n4 x h1 (inA _ h2)
  have memJ : ∀ x ∈ fp hh ps[j], x ∈ fp (hh + 1) (nod hh A r 0 ps) := fun x hx => by rw [fp_nod]; simp [inA x hx]
  obtain ⟨qs, q1, q2, q3, q4, q5⟩ := R.ex
  refine ⟨⟨qs ++ [t], ?_, ?_, ?_, ?_, ?_⟩, fun s hs => ?_, R.kn.keep k offA, R.row.keep k offR, ?_, R.kp.tr (k.mono (fun x hx => .inl (memJ x hx)))⟩
  · rw [take_step _ hj, List.map_append, List.map_append, q1]
    simp [e1]
  · rw [take_step _ hj, fps_append, fps_append, q2, fps_cons, fps_nil, fps_cons, fps_nil, e2]
  · rw [rrL_step _ _ _ _ _ hj, List.flatMap_append, q3, ← e3]
    simp
  · intro s hs
    rcases List.mem_append.1 hs with hs | hs
    · exact q4 s hs
    · simp only [List.mem_singleton] at hs; subst hs; exact wf
  · intro s hs
    rcases List.mem_append.1 hs with hs | hs
    · refine (q5 s hs).keep k (fun x h1 h2 => n7 x (by rw [← q2]; exact fps_mem hs h1) x (by simp [h2]) rfl)
    · simp only [List.mem_singleton] at hs; subst hs; exact m
  · refine (R.rest s (by rw [List.drop_eq_getElem_cons hj]; exact List.mem_cons_of_mem _ hs)).keep k (fun x h1 h2 => n10 x h2 x (fps_mem hs h1) rfl)
  · rw [k.cell (p := ⟨box, 0, none⟩) (World.block_lt_of_cell? w' _ R.by_) (fun hc => hbx (memJ _ hc))]
    exact R.by_
theorem RI.same {W w' : World} {hh A : Nat} {u r : Value} {S : Sm} {ps : List (Tr hh)} {a b d : Int} {box j : Nat} (R : RI W w' hh A u r S ps a b d box j) (nd : (fp (hh + 1) (nod hh A r 0 ps)).Nodup) (hbx : box ∉ fp (hh + 1) (nod hh A r 0 ps)) (hj : j < ps.length) (wf : ∀ s ∈ ps, Wf hh 4 s)
    (hn : ¬ (a - (((ps.take j).flatMap (its hh)).length : Nat) < (its hh ps[j]).length ∧ 0 < b - (((ps.take j).flatMap (its hh)).length : Nat))) : RI W w' hh A u r S ps a b d box (j + 1) :=
  R.step nd hbx hj (Keep.refl _ _) (R.rest ps[j] (by rw [List.drop_eq_getElem_cons hj]; exact List.mem_cons_self ..)) rfl rfl (by rw [rrL_none (by omega)]) (wf _ (List.getElem_mem hj))

/-- What raiseRange does to a tree of a height. -/
def RaiseR (h : Nat) : Prop := ∀ (t : Tr h) (u : Value) (a b d : Int) (k : Nat) (w : World), Mem w h u t → (fp h t).Nodup → Wf h k t → 2 ≤ k → (its h t).length ≤ 4194304 → h ≤ 1000 → a < (its h t).length → 0 < b →
    (-4398046511104 + 4194304 * (h : Int) ≤ a ∧ a ≤ 4398046511104) → (-4398046511104 + 4194304 * (h : Int) ≤ b ∧ b ≤ 4398046511104) → FitL (rrL a b d (its h t)) →
    Calls Try.prog 56 #[ptr (adr h t), .int .i64 a, .int .i64 b, .int .i64 d] w fun e w' => e = .returned (.tuple #[]) ∧ ∃ t', adr h t' = adr h t ∧ fp h t' = fp h t ∧ its h t' = rrL a b d (its h t) ∧ Wf h k t' ∧ Mem w' h u t' ∧ Keep (fp h t) w w'

set_option maxRecDepth 100000 in
theorem raiseR_all {h : Nat} (t : Tr h) (u : Value) (a b d : Int) (k : Nat) (w : World) (m : Mem w h u t) (nd : (fp h t).Nodup) (wf : Wf h k t) (hk : 2 ≤ k) (hl : (its h t).length ≤ 4194304) (hc : a ≤ 0 ∧ ((its h t).length : Int) ≤ b) (hf : FitL (rrL a b d (its h t))) :
    Calls Try.prog 56 #[ptr (adr h t), .int .i64 a, .int .i64 b, .int .i64 d] w fun e w' => e = .returned (.tuple #[]) ∧ ∃ t', adr h t' = adr h t ∧ fp h t' = fp h t ∧ its h t' = rrL a b d (its h t) ∧ Wf h k t' ∧ Mem w' h u t' ∧ Keep (fp h t) w w' := by
  have er : rrL a b d (its h t) = rz d (its h t) := rrL_all hc.1 hc.2
  rw [er] at hf ⊢
  have hB : Keep (fp h t) w (w.alloc (.cells #[.int .i64 d] 3)) := (Keep.refl _ _).alloc _
  have m1 : Mem (w.alloc (.cells #[.int .i64 d] 3)) h u t := m.keep ((Keep.refl [] w).alloc _) (fun _ _ => by simp)
  have hsc : (sm h t).c = ((its h t).length : Nat) := smL_c _
  have A1 := hide (isAll_any (show Kn _ _ _ _ _ _ _ _ from m1.root) a b)
  rw [hsc, decide_eq_true (p := a ≤ 0 ∧ ((its h t).length : Int) ≤ b) hc] at A1
  have R1 := hide (root_rais d (by omega) m1.root wf hl hf)
  have P := hide (And.intro m1 (And.intro nd (And.intro hB (wf.rais hf))))
  have z0 : (w.alloc (.cells #[.int .i64 d] 3)).cell? ⟨w.heap.size, 0, none⟩ = some (.int .i64 d) := by simp [go_sem]
  clear m nd wf hl hf hB m1 hsc er
  generalize hA : adr h t = A at *
  have HA := hide hA
  clear hA
  unfold ptr at *
  go_enter Try.func56, Try.ntmps56
  go_wp2_with fail
  generalize w.alloc (.cells #[.int .i64 d] 3) = W at *
  generalize w.heap.size = B at *
  refine (unhide A1).mono ?_
  rintro e w2 ⟨rfl, rfl⟩
  clear A1
  go_wp2_with fail
  refine (unhide R1).mono ?_
  rintro e w3 ⟨rfl, h1, h2⟩
  have hJ : ∀ x ∈ [A], x ∈ fp h t := fun x hx => by
    simp only [List.mem_singleton] at hx
    rw [hx, ← unhide HA]; exact adr_fp h t
  have M : Mem w3 h u (rais d h t) := mem_top d (unhide P).1 (unhide P).2.1 h2 (fun x h3 h4 h5 => h4 (by simp only [List.mem_singleton] at h5; rw [h5, unhide HA])) h1
  have T := hide (And.intro M ((unhide P).2.2.1.tr (h2.mono (fun x hx => .inl (hJ x hx)))))
  clear h1 h2 R1 M hJ
  go_wp2
  refine bodyPost_ret (v := .tuple #[]) (by simp [results, Try.results56, go_sem]) rfl ?_
  exact ⟨rfl, rais d h t, by rw [adr_rais]; exact unhide HA, fp_rais _ _ _, its_rais _ _ _, (unhide P).2.2.2, (unhide T).1, (unhide T).2⟩

set_option maxRecDepth 100000 in
set_option maxHeartbeats 1000000 in
theorem raiseR_step (h : Nat) (ih : RaiseR h) : RaiseR (h + 1) := by
  intro t u a b d k w m nd wf hk hl h9 ha hb ba bb hf
  by_cases call : a ≤ 0 ∧ ((its (h + 1) t).length : Int) ≤ b
  · exact raiseR_all t u a b d k w m nd wf hk hl call hf
  · have hsc : (sm (h + 1) t).c = ((its (h + 1) t).length : Nat) := smL_c _
    have m1 : Mem (w.alloc (.cells #[.int .i64 d] 3)) (h + 1) u t := m.keep ((Keep.refl [] w).alloc _) (fun _ _ => by simp)
    have lt0 := m.lt
    have A1 := hide (isAll_any (show Kn _ _ _ _ _ _ _ _ from m1.root) a b)
    rw [hsc, decide_eq_false (p := a ≤ 0 ∧ ((its (h + 1) t).length : Int) ≤ b) call] at A1
    have S1 := hide (settle_nod t u _ m1 nd wf hl)
    have wf' := wf.settl
    have e1 := its_settl h t
    have f1 := fp_settl h t
    rw [← e1] at hl ha hf ⊢
    rw [← f1] at nd lt0 ⊢
    rw [settl_nod] at S1 wf' hl ha hf nd lt0 ⊢
    rw [show adr (h + 1) t = Nd.a t from rfl] at A1 ⊢
    clear m m1 e1 f1 wf call hsc
    generalize (Nd.ps t).map (rais (Nd.m t) h) = ps at *
    generalize Nd.a t = A at *
    generalize Nd.r t = r at *
    rw [its_nod] at hl ha hf ⊢
    have w8 : ps.length ≤ 8 := wf'.1.2
    have wk : k ≤ ps.length := wf'.1.1
    have wA : ∀ s ∈ ps, Wf h 4 s := wf'.2.2
    have fF : FitL (ps.flatMap (its h)) := fun x hx => by
      obtain ⟨s, hs, hx⟩ := List.mem_flatMap.1 hx
      exact (wA s hs).fit x hx
    have hbx : w.heap.size ∉ fp (h + 1) (nod h A r 0 ps) := fun hc => by have := lt0 _ hc; omega
    obtain ⟨n1, n2, n3, n4⟩ := nod_nd nd
    have q0 : (w.alloc (.cells #[.int .i64 d] 3)).cell? ⟨w.heap.size, 0, none⟩ = some (.int .i64 d) := by simp [go_sem]
    have kW : Keep (fp (h + 1) (nod h A r 0 ps)) w (w.alloc (.cells #[.int .i64 d] 3)) := (Keep.refl _ _).alloc _
    have lB : w.heap.size < (w.alloc (.cells #[.int .i64 d] 3)).heap.size := by simp [go_sem]
    have W80 : Hid (∀ W1, Mem W1 (h + 1) u (nod h A r 0 ps) → W1.cell? ⟨w.heap.size, 0, none⟩ = some (.int .i64 d) → Calls Try.prog 74 #[ptr A, .int .i64 a, .int .i64 b, .func (.func 80) #[] #[ptr w.heap.size]] W1 fun e w' => e = .returned (.tuple #[]) ∧ RI W1 w' h A u r (sm (h + 1) (nod h A r 0 ps)) ps a b d w.heap.size ps.length) := hide (fun W1 mW hq => by
      refine within80 ps A w.heap.size u r _ _ _ a b _ W1 (fun j w' => RI W1 w' h A u r (sm (h + 1) (nod h A r 0 ps)) ps a b d w.heap.size j) mW.kn w8 hl (by omega) (by omega) mW.nrow
        ⟨⟨[], by simp, by simp [fps], by simp [rrL], by simp, by simp⟩, fun s hs => mW.part (List.mem_of_mem_drop hs), mW.kn, mW.nrow, hq, Keep.refl _ _⟩ (fun j w' q => q.row) (fun j hj w' q => ?_) (fun j hj w' q x1 x2 => ?_) (fun j hj w' q x1 => q.same nd hbx hj wA x1)
      · have h1 := (Kn.cells (show Kn _ _ _ _ _ _ _ _ from (q.rest ps[j] (by rw [List.drop_eq_getElem_cons hj]; exact List.mem_cons_self ..)).root)).2.2.2.2.2.1
        rw [h1]; unfold sm; rw [smL_c]
      · have z1 : ((ps.take (j + 1)).flatMap (its h)).length = ((ps.take j).flatMap (its h)).length + (its h ps[j]).length := by
          rw [take_step _ hj, List.flatMap_append, List.length_append]; simp
        have z2 := flat_len ps (j + 1)
        refine (close80 _ _ _ _ d w' (fun w'' => RI W1 w'' h A u r (sm (h + 1) (nod h A r 0 ps)) ps a b d w.heap.size (j + 1)) q.by_ ?_)
        refine (ih ps[j] (ptr A) _ _ d 4 w' (q.rest ps[j] (by rw [List.drop_eq_getElem_cons hj]; exact List.mem_cons_self ..)) (fps_part n3 (List.getElem_mem hj)) (wA _ (List.getElem_mem hj)) (by omega) (by omega) (by omega) x1 x2 (by omega) (by omega) (rrL_fit hf j hj)).mono ?_
        rintro e w'' ⟨rfl, t', k1, k2, k3, k4, k5, k6⟩
        exact ⟨rfl, q.step nd hbx hj k6 k5 k1 k2 k3 k4⟩)
    have G1 : Hid (∀ W1 w', RI W1 w' h A u r (sm (h + 1) (nod h A r 0 ps)) ps a b d w.heap.size ps.length → Keep (fp (h + 1) (nod h A r 0 ps)) w W1 → Calls Try.prog 81 #[ptr A] w' fun e w'' => e = .returned (.tuple #[]) ∧ ∃ t', adr (h + 1) t' = A ∧ fp (h + 1) t' = fp (h + 1) (nod h A r 0 ps) ∧ its (h + 1) t' = rrL a b d (ps.flatMap (its h)) ∧ Wf (h + 1) k t' ∧ Mem w'' (h + 1) u t' ∧ Keep (fp (h + 1) (nod h A r 0 ps)) w w'') := hide (fun W1 w' R kW1 => by
      obtain ⟨qs, q1, q2, q3, q4, q5⟩ := R.ex
      rw [List.take_length] at q1 q2 q3
      have ql : qs.length = ps.length := by have := congrArg List.length q1; simpa using this
      have row' : Row w' r (qs.map (adr h)) := by rw [q1]; exact R.row
      refine (gather_any qs A u r _ _ _ _ w' R.kn row' (fun s hs => ⟨_, (q5 s hs).root⟩) (by rw [q3, rrL_length]; exact hl) (by rw [q3]; exact hf)).mono ?_
      rintro e w'' ⟨rfl, k1, k2⟩
      refine ⟨rfl, nod h A r 0 qs, rfl, by rw [fp_nod, fp_nod, q2], by rw [its_nod, q3], ?_, ?_, (kW1.tr R.kp).tr (k2.mono (fun x hx => .inl (by simp only [List.mem_singleton] at hx; rw [fp_nod, hx]; simp)))⟩
      · exact wf_nod (by omega) (by omega) (by rw [q3]; exact hf) q4
      · refine ⟨?_, row'.keep k2 (fun x h1 h2 => n1 (by simp only [List.mem_singleton] at h2; rw [← h2]; exact h1)), fun s hs => (q5 s hs).keep k2 (fun x h1 h2 => n2 ?_)⟩
        · unfold Root sm
          rw [its_nod]
          exact k1
        · simp only [List.mem_singleton] at h2
          rw [← h2, ← q2]
          exact fps_mem hs h1)
    have P := hide (And.intro kW q0)
    have PB := hide hbx
    clear ih n1 n2 n3 n4 nd lt0 hl ha hf wA fF w8 wk wf' hbx kW lB
    unfold ptr at *
    go_enter Try.func56, Try.ntmps56
    go_wp2_with fail
    generalize w.alloc (.cells #[.int .i64 d] 3) = W at *
    generalize hBB : w.heap.size = B at *
    have HB := hide hBB
    clear hBB
    refine (unhide A1).mono ?_
    rintro e w2 ⟨rfl, rfl⟩
    clear A1
    go_wp2_with fail
    refine (unhide S1).mono ?_
    rintro e w3 ⟨rfl, h1, h2⟩
    have q3 : w3.cell? ⟨B, 0, none⟩ = some (.int .i64 d) := by
      rw [h2.cell (p := ⟨B, 0, none⟩) (World.block_lt_of_cell? _ _ (unhide P).2) (unhide PB)]
      exact (unhide P).2
    have W3 := hide (unhide W80 w3 h1 q3)
    have K3 := hide ((unhide P).1.tr h2)
    clear S1 W80 P h1 h2 q3 PB q0
    go_wp2_with fail
    refine (unhide W3).mono ?_
    rintro e w4 ⟨rfl, R⟩
    have G2 := hide (unhide G1 w3 w4 R (unhide K3))
    clear W3 K3 G1 R
    go_wp2_with fail
    refine (unhide G2).mono ?_
    rintro e w5 ⟨rfl, Z⟩
    have ZZ := hide Z
    clear Z G2
    go_wp2
    go_end0
    exact ⟨rfl, unhide ZZ⟩
theorem raiseR_any : ∀ (h : Nat), RaiseR h
  | 0 => by
    intro t u a b d k w m nd wf hk hl h9 ha hb ba bb hf
    have h1 : (its 0 t).length = 1 := rfl
    exact raiseR_all t u a b d k w m nd wf hk hl ⟨by omega, by omega⟩ hf
  | h + 1 => raiseR_step h (raiseR_any h)
end Go.Proofs.Ytbkneonbpcmepaa
