/- What is handed to parts, and gathered from them. -/
import Derived.Test.YtbkneonbpcmepaaP
namespace Go.Proofs.Ytbkneonbpcmepaa
open Go.RowKit Go.Arb
set_option linter.unusedVariables false
set_option linter.unusedSimpArgs false

theorem rais_zero : ∀ (h : Nat) (t : Tr h), rais 0 h t = t
  | 0, t => by
    show (⟨Lf.a t, Lf.v t, Lf.w t + 0⟩ : Lf) = t
    rw [Int.add_zero]
    rfl
  | h + 1, t => by
    show (⟨Nd.a t, Nd.r t, Nd.m t + 0, Nd.ps t⟩ : Nd (Tr h)) = t
    rw [Int.add_zero]
    rfl
theorem wt_rais (d : Int) : ∀ (h : Nat) (t : Tr h), wt h (rais d h t) = if 0 < (h : Int) then wt h t + d else wt h t
  | 0, t => rfl
  | h + 1, t => by rw [if_pos (by omega)]; rfl
theorem Wf.wt : ∀ {h k : Nat} {t : Tr h}, 0 < k → Wf h k t → -2199023255552 ≤ wt h t ∧ wt h t ≤ 2199023255552
  | 0, _, _, _, _ => by simp [Go.Proofs.Ytbkneonbpcmepaa.wt]
  | h + 1, k, t, hk, w => by
    have hl : 0 < (Nd.ps t).length := by have := w.1.1; omega
    obtain ⟨s, hs⟩ := List.exists_mem_of_length_pos hl
    exact FitL.by (w.2.2 s hs).fit (w.part hs) (its_ne (by decide : 0 < 4) (w.2.2 s hs))
theorem root_rais {w : World} {h k : Nat} {u : Value} {t : Tr h} (d : Int) (hk : 0 < k) (m : Root w h u t) (wf : Wf h k t) (hl : (its h t).length ≤ 4194304) (hf : FitL (rz d (its h t))) :
    Calls Try.prog 78 #[ptr (adr h t), .int .i64 d] w fun e w' => e = .returned (.tuple #[]) ∧ Root w' h u (rais d h t) ∧ Keep [adr h t] w w' := by
  have hb := FitL.by wf.fit hf (its_ne hk wf)
  have hw := wf.wt hk
  refine (raise_any (its h t) (adr h t) u (rowOf h t) h (itm h t) (wt h t) d w m hl wf.fit hf hb.1 hb.2 hw.1 hw.2).mono ?_
  rintro e w' ⟨rfl, h1, h2⟩
  refine ⟨rfl, ?_, h2⟩
  unfold Root sm
  rw [adr_rais, rowOf_rais, itm_rais, wt_rais, its_rais]
  exact h1

set_option maxRecDepth 100000 in
theorem gather_any {hh : Nat} (ps : List (Tr hh)) (a : Nat) (u r : Value) (h i m : Int) (s : Sm) (w : World) (k : Kn w a u r h i m s) (hr : Row w r (ps.map (adr hh))) (hp : ∀ s ∈ ps, ∃ u, Root w hh u s)
    (hl : (ps.flatMap (its hh)).length ≤ 4194304) (hf : FitL (ps.flatMap (its hh))) :
    Calls Try.prog 81 #[ptr a] w fun e w' => e = .returned (.tuple #[]) ∧ Kn w' a u r h i m (smL (ps.flatMap (its hh))) ∧ Keep [a] w w' := by
  have hb := hide (below_any ps a u r h i m s w k hr hp hl hf)
  have K := hide k
  clear k hr hp hl hf
  generalize smL (ps.flatMap (its hh)) = X at *
  unfold ptr at *
  go_enter Try.func81, Try.ntmps81
  go_wp2_with fail
  refine (unhide hb).mono ?_
  rintro e w1 ⟨rfl, h1⟩
  have K1 := (unhide K).below h1
  have K2 := hide (And.intro (K1.putSm X) ((Keep.ofBelow h1 [a]).tr (keep_putSm w1 a X)))
  obtain ⟨q0, q1, q2, q3, q4, q5, q6, q7, q8⟩ := K1.cells
  have F5 := K1.soft 5
  have F6 := K1.soft 6
  have F7 := K1.soft 7
  have F8 := K1.soft 8
  clear K1 hb K h1
  unfold smV
  go_wp2_with fail
  go_end0
  exact ⟨rfl, unhide K2⟩

theorem getD_map {X : Type} (f : X → Nat) (l : List X) (j : Nat) (hj : j < l.length) : f l[j] ∈ l.map f := List.mem_map.2 ⟨l[j], List.getElem_mem hj, rfl⟩
theorem nodup_at {l : List Nat} (h : l.Nodup) {i j : Nat} (hi : i < l.length) (hj : j < l.length) (e : l[i] = l[j]) : i = j := by
  rcases Nat.lt_trichotomy i j with h1 | h1 | h1
  · exact absurd e (List.pairwise_iff_getElem.1 h i j hi hj h1)
  · exact h1
  · exact absurd e.symm (List.pairwise_iff_getElem.1 h j i hj hi h1)
theorem adr_at {hh : Nat} {ps : List (Tr hh)} (h : (ps.map (adr hh)).Nodup) {i j : Nat} (hi : i < ps.length) (hj : j < ps.length) (hne : i ≠ j) : adr hh ps[i] ≠ adr hh ps[j] := fun e =>
  hne (nodup_at h (i := i) (j := j) (by simpa using hi) (by simpa using hj) (by simpa using e))

set_option maxRecDepth 100000 in
theorem settle_any {hh : Nat} (ps : List (Tr hh)) (U : Nat → Value) (a : Nat) (u r : Value) (h i m : Int) (s : Sm) (w : World) (k : Kn w a u r h i m s) (hr : Row w r (ps.map (adr hh)))
    (hp : ∀ j (hj : j < ps.length), Root w hh (U j) ps[j]) (hd : (ps.map (adr hh)).Nodup) (ha : a ∉ ps.map (adr hh)) (ho : Off (own r) (a :: ps.map (adr hh)))
    (hw : ∀ s ∈ ps, Wf hh 4 s ∧ (its hh s).length ≤ 4194304 ∧ FitL (rz m (its hh s))) :
    Calls Try.prog 79 #[ptr a] w fun e w' => e = .returned (.tuple #[]) ∧ Kn w' a u r h i 0 s ∧ (∀ j (hj : j < ps.length), Root w' hh (U j) (rais m hh ps[j])) ∧ Keep (a :: ps.map (adr hh)) w w' := by
  obtain ⟨q0, q1, q2, q3, q4, q5, q6, q7, q8⟩ := k.cells
  by_cases hm : m = 0
  · subst hm
    have K := hide k
    have HP := hide hp
    clear k hr hp hw q5 q6 q7 q8
    unfold ptr
    go_enter Try.func79, Try.ntmps79
    go_wp2
    refine bodyPost_ret (v := .tuple #[]) (by simp [results, Try.results79, go_sem]) rfl ?_
    exact ⟨rfl, unhide K, fun j hj => by rw [rais_zero]; exact unhide HP j hj, Keep.refl _ _⟩
  · obtain ⟨x, cap, rfl, c1, c2, c3, c4⟩ := hr.form
    rw [List.length_map] at *
    have hm' : (m == 0) = false := by rw [beq_eq_false_iff_ne]; exact hm
    have K := hide k
    have HP := hide hp
    have HR := hide hr
    have HD := hide (And.intro hd (And.intro ha ho))
    have HW := hide hw
    have C3 := hide c3
    have C4 := hide c4
    clear k hr hp hd ha ho hw c3 c4 q5 q6 q7 q8 q0 q2 q3
    unfold ptr
    go_enter Try.func79, Try.ntmps79
    go_wp2_with fail
    clear q1 q4
    go_loopg [14] ps.length (fun gk i w' => ∃ k : Nat, k + gk = ps.length ∧ i = .int .i64 (k : Int) ∧ (∀ j (hj : j < ps.length), Root w' hh (U j) (if j < k then rais m hh ps[j] else ps[j])) ∧ Keep (ps.map (adr hh)) w w')
    case atStart => exact ⟨0, by omega, rfl, fun j hj => by rw [if_neg (by omega)]; exact unhide HP j hj, Keep.refl _ _⟩
    case round =>
      obtain ⟨k, hk, rfl, h1, h2⟩ := hrel
      have Kr := (unhide K).keep h2 (unhide HD).2.1
      obtain ⟨_, q1, _, _, q4, _, _, _, _⟩ := Kr.cells
      by_cases h8 : k < ps.length
      · obtain ⟨g, rfl, hg, hgo⟩ := unhide C3 (by omega)
        have e1 := unhide C4 g rfl k h8
        have e2 : wr.cell? ⟨g, k, none⟩ = some (ptr (adr hh ps[k])) := by
          rw [h2.cell (p := ⟨g, k, none⟩) hg (fun hc => (unhide HD).2.2 g (by rw [hgo]; simp) (by simp [hc])), e1, mapD _ _ h8]
        have hs := h1 k h8
        rw [if_neg (by omega)] at hs
        obtain ⟨w1, w2, w3⟩ := unhide HW ps[k] (List.getElem_mem h8)
        have A1 := hide (root_rais m (by decide : 0 < 4) hs w1 w2 w3)
        have H1 := hide h1
        have H2 := hide h2
        clear h1 h2 e1 hs w1 w2 w3 Kr
        unfold ptr at e2 A1
        go_wp2_with fail
        refine (unhide A1).mono ?_
        rintro e w2 ⟨rfl, h3, h4⟩
        have N1 : Hid (∀ j (hj : j < ps.length), Root w2 hh (U j) (if j < k + 1 then rais m hh ps[j] else ps[j])) := hide (fun j hj => by
          by_cases e : j = k
          · subst e
            rw [if_pos (by omega)]; exact h3
          · have h5 := unhide H1 j hj
            have hne := adr_at (unhide HD).1 hj h8 e
            by_cases e2 : j < k
            · rw [if_pos e2] at h5
              rw [if_pos (by omega)]
              exact h5.keep h4 (by rw [adr_rais]; simpa using hne)
            · rw [if_neg e2] at h5
              rw [if_neg (by omega)]
              exact h5.keep h4 (by simpa using hne))
        have N2 := hide ((unhide H2).trans h4 (fun i hi => .inl (by simp only [List.mem_singleton] at hi; subst hi; exact getD_map _ _ _ h8)))
        clear h3 h4 A1 H1 H2 e2 q1 q4
        go_wp2
        go_roundg (gk - 1)
        case rel => exact ⟨k + 1, by omega, rfl, unhide N1, unhide N2⟩
        all_goals omega
      · have hkn : k = ps.length := by omega
        subst hkn
        have F4 := Kr.soft 4
        have K1 := hide (Kr.putW 0)
        have K2 : Hid (Keep (a :: ps.map (adr hh)) w (wr.setCell ⟨a, 4, none⟩ (.int .i64 0))) := hide ((h2.mono (fun k hk => .inl (by simp [hk]))).setCell (p := ⟨a, 4, none⟩) (by simp) _)
        have K3 : Hid (∀ j (hj : j < ps.length), Root (wr.setCell ⟨a, 4, none⟩ (.int .i64 0)) hh (U j) (rais m hh ps[j])) := hide (fun j hj => by
          have h5 := h1 j hj
          rw [if_pos hj] at h5
          exact h5.keep (keep_cell wr a 4 _) (by rw [adr_rais]; simp only [List.mem_singleton]; exact fun e => (unhide HD).2.1 (e ▸ getD_map _ _ _ hj)))
        clear h1 h2 Kr
        go_wp2
        go_end0
        exact ⟨rfl, unhide K1, unhide K3, unhide K2⟩
end Go.Proofs.Ytbkneonbpcmepaa
