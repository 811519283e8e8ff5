/- Trees, as hold, over and settle leave them. -/
import Derived.Test.YtbkneonbpcmepaaP5
namespace Go.Proofs.Ytbkneonbpcmepaa
open Go.RowKit Go.Arb
set_option linter.unusedVariables false
set_option linter.unusedSimpArgs false

section
variable {w w' : World} {h : Nat} {ts : List (Tr h)} {ks : List Nat}
/-- All blocks of some trees. -/
def fps (h : Nat) (ts : List (Tr h)) : List Nat := ts.flatMap (fp h)
/-- Some trees in memory, whatever they hang at, none in another one. -/
structure Ts (w : World) (h : Nat) (ts : List (Tr h)) : Prop where
  mem : ∀ t ∈ ts, ∃ u, Mem w h u t
  nd : (fps h ts).Nodup
theorem fps_mem {t : Tr h} (ht : t ∈ ts) {k : Nat} (hk : k ∈ fp h t) : k ∈ fps h ts := List.mem_flatMap.2 ⟨t, ht, hk⟩
theorem fps_append (a b : List (Tr h)) : fps h (a ++ b) = fps h a ++ fps h b := by simp [fps]
theorem fps_cons (a : Tr h) (b : List (Tr h)) : fps h (a :: b) = fp h a ++ fps h b := by simp [fps]
theorem fps_nil : fps h [] = [] := rfl
theorem adrs_fps : ∀ k ∈ ts.map (adr h), k ∈ fps h ts := fun k hk => by
  obtain ⟨t, ht, rfl⟩ := List.mem_map.1 hk
  exact fps_mem ht (adr_fp h t)
theorem fps_part (hn : (fps h ts).Nodup) {t : Tr h} (ht : t ∈ ts) : (fp h t).Nodup := by
  unfold fps List.Nodup at hn
  rw [List.pairwise_flatMap] at hn
  exact hn.1 t ht
theorem fps_far (hn : (fps h ts).Nodup) {i j : Nat} (hi : i < ts.length) (hj : j < ts.length) (hne : i ≠ j) : ∀ k ∈ fp h ts[i], k ∉ fp h ts[j] := by
  unfold fps List.Nodup at hn
  rw [List.pairwise_flatMap] at hn
  intro k h1 h2
  rcases Nat.lt_or_gt_of_ne hne with h3 | h3
  · exact List.pairwise_iff_getElem.1 hn.2 i j hi hj h3 k h1 k h2 rfl
  · exact List.pairwise_iff_getElem.1 hn.2 j i hj hi h3 k h2 k h1 rfl
theorem fps_adrs (hn : (fps h ts).Nodup) : (ts.map (adr h)).Nodup := by
  refine List.pairwise_iff_getElem.2 fun i j hi hj hij e => ?_
  simp only [List.length_map] at hi hj
  simp only [List.getElem_map] at e
  exact fps_far hn hi hj (by omega) _ (adr_fp h ts[i]) (by rw [e]; exact adr_fp h ts[j])
theorem Ts.lt (m : Ts w h ts) : ∀ k ∈ fps h ts, k < w.heap.size := fun k hk => by
  obtain ⟨t, ht, hk⟩ := List.mem_flatMap.1 hk
  obtain ⟨u, hu⟩ := m.mem t ht
  exact hu.lt k hk
theorem Ts.keep (m : Ts w h ts) (hk : Keep ks w w') (ho : Off (fps h ts) ks) : Ts w' h ts :=
  ⟨fun t ht => by obtain ⟨u, hu⟩ := m.mem t ht; exact ⟨u, hu.keep hk (fun k h1 => ho k (fps_mem ht h1))⟩, m.nd⟩
theorem Ts.below (m : Ts w h ts) (hb : Below w.heap.size w w') : Ts w' h ts := m.keep (Keep.ofBelow hb []) (fun _ _ => by simp)
theorem Ts.roots (m : Ts w h ts) : ∀ j (hj : j < ts.length), ∃ u, Root w h u ts[j] := fun j hj => by
  obtain ⟨u, hu⟩ := m.mem ts[j] (List.getElem_mem hj)
  exact ⟨u, hu.root⟩
/-- Only the top of a tree has turned. -/
theorem mem_top (d : Int) : ∀ {h : Nat} {u v : Value} {t : Tr h}, Mem w h u t → (fp h t).Nodup → Keep ks w w' → (∀ k ∈ fp h t, k ≠ adr h t → k ∉ ks) → Root w' h v (rais d h t) → Mem w' h v (rais d h t)
  | 0, _, _, _, _, _, _, _, r => r
  | h + 1, u, v, t, m, nd, hk, ho, r => by
    have nd' : (Nd.a t :: (own (Nd.r t) ++ (Nd.ps t).flatMap (fp h))).Nodup := nd
    rw [List.nodup_cons] at nd'
    refine ⟨r, Row.keep (r := Nd.r t) (ls := (Nd.ps t).map (adr h)) m.2.1 hk (fun k h1 => ho k (by simp [fp, h1]) (fun e => nd'.1 ?_)), fun s hs => Mem.keep (u := ptr (Nd.a t)) hk (m.2.2 s hs) (fun k h1 => ?_)⟩
    · have e2 : k = Nd.a t := e
      rw [← e2]; simp [h1]
    · have h2 : k ∈ (Nd.ps t).flatMap (fp h) := List.mem_flatMap.2 ⟨s, hs, h1⟩
      refine ho k (by simp only [fp, List.mem_cons, List.mem_append]; exact .inr (.inr h2)) (fun e => nd'.1 ?_)
      have e2 : k = Nd.a t := e
      rw [← e2]; simp only [List.mem_append]; exact .inr h2
theorem mem_up {u v : Value} {t : Tr h} (m : Mem w h u t) (nd : (fp h t).Nodup) (hk : Keep ks w w') (ho : ∀ k ∈ fp h t, k ≠ adr h t → k ∉ ks) (r : Root w' h v t) : Mem w' h v t := by
  have := mem_top 0 m nd hk ho (by rw [rais_zero]; exact r)
  rwa [rais_zero] at this
theorem far_adr (hn : (fps h ts).Nodup) {a j : Nat} (ha : a ∉ fps h ts) (hj : j < ts.length) : ∀ k ∈ fp h ts[j], k ≠ adr h ts[j] → k ∉ a :: ts.map (adr h) := fun k h1 h2 h3 => by
  rcases List.mem_cons.1 h3 with rfl | h3
  · exact ha (fps_mem (List.getElem_mem hj) h1)
  · obtain ⟨s, hs, rfl⟩ := List.mem_map.1 h3
    obtain ⟨i, hi, rfl⟩ := List.mem_iff_getElem.1 hs
    by_cases e : i = j
    · subst e; exact h2 rfl
    · exact fps_far hn hi hj e _ (adr_fp h ts[i]) h1
/-- Parts that hang at another knot now. -/
theorem mem_hung (m : Ts w h ts) {a : Nat} (ha : a ∉ fps h ts) (hk : Keep (a :: ts.map (adr h)) w w') (hr : ∀ j (hj : j < ts.length), Root w' h (ptr a) ts[j]) : ∀ t ∈ ts, Mem w' h (ptr a) t := fun t ht => by
  obtain ⟨j, hj, rfl⟩ := List.mem_iff_getElem.1 ht
  obtain ⟨u, hu⟩ := m.mem _ ht
  exact mem_up hu (fps_part m.nd ht) hk (far_adr m.nd ha hj) (hr j hj)
end

/-- A knot over parts. -/
def nod (h a : Nat) (r : Value) (m : Int) (ts : List (Tr h)) : Tr (h + 1) := (⟨a, r, m, ts⟩ : Nd (Tr h))
theorem its_nod (h a : Nat) (r : Value) (ts : List (Tr h)) : its (h + 1) (nod h a r 0 ts) = ts.flatMap (its h) := by
  show rz 0 (ts.flatMap (its h)) = _
  rw [rz_zero]
theorem fp_nod (h a : Nat) (r : Value) (m : Int) (ts : List (Tr h)) : fp (h + 1) (nod h a r m ts) = a :: (own r ++ fps h ts) := rfl
theorem adr_nod (h a : Nat) (r : Value) (m : Int) (ts : List (Tr h)) : adr (h + 1) (nod h a r m ts) = a := rfl

theorem hold_tr {hh : Nat} (ts : List (Tr hh)) (a : Nat) (u r rv : Value) (s : Sm) (w : World) (k : Kn w a u r ((hh : Int) + 1) (-1) 0 s) (hr : Row w rv (ts.map (adr hh)))
    (m : Ts w hh ts) (ha : a ∉ fps hh ts) (ho : Off (own rv) (a :: fps hh ts)) (hl : (ts.flatMap (its hh)).length ≤ 4194304) (hf : FitL (ts.flatMap (its hh))) :
    Calls Try.prog 91 #[ptr a, rv] w fun e w' => e = .returned (.tuple #[]) ∧ Mem w' (hh + 1) u (nod hh a rv 0 ts) ∧ Keep (a :: ts.map (adr hh)) w w' := by
  have hoff : Off (own rv) (a :: ts.map (adr hh)) := fun b h1 h2 => by
    rcases List.mem_cons.1 h2 with rfl | h2
    · exact ho b h1 (by simp)
    · exact ho b h1 (by simp [adrs_fps b h2])
  refine (hold_any ts a u r rv _ (-1) s w k hr m.roots (fps_adrs m.nd) (fun hc => ha (adrs_fps a hc)) hoff hl hf).mono ?_
  rintro e w' ⟨rfl, h1, h2, h3⟩
  refine ⟨rfl, ⟨?_, hr.keep h3 hoff, mem_hung m ha h3 h2⟩, h3⟩
  unfold Root sm
  rw [its_nod]
  exact h1
theorem over_tr {hh : Nat} (ts : List (Tr hh)) (rv : Value) (w : World) (hh9 : hh ≤ 1000) (hr : Row w rv (ts.map (adr hh))) (hne : 0 < ts.length)
    (m : Ts w hh ts) (ho : Off (own rv) (fps hh ts)) (hl : (ts.flatMap (its hh)).length ≤ 4194304) (hf : FitL (ts.flatMap (its hh))) :
    Calls Try.prog 86 #[rv] w fun e w' => ∃ b, e = .returned (ptr b) ∧ w.heap.size ≤ b ∧ Mem w' (hh + 1) (.pointer none) (nod hh b rv 0 ts) ∧ Keep (ts.map (adr hh)) w w' := by
  have hoff : Off (own rv) (ts.map (adr hh)) := fun k h1 h2 => ho k h1 (adrs_fps k h2)
  refine (over_any ts rv w hh9 hr m.roots hne (fps_adrs m.nd) hoff hl hf).mono ?_
  rintro e w' ⟨b, rfl, hb, _, h1, h2, h3⟩
  have hb' : b ∉ fps hh ts := fun hc => by have := m.lt b hc; omega
  refine ⟨b, rfl, hb, ⟨?_, hr.keep h3 hoff, mem_hung m hb' (h3.mono (fun k hk => .inl (by simp [hk]))) h2⟩, h3⟩
  unfold Root sm
  rw [its_nod]
  exact h1
/-- What waits is handed to the parts. -/
theorem settle_tr {hh k : Nat} (t : Tr (hh + 1)) (u : Value) (w : World) (m : Mem w (hh + 1) u t) (nd : (fp (hh + 1) t).Nodup) (wf : Wf (hh + 1) k t) (hl : (its (hh + 1) t).length ≤ 4194304) :
    Calls Try.prog 79 #[ptr (adr (hh + 1) t)] w fun e w' => e = .returned (.tuple #[]) ∧ Mem w' (hh + 1) u (settl hh t) ∧ Keep (Nd.a t :: (Nd.ps t).map (adr hh)) w w' := by
  have nd' : (Nd.a t :: (own (Nd.r t) ++ fps hh (Nd.ps t))).Nodup := nd
  rw [List.nodup_cons, List.nodup_append] at nd'
  obtain ⟨n1, n2, n3, n4⟩ := nd'
  simp only [List.mem_append, not_or] at n1
  have hT : Ts w hh (Nd.ps t) := ⟨fun s hs => ⟨_, m.2.2 s hs⟩, n3⟩
  have hle : ∀ s ∈ Nd.ps t, (its hh s).length ≤ (its (hh + 1) t).length := fun s hs => by
    have e : (its (hh + 1) t).length = ((Nd.ps t).flatMap (its hh)).length := rz_length _ _
    rw [e]
    have := List.Sublist.length_le (List.sublist_flatten_of_mem (List.mem_map_of_mem (f := its hh) hs))
    simpa [List.flatMap] using this
  refine (settle_any (Nd.ps t) (fun _ => ptr (Nd.a t)) (Nd.a t) u (Nd.r t) ((hh + 1 : Nat) : Int) (-1) (Nd.m t) (sm (hh + 1) t) w m.1 m.2.1 (fun j hj => (m.2.2 _ (List.getElem_mem hj)).root) (fps_adrs n3)
    (fun hc => n1.2 (adrs_fps _ hc)) (fun k h1 h2 => ?_) (fun s hs => ⟨wf.2.2 s hs, Nat.le_trans (hle s hs) hl, wf.part hs⟩)).mono ?_
  · rcases List.mem_cons.1 h2 with rfl | h2
    · exact n1.1 h1
    · exact n4 k h1 k (adrs_fps k h2) rfl
  · rintro e w' ⟨rfl, h1, h2, h3⟩
    refine ⟨rfl, ⟨?_, ?_, ?_⟩, h3⟩
    · unfold Root sm
      rw [its_settl]
      exact h1
    · have : (Nd.ps (settl hh t)).map (adr hh) = (Nd.ps t).map (adr hh) := by
        show ((Nd.ps t).map (rais (Nd.m t) hh)).map (adr hh) = _
        rw [List.map_map]
        exact List.map_congr_left (fun s _ => adr_rais _ hh s)
      rw [this]
      refine m.2.1.keep h3 (fun k q1 q2 => ?_)
      rcases List.mem_cons.1 q2 with rfl | q2
      · exact n1.1 q1
      · exact n4 k q1 k (adrs_fps k q2) rfl
    · intro s hs
      have hs2 : s ∈ (Nd.ps t).map (rais (Nd.m t) hh) := hs
      obtain ⟨s0, hs0, rfl⟩ := List.mem_map.1 hs2
      obtain ⟨j, hj, rfl⟩ := List.mem_iff_getElem.1 hs0
      exact mem_top (Nd.m t) (m.2.2 _ hs0) (fps_part n3 hs0) h3 (far_adr n3 n1.2 hj) (h2 j hj)
end Go.Proofs.Ytbkneonbpcmepaa
