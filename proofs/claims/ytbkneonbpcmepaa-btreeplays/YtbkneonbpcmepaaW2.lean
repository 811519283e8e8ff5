/- sumOf. -/
import Derived.Test.YtbkneonbpcmepaaW1
namespace Go.Proofs.Ytbkneonbpcmepaa
open Go.RowKit Go.Arb
set_option linter.unusedVariables false
set_option linter.unusedSimpArgs false

set_option maxRecDepth 100000 in
theorem close75 (b box : Nat) (f t : Int) (xs ys : List It) (w : World) (hX0 : SumAt w box (smL xs)) (c1 : Calls Try.prog 55 #[ptr b, .int .i64 f, .int .i64 t] (w.drewN 1) fun e w' => e = .returned (smV (smL ys)) ∧ Below w.heap.size w w')
    (hl : (xs ++ ys).length ≤ 4194304) (hf : FitL (xs ++ ys)) :
    Calls Try.prog 75 #[ptr b, .int .i64 f, .int .i64 t, ptr box] w fun e w' => e = .returned (.tuple #[]) ∧ SumAt w' box (smL (xs ++ ys)) ∧ Keep [box] w w' := by
  have J1 := hide (fun W => jnf_any xs ys W hl hf)
  have hX : SumAt w box (smL xs) ∧ box < w.heap.size := ⟨hX0, hX0.lt⟩
  clear hl hf hX0
  have C1 := hide c1
  clear c1
  generalize smL xs = X at *
  generalize smL ys = Y at *
  generalize smL (xs ++ ys) = Z at *
  obtain ⟨⟨q0, q1, q2, q3⟩, _, _, _, _⟩ := id hX.1
  unfold ptr smV at *
  go_enter Try.func75, Try.ntmps75
  go_wp2_with fail
  refine wp_region_tail 6 (by kernel_rfl) (by kernel_rfl) ?_
  simp only [List.take_succ_cons, List.take_zero, List.drop_succ_cons, List.drop_zero, List.length_cons, List.length_nil, Nat.reduceAdd]
  refine wpAny_of_held (S := (fun w' : World => w'.cell? ⟨box, 0, none⟩ = some (.int .i64 X.c) ∧ w'.cell? ⟨box, 1, none⟩ = some (.int .i64 X.s) ∧ w'.cell? ⟨box, 2, none⟩ = some (.int .i64 X.a) ∧ w'.cell? ⟨box, 3, none⟩ = some (.int .i64 X.b))) _ _ _ _ ?_
  have hHeld : (fun w' : World => w'.cell? ⟨box, 0, none⟩ = some (.int .i64 X.c) ∧ w'.cell? ⟨box, 1, none⟩ = some (.int .i64 X.s) ∧ w'.cell? ⟨box, 2, none⟩ = some (.int .i64 X.a) ∧ w'.cell? ⟨box, 3, none⟩ = some (.int .i64 X.b)) _ := ⟨q0, q1, q2, q3⟩
  refine wpAnyH_take (i := 0) (v := ?v0) rfl (by kernel_rfl) (by kernel_rfl) (by kernel_rfl) (fun _ _ _ h => h) (Or.inl ⟨by rfl, ?hy0⟩) (by assumption) ?rest0
  case hy0 => intro w hSw; (try dsimp only at hSw); go_simp; (try with_reducible rfl)
  try simp only [Act.put, List.setIfInBounds_toArray, List.set_cons_zero, List.set_cons_succ]
  refine wpAnyH_take (i := 1) (v := ?v1) rfl (by kernel_rfl) (by kernel_rfl) (by kernel_rfl) (fun _ _ _ h => h) (Or.inl ⟨by rfl, ?hy1⟩) (by assumption) ?rest1
  case hy1 => intro w hSw; (try dsimp only at hSw); go_simp; (try with_reducible rfl)
  try simp only [Act.put, List.setIfInBounds_toArray, List.set_cons_zero, List.set_cons_succ]
  refine wpAnyH_take (i := 2) (v := ?v2) rfl (by kernel_rfl) (by kernel_rfl) (by kernel_rfl) (fun _ _ _ h => h) (Or.inl ⟨by rfl, ?hy2⟩) (by assumption) ?rest2
  case hy2 => intro w hSw; (try dsimp only at hSw); go_simp; (try with_reducible rfl)
  try simp only [Act.put, List.setIfInBounds_toArray, List.set_cons_zero, List.set_cons_succ]
  refine wpAnyH_take (i := 3) (v := ?v3) rfl (by kernel_rfl) (by kernel_rfl) (by kernel_rfl) (fun _ _ _ h => h) (Or.inl ⟨by rfl, ?hy3⟩) (by assumption) ?rest3
  case hy3 => intro w hSw; (try dsimp only at hSw); go_simp; (try with_reducible rfl)
  try simp only [Act.put, List.setIfInBounds_toArray, List.set_cons_zero, List.set_cons_succ]
  refine wpAnyH_ready (rs := [4]) (by kernel_rfl) (by simp) (AllReadyH.cons rfl (fun K hK => ?_) AllReadyH.nil)
  go_simp
  refine (unhide C1).mono ?_
  rintro e w2 ⟨rfl, hb⟩
  have s2 := SumAt.below (W := w) hX.1 hb hX.2
  obtain ⟨⟨p0, p1, p2, p3⟩, _⟩ := id s2
  have B2 := hide (And.intro s2 hb)
  clear hb s2 C1
  refine hK.out _ _ (by simp [go_sem, *]) (fun hHeld => ?_)
  clear hK K
  try simp only [Act.put, List.setIfInBounds_toArray, List.set_cons_zero, List.set_cons_succ]
  refine wpAnyH_ready (rs := [5]) (by kernel_rfl) (by simp) (AllReadyH.cons rfl (fun K hK => ?_) AllReadyH.nil)
  go_simp
  refine (unhide J1 _).mono ?_
  rintro e w3 ⟨rfl, hb⟩
  have s3 := SumAt.below (unhide B2).1 hb (unhide B2).1.lt
  obtain ⟨⟨u0, u1, u2, u3⟩, f0, f1, f2, f3⟩ := id s3
  have B3 := hide (And.intro s3 ((unhide B2).2.trans (hb.mono (unhide B2).2.size)))
  clear hb s3 B2 J1
  refine hK.out _ _ (by simp [go_sem, *]) (fun hHeld => ?_)
  clear hK K
  try simp only [Act.put, List.setIfInBounds_toArray, List.set_cons_zero, List.set_cons_succ]
  refine wpAnyH_done (by kernel_rfl) ?_ _
  unfold HT
  have T : Hid (SumAt (putSum w3 box Z) box Z ∧ Keep [box] w (putSum w3 box Z)) := hide ⟨SumAt.put (unhide B3).1, by
    have k1 := Keep.ofBelow (unhide B3).2 [box]
    exact (((k1.setCell (p := ⟨box, 0, none⟩) (by simp) _).setCell (p := ⟨box, 1, none⟩) (by simp) _).setCell (p := ⟨box, 2, none⟩) (by simp) _).setCell (p := ⟨box, 3, none⟩) (by simp) _⟩
  unfold putSum at T
  go_wp2
  go_end0
  exact ⟨rfl, unhide T⟩

theorem SumAt.keep {W w1 : World} {b : Nat} {x : Sm} {ks : List Nat} (h : SumAt W b x) (hk : Keep ks W w1) (hl : b ∉ ks) : SumAt w1 b x := by
  have hb := h.lt
  obtain ⟨⟨q0, q1, q2, q3⟩, f0, f1, f2, f3⟩ := h
  refine ⟨⟨?_, ?_, ?_, ?_⟩, ?_, ?_, ?_, ?_⟩
  · rw [hk.cell (p := ⟨b, 0, none⟩) hb hl]; exact q0
  · rw [hk.cell (p := ⟨b, 1, none⟩) hb hl]; exact q1
  · rw [hk.cell (p := ⟨b, 2, none⟩) hb hl]; exact q2
  · rw [hk.cell (p := ⟨b, 3, none⟩) hb hl]; exact q3
  · rw [hk.frozen (p := ⟨b, 0, none⟩) hb hl]; exact f0
  · rw [hk.frozen (p := ⟨b, 1, none⟩) hb hl]; exact f1
  · rw [hk.frozen (p := ⟨b, 2, none⟩) hb hl]; exact f2
  · rw [hk.frozen (p := ⟨b, 3, none⟩) hb hl]; exact f3
theorem below_undrew {w w' : World} {q : Nat} (h : Below (w.drewN q).heap.size (w.drewN q) w') : Below w.heap.size w w' := ⟨h.os, h.tape, h.output, h.size, h.block⟩
theorem slc_step {h : Nat} (ps : List (Tr h)) (a b : Int) (j : Nat) (hj : j < ps.length) : slc a b ((ps.take (j + 1)).flatMap (its h)) = slc a b ((ps.take j).flatMap (its h)) ++ slc (a - (((ps.take j).flatMap (its h)).length : Nat)) (b - (((ps.take j).flatMap (its h)).length : Nat)) (its h ps[j]) := by
  rw [take_step _ hj, List.flatMap_append, List.flatMap_cons, List.flatMap_nil, List.append_nil, slc_append]
theorem slc_out {xs : List It} {f t : Int} (h : ¬ (f < xs.length ∧ 0 < t)) : slc f t xs = [] := by
  by_cases h1 : 0 < t
  · exact slc_none (by omega)
  · exact slc_none' (by omega)

set_option maxRecDepth 100000 in
theorem sumOf_all {A : Nat} {u r : Value} {h i m : Int} {s : Sm} {w : World} (k : Kn w A u r h i m s) (f t : Int) (hc : f ≤ 0 ∧ s.c ≤ t) :
    Calls Try.prog 55 #[ptr A, .int .i64 f, .int .i64 t] w fun e w' => e = .returned (smV s) ∧ Below w.heap.size w w' := by
  have hB : Below w.heap.size w (w.alloc (.cells #[.int .i64 0, .int .i64 0, .int .i64 0, .int .i64 0] 33)) := (Below.refl _ _).alloc (Nat.le_refl _) _
  have k1 := Kn.below k hB
  have s1 : SumAt (w.alloc (.cells #[.int .i64 0, .int .i64 0, .int .i64 0, .int .i64 0] 33)) w.heap.size zero := by simp [SumAt, go_sem, zero]
  have A1 := hide (isAll_any k1 f t)
  rw [decide_eq_true (p := f ≤ 0 ∧ s.c ≤ t) hc] at A1
  obtain ⟨_, _, _, _, _, q5, q6, q7, q8⟩ := k1.cells
  have T := hide (And.intro (SumAt.put (x := s) s1) (below_put (x := s) hB (Nat.le_refl _)))
  obtain ⟨⟨p0, p1, p2, p3⟩, f0, f1, f2, f3⟩ := s1
  clear k hB k1 hc
  unfold ptr at *
  unfold putSum at T
  go_enter Try.func55, Try.ntmps55
  go_wp2_with fail
  generalize w.alloc (.cells #[.int .i64 0, .int .i64 0, .int .i64 0, .int .i64 0] 33) = W at *
  generalize hBB : w.heap.size = B at *
  have HB := hide hBB
  clear hBB
  refine (unhide A1).mono ?_
  rintro e w2 ⟨rfl, rfl⟩
  clear A1
  go_wp2
  obtain ⟨⟨⟨z0, z1, z2, z3⟩, _⟩, hb⟩ := unhide T
  refine bodyPost_ret (v := smV s) ?_ rfl ⟨rfl, by rw [unhide HB]; exact hb⟩
  simp [results, Try.results55, go_sem, z0, z1, z2, z3, smV]

/-- What sumOf answers of a tree of a height. -/
def SumOf (h : Nat) : Prop := ∀ (t : Tr h) (u : Value) (a b : Int) (w : World), Mem w h u t → Wf h 2 t → (its h t).length ≤ 4194304 → h ≤ 1000 → a < (its h t).length → 0 < b →
    (-4398046511104 + 4194304 * (h : Int) ≤ a ∧ a ≤ 4398046511104) → (-4398046511104 + 4194304 * (h : Int) ≤ b ∧ b ≤ 4398046511104) →
    Calls Try.prog 55 #[ptr (adr h t), .int .i64 a, .int .i64 b] w fun e w' => e = .returned (smV (smL (slc a b (its h t)))) ∧ Below w.heap.size w w'
set_option maxRecDepth 100000 in
set_option maxHeartbeats 1000000 in
theorem sumOf_step (h : Nat) (ih : SumOf h) : SumOf (h + 1) := by
  intro t u a b w m wf hl h9 ha hb ba bb
  have hc : (sm (h + 1) t).c = ((its (h + 1) t).length : Nat) := smL_c _
  by_cases call : a ≤ 0 ∧ ((its (h + 1) t).length : Int) ≤ b
  · rw [slc_all call.1 call.2]
    exact sumOf_all (show Kn _ _ _ _ _ _ _ _ from m.root) a b ⟨call.1, by omega⟩
  · have A1 := hide (fun W (q : Below w.heap.size w W) => isAll_any (Kn.below (show Kn _ _ _ _ _ _ _ _ from m.root) q) a b)
    rw [hc, decide_eq_false (p := a ≤ 0 ∧ ((its (h + 1) t).length : Int) ≤ b) call] at A1
    have el : (its (h + 1) t).length = ((Nd.ps t).flatMap (its h)).length := rz_length _ _
    have e0 : smL (slc a b (its (h + 1) t)) = smL (rz (Nd.m t) (slc a b ((Nd.ps t).flatMap (its h)))) := by rw [← slc_rz]; rfl
    rw [e0]
    have kA : Kn w (Nd.a t) u (Nd.r t) ((h + 1 : Nat) : Int) (-1) (Nd.m t) (sm (h + 1) t) := m.root
    have rA : Row w (Nd.r t) ((Nd.ps t).map (adr h)) := m.2.1
    have mA : ∀ s ∈ Nd.ps t, Mem w h (ptr (Nd.a t)) s := m.2.2
    have wA : ∀ s ∈ Nd.ps t, Wf h 4 s := wf.2.2
    have w8 : (Nd.ps t).length ≤ 8 := wf.1.2
    have fA : FitL (rz (Nd.m t) ((Nd.ps t).flatMap (its h))) := wf.2.1
    have wt := Wf.wt (by decide) wf
    rw [show Go.Proofs.Ytbkneonbpcmepaa.wt (h + 1) t = Nd.m t from rfl] at wt
    have fF : FitL ((Nd.ps t).flatMap (its h)) := fun x hx => by
      obtain ⟨s, hs, hx⟩ := List.mem_flatMap.1 hx
      exact (wA s hs).fit x hx
    rw [el] at hl ha call
    have IH := ih
    have R1 : Hid (∀ W, Calls Try.prog 77 #[smV (smL (slc a b ((Nd.ps t).flatMap (its h)))), .int .i64 (Nd.m t)] W fun e w' => e = .returned (smV (smL (rz (Nd.m t) (slc a b ((Nd.ps t).flatMap (its h)))))) ∧ Below W.heap.size W w') := hide (fun W => rsum_any _ _ W (Nat.le_trans slc_len hl) fF.slc (by rw [← slc_rz]; exact fA.slc) wt.1 wt.2)
    rw [show adr (h + 1) t = Nd.a t from rfl] at A1 ⊢
    generalize sm (h + 1) t = S0 at *
    clear m wf el e0 hc call fA wt
    generalize Nd.a t = A at *
    generalize Nd.r t = r at *
    generalize Nd.m t = mm at *
    generalize Nd.ps t = ps at *
    have WW : Hid (∀ W, W = (w.alloc (.cells #[.int .i64 0, .int .i64 0, .int .i64 0, .int .i64 0] 33)).alloc (.cells #[.int .i64 0, .int .i64 0, .int .i64 0, .int .i64 0] 33) →
        Calls Try.prog 74 #[ptr A, .int .i64 a, .int .i64 b, .func (.func 75) #[] #[ptr (w.heap.size + 1)]] W fun e w' => e = .returned (.tuple #[]) ∧ SumAt w' w.heap.size zero ∧ SumAt w' (w.heap.size + 1) (smL (slc a b (ps.flatMap (its h)))) ∧ Below w.heap.size w w') := hide (fun W hW => by
      have hb0 : Below w.heap.size w W := by rw [hW]; exact b2 w _ _
      have s0 : SumAt W w.heap.size zero := by rw [hW]; simp [SumAt, go_sem, zero]
      have s1 : SumAt W (w.heap.size + 1) zero := by rw [hW]; simp [SumAt, go_sem, zero]
      have hk := within75 ps A (w.heap.size + 1) u r _ _ _ a b _ W (fun j w' => SumAt w' w.heap.size zero ∧ SumAt w' (w.heap.size + 1) (smL (slc a b ((ps.take j).flatMap (its h)))) ∧ Below w.heap.size w w') (Kn.below kA hb0) w8 hl (by omega) (by omega) (rA.keep (Keep.ofBelow hb0 []) (fun _ _ => by simp))
        ⟨s0, by rw [List.take_zero, List.flatMap_nil, slc_nil]; exact s1, hb0⟩ (fun j w' q => rA.keep (Keep.ofBelow q.2.2 []) (fun _ _ => by simp))
        (fun j hj w' q => by
          have h1 := (Kn.cells (Kn.below (show Kn _ _ _ _ _ _ _ _ from (mA ps[j] (List.getElem_mem hj)).root) q.2.2)).2.2.2.2.2.1
          rw [h1]; unfold sm; rw [smL_c])
        (fun j hj w' q x1 x2 => by
          have z0 := slc_step ps a b j hj
          have z1 : ((ps.take (j + 1)).flatMap (its h)).length = ((ps.take j).flatMap (its h)).length + (its h ps[j]).length := by
            rw [take_step _ hj, List.flatMap_append, List.length_append]; simp
          have z2 := flat_len ps (j + 1)
          have hsz := q.2.2.size
          have mj := (mA ps[j] (List.getElem_mem hj)).keep (Keep.ofBelow q.2.2 []) (fun _ _ => by simp)
          have wj := (wA ps[j] (List.getElem_mem hj))
          refine (close75 _ _ _ _ _ (slc (a - (((ps.take j).flatMap (its h)).length : Nat)) (b - (((ps.take j).flatMap (its h)).length : Nat)) (its h ps[j])) w' q.2.1 ((IH ps[j] _ _ _ (w'.drewN 1) (mj.drewN 1) (wj.mono (by omega)) (by omega) (by omega) x1 x2 (by omega) (by omega)).mono (fun e W q => ⟨q.1, below_undrew q.2⟩)) (by rw [← z0]; exact Nat.le_trans slc_len (by omega)) (by rw [← z0]; exact (fF.sub (flat_take ps _)).slc)).mono ?_
          rintro e w'' ⟨rfl, k1, k2⟩
          refine ⟨rfl, q.1.keep k2 (by simp), by rw [z0]; exact k1, Keep.below q.2.2 k2 hsz (fun k hk => by simp only [List.mem_singleton] at hk; omega)⟩)
        (fun j hj w' q x1 => by
          have z0 := slc_step ps a b j hj
          rw [slc_out x1, List.append_nil] at z0
          exact ⟨q.1, by rw [z0]; exact q.2.1, q.2.2⟩)
      rw [List.take_length] at hk
      exact hk)
    have KA := hide (fun W (q : Below w.heap.size w W) => (Kn.cells (Kn.below kA q)).2.2.2.2.1)
    have A2 := hide (unhide A1 (w.alloc (.cells #[.int .i64 0, .int .i64 0, .int .i64 0, .int .i64 0] 33)) ((Below.refl _ _).alloc (Nat.le_refl _) _))
    have W2 := hide (unhide WW _ rfl)
    clear A1 WW IH ih kA rA mA wA fF hl ha w8
    generalize smL (slc a b (ps.flatMap (its h))) = X at *
    generalize smL (rz mm (slc a b (ps.flatMap (its h)))) = Y at *
    unfold ptr at *
    go_enter Try.func55, Try.ntmps55
    go_wp2_with fail
    refine (unhide A2).mono ?_
    rintro e w2 ⟨rfl, rfl⟩
    clear A2
    go_wp2_with fail
    refine (unhide W2).mono ?_
    rintro e w3 ⟨rfl, s0, s1, hb⟩
    have q4 := unhide KA w3 hb
    clear W2 KA
    generalize hBB : w.heap.size = B at *
    have HB := hide hBB
    clear hBB
    have bsz : B ≤ w3.heap.size := by have := hb.size; rw [unhide HB] at this; exact this
    have BS := hide bsz
    obtain ⟨⟨p0, p1, p2, p3⟩, _⟩ := id s1
    have T0 := hide (And.intro s0 (And.intro s1 hb))
    have LA := World.block_lt_of_cell? w3 _ q4
    clear s0 s1 hb bsz
    unfold smV at R1
    go_wp2_with fail
    refine wp_region_tail 6 (by kernel_rfl) (by kernel_rfl) ?_
    simp only [List.take_succ_cons, List.take_zero, List.drop_succ_cons, List.drop_zero, List.length_cons, List.length_nil, Nat.reduceAdd]
    refine wpAny_of_held (S := (fun w' : World => w'.cell? ⟨A, 4, none⟩ = some (.int .i64 mm) ∧ w'.cell? ⟨B + 1, 0, none⟩ = some (.int .i64 X.c) ∧ w'.cell? ⟨B + 1, 1, none⟩ = some (.int .i64 X.s) ∧ w'.cell? ⟨B + 1, 2, none⟩ = some (.int .i64 X.a) ∧ w'.cell? ⟨B + 1, 3, none⟩ = some (.int .i64 X.b))) _ _ _ _ ?_
    have hHeld : (fun w' : World => w'.cell? ⟨A, 4, none⟩ = some (.int .i64 mm) ∧ w'.cell? ⟨B + 1, 0, none⟩ = some (.int .i64 X.c) ∧ w'.cell? ⟨B + 1, 1, none⟩ = some (.int .i64 X.s) ∧ w'.cell? ⟨B + 1, 2, none⟩ = some (.int .i64 X.a) ∧ w'.cell? ⟨B + 1, 3, none⟩ = some (.int .i64 X.b)) _ := ⟨q4, p0, p1, p2, p3⟩
    refine wpAnyH_take (i := 0) (v := ?v0) rfl (by kernel_rfl) (by kernel_rfl) (by kernel_rfl) (fun _ _ _ h => h) (Or.inl ⟨by rfl, ?hy0⟩) (by assumption) ?rest0
    case hy0 => intro w hSw; (try dsimp only at hSw); go_simp; (try with_reducible rfl)
    try simp only [Act.put, List.setIfInBounds_toArray, List.set_cons_zero, List.set_cons_succ]
    refine wpAnyH_take (i := 1) (v := ?v1) rfl (by kernel_rfl) (by kernel_rfl) (by kernel_rfl) (fun _ _ _ h => h) (Or.inl ⟨by rfl, ?hy1⟩) (by assumption) ?rest1
    case hy1 => intro w hSw; (try dsimp only at hSw); go_simp; (try with_reducible rfl)
    try simp only [Act.put, List.setIfInBounds_toArray, List.set_cons_zero, List.set_cons_succ]
    refine wpAnyH_take (i := 2) (v := ?v2) rfl (by kernel_rfl) (by kernel_rfl) (by kernel_rfl) (fun _ _ _ h => h) (Or.inl ⟨by rfl, ?hy2⟩) (by assumption) ?rest2
    case hy2 => intro w hSw; (try dsimp only at hSw); go_simp; (try with_reducible rfl)
    try simp only [Act.put, List.setIfInBounds_toArray, List.set_cons_zero, List.set_cons_succ]
    refine wpAnyH_take (i := 3) (v := ?v3) rfl (by kernel_rfl) (by kernel_rfl) (by kernel_rfl) (fun _ _ _ h => h) (Or.inl ⟨by rfl, ?hy3⟩) (by assumption) ?rest3
    case hy3 => intro w hSw; (try dsimp only at hSw); go_simp; (try with_reducible rfl)
    try simp only [Act.put, List.setIfInBounds_toArray, List.set_cons_zero, List.set_cons_succ]
    refine wpAnyH_take (i := 4) (v := ?v4) rfl (by kernel_rfl) (by kernel_rfl) (by kernel_rfl) (fun _ _ _ h => h) (Or.inl ⟨by rfl, ?hy4⟩) (by assumption) ?rest4
    case hy4 => intro w hSw; (try dsimp only at hSw); go_simp; (try with_reducible rfl)
    try simp only [Act.put, List.setIfInBounds_toArray, List.set_cons_zero, List.set_cons_succ]
    refine wpAnyH_ready (rs := [5]) (by kernel_rfl) (by simp) (AllReadyH.cons rfl (fun K hK => ?_) AllReadyH.nil)
    go_simp
    refine (unhide R1 _).mono ?_
    rintro e w4 ⟨rfl, hb9⟩
    have hb := below_undrew (q := 1) (w := w3) hb9
    clear hb9
    have s1 := SumAt.below (W := w3) (unhide T0).2.1 hb (unhide T0).2.1.lt
    have s0 := SumAt.below (W := w3) (unhide T0).1 hb (unhide T0).1.lt
    have q5 := hb.cell (p := ⟨A, 4, none⟩) LA
    rw [q4] at q5
    obtain ⟨⟨u0, u1, u2, u3⟩, _⟩ := id s1
    obtain ⟨_, f0, f1, f2, f3⟩ := id s0
    obtain ⟨⟨v0, v1, v2, v3⟩, _⟩ := id s0
    have T1 := hide (And.intro s0 ((unhide T0).2.2.trans (hb.mono (unhide BS))))
    clear s0 s1 hb R1 T0
    refine hK.out _ _ (by simp [go_sem, *]) (fun hHeld => ?_)
    clear hK K
    try simp only [Act.put, List.setIfInBounds_toArray, List.set_cons_zero, List.set_cons_succ]
    refine wpAnyH_done (by kernel_rfl) ?_ _
    unfold HT
    have T := hide (And.intro (SumAt.put (x := Y) (unhide T1).1) (below_put (x := Y) (unhide T1).2 (Nat.le_refl B)))
    unfold putSum at T
    clear T1
    go_wp2
    obtain ⟨⟨⟨z0, z1, z2, z3⟩, _⟩, hb⟩ := unhide T
    refine bodyPost_ret (v := smV Y) ?_ rfl ⟨rfl, by rw [unhide HB]; exact hb⟩
    simp [results, Try.results55, go_sem, z0, z1, z2, z3, smV]
theorem sumOf_any : ∀ (h : Nat), SumOf h
  | 0 => by
    intro t u a b w m wf hl h9 ha hb ba bb
    have hc : (sm 0 t).c = ((its 0 t).length : Nat) := smL_c _
    have h1 : (its 0 t).length = 1 := rfl
    rw [slc_all (by omega) (by omega)]
    exact sumOf_all (show Kn _ _ _ _ _ _ _ _ from m.root) a b ⟨by omega, by omega⟩
  | h + 1 => sumOf_step h (sumOf_any h)
end Go.Proofs.Ytbkneonbpcmepaa
