/- Check: a knot's parts, a knot. -/
import Derived.Test.YtbkneonbpcmepaaQC
import Derived.Test.YtbkneonbpcmepaaQD
namespace Go.Proofs.Ytbkneonbpcmepaa
open Go.RowKit Go.Arb
set_option linter.unusedVariables false
set_option linter.unusedSimpArgs false

theorem neq_ptr (w : World) (a b : Nat) (ha : Lv w a) (hb : Lv w b) : (binOp .neq 66 (.pointer (some ⟨a, 0, none⟩)) (.pointer (some ⟨b, 0, none⟩))).run Try.prog w = .ok (.bool (decide (a ≠ b))) w := by
  obtain ⟨j, hj, hz⟩ := Option.map_eq_some_iff.1 Try.info68
  have hp := Try.underlying66
  by_cases e : a = b
  · subst e
    have h : ∀ d : Nat, (Op.equalIn (d + 1) 66 (.pointer (some ⟨a, 0, none⟩)) (.pointer (some ⟨a, 0, none⟩))).run Try.prog w = .ok true w := fun d => by
      simp [Op.equalIn, run_underlying hp, sizeOf, typeInfo, hj, run_sameAddr_same]
    simp only [binOp]
    simp [Op.equal, Op.maxDepth, h 9999]
  · obtain ⟨c, hc⟩ := ha
    obtain ⟨d, hd⟩ := hb
    have h : ∀ d : Nat, (Op.equalIn (d + 1) 66 (.pointer (some ⟨a, 0, none⟩)) (.pointer (some ⟨b, 0, none⟩))).run Try.prog w = .ok false w := fun d => by
      simp [Op.equalIn, run_underlying hp, sizeOf, typeInfo, hj, (by simpa using hz : j.size ≠ 0), run_sameAddr_other w (a := ⟨a, 0, none⟩) (b := ⟨b, 0, none⟩) (fun h => e (by injection h)) hc hd]
    simp only [binOp]
    simp [Op.equal, Op.maxDepth, h 9999, e]
theorem neq_same (a : Nat) : ∀ w : World, (binOp .neq 66 (.pointer (some ⟨a, 0, none⟩)) (.pointer (some ⟨a, 0, none⟩))).run Try.prog w = .ok (.bool false) w := fun w => by
  obtain ⟨j, hj, hz⟩ := Option.map_eq_some_iff.1 Try.info68
  have hp := Try.underlying66
  have h : ∀ d : Nat, (Op.equalIn (d + 1) 66 (.pointer (some ⟨a, 0, none⟩)) (.pointer (some ⟨a, 0, none⟩))).run Try.prog w = .ok true w := fun d => by
    simp [Op.equalIn, run_underlying hp, sizeOf, typeInfo, hj, run_sameAddr_same]
  simp only [binOp]
  simp [Op.equal, Op.maxDepth, h 9999]
/-- The pool finds the tree's items. -/
def Finds (p : Nat) (w : World) (xs : List It) : Prop := ∀ c ∈ ids xs, ∀ W, Below w.heap.size w W → Calls Try.prog 60 #[.pointer (some ⟨p, 0, none⟩), .int .i64 (c.1 : Int)] W fun e w' => e = .returned (.pointer (some ⟨c.2, 0, none⟩)) ∧ w' = W
theorem Finds.below {p : Nat} {w w' : World} {xs : List It} (f : Finds p w xs) (hb : Below w.heap.size w w') : Finds p w' xs := fun c hc W hW => f c hc W (hb.trans (hW.mono hb.size))
theorem Finds.part {p h : Nat} {w : World} {t : Tr (h + 1)} (f : Finds p w (its (h + 1) t)) {s : Tr h} (hs : s ∈ Nd.ps t) : Finds p w (its h s) := fun c hc => f c (by
  have e : its (h + 1) t = rz (Nd.m t) ((Nd.ps t).flatMap (its h)) := rfl
  rw [e, ids_rz]
  obtain ⟨x, hx, rfl⟩ := List.mem_map.1 hc
  exact List.mem_map.2 ⟨x, List.mem_flatMap.2 ⟨s, hs, hx⟩, rfl⟩)
/-- What knotFits tells of a tree of a height. -/
def FitR (p h : Nat) : Prop := ∀ (t : Tr h) (u : Value) (k : Nat) (w : World), Mem w h u t → (fp h t).Nodup → Wf h k t → ((u = .pointer none ∧ 2 ≤ k) ∨ ∃ b, u = .pointer (some ⟨b, 0, none⟩) ∧ 4 ≤ k) → (its h t).length ≤ 4194304 → h ≤ 1000 → Finds p w (its h t) →
    Calls Try.prog 65 #[.pointer (some ⟨p, 0, none⟩), ptr (adr h t)] w fun e w' => e = .returned (.bool true) ∧ Below w.heap.size w w'

set_option maxRecDepth 100000 in
set_option maxHeartbeats 8000000 in
theorem partsFit_any {p h k : Nat} (ih : FitR p h) (t : Tr (h + 1)) (u : Value) (w : World) (m : Mem w (h + 1) u t) (nd : (fp (h + 1) t).Nodup) (wf : Wf (h + 1) k t) (hl : (its (h + 1) t).length ≤ 4194304) (h9 : h + 1 ≤ 1000) (hf : Finds p w (its (h + 1) t)) :
    Calls Try.prog 84 #[.pointer (some ⟨p, 0, none⟩), ptr (Nd.a t)] w fun e w' => e = .returned (.bool true) ∧ Below w.heap.size w w' := by
  have nd' : (Nd.a t :: (own (Nd.r t) ++ fps h (Nd.ps t))).Nodup := nd
  rw [List.nodup_cons, List.nodup_append] at nd'
  obtain ⟨_, _, n3, _⟩ := nd'
  have hle : ∀ s ∈ Nd.ps t, (its h s).length ≤ 4194304 := fun s hs => by
    have e : (its (h + 1) t).length = ((Nd.ps t).flatMap (its h)).length := rz_length _ _
    have := List.Sublist.length_le (List.sublist_flatten_of_mem (List.mem_map_of_mem (f := its h) hs))
    have e2 : ((Nd.ps t).map (its h)).flatten = (Nd.ps t).flatMap (its h) := by simp [List.flatMap]
    rw [e2] at this
    omega
  obtain ⟨x, cap, e, c1, c2, c3, c4⟩ := (show Row w (Nd.r t) _ from m.2.1).form
  rw [List.length_map] at e c1 c3
  have RD := hide (fun j (hj : j < (Nd.ps t).length) wr (hb : Below w.heap.size w wr) => (show (∃ g, x = some ⟨g, 0, none⟩ ∧ wr.cell? ⟨g, j, none⟩ = some (ptr (adr h (Nd.ps t)[j]))) ∧ wr.cell? ⟨adr h (Nd.ps t)[j], 0, none⟩ = some (.pointer (some ⟨Nd.a t, 0, none⟩)) ∧ wr.cell? ⟨Nd.a t, 1, none⟩ = some (.slice x (Nd.ps t).length cap) ∧ wr.cell? ⟨adr h (Nd.ps t)[j], 2, none⟩ = some (.int .i64 (h : Int)) ∧ wr.cell? ⟨Nd.a t, 2, none⟩ = some (.int .i64 ((h + 1 : Nat) : Int)) from by
    have m' := m.keep (Keep.ofBelow hb []) (fun _ _ => by simp)
    obtain ⟨g, rfl, hg, _⟩ := c3 (by omega)
    have a1 := c4 g rfl j (by rw [List.length_map]; exact hj)
    rw [mapD _ _ hj] at a1
    have b1 := (Kn.cells (show Kn _ _ _ _ _ _ _ _ from (m'.2.2 (Nd.ps t)[j] (List.getElem_mem hj)).root))
    have b2 := (Kn.cells (show Kn wr (Nd.a t) u (Nd.r t) ((h + 1 : Nat) : Int) (-1) (Nd.m t) (sm (h + 1) t) from m'.root))
    refine ⟨⟨g, rfl, by rw [hb.cell (p := ⟨g, j, none⟩) hg]; exact a1⟩, b1.1, ?_, b1.2.2.1, b2.2.2.1⟩
    rw [b2.2.1, e]))
  have XX := hide (fun j (hj : j < (Nd.ps t).length) wr (hb : Below w.heap.size w wr) => (show (Calls Try.prog 68 #[.slice x (Nd.ps t).length cap, ptr (adr h (Nd.ps t)[j])] (wr.drewN 1) fun e w' => e = .returned (.int .i64 (j : Int)) ∧ w' = wr.drewN 1) ∧ (Calls Try.prog 65 #[.pointer (some ⟨p, 0, none⟩), ptr (adr h (Nd.ps t)[j])] (wr.drewN 1) fun e w' => e = .returned (.bool true) ∧ Below (wr.drewN 1).heap.size (wr.drewN 1) w') from by
    have hb1 : Below w.heap.size w (wr.drewN 1) := below_drewN hb 1
    have m' := m.keep (Keep.ofBelow hb1 []) (fun _ _ => by simp)
    have hR : Row (wr.drewN 1) (Nd.r t) ((Nd.ps t).map (adr h)) := m'.2.1
    have es : (Nd.ps t).map (adr h) = ((Nd.ps t).take j).map (adr h) ++ adr h (Nd.ps t)[j] :: ((Nd.ps t).drop (j + 1)).map (adr h) := by
      conv => lhs; rw [← List.take_append_drop j (Nd.ps t), List.drop_eq_getElem_cons hj]
      rw [List.map_append, List.map_cons]
    constructor
    · have nn := fps_adrs n3
      rw [es, List.nodup_append] at nn
      have hi := index_any (((Nd.ps t).take j).map (adr h)) (((Nd.ps t).drop (j + 1)).map (adr h)) (Nd.r t) (adr h (Nd.ps t)[j]) (wr.drewN 1) (by rw [← es]; exact hR) (fun hc => nn.2.2 _ hc _ (List.mem_cons_self ..) rfl) (fun y hy => by
        rw [← es] at hy
        obtain ⟨s, hs, rfl⟩ := List.mem_map.1 hy
        exact Kn.lv (show Kn _ _ _ _ _ _ _ _ from (m'.2.2 s hs).root))
      rw [e, List.length_map, List.length_take, Nat.min_eq_left (by omega)] at hi
      exact hi
    · exact ih (Nd.ps t)[j] _ 4 (wr.drewN 1) (m'.2.2 _ (List.getElem_mem hj)) (fps_part n3 (List.getElem_mem hj)) (wf.2.2 _ (List.getElem_mem hj)) (.inr ⟨_, rfl, Nat.le_refl _⟩) (hle _ (List.getElem_mem hj)) (by omega) ((hf.part (List.getElem_mem hj)).below hb1)))
  have q1 := (Kn.cells (show Kn w (Nd.a t) u (Nd.r t) ((h + 1 : Nat) : Int) (-1) (Nd.m t) (sm (h + 1) t) from m.root)).2.1
  rw [e] at q1
  have hH : ((h + 1 : Nat) : Int) - 1 = (h : Int) := by omega
  have hn8 : (Nd.ps t).length ≤ 8 := wf.1.2
  clear m nd wf hl hf n3 hle c3 c4 e ih
  generalize ((h + 1 : Nat) : Int) = H1 at *
  generalize hH0 : (h : Int) = H0 at *
  have hh0 : -1 ≤ H0 ∧ H0 ≤ 1000 := by omega
  clear hH0
  have hH1 : H1 = H0 + 1 := by omega
  have hwr : IntKind.i64.wrap H0 = H0 := by rw [IntKind.wrap_i64]; omega
  generalize Nd.a t = A at *
  generalize Nd.ps t = ps at *
  have hqs := neq_same A
  unfold ptr at *
  go_enter Try.func84, Try.ntmps84
  go_wp2_with fail
  go_loopg [12] ps.length (fun gk i w' => ∃ j : Nat, j + gk = ps.length ∧ i = .int .i64 (j : Int) ∧ Below w.heap.size w w')
  case atStart => exact ⟨0, by omega, rfl, Below.refl _ _⟩
  case round =>
    obtain ⟨j, hj, rfl, hb1⟩ := hrel
    by_cases h8 : j < ps.length
    · have h8' := h8
      obtain ⟨⟨g, rfl, e1⟩, q0, q1', q2, q3⟩ := unhide RD j h8' wr hb1
      obtain ⟨x1, x2⟩ := unhide XX j h8' wr hb1
      have X1 := hide x1
      have X2 := hide x2
      have KK := hide (fun w' (hb : Below w.heap.size w w') => (unhide RD j h8' w' hb).2)
      have q1 := q1'
      clear q1' x1 x2
      have SZ := hide hb1.size
      have i8 : (j : Int) < (ps.length : Int) := by omega
      generalize adr h ps[j] = b at *
      go_wp2_with fail
      refine wp_region_tail 37 (by kernel_rfl) (by kernel_rfl) ?_
      simp only [List.take_succ_cons, List.take_zero, List.drop_succ_cons, List.drop_zero, List.length_cons, List.length_nil, Nat.reduceAdd]
      refine wpAny_of_held (S := (fun w' : World => w'.cell? ⟨b, 0, none⟩ = some (.pointer (some ⟨A, 0, none⟩)) ∧ w'.cell? ⟨A, 1, none⟩ = some (.slice (some ⟨g, 0, none⟩) ps.length cap) ∧ w'.cell? ⟨b, 2, none⟩ = some (.int .i64 H0) ∧ w'.cell? ⟨A, 2, none⟩ = some (.int .i64 H1))) _ _ _ _ ?_
      have hHeld : (fun w' : World => w'.cell? ⟨b, 0, none⟩ = some (.pointer (some ⟨A, 0, none⟩)) ∧ w'.cell? ⟨A, 1, none⟩ = some (.slice (some ⟨g, 0, none⟩) ps.length cap) ∧ w'.cell? ⟨b, 2, none⟩ = some (.int .i64 H0) ∧ w'.cell? ⟨A, 2, none⟩ = some (.int .i64 H1)) _ := ⟨q0, q1, q2, q3⟩
      refine wpAnyH_take (i := 0) (v := ?v0) rfl (by kernel_rfl) (by kernel_rfl) (by kernel_rfl) (fun _ _ _ h => h) (Or.inl ⟨by rfl, ?hy0⟩) (by assumption) ?rest0
      case hy0 => intro w hSw; (try dsimp only at hSw); go_simp; (try with_reducible rfl)
      try simp only [Act.put, List.getElem_toArray, List.getElem_cons_succ, List.getElem_cons_zero, List.setIfInBounds_toArray, List.set_cons_zero, List.set_cons_succ]
      refine wpAnyH_take (i := 1) (v := ?v1) rfl (by kernel_rfl) (by kernel_rfl) (by kernel_rfl) (fun _ _ _ h => h) (Or.inl ⟨by rfl, ?hy1⟩) (by assumption) ?rest1
      case hy1 => intro w hSw; (try dsimp only at hSw); go_simp; (try with_reducible rfl)
      try simp only [Act.put, List.getElem_toArray, List.getElem_cons_succ, List.getElem_cons_zero, List.setIfInBounds_toArray, List.set_cons_zero, List.set_cons_succ]
      refine wpAnyH_take (i := 2) (v := ?v2) rfl (by kernel_rfl) (by kernel_rfl) (by kernel_rfl) (fun _ _ _ h => h) (Or.inl ⟨by rfl, ?hy2⟩) (by assumption) ?rest2
      case hy2 => intro w hSw; (try dsimp only at hSw); go_simp; (try with_reducible rfl)
      try simp only [Act.put, List.getElem_toArray, List.getElem_cons_succ, List.getElem_cons_zero, List.setIfInBounds_toArray, List.set_cons_zero, List.set_cons_succ]
      refine wpAnyH_take (i := 3) (v := ?v3) rfl (by kernel_rfl) (by kernel_rfl) (by kernel_rfl) (fun _ _ _ h => h) (Or.inl ⟨by rfl, ?hy3⟩) (by assumption) ?rest3
      case hy3 => intro w hSw; (try dsimp only at hSw); go_simp; (try with_reducible rfl)
      try simp only [Act.put, List.getElem_toArray, List.getElem_cons_succ, List.getElem_cons_zero, List.setIfInBounds_toArray, List.set_cons_zero, List.set_cons_succ]
      refine wpAnyH_take (i := 4) (v := ?v4) rfl (by kernel_rfl) (by kernel_rfl) (by kernel_rfl) (fun _ _ _ h => h) (Or.inl ⟨by rfl, ?hy4⟩) (by assumption) ?rest4
      case hy4 => intro w hSw; (try dsimp only at hSw); go_simp; (try with_reducible rfl)
      try simp only [Act.put, List.getElem_toArray, List.getElem_cons_succ, List.getElem_cons_zero, List.setIfInBounds_toArray, List.set_cons_zero, List.set_cons_succ]
      refine wpAnyH_take (i := 5) (v := ?v5) rfl (by kernel_rfl) (by kernel_rfl) (by kernel_rfl) (fun _ _ _ h => h) (Or.inl ⟨by rfl, ?hy5⟩) (by assumption) ?rest5
      case hy5 => intro w hSw; (try dsimp only at hSw); go_simp; (try with_reducible rfl)
      try simp only [Act.put, List.getElem_toArray, List.getElem_cons_succ, List.getElem_cons_zero, List.setIfInBounds_toArray, List.set_cons_zero, List.set_cons_succ]
      refine wpAnyH_take (i := 6) (v := ?v6) rfl (by kernel_rfl) (by kernel_rfl) (by kernel_rfl) (fun _ _ _ h => h) (Or.inl ⟨by rfl, ?hy6⟩) (by assumption) ?rest6
      case hy6 => intro w hSw; (try dsimp only at hSw); go_simp; (try with_reducible rfl)
      try simp only [Act.put, List.getElem_toArray, List.getElem_cons_succ, List.getElem_cons_zero, List.setIfInBounds_toArray, List.set_cons_zero, List.set_cons_succ]
      refine wpAnyH_take (i := 7) (v := ?v7) rfl (by kernel_rfl) (by kernel_rfl) (by kernel_rfl) (fun _ _ _ h => h) (Or.inl ⟨by rfl, ?hy7⟩) (by assumption) ?rest7
      case hy7 => intro w hSw; (try dsimp only at hSw); go_simp; (try with_reducible rfl)
      try simp only [Act.put, List.getElem_toArray, List.getElem_cons_succ, List.getElem_cons_zero, List.setIfInBounds_toArray, List.set_cons_zero, List.set_cons_succ]
      refine wpAnyH_take (i := 8) (v := ?v8) rfl (by kernel_rfl) (by kernel_rfl) (by kernel_rfl) (fun _ _ _ h => h) (Or.inl ⟨by rfl, ?hy8⟩) (by assumption) ?rest8
      case hy8 => intro w hSw; (try dsimp only at hSw); go_simp; (try with_reducible rfl)
      try simp only [Act.put, List.getElem_toArray, List.getElem_cons_succ, List.getElem_cons_zero, List.setIfInBounds_toArray, List.set_cons_zero, List.set_cons_succ]
      refine wpAnyH_take (i := 9) (v := ?v9) rfl (by kernel_rfl) (by kernel_rfl) (by kernel_rfl) (fun _ _ _ h => h) (Or.inl ⟨by rfl, ?hy9⟩) (by assumption) ?rest9
      case hy9 => intro w hSw; (try dsimp only at hSw); go_simp; (try with_reducible rfl)
      try simp only [Act.put, List.getElem_toArray, List.getElem_cons_succ, List.getElem_cons_zero, List.setIfInBounds_toArray, List.set_cons_zero, List.set_cons_succ]
      refine wpAnyH_take (i := 10) (v := ?v10) rfl (by kernel_rfl) (by kernel_rfl) (by kernel_rfl) (fun _ _ _ h => h) (Or.inl ⟨by rfl, ?hy10⟩) (by assumption) ?rest10
      case hy10 => intro w hSw; (try dsimp only at hSw); go_simp; (try with_reducible rfl)
      try simp only [Act.put, List.getElem_toArray, List.getElem_cons_succ, List.getElem_cons_zero, List.setIfInBounds_toArray, List.set_cons_zero, List.set_cons_succ]
      refine wpAnyH_take (i := 11) (v := ?v11) rfl (by kernel_rfl) (by kernel_rfl) (by kernel_rfl) (fun _ _ _ h => h) (Or.inl ⟨by rfl, ?hy11⟩) (by assumption) ?rest11
      case hy11 => intro w hSw; (try dsimp only at hSw); go_simp; (try with_reducible rfl)
      try simp only [Act.put, List.getElem_toArray, List.getElem_cons_succ, List.getElem_cons_zero, List.setIfInBounds_toArray, List.set_cons_zero, List.set_cons_succ]
      refine wpAnyH_take (i := 12) (v := ?v12) rfl (by kernel_rfl) (by kernel_rfl) (by kernel_rfl) (fun _ _ _ h => h) (Or.inl ⟨by rfl, ?hy12⟩) (by assumption) ?rest12
      case hy12 => intro w hSw; (try dsimp only at hSw); go_simp; (try with_reducible rfl)
      try simp only [Act.put, List.getElem_toArray, List.getElem_cons_succ, List.getElem_cons_zero, List.setIfInBounds_toArray, List.set_cons_zero, List.set_cons_succ]
      refine wpAnyH_take (i := 13) (v := ?v13) rfl (by kernel_rfl) (by kernel_rfl) (by kernel_rfl) (fun _ _ _ h => h) (Or.inl ⟨by rfl, ?hy13⟩) (by assumption) ?rest13
      case hy13 => intro w hSw; (try dsimp only at hSw); go_simp; (try with_reducible rfl)
      try simp only [Act.put, List.getElem_toArray, List.getElem_cons_succ, List.getElem_cons_zero, List.setIfInBounds_toArray, List.set_cons_zero, List.set_cons_succ]
      refine wpAnyH_take (i := 14) (v := ?v14) rfl (by kernel_rfl) (by kernel_rfl) (by kernel_rfl) (fun _ _ _ h => h) (Or.inl ⟨by rfl, ?hy14⟩) (by assumption) ?rest14
      case hy14 => intro w hSw; (try dsimp only at hSw); go_simp; (try with_reducible rfl)
      try simp only [Act.put, List.getElem_toArray, List.getElem_cons_succ, List.getElem_cons_zero, List.setIfInBounds_toArray, List.set_cons_zero, List.set_cons_succ]
      refine wpAnyH_take (i := 15) (v := ?v15) rfl (by kernel_rfl) (by kernel_rfl) (by kernel_rfl) (fun _ _ _ h => h) (Or.inl ⟨by rfl, ?hy15⟩) (by assumption) ?rest15
      case hy15 => intro w hSw; (try dsimp only at hSw); go_simp; (try with_reducible rfl)
      try simp only [Act.put, List.getElem_toArray, List.getElem_cons_succ, List.getElem_cons_zero, List.setIfInBounds_toArray, List.set_cons_zero, List.set_cons_succ]
      refine wpAnyH_take (i := 17) (v := ?v17) rfl (by kernel_rfl) (by kernel_rfl) (by kernel_rfl) (fun _ _ _ h => h) (Or.inl ⟨by rfl, ?hy17⟩) (by assumption) ?rest17
      case hy17 => intro w hSw; (try dsimp only at hSw); go_simp; (try with_reducible rfl)
      try simp only [Act.put, List.getElem_toArray, List.getElem_cons_succ, List.getElem_cons_zero, List.setIfInBounds_toArray, List.set_cons_zero, List.set_cons_succ]
      refine wpAnyH_ready (rs := [16]) (by kernel_rfl) (by simp) (AllReadyH.cons rfl (fun K hK => ?_) AllReadyH.nil)
      go_simp
      refine (unhide X1).mono ?_
      rintro e w2 ⟨rfl, rfl⟩
      clear X1
      refine hK.out _ _ (by simp [go_sem, *]) (fun hHeld => ?_)
      clear hK K
      try simp only [Act.put, List.getElem_toArray, List.getElem_cons_succ, List.getElem_cons_zero, List.setIfInBounds_toArray, List.set_cons_zero, List.set_cons_succ]
      refine wpAnyH_take (i := 18) (v := ?v18) rfl (by kernel_rfl) (by kernel_rfl) (by kernel_rfl) (fun _ _ _ h => h) (Or.inl ⟨by rfl, ?hy18⟩) (by assumption) ?rest18
      case hy18 => intro w hSw; (try dsimp only at hSw); go_simp; (try with_reducible rfl)
      try simp only [Act.put, List.getElem_toArray, List.getElem_cons_succ, List.getElem_cons_zero, List.setIfInBounds_toArray, List.set_cons_zero, List.set_cons_succ]
      refine wpAnyH_take (i := 19) (v := ?v19) rfl (by kernel_rfl) (by kernel_rfl) (by kernel_rfl) (fun _ _ _ h => h) (Or.inl ⟨by rfl, ?hy19⟩) (by assumption) ?rest19
      case hy19 => intro w hSw; (try dsimp only at hSw); go_simp; (try with_reducible rfl)
      try simp only [Act.put, List.getElem_toArray, List.getElem_cons_succ, List.getElem_cons_zero, List.setIfInBounds_toArray, List.set_cons_zero, List.set_cons_succ]
      refine wpAnyH_take (i := 20) (v := ?v20) rfl (by kernel_rfl) (by kernel_rfl) (by kernel_rfl) (fun _ _ _ h => h) (Or.inl ⟨by rfl, ?hy20⟩) (by assumption) ?rest20
      case hy20 => intro w hSw; (try dsimp only at hSw); go_simp; (try with_reducible rfl)
      try simp only [Act.put, List.getElem_toArray, List.getElem_cons_succ, List.getElem_cons_zero, List.setIfInBounds_toArray, List.set_cons_zero, List.set_cons_succ]
      refine wpAnyH_take (i := 21) (v := ?v21) rfl (by kernel_rfl) (by kernel_rfl) (by kernel_rfl) (fun _ _ _ h => h) (Or.inl ⟨by rfl, ?hy21⟩) (by assumption) ?rest21
      case hy21 => intro w hSw; (try dsimp only at hSw); go_simp; (try with_reducible rfl)
      try simp only [Act.put, List.getElem_toArray, List.getElem_cons_succ, List.getElem_cons_zero, List.setIfInBounds_toArray, List.set_cons_zero, List.set_cons_succ]
      refine wpAnyH_take (i := 22) (v := ?v22) rfl (by kernel_rfl) (by kernel_rfl) (by kernel_rfl) (fun _ _ _ h => h) (Or.inl ⟨by rfl, ?hy22⟩) (by assumption) ?rest22
      case hy22 => intro w hSw; (try dsimp only at hSw); go_simp; (try with_reducible rfl)
      try simp only [Act.put, List.getElem_toArray, List.getElem_cons_succ, List.getElem_cons_zero, List.setIfInBounds_toArray, List.set_cons_zero, List.set_cons_succ]
      refine wpAnyH_take (i := 23) (v := ?v23) rfl (by kernel_rfl) (by kernel_rfl) (by kernel_rfl) (fun _ _ _ h => h) (Or.inl ⟨by rfl, ?hy23⟩) (by assumption) ?rest23
      case hy23 => intro w hSw; (try dsimp only at hSw); go_simp; (try with_reducible rfl)
      try simp only [Act.put, List.getElem_toArray, List.getElem_cons_succ, List.getElem_cons_zero, List.setIfInBounds_toArray, List.set_cons_zero, List.set_cons_succ]
      refine wpAnyH_take (i := 24) (v := ?v24) rfl (by kernel_rfl) (by kernel_rfl) (by kernel_rfl) (fun _ _ _ h => h) (Or.inl ⟨by rfl, ?hy24⟩) (by assumption) ?rest24
      case hy24 => intro w hSw; (try dsimp only at hSw); go_simp; (try with_reducible rfl)
      try simp only [Act.put, List.getElem_toArray, List.getElem_cons_succ, List.getElem_cons_zero, List.setIfInBounds_toArray, List.set_cons_zero, List.set_cons_succ]
      refine wpAnyH_take (i := 25) (v := ?v25) rfl (by kernel_rfl) (by kernel_rfl) (by kernel_rfl) (fun _ _ _ h => h) (Or.inl ⟨by rfl, ?hy25⟩) (by assumption) ?rest25
      case hy25 => intro w hSw; (try dsimp only at hSw); go_simp; (try with_reducible rfl)
      try simp only [Act.put, List.getElem_toArray, List.getElem_cons_succ, List.getElem_cons_zero, List.setIfInBounds_toArray, List.set_cons_zero, List.set_cons_succ]
      refine wpAnyH_take (i := 26) (v := ?v26) rfl (by kernel_rfl) (by kernel_rfl) (by kernel_rfl) (fun _ _ _ h => h) (Or.inl ⟨by rfl, ?hy26⟩) (by assumption) ?rest26
      case hy26 => intro w hSw; (try dsimp only at hSw); go_simp; (try with_reducible rfl)
      try simp only [Act.put, List.getElem_toArray, List.getElem_cons_succ, List.getElem_cons_zero, List.setIfInBounds_toArray, List.set_cons_zero, List.set_cons_succ]
      refine wpAnyH_take (i := 27) (v := ?v27) rfl (by kernel_rfl) (by kernel_rfl) (by kernel_rfl) (fun _ _ _ h => h) (Or.inl ⟨by rfl, ?hy27⟩) (by assumption) ?rest27
      case hy27 => intro w hSw; (try dsimp only at hSw); go_simp; (try with_reducible rfl)
      try simp only [Act.put, List.getElem_toArray, List.getElem_cons_succ, List.getElem_cons_zero, List.setIfInBounds_toArray, List.set_cons_zero, List.set_cons_succ]
      refine wpAnyH_take (i := 28) (v := ?v28) rfl (by kernel_rfl) (by kernel_rfl) (by kernel_rfl) (fun _ _ _ h => h) (Or.inl ⟨by rfl, ?hy28⟩) (by assumption) ?rest28
      case hy28 => intro w hSw; (try dsimp only at hSw); go_simp; (try with_reducible rfl)
      try simp only [Act.put, List.getElem_toArray, List.getElem_cons_succ, List.getElem_cons_zero, List.setIfInBounds_toArray, List.set_cons_zero, List.set_cons_succ]
      refine wpAnyH_take (i := 29) (v := ?v29) rfl (by kernel_rfl) (by kernel_rfl) (by kernel_rfl) (fun _ _ _ h => h) (Or.inl ⟨by rfl, ?hy29⟩) (by assumption) ?rest29
      case hy29 => intro w hSw; (try dsimp only at hSw); go_simp; (try with_reducible rfl)
      try simp only [Act.put, List.getElem_toArray, List.getElem_cons_succ, List.getElem_cons_zero, List.setIfInBounds_toArray, List.set_cons_zero, List.set_cons_succ]
      refine wpAnyH_take (i := 30) (v := ?v30) rfl (by kernel_rfl) (by kernel_rfl) (by kernel_rfl) (fun _ _ _ h => h) (Or.inl ⟨by rfl, ?hy30⟩) (by assumption) ?rest30
      case hy30 => intro w hSw; (try dsimp only at hSw); go_simp; (try with_reducible rfl)
      try simp only [Act.put, List.getElem_toArray, List.getElem_cons_succ, List.getElem_cons_zero, List.setIfInBounds_toArray, List.set_cons_zero, List.set_cons_succ]
      refine wpAnyH_take (i := 31) (v := ?v31) rfl (by kernel_rfl) (by kernel_rfl) (by kernel_rfl) (fun _ _ _ h => h) (Or.inl ⟨by rfl, ?hy31⟩) (by assumption) ?rest31
      case hy31 => intro w hSw; (try dsimp only at hSw); go_simp; (try with_reducible rfl)
      try simp only [Act.put, List.getElem_toArray, List.getElem_cons_succ, List.getElem_cons_zero, List.setIfInBounds_toArray, List.set_cons_zero, List.set_cons_succ]
      refine wpAnyH_take (i := 32) (v := ?v32) rfl (by kernel_rfl) (by kernel_rfl) (by kernel_rfl) (fun _ _ _ h => h) (Or.inl ⟨by rfl, ?hy32⟩) (by assumption) ?rest32
      case hy32 => intro w hSw; (try dsimp only at hSw); go_simp; (try with_reducible rfl)
      try simp only [Act.put, List.getElem_toArray, List.getElem_cons_succ, List.getElem_cons_zero, List.setIfInBounds_toArray, List.set_cons_zero, List.set_cons_succ]
      refine wpAnyH_take (i := 33) (v := ?v33) rfl (by kernel_rfl) (by kernel_rfl) (by kernel_rfl) (fun _ _ _ h => h) (Or.inl ⟨by rfl, ?hy33⟩) (by assumption) ?rest33
      case hy33 => intro w hSw; (try dsimp only at hSw); go_simp; (try with_reducible rfl)
      try simp only [Act.put, List.getElem_toArray, List.getElem_cons_succ, List.getElem_cons_zero, List.setIfInBounds_toArray, List.set_cons_zero, List.set_cons_succ]
      refine wpAnyH_take (i := 34) (v := ?v34) rfl (by kernel_rfl) (by kernel_rfl) (by kernel_rfl) (fun _ _ _ h => h) (Or.inl ⟨by rfl, ?hy34⟩) (by assumption) ?rest34
      case hy34 => intro w hSw; (try dsimp only at hSw); go_simp; (try with_reducible rfl)
      try simp only [Act.put, List.getElem_toArray, List.getElem_cons_succ, List.getElem_cons_zero, List.setIfInBounds_toArray, List.set_cons_zero, List.set_cons_succ]
      refine wpAnyH_ready (rs := [35]) (by kernel_rfl) (by simp) (AllReadyH.cons rfl (fun K hK => ?_) AllReadyH.nil)
      go_simp
      refine (unhide X2).mono ?_
      rintro e w3 ⟨rfl, hb9⟩
      have hb := below_undrew (q := 1) hb9
      clear hb9
      have BB := hide (hb1.trans (hb.mono (unhide SZ)))
      obtain ⟨z0, z1, z2, z3⟩ := unhide KK w3 (unhide BB)
      clear hb X2
      refine hK.out _ _ (by simp [go_sem, *]) (fun hHeld => ?_)
      clear hK K
      try simp only [Act.put, List.getElem_toArray, List.getElem_cons_succ, List.getElem_cons_zero, List.setIfInBounds_toArray, List.set_cons_zero, List.set_cons_succ]
      refine wpAnyH_take (i := 36) (v := ?v36) rfl (by kernel_rfl) (by kernel_rfl) (by kernel_rfl) (fun _ _ _ h => h) (Or.inl ⟨by rfl, ?hy36⟩) (by assumption) ?rest36
      case hy36 => intro w hSw; (try dsimp only at hSw); go_simp; (try with_reducible rfl)
      try simp only [Act.put, List.getElem_toArray, List.getElem_cons_succ, List.getElem_cons_zero, List.setIfInBounds_toArray, List.set_cons_zero, List.set_cons_succ]
      refine wpAnyH_done (by kernel_rfl) ?_ _
      unfold HT
      go_wp2_with fail
      go_roundg (gk - 1)
      case rel => exact ⟨j + 1, by omega, rfl, unhide BB⟩
      all_goals omega
    · have : j = ps.length := by omega
      subst this
      have HB := hide hb1
      go_wp2
      go_ret
      exact ⟨rfl, unhide HB⟩
end Go.Proofs.Ytbkneonbpcmepaa
