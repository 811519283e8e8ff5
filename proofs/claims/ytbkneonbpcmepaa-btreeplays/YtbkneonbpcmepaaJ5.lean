/- Check: an item; how many parts. -/
import Derived.Test.YtbkneonbpcmepaaQB
import Derived.Test.YtbkneonbpcmepaaG
namespace Go.Proofs.Ytbkneonbpcmepaa
open Go.RowKit Go.Arb
set_option linter.unusedVariables false
set_option linter.unusedSimpArgs false

theorem eq_same (a : Nat) : ∀ w : World, (binOp .eql 66 (.pointer (some ⟨a, 0, none⟩)) (.pointer (some ⟨a, 0, none⟩))).run Try.prog w = .ok (.bool true) w := fun w => by
  obtain ⟨j, hj, _⟩ := Option.map_eq_some_iff.1 Try.info68
  rw [run_eql_ptr_same w _ Try.underlying66 hj]
set_option maxRecDepth 100000 in
theorem sizeFits_any {a n cap : Nat} {u : Value} {x : Option Addr} {h i m : Int} {s : Sm} {w : World} (k : Kn w a u (.slice x n cap) h i m s) (h8 : n ≤ 8) (hn : (u = .pointer none ∧ 2 ≤ n) ∨ ∃ b, u = .pointer (some ⟨b, 0, none⟩) ∧ 4 ≤ n) :
    Calls Try.prog 83 #[ptr a] w fun e w' => e = .returned (.bool true) ∧ w' = w := by
  obtain ⟨q0, q1, _, _, _, _, _, _, _⟩ := k.cells
  have i8 : (n : Int) ≤ 8 := by omega
  unfold ptr
  rcases hn with ⟨rfl, h2⟩ | ⟨b, rfl, h4⟩
  · have i2 : (2 : Int) ≤ (n : Int) := by omega
    clear k
    go_enter Try.func83, Try.ntmps83
    go_wp2
    go_ret
    exact ⟨rfl, rfl⟩
  · have i4 : (4 : Int) ≤ (n : Int) := by omega
    clear k
    go_enter Try.func83, Try.ntmps83
    go_wp2
    go_ret
    exact ⟨rfl, rfl⟩
set_option maxRecDepth 100000 in
set_option maxHeartbeats 8000000 in
theorem itemFits_any {p a u : Nat} {y : Int} {up : Value} {w : World} (k : Kn w a up nilS 0 u 0 (one y)) (hf : ∀ q, Calls Try.prog 60 #[.pointer (some ⟨p, 0, none⟩), .int .i64 (u : Int)] (w.drewN q) fun e w' => e = .returned (.pointer (some ⟨a, 0, none⟩)) ∧ w' = w.drewN q) (hy : fitB y = true) :
    Calls Try.prog 82 #[.pointer (some ⟨p, 0, none⟩), ptr a] w fun e w' => e = .returned (.bool true) ∧ Below w.heap.size w w' := by
  have FI := hide hf
  have FT := hide (fun w => fits_any y w)
  rw [hy] at FT
  have O1 := hide (fun w => one_any y w)
  have KK := hide (fun w2 (hb : Below w.heap.size w w2) => (show _ ∧ _ ∧ _ ∧ _ ∧ _ ∧ _ ∧ _ from (by
    obtain ⟨_, b1, _, b3, b4, b5, b6, b7, b8⟩ := (Kn.below k hb).cells
    exact ⟨b1, b3, b4, b5, b6, b7, b8⟩ : w2.cell? ⟨a, 1, none⟩ = some nilS ∧ w2.cell? ⟨a, 3, none⟩ = some (.int .i64 (u : Int)) ∧ w2.cell? ⟨a, 4, none⟩ = some (.int .i64 0) ∧ w2.cell? ⟨a, 5, none⟩ = some (.int .i64 1) ∧ w2.cell? ⟨a, 6, none⟩ = some (.int .i64 y) ∧ w2.cell? ⟨a, 7, none⟩ = some (.int .i64 y) ∧ w2.cell? ⟨a, 8, none⟩ = some (.int .i64 y))))
  obtain ⟨q1, q3, q4, q5, q6, q7, q8⟩ := unhide KK w (Below.refl _ _)
  have hq := eq_same a
  clear k hf hy
  unfold ptr nilS at *
  go_enter Try.func82, Try.ntmps82
  go_wp2_with fail
  refine wp_region_tail 36 (by kernel_rfl) (by kernel_rfl) ?_
  simp only [List.take_succ_cons, List.take_zero, List.drop_succ_cons, List.drop_zero, List.length_cons, List.length_nil, Nat.reduceAdd]
  refine wpAny_of_held (S := (fun w' : World => w'.cell? ⟨a, 1, none⟩ = some (.slice none 0 0) ∧ w'.cell? ⟨a, 3, none⟩ = some (.int .i64 (u : Int)) ∧ w'.cell? ⟨a, 4, none⟩ = some (.int .i64 0) ∧ w'.cell? ⟨a, 5, none⟩ = some (.int .i64 1) ∧ w'.cell? ⟨a, 6, none⟩ = some (.int .i64 y) ∧ w'.cell? ⟨a, 7, none⟩ = some (.int .i64 y) ∧ w'.cell? ⟨a, 8, none⟩ = some (.int .i64 y))) _ _ _ _ ?_
  have hHeld : (fun w' : World => w'.cell? ⟨a, 1, none⟩ = some (.slice none 0 0) ∧ w'.cell? ⟨a, 3, none⟩ = some (.int .i64 (u : Int)) ∧ w'.cell? ⟨a, 4, none⟩ = some (.int .i64 0) ∧ w'.cell? ⟨a, 5, none⟩ = some (.int .i64 1) ∧ w'.cell? ⟨a, 6, none⟩ = some (.int .i64 y) ∧ w'.cell? ⟨a, 7, none⟩ = some (.int .i64 y) ∧ w'.cell? ⟨a, 8, none⟩ = some (.int .i64 y)) _ := ⟨q1, q3, q4, q5, q6, q7, q8⟩
  refine wpAnyH_take (i := 0) (v := ?v0) rfl (by kernel_rfl) (by kernel_rfl) (by kernel_rfl) (fun _ _ _ h => h) (Or.inl ⟨by rfl, ?hy0⟩) (by assumption) ?rest0
  case hy0 => intro w hSw; (try dsimp only at hSw); go_simp; (try with_reducible rfl)
  try simp only [Act.put, List.getElem_toArray, List.getElem_cons_succ, List.getElem_cons_zero, List.setIfInBounds_toArray, List.set_cons_zero, List.set_cons_succ]
  refine wpAnyH_take (i := 1) (v := ?v1) rfl (by kernel_rfl) (by kernel_rfl) (by kernel_rfl) (fun _ _ _ h => h) (Or.inl ⟨by rfl, ?hy1⟩) (by assumption) ?rest1
  case hy1 => intro w hSw; (try dsimp only at hSw); go_simp; (try with_reducible rfl)
  try simp only [Act.put, List.getElem_toArray, List.getElem_cons_succ, List.getElem_cons_zero, List.setIfInBounds_toArray, List.set_cons_zero, List.set_cons_succ]
  refine wpAnyH_take (i := 2) (v := ?v2) rfl (by kernel_rfl) (by kernel_rfl) (by kernel_rfl) (fun _ _ _ h => h) (Or.inl ⟨by rfl, ?hy2⟩) (by assumption) ?rest2
  case hy2 => intro w hSw; (try dsimp only at hSw); go_simp; (try with_reducible rfl)
  try simp only [Act.put, List.getElem_toArray, List.getElem_cons_succ, List.getElem_cons_zero, List.setIfInBounds_toArray, List.set_cons_zero, List.set_cons_succ]
  refine wpAnyH_take (i := 3) (v := ?v3) rfl (by kernel_rfl) (by kernel_rfl) (by kernel_rfl) (fun _ _ _ h => h) (Or.inl ⟨by rfl, ?hy3⟩) (by assumption) ?rest3
  case hy3 => intro w hSw; (try dsimp only at hSw); go_simp; (try with_reducible rfl)
  try simp only [Act.put, List.getElem_toArray, List.getElem_cons_succ, List.getElem_cons_zero, List.setIfInBounds_toArray, List.set_cons_zero, List.set_cons_succ]
  refine wpAnyH_take (i := 4) (v := ?v4) rfl (by kernel_rfl) (by kernel_rfl) (by kernel_rfl) (fun _ _ _ h => h) (Or.inl ⟨by rfl, ?hy4⟩) (by assumption) ?rest4
  case hy4 => intro w hSw; (try dsimp only at hSw); go_simp; (try with_reducible rfl)
  try simp only [Act.put, List.getElem_toArray, List.getElem_cons_succ, List.getElem_cons_zero, List.setIfInBounds_toArray, List.set_cons_zero, List.set_cons_succ]
  refine wpAnyH_take (i := 6) (v := ?v6) rfl (by kernel_rfl) (by kernel_rfl) (by kernel_rfl) (fun _ _ _ h => h) (Or.inl ⟨by rfl, ?hy6⟩) (by assumption) ?rest6
  case hy6 => intro w hSw; (try dsimp only at hSw); go_simp; (try with_reducible rfl)
  try simp only [Act.put, List.getElem_toArray, List.getElem_cons_succ, List.getElem_cons_zero, List.setIfInBounds_toArray, List.set_cons_zero, List.set_cons_succ]
  refine wpAnyH_ready (rs := [5]) (by kernel_rfl) (by simp) (AllReadyH.cons rfl (fun K hK => ?_) AllReadyH.nil)
  go_simp
  refine (unhide FI 1).mono ?_
  rintro e w2 ⟨rfl, rfl⟩
  try dsimp only
  refine hK.out _ _ (by simp [go_sem, *]) (fun hHeld => ?_)
  clear hK K
  try simp only [Act.put, List.getElem_toArray, List.getElem_cons_succ, List.getElem_cons_zero, List.setIfInBounds_toArray, List.set_cons_zero, List.set_cons_succ]
  refine wpAnyH_take (i := 7) (v := ?v7) rfl (by kernel_rfl) (by kernel_rfl) (by kernel_rfl) (fun _ _ _ h => h) (Or.inl ⟨by rfl, ?hy7⟩) (by assumption) ?rest7
  case hy7 => intro w hSw; (try dsimp only at hSw); go_simp; (try with_reducible rfl)
  try simp only [Act.put, List.getElem_toArray, List.getElem_cons_succ, List.getElem_cons_zero, List.setIfInBounds_toArray, List.set_cons_zero, List.set_cons_succ]
  refine wpAnyH_take (i := 8) (v := ?v8) rfl (by kernel_rfl) (by kernel_rfl) (by kernel_rfl) (fun _ _ _ h => h) (Or.inl ⟨by rfl, ?hy8⟩) (by assumption) ?rest8
  case hy8 => intro w hSw; (try dsimp only at hSw); go_simp; (try with_reducible rfl)
  try simp only [Act.put, List.getElem_toArray, List.getElem_cons_succ, List.getElem_cons_zero, List.setIfInBounds_toArray, List.set_cons_zero, List.set_cons_succ]
  refine wpAnyH_take (i := 9) (v := ?v9) rfl (by kernel_rfl) (by kernel_rfl) (by kernel_rfl) (fun _ _ _ h => h) (Or.inl ⟨by rfl, ?hy9⟩) (by assumption) ?rest9
  case hy9 => intro w hSw; (try dsimp only at hSw); go_simp; (try with_reducible rfl)
  try simp only [Act.put, List.getElem_toArray, List.getElem_cons_succ, List.getElem_cons_zero, List.setIfInBounds_toArray, List.set_cons_zero, List.set_cons_succ]
  refine wpAnyH_take (i := 10) (v := ?v10) rfl (by kernel_rfl) (by kernel_rfl) (by kernel_rfl) (fun _ _ _ h => h) (Or.inl ⟨by rfl, ?hy10⟩) (by assumption) ?rest10
  case hy10 => intro w hSw; (try dsimp only at hSw); go_simp; (try with_reducible rfl)
  try simp only [Act.put, List.getElem_toArray, List.getElem_cons_succ, List.getElem_cons_zero, List.setIfInBounds_toArray, List.set_cons_zero, List.set_cons_succ]
  refine wpAnyH_take (i := 11) (v := ?v11) rfl (by kernel_rfl) (by kernel_rfl) (by kernel_rfl) (fun _ _ _ h => h) (Or.inl ⟨by rfl, ?hy11⟩) (by assumption) ?rest11
  case hy11 => intro w hSw; (try dsimp only at hSw); go_simp; (try with_reducible rfl)
  try simp only [Act.put, List.getElem_toArray, List.getElem_cons_succ, List.getElem_cons_zero, List.setIfInBounds_toArray, List.set_cons_zero, List.set_cons_succ]
  refine wpAnyH_take (i := 12) (v := ?v12) rfl (by kernel_rfl) (by kernel_rfl) (by kernel_rfl) (fun _ _ _ h => h) (Or.inl ⟨by rfl, ?hy12⟩) (by assumption) ?rest12
  case hy12 => intro w hSw; (try dsimp only at hSw); go_simp; (try with_reducible rfl)
  try simp only [Act.put, List.getElem_toArray, List.getElem_cons_succ, List.getElem_cons_zero, List.setIfInBounds_toArray, List.set_cons_zero, List.set_cons_succ]
  refine wpAnyH_take (i := 13) (v := ?v13) rfl (by kernel_rfl) (by kernel_rfl) (by kernel_rfl) (fun _ _ _ h => h) (Or.inl ⟨by rfl, ?hy13⟩) (by assumption) ?rest13
  case hy13 => intro w hSw; (try dsimp only at hSw); go_simp; (try with_reducible rfl)
  try simp only [Act.put, List.getElem_toArray, List.getElem_cons_succ, List.getElem_cons_zero, List.setIfInBounds_toArray, List.set_cons_zero, List.set_cons_succ]
  refine wpAnyH_take (i := 14) (v := ?v14) rfl (by kernel_rfl) (by kernel_rfl) (by kernel_rfl) (fun _ _ _ h => h) (Or.inl ⟨by rfl, ?hy14⟩) (by assumption) ?rest14
  case hy14 => intro w hSw; (try dsimp only at hSw); go_simp; (try with_reducible rfl)
  try simp only [Act.put, List.getElem_toArray, List.getElem_cons_succ, List.getElem_cons_zero, List.setIfInBounds_toArray, List.set_cons_zero, List.set_cons_succ]
  refine wpAnyH_take (i := 15) (v := ?v15) rfl (by kernel_rfl) (by kernel_rfl) (by kernel_rfl) (fun _ _ _ h => h) (Or.inl ⟨by rfl, ?hy15⟩) (by assumption) ?rest15
  case hy15 => intro w hSw; (try dsimp only at hSw); go_simp; (try with_reducible rfl)
  try simp only [Act.put, List.getElem_toArray, List.getElem_cons_succ, List.getElem_cons_zero, List.setIfInBounds_toArray, List.set_cons_zero, List.set_cons_succ]
  refine wpAnyH_take (i := 16) (v := ?v16) rfl (by kernel_rfl) (by kernel_rfl) (by kernel_rfl) (fun _ _ _ h => h) (Or.inl ⟨by rfl, ?hy16⟩) (by assumption) ?rest16
  case hy16 => intro w hSw; (try dsimp only at hSw); go_simp; (try with_reducible rfl)
  try simp only [Act.put, List.getElem_toArray, List.getElem_cons_succ, List.getElem_cons_zero, List.setIfInBounds_toArray, List.set_cons_zero, List.set_cons_succ]
  refine wpAnyH_take (i := 17) (v := ?v17) rfl (by kernel_rfl) (by kernel_rfl) (by kernel_rfl) (fun _ _ _ h => h) (Or.inl ⟨by rfl, ?hy17⟩) (by assumption) ?rest17
  case hy17 => intro w hSw; (try dsimp only at hSw); go_simp; (try with_reducible rfl)
  try simp only [Act.put, List.getElem_toArray, List.getElem_cons_succ, List.getElem_cons_zero, List.setIfInBounds_toArray, List.set_cons_zero, List.set_cons_succ]
  refine wpAnyH_take (i := 18) (v := ?v18) rfl (by kernel_rfl) (by kernel_rfl) (by kernel_rfl) (fun _ _ _ h => h) (Or.inl ⟨by rfl, ?hy18⟩) (by assumption) ?rest18
  case hy18 => intro w hSw; (try dsimp only at hSw); go_simp; (try with_reducible rfl)
  try simp only [Act.put, List.getElem_toArray, List.getElem_cons_succ, List.getElem_cons_zero, List.setIfInBounds_toArray, List.set_cons_zero, List.set_cons_succ]
  refine wpAnyH_take (i := 19) (v := ?v19) rfl (by kernel_rfl) (by kernel_rfl) (by kernel_rfl) (fun _ _ _ h => h) (Or.inl ⟨by rfl, ?hy19⟩) (by assumption) ?rest19
  case hy19 => intro w hSw; (try dsimp only at hSw); go_simp; (try with_reducible rfl)
  try simp only [Act.put, List.getElem_toArray, List.getElem_cons_succ, List.getElem_cons_zero, List.setIfInBounds_toArray, List.set_cons_zero, List.set_cons_succ]
  refine wpAnyH_take (i := 20) (v := ?v20) rfl (by kernel_rfl) (by kernel_rfl) (by kernel_rfl) (fun _ _ _ h => h) (Or.inl ⟨by rfl, ?hy20⟩) (by assumption) ?rest20
  case hy20 => intro w hSw; (try dsimp only at hSw); go_simp; (try with_reducible rfl)
  try simp only [Act.put, List.getElem_toArray, List.getElem_cons_succ, List.getElem_cons_zero, List.setIfInBounds_toArray, List.set_cons_zero, List.set_cons_succ]
  refine wpAnyH_take (i := 21) (v := ?v21) rfl (by kernel_rfl) (by kernel_rfl) (by kernel_rfl) (fun _ _ _ h => h) (Or.inl ⟨by rfl, ?hy21⟩) (by assumption) ?rest21
  case hy21 => intro w hSw; (try dsimp only at hSw); go_simp; (try with_reducible rfl)
  try simp only [Act.put, List.getElem_toArray, List.getElem_cons_succ, List.getElem_cons_zero, List.setIfInBounds_toArray, List.set_cons_zero, List.set_cons_succ]
  refine wpAnyH_take (i := 22) (v := ?v22) rfl (by kernel_rfl) (by kernel_rfl) (by kernel_rfl) (fun _ _ _ h => h) (Or.inl ⟨by rfl, ?hy22⟩) (by assumption) ?rest22
  case hy22 => intro w hSw; (try dsimp only at hSw); go_simp; (try with_reducible rfl)
  try simp only [Act.put, List.getElem_toArray, List.getElem_cons_succ, List.getElem_cons_zero, List.setIfInBounds_toArray, List.set_cons_zero, List.set_cons_succ]
  refine wpAnyH_take (i := 23) (v := ?v23) rfl (by kernel_rfl) (by kernel_rfl) (by kernel_rfl) (fun _ _ _ h => h) (Or.inl ⟨by rfl, ?hy23⟩) (by assumption) ?rest23
  case hy23 => intro w hSw; (try dsimp only at hSw); go_simp; (try with_reducible rfl)
  try simp only [Act.put, List.getElem_toArray, List.getElem_cons_succ, List.getElem_cons_zero, List.setIfInBounds_toArray, List.set_cons_zero, List.set_cons_succ]
  refine wpAnyH_take (i := 24) (v := ?v24) rfl (by kernel_rfl) (by kernel_rfl) (by kernel_rfl) (fun _ _ _ h => h) (Or.inl ⟨by rfl, ?hy24⟩) (by assumption) ?rest24
  case hy24 => intro w hSw; (try dsimp only at hSw); go_simp; (try with_reducible rfl)
  try simp only [Act.put, List.getElem_toArray, List.getElem_cons_succ, List.getElem_cons_zero, List.setIfInBounds_toArray, List.set_cons_zero, List.set_cons_succ]
  refine wpAnyH_take (i := 25) (v := ?v25) rfl (by kernel_rfl) (by kernel_rfl) (by kernel_rfl) (fun _ _ _ h => h) (Or.inl ⟨by rfl, ?hy25⟩) (by assumption) ?rest25
  case hy25 => intro w hSw; (try dsimp only at hSw); go_simp; (try with_reducible rfl)
  try simp only [Act.put, List.getElem_toArray, List.getElem_cons_succ, List.getElem_cons_zero, List.setIfInBounds_toArray, List.set_cons_zero, List.set_cons_succ]
  refine wpAnyH_take (i := 26) (v := ?v26) rfl (by kernel_rfl) (by kernel_rfl) (by kernel_rfl) (fun _ _ _ h => h) (Or.inl ⟨by rfl, ?hy26⟩) (by assumption) ?rest26
  case hy26 => intro w hSw; (try dsimp only at hSw); go_simp; (try with_reducible rfl)
  try simp only [Act.put, List.getElem_toArray, List.getElem_cons_succ, List.getElem_cons_zero, List.setIfInBounds_toArray, List.set_cons_zero, List.set_cons_succ]
  refine wpAnyH_take (i := 27) (v := ?v27) rfl (by kernel_rfl) (by kernel_rfl) (by kernel_rfl) (fun _ _ _ h => h) (Or.inl ⟨by rfl, ?hy27⟩) (by assumption) ?rest27
  case hy27 => intro w hSw; (try dsimp only at hSw); go_simp; (try with_reducible rfl)
  try simp only [Act.put, List.getElem_toArray, List.getElem_cons_succ, List.getElem_cons_zero, List.setIfInBounds_toArray, List.set_cons_zero, List.set_cons_succ]
  refine wpAnyH_take (i := 28) (v := ?v28) rfl (by kernel_rfl) (by kernel_rfl) (by kernel_rfl) (fun _ _ _ h => h) (Or.inl ⟨by rfl, ?hy28⟩) (by assumption) ?rest28
  case hy28 => intro w hSw; (try dsimp only at hSw); go_simp; (try with_reducible rfl)
  try simp only [Act.put, List.getElem_toArray, List.getElem_cons_succ, List.getElem_cons_zero, List.setIfInBounds_toArray, List.set_cons_zero, List.set_cons_succ]
  refine wpAnyH_ready (rs := [29]) (by kernel_rfl) (by simp) (AllReadyH.cons rfl (fun K hK => ?_) AllReadyH.nil)
  go_simp
  refine (unhide O1 _).mono ?_
  rintro e w2 ⟨rfl, hb9⟩
  have hb := below_undrew (q := 1) (w := w) hb9
  clear hb9
  have BB := hide hb
  obtain ⟨z1, z3, z4, z5, z6, z7, z8⟩ := unhide KK w2 hb
  clear hb
  refine hK.out _ _ (by simp [go_sem, *]) (fun hHeld => ?_)
  clear hK K
  try simp only [Act.put, List.getElem_toArray, List.getElem_cons_succ, List.getElem_cons_zero, List.setIfInBounds_toArray, List.set_cons_zero, List.set_cons_succ]
  refine wpAnyH_take (i := 30) (v := ?v30) rfl (by kernel_rfl) (by kernel_rfl) (by kernel_rfl) (fun _ _ _ h => h) (Or.inl ⟨by rfl, ?hy30⟩) (by assumption) ?rest30
  case hy30 => intro w hSw; (try dsimp only at hSw); go_simp; (try with_reducible rfl)
  try simp only [Act.put, List.getElem_toArray, List.getElem_cons_succ, List.getElem_cons_zero, List.setIfInBounds_toArray, List.set_cons_zero, List.set_cons_succ]
  refine wpAnyH_take (i := 31) (v := ?v31) rfl (by kernel_rfl) (by kernel_rfl) (by kernel_rfl) (fun _ _ _ h => h) (Or.inl ⟨by rfl, ?hy31⟩) (by assumption) ?rest31
  case hy31 => intro w hSw; (try dsimp only at hSw); go_simp; (try with_reducible rfl)
  try simp only [Act.put, List.getElem_toArray, List.getElem_cons_succ, List.getElem_cons_zero, List.setIfInBounds_toArray, List.set_cons_zero, List.set_cons_succ]
  refine wpAnyH_take (i := 32) (v := ?v32) rfl (by kernel_rfl) (by kernel_rfl) (by kernel_rfl) (fun _ _ _ h => h) (Or.inl ⟨by rfl, ?hy32⟩) (by assumption) ?rest32
  case hy32 => intro w hSw; (try dsimp only at hSw); go_simp; (try with_reducible rfl)
  try simp only [Act.put, List.getElem_toArray, List.getElem_cons_succ, List.getElem_cons_zero, List.setIfInBounds_toArray, List.set_cons_zero, List.set_cons_succ]
  refine wpAnyH_take (i := 33) (v := ?v33) rfl (by kernel_rfl) (by kernel_rfl) (by kernel_rfl) (fun _ _ _ h => h) (Or.inl ⟨by rfl, ?hy33⟩) (by assumption) ?rest33
  case hy33 => intro w hSw; (try dsimp only at hSw); go_simp; (try with_reducible rfl)
  try simp only [Act.put, List.getElem_toArray, List.getElem_cons_succ, List.getElem_cons_zero, List.setIfInBounds_toArray, List.set_cons_zero, List.set_cons_succ]
  refine wpAnyH_ready (rs := [34]) (by kernel_rfl) (by simp) (AllReadyH.cons rfl (fun K hK => ?_) AllReadyH.nil)
  go_simp
  refine (unhide FT _).mono ?_
  rintro e w3 ⟨rfl, rfl⟩
  refine hK.out _ _ (by simp [go_sem, *]) (fun hHeld => ?_)
  clear hK K
  try simp only [Act.put, List.getElem_toArray, List.getElem_cons_succ, List.getElem_cons_zero, List.setIfInBounds_toArray, List.set_cons_zero, List.set_cons_succ]
  refine wpAnyH_take (i := 35) (v := ?v35) rfl (by kernel_rfl) (by kernel_rfl) (by kernel_rfl) (fun _ _ _ h => h) (Or.inl ⟨by rfl, ?hy35⟩) (by assumption) ?rest35
  case hy35 => intro w hSw; (try dsimp only at hSw); go_simp; (try with_reducible rfl)
  try simp only [Act.put, List.getElem_toArray, List.getElem_cons_succ, List.getElem_cons_zero, List.setIfInBounds_toArray, List.set_cons_zero, List.set_cons_succ]
  refine wpAnyH_done (by kernel_rfl) ?_ _
  unfold HT
  clear hHeld
  go_wp2
  go_ret
  exact ⟨rfl, unhide BB⟩
end Go.Proofs.Ytbkneonbpcmepaa
/- Check: a knot's sum. -/

namespace Go.Proofs.Ytbkneonbpcmepaa
open Go.RowKit Go.Arb
set_option linter.unusedVariables false
set_option linter.unusedSimpArgs false

set_option maxRecDepth 100000 in
set_option maxHeartbeats 8000000 in
theorem sumFits_any {h k : Nat} (t : Tr (h + 1)) (u : Value) (w : World) (m : Mem w (h + 1) u t) (hk : 2 ≤ k) (wf : Wf (h + 1) k t) (hl : (its (h + 1) t).length ≤ 4194304) :
    Calls Try.prog 85 #[ptr (Nd.a t)] w fun e w' => e = .returned (.bool true) ∧ Below w.heap.size w w' := by
  have fF : FitL ((Nd.ps t).flatMap (its h)) := fun x hx => by
    obtain ⟨s, hs, hx⟩ := List.mem_flatMap.1 hx
    exact (wf.2.2 s hs).fit x hx
  have el : (its (h + 1) t).length = ((Nd.ps t).flatMap (its h)).length := rz_length _ _
  have C1 := hide (below_any (Nd.ps t) (Nd.a t) u (Nd.r t) _ _ _ _ (w.drewN 1) (show Kn _ _ _ _ _ _ _ _ from (m.drewN 1).root) (show Row _ _ _ from (m.drewN 1).2.1) (fun s hs => ⟨_, ((m.drewN 1).2.2 s hs).root⟩) (by omega) fF)
  have wt := Wf.wt (by omega) wf
  have C2 := hide (fun W => rsum_any ((Nd.ps t).flatMap (its h)) (Nd.m t) W (by omega) fF wf.2.1 wt.1 wt.2)
  have e0 : smL (rz (Nd.m t) ((Nd.ps t).flatMap (its h))) = sm (h + 1) t := rfl
  rw [e0] at C2
  have ends := smL_ends wf.fit (its_ne (by omega) wf)
  have FA := hide (fun W => fits_any (sm (h + 1) t).a W)
  have FB := hide (fun W => fits_any (sm (h + 1) t).b W)
  rw [show fitB (sm (h + 1) t).a = true from by simp only [fitB, decide_eq_true_eq]; exact ⟨ends.1, by have := ends.2; unfold sm; omega⟩] at FA
  rw [show fitB (sm (h + 1) t).b = true from by simp only [fitB, decide_eq_true_eq]; exact ⟨by have := ends.1; have := ends.2; unfold sm; omega, ends.2.2⟩] at FB
  have KK := hide (fun w2 (hb : Below w.heap.size w w2) => (show _ ∧ _ ∧ _ ∧ _ ∧ _ from (by
    obtain ⟨_, _, _, _, b4, b5, b6, b7, b8⟩ := (Kn.below (show Kn w (Nd.a t) u (Nd.r t) ((h + 1 : Nat) : Int) (-1) (Nd.m t) (sm (h + 1) t) from m.root) hb).cells
    exact ⟨b4, b5, b6, b7, b8⟩ : w2.cell? ⟨Nd.a t, 4, none⟩ = some (.int .i64 (Nd.m t)) ∧ w2.cell? ⟨Nd.a t, 5, none⟩ = some (.int .i64 (sm (h + 1) t).c) ∧ w2.cell? ⟨Nd.a t, 6, none⟩ = some (.int .i64 (sm (h + 1) t).s) ∧ w2.cell? ⟨Nd.a t, 7, none⟩ = some (.int .i64 (sm (h + 1) t).a) ∧ w2.cell? ⟨Nd.a t, 8, none⟩ = some (.int .i64 (sm (h + 1) t).b))))
  clear m wf ends e0 el fF wt hl
  generalize smL ((Nd.ps t).flatMap (its h)) = Y at *
  generalize sm (h + 1) t = X at *
  generalize Nd.m t = mm at *
  generalize Nd.a t = A at *
  obtain ⟨q4, q5, q6, q7, q8⟩ := unhide KK w (Below.refl _ _)
  unfold ptr smV at *
  go_enter Try.func85, Try.ntmps85
  go_wp2_with fail
  refine wp_region_tail 28 (by kernel_rfl) (by kernel_rfl) ?_
  simp only [List.take_succ_cons, List.take_zero, List.drop_succ_cons, List.drop_zero, List.length_cons, List.length_nil, Nat.reduceAdd]
  refine wpAny_of_held (S := (fun w' : World => w'.cell? ⟨A, 4, none⟩ = some (.int .i64 mm) ∧ w'.cell? ⟨A, 5, none⟩ = some (.int .i64 X.c) ∧ w'.cell? ⟨A, 6, none⟩ = some (.int .i64 X.s) ∧ w'.cell? ⟨A, 7, none⟩ = some (.int .i64 X.a) ∧ w'.cell? ⟨A, 8, none⟩ = some (.int .i64 X.b))) _ _ _ _ ?_
  have hHeld : (fun w' : World => w'.cell? ⟨A, 4, none⟩ = some (.int .i64 mm) ∧ w'.cell? ⟨A, 5, none⟩ = some (.int .i64 X.c) ∧ w'.cell? ⟨A, 6, none⟩ = some (.int .i64 X.s) ∧ w'.cell? ⟨A, 7, none⟩ = some (.int .i64 X.a) ∧ w'.cell? ⟨A, 8, none⟩ = some (.int .i64 X.b)) _ := ⟨q4, q5, q6, q7, q8⟩
  refine wpAnyH_take (i := 0) (v := ?v0) rfl (by kernel_rfl) (by kernel_rfl) (by kernel_rfl) (fun _ _ _ h => h) (Or.inl ⟨by rfl, ?hy0⟩) (by assumption) ?rest0
  case hy0 => intro w hSw; (try dsimp only at hSw); go_simp; (try with_reducible rfl)
  try simp only [Act.put, List.setIfInBounds_toArray, List.set_cons_zero, List.set_cons_succ]
  refine wpAnyH_take (i := 1) (v := ?v1) rfl (by kernel_rfl) (by kernel_rfl) (by kernel_rfl) (fun _ _ _ h => h) (Or.inl ⟨by rfl, ?hy1⟩) (by assumption) ?rest1
  case hy1 => intro w hSw; (try dsimp only at hSw); go_simp; (try with_reducible rfl)
  try simp only [Act.put, List.setIfInBounds_toArray, List.set_cons_zero, List.set_cons_succ]
  refine wpAnyH_take (i := 2) (v := ?v2) rfl (by kernel_rfl) (by kernel_rfl) (by kernel_rfl) (fun _ _ _ h => h) (Or.inl ⟨by rfl, ?hy2⟩) (by assumption) ?rest2
  case hy2 => intro w hSw; (try dsimp only at hSw); go_simp; (try with_reducible rfl)
  try simp only [Act.put, List.setIfInBounds_toArray, List.set_cons_zero, List.set_cons_succ]
  refine wpAnyH_take (i := 3) (v := ?v3) rfl (by kernel_rfl) (by kernel_rfl) (by kernel_rfl) (fun _ _ _ h => h) (Or.inl ⟨by rfl, ?hy3⟩) (by assumption) ?rest3
  case hy3 => intro w hSw; (try dsimp only at hSw); go_simp; (try with_reducible rfl)
  try simp only [Act.put, List.setIfInBounds_toArray, List.set_cons_zero, List.set_cons_succ]
  refine wpAnyH_take (i := 4) (v := ?v4) rfl (by kernel_rfl) (by kernel_rfl) (by kernel_rfl) (fun _ _ _ h => h) (Or.inl ⟨by rfl, ?hy4⟩) (by assumption) ?rest4
  case hy4 => intro w hSw; (try dsimp only at hSw); go_simp; (try with_reducible rfl)
  try simp only [Act.put, List.setIfInBounds_toArray, List.set_cons_zero, List.set_cons_succ]
  refine wpAnyH_take (i := 6) (v := ?v6) rfl (by kernel_rfl) (by kernel_rfl) (by kernel_rfl) (fun _ _ _ h => h) (Or.inl ⟨by rfl, ?hy6⟩) (by assumption) ?rest6
  case hy6 => intro w hSw; (try dsimp only at hSw); go_simp; (try with_reducible rfl)
  try simp only [Act.put, List.setIfInBounds_toArray, List.set_cons_zero, List.set_cons_succ]
  refine wpAnyH_take (i := 7) (v := ?v7) rfl (by kernel_rfl) (by kernel_rfl) (by kernel_rfl) (fun _ _ _ h => h) (Or.inl ⟨by rfl, ?hy7⟩) (by assumption) ?rest7
  case hy7 => intro w hSw; (try dsimp only at hSw); go_simp; (try with_reducible rfl)
  try simp only [Act.put, List.setIfInBounds_toArray, List.set_cons_zero, List.set_cons_succ]
  refine wpAnyH_take (i := 8) (v := ?v8) rfl (by kernel_rfl) (by kernel_rfl) (by kernel_rfl) (fun _ _ _ h => h) (Or.inl ⟨by rfl, ?hy8⟩) (by assumption) ?rest8
  case hy8 => intro w hSw; (try dsimp only at hSw); go_simp; (try with_reducible rfl)
  try simp only [Act.put, List.setIfInBounds_toArray, List.set_cons_zero, List.set_cons_succ]
  refine wpAnyH_take (i := 9) (v := ?v9) rfl (by kernel_rfl) (by kernel_rfl) (by kernel_rfl) (fun _ _ _ h => h) (Or.inl ⟨by rfl, ?hy9⟩) (by assumption) ?rest9
  case hy9 => intro w hSw; (try dsimp only at hSw); go_simp; (try with_reducible rfl)
  try simp only [Act.put, List.setIfInBounds_toArray, List.set_cons_zero, List.set_cons_succ]
  refine wpAnyH_ready (rs := [5]) (by kernel_rfl) (by simp) (AllReadyH.cons rfl (fun K hK => ?_) AllReadyH.nil)
  go_simp
  refine (unhide C1).mono ?_
  rintro e w2 ⟨rfl, hb9⟩
  have hb := below_undrew (q := 1) (w := w) hb9
  clear hb9
  have BB := hide hb
  obtain ⟨z4, z5, z6, z7, z8⟩ := unhide KK w2 hb
  clear hb C1
  refine hK.out _ _ (by simp [go_sem, *]) (fun hHeld => ?_)
  clear hK K
  try simp only [Act.put, List.setIfInBounds_toArray, List.set_cons_zero, List.set_cons_succ]
  refine wpAnyH_ready (rs := [10]) (by kernel_rfl) (by simp) (AllReadyH.cons rfl (fun K hK => ?_) AllReadyH.nil)
  go_simp
  refine (unhide C2 _).mono ?_
  rintro e w3 ⟨rfl, hb⟩
  have B3 := hide ((unhide BB).trans (hb.mono (unhide BB).size))
  obtain ⟨y4, y5, y6, y7, y8⟩ := unhide KK w3 (unhide B3)
  clear hb BB C2
  refine hK.out _ _ (by simp [go_sem, *]) (fun hHeld => ?_)
  clear hK K
  try simp only [Act.put, List.setIfInBounds_toArray, List.set_cons_zero, List.set_cons_succ]
  refine wpAnyH_take (i := 11) (v := ?v11) rfl (by kernel_rfl) (by kernel_rfl) (by kernel_rfl) (fun _ _ _ h => h) (Or.inl ⟨by rfl, ?hy11⟩) (by assumption) ?rest11
  case hy11 => intro w hSw; (try dsimp only at hSw); go_simp; (try with_reducible rfl)
  try simp only [Act.put, List.setIfInBounds_toArray, List.set_cons_zero, List.set_cons_succ]
  refine wpAnyH_take (i := 12) (v := ?v12) rfl (by kernel_rfl) (by kernel_rfl) (by kernel_rfl) (fun _ _ _ h => h) (Or.inl ⟨by rfl, ?hy12⟩) (by assumption) ?rest12
  case hy12 => intro w hSw; (try dsimp only at hSw); go_simp; (try with_reducible rfl)
  try simp only [Act.put, List.setIfInBounds_toArray, List.set_cons_zero, List.set_cons_succ]
  refine wpAnyH_take (i := 13) (v := ?v13) rfl (by kernel_rfl) (by kernel_rfl) (by kernel_rfl) (fun _ _ _ h => h) (Or.inl ⟨by rfl, ?hy13⟩) (by assumption) ?rest13
  case hy13 => intro w hSw; (try dsimp only at hSw); go_simp; (try with_reducible rfl)
  try simp only [Act.put, List.setIfInBounds_toArray, List.set_cons_zero, List.set_cons_succ]
  refine wpAnyH_take (i := 14) (v := ?v14) rfl (by kernel_rfl) (by kernel_rfl) (by kernel_rfl) (fun _ _ _ h => h) (Or.inl ⟨by rfl, ?hy14⟩) (by assumption) ?rest14
  case hy14 => intro w hSw; (try dsimp only at hSw); go_simp; (try with_reducible rfl)
  try simp only [Act.put, List.setIfInBounds_toArray, List.set_cons_zero, List.set_cons_succ]
  refine wpAnyH_take (i := 15) (v := ?v15) rfl (by kernel_rfl) (by kernel_rfl) (by kernel_rfl) (fun _ _ _ h => h) (Or.inl ⟨by rfl, ?hy15⟩) (by assumption) ?rest15
  case hy15 => intro w hSw; (try dsimp only at hSw); go_simp; (try with_reducible rfl)
  try simp only [Act.put, List.setIfInBounds_toArray, List.set_cons_zero, List.set_cons_succ]
  refine wpAnyH_take (i := 16) (v := ?v16) rfl (by kernel_rfl) (by kernel_rfl) (by kernel_rfl) (fun _ _ _ h => h) (Or.inl ⟨by rfl, ?hy16⟩) (by assumption) ?rest16
  case hy16 => intro w hSw; (try dsimp only at hSw); go_simp; (try with_reducible rfl)
  try simp only [Act.put, List.setIfInBounds_toArray, List.set_cons_zero, List.set_cons_succ]
  refine wpAnyH_take (i := 17) (v := ?v17) rfl (by kernel_rfl) (by kernel_rfl) (by kernel_rfl) (fun _ _ _ h => h) (Or.inl ⟨by rfl, ?hy17⟩) (by assumption) ?rest17
  case hy17 => intro w hSw; (try dsimp only at hSw); go_simp; (try with_reducible rfl)
  try simp only [Act.put, List.setIfInBounds_toArray, List.set_cons_zero, List.set_cons_succ]
  refine wpAnyH_ready (rs := [18]) (by kernel_rfl) (by simp) (AllReadyH.cons rfl (fun K hK => ?_) AllReadyH.nil)
  go_simp
  refine (unhide FA _).mono ?_
  rintro e w4 ⟨rfl, rfl⟩
  refine hK.out _ _ (by simp [go_sem, *]) (fun hHeld => ?_)
  clear hK K
  try simp only [Act.put, List.setIfInBounds_toArray, List.set_cons_zero, List.set_cons_succ]
  refine wpAnyH_take (i := 19) (v := ?v19) rfl (by kernel_rfl) (by kernel_rfl) (by kernel_rfl) (fun _ _ _ h => h) (Or.inl ⟨by rfl, ?hy19⟩) (by assumption) ?rest19
  case hy19 => intro w hSw; (try dsimp only at hSw); go_simp; (try with_reducible rfl)
  try simp only [Act.put, List.setIfInBounds_toArray, List.set_cons_zero, List.set_cons_succ]
  refine wpAnyH_take (i := 20) (v := ?v20) rfl (by kernel_rfl) (by kernel_rfl) (by kernel_rfl) (fun _ _ _ h => h) (Or.inl ⟨by rfl, ?hy20⟩) (by assumption) ?rest20
  case hy20 => intro w hSw; (try dsimp only at hSw); go_simp; (try with_reducible rfl)
  try simp only [Act.put, List.setIfInBounds_toArray, List.set_cons_zero, List.set_cons_succ]
  refine wpAnyH_take (i := 21) (v := ?v21) rfl (by kernel_rfl) (by kernel_rfl) (by kernel_rfl) (fun _ _ _ h => h) (Or.inl ⟨by rfl, ?hy21⟩) (by assumption) ?rest21
  case hy21 => intro w hSw; (try dsimp only at hSw); go_simp; (try with_reducible rfl)
  try simp only [Act.put, List.setIfInBounds_toArray, List.set_cons_zero, List.set_cons_succ]
  refine wpAnyH_take (i := 22) (v := ?v22) rfl (by kernel_rfl) (by kernel_rfl) (by kernel_rfl) (fun _ _ _ h => h) (Or.inl ⟨by rfl, ?hy22⟩) (by assumption) ?rest22
  case hy22 => intro w hSw; (try dsimp only at hSw); go_simp; (try with_reducible rfl)
  try simp only [Act.put, List.setIfInBounds_toArray, List.set_cons_zero, List.set_cons_succ]
  refine wpAnyH_take (i := 23) (v := ?v23) rfl (by kernel_rfl) (by kernel_rfl) (by kernel_rfl) (fun _ _ _ h => h) (Or.inl ⟨by rfl, ?hy23⟩) (by assumption) ?rest23
  case hy23 => intro w hSw; (try dsimp only at hSw); go_simp; (try with_reducible rfl)
  try simp only [Act.put, List.setIfInBounds_toArray, List.set_cons_zero, List.set_cons_succ]
  refine wpAnyH_take (i := 24) (v := ?v24) rfl (by kernel_rfl) (by kernel_rfl) (by kernel_rfl) (fun _ _ _ h => h) (Or.inl ⟨by rfl, ?hy24⟩) (by assumption) ?rest24
  case hy24 => intro w hSw; (try dsimp only at hSw); go_simp; (try with_reducible rfl)
  try simp only [Act.put, List.setIfInBounds_toArray, List.set_cons_zero, List.set_cons_succ]
  refine wpAnyH_take (i := 25) (v := ?v25) rfl (by kernel_rfl) (by kernel_rfl) (by kernel_rfl) (fun _ _ _ h => h) (Or.inl ⟨by rfl, ?hy25⟩) (by assumption) ?rest25
  case hy25 => intro w hSw; (try dsimp only at hSw); go_simp; (try with_reducible rfl)
  try simp only [Act.put, List.setIfInBounds_toArray, List.set_cons_zero, List.set_cons_succ]
  refine wpAnyH_ready (rs := [26]) (by kernel_rfl) (by simp) (AllReadyH.cons rfl (fun K hK => ?_) AllReadyH.nil)
  go_simp
  refine (unhide FB _).mono ?_
  rintro e w4 ⟨rfl, rfl⟩
  refine hK.out _ _ (by simp [go_sem, *]) (fun hHeld => ?_)
  clear hK K
  try simp only [Act.put, List.setIfInBounds_toArray, List.set_cons_zero, List.set_cons_succ]
  refine wpAnyH_take (i := 27) (v := ?v27) rfl (by kernel_rfl) (by kernel_rfl) (by kernel_rfl) (fun _ _ _ h => h) (Or.inl ⟨by rfl, ?hy27⟩) (by assumption) ?rest27
  case hy27 => intro w hSw; (try dsimp only at hSw); go_simp; (try with_reducible rfl)
  try simp only [Act.put, List.setIfInBounds_toArray, List.set_cons_zero, List.set_cons_succ]
  refine wpAnyH_done (by kernel_rfl) ?_ _
  unfold HT
  clear hHeld
  go_wp2
  go_ret
  exact ⟨rfl, unhide B3⟩
end Go.Proofs.Ytbkneonbpcmepaa
/- Check: a knot's parts, a knot. -/

namespace Go.Proofs.Ytbkneonbpcmepaa
open Go.RowKit Go.Arb
set_option linter.unusedVariables false
set_option linter.unusedSimpArgs false

theorem neq_ptr (w : World) (a b : Nat) (ha : Lv w a) (hb : Lv w b) : (binOp .neq 66 (.pointer (some ⟨a, 0, none⟩)) (.pointer (some ⟨b, 0, none⟩))).run Try.prog w = .ok (.bool (decide (a ≠ b))) w := by
  obtain ⟨j, hj, hz⟩ := Option.map_eq_some_iff.1 Try.info68
  have hp := Try.underlying66
  by_cases e : a = b
  · subst e
    have h : ∀ d : Nat, (Op.equalIn (d + 1) 66 (.pointer (some ⟨a, 0, none⟩)) (.pointer (some ⟨a, 0, none⟩))).run Try.prog w = .ok true w := fun d => by
      simp [Op.equalIn, run_underlying hp, sizeOf, typeInfo, hj, run_sameAddr_same]
    simp only [binOp]
    simp [Op.equal, Op.maxDepth, h 9999]
  · obtain ⟨c, hc⟩ := ha
    obtain ⟨d, hd⟩ := hb
    have h : ∀ d : Nat, (Op.equalIn (d + 1) 66 (.pointer (some ⟨a, 0, none⟩)) (.pointer (some ⟨b, 0, none⟩))).run Try.prog w = .ok false w := fun d => by
      simp [Op.equalIn, run_underlying hp, sizeOf, typeInfo, hj, (by simpa using hz : j.size ≠ 0), run_sameAddr_other w (a := ⟨a, 0, none⟩) (b := ⟨b, 0, none⟩) (fun h => e (by injection h)) hc hd]
    simp only [binOp]
    simp [Op.equal, Op.maxDepth, h 9999, e]
theorem neq_same (a : Nat) : ∀ w : World, (binOp .neq 66 (.pointer (some ⟨a, 0, none⟩)) (.pointer (some ⟨a, 0, none⟩))).run Try.prog w = .ok (.bool false) w := fun w => by
  obtain ⟨j, hj, hz⟩ := Option.map_eq_some_iff.1 Try.info68
  have hp := Try.underlying66
  have h : ∀ d : Nat, (Op.equalIn (d + 1) 66 (.pointer (some ⟨a, 0, none⟩)) (.pointer (some ⟨a, 0, none⟩))).run Try.prog w = .ok true w := fun d => by
    simp [Op.equalIn, run_underlying hp, sizeOf, typeInfo, hj, run_sameAddr_same]
  simp only [binOp]
  simp [Op.equal, Op.maxDepth, h 9999]
/-- The pool finds the tree's items. -/
def Finds (p : Nat) (w : World) (xs : List It) : Prop := ∀ c ∈ ids xs, ∀ W, Below w.heap.size w W → Calls Try.prog 60 #[.pointer (some ⟨p, 0, none⟩), .int .i64 (c.1 : Int)] W fun e w' => e = .returned (.pointer (some ⟨c.2, 0, none⟩)) ∧ w' = W
theorem Finds.below {p : Nat} {w w' : World} {xs : List It} (f : Finds p w xs) (hb : Below w.heap.size w w') : Finds p w' xs := fun c hc W hW => f c hc W (hb.trans (hW.mono hb.size))
theorem Finds.part {p h : Nat} {w : World} {t : Tr (h + 1)} (f : Finds p w (its (h + 1) t)) {s : Tr h} (hs : s ∈ Nd.ps t) : Finds p w (its h s) := fun c hc => f c (by
  have e : its (h + 1) t = rz (Nd.m t) ((Nd.ps t).flatMap (its h)) := rfl
  rw [e, ids_rz]
  obtain ⟨x, hx, rfl⟩ := List.mem_map.1 hc
  exact List.mem_map.2 ⟨x, List.mem_flatMap.2 ⟨s, hs, hx⟩, rfl⟩)
/-- What knotFits tells of a tree of a height. -/
def FitR (p h : Nat) : Prop := ∀ (t : Tr h) (u : Value) (k : Nat) (w : World), Mem w h u t → (fp h t).Nodup → Wf h k t → ((u = .pointer none ∧ 2 ≤ k) ∨ ∃ b, u = .pointer (some ⟨b, 0, none⟩) ∧ 4 ≤ k) → (its h t).length ≤ 4194304 → h ≤ 1000 → Finds p w (its h t) →
    Calls Try.prog 65 #[.pointer (some ⟨p, 0, none⟩), ptr (adr h t)] w fun e w' => e = .returned (.bool true) ∧ Below w.heap.size w w'

set_option maxRecDepth 100000 in
set_option maxHeartbeats 8000000 in
theorem partsFit_any {p h k : Nat} (ih : FitR p h) (t : Tr (h + 1)) (u : Value) (w : World) (m : Mem w (h + 1) u t) (nd : (fp (h + 1) t).Nodup) (wf : Wf (h + 1) k t) (hl : (its (h + 1) t).length ≤ 4194304) (h9 : h + 1 ≤ 1000) (hf : Finds p w (its (h + 1) t)) :
    Calls Try.prog 84 #[.pointer (some ⟨p, 0, none⟩), ptr (Nd.a t)] w fun e w' => e = .returned (.bool true) ∧ Below w.heap.size w w' := by
  have nd' : (Nd.a t :: (own (Nd.r t) ++ fps h (Nd.ps t))).Nodup := nd
  rw [List.nodup_cons, List.nodup_append] at nd'
  obtain ⟨_, _, n3, _⟩ := nd'
  have hle : ∀ s ∈ Nd.ps t, (its h s).length ≤ 4194304 := fun s hs => by
    have e : (its (h + 1) t).length = ((Nd.ps t).flatMap (its h)).length := rz_length _ _
    have := List.Sublist.length_le (List.sublist_flatten_of_mem (List.mem_map_of_mem (f := its h) hs))
    have e2 : ((Nd.ps t).map (its h)).flatten = (Nd.ps t).flatMap (its h) := by simp [List.flatMap]
    rw [e2] at this
    omega
  obtain ⟨x, cap, e, c1, c2, c3, c4⟩ := (show Row w (Nd.r t) _ from m.2.1).form
  rw [List.length_map] at e c1 c3
  have RD := hide (fun j (hj : j < (Nd.ps t).length) wr (hb : Below w.heap.size w wr) => (show (∃ g, x = some ⟨g, 0, none⟩ ∧ wr.cell? ⟨g, j, none⟩ = some (ptr (adr h (Nd.ps t)[j]))) ∧ wr.cell? ⟨adr h (Nd.ps t)[j], 0, none⟩ = some (.pointer (some ⟨Nd.a t, 0, none⟩)) ∧ wr.cell? ⟨Nd.a t, 1, none⟩ = some (.slice x (Nd.ps t).length cap) ∧ wr.cell? ⟨adr h (Nd.ps t)[j], 2, none⟩ = some (.int .i64 (h : Int)) ∧ wr.cell? ⟨Nd.a t, 2, none⟩ = some (.int .i64 ((h + 1 : Nat) : Int)) from by
    have m' := m.keep (Keep.ofBelow hb []) (fun _ _ => by simp)
    obtain ⟨g, rfl, hg, _⟩ := c3 (by omega)
    have a1 := c4 g rfl j (by rw [List.length_map]; exact hj)
    rw [mapD _ _ hj] at a1
    have b1 := (Kn.cells (show Kn _ _ _ _ _ _ _ _ from (m'.2.2 (Nd.ps t)[j] (List.getElem_mem hj)).root))
    have b2 := (Kn.cells (show Kn wr (Nd.a t) u (Nd.r t) ((h + 1 : Nat) : Int) (-1) (Nd.m t) (sm (h + 1) t) from m'.root))
    refine ⟨⟨g, rfl, by rw [hb.cell (p := ⟨g, j, none⟩) hg]; exact a1⟩, b1.1, ?_, b1.2.2.1, b2.2.2.1⟩
    rw [b2.2.1, e]))
  have XX := hide (fun j (hj : j < (Nd.ps t).length) wr (hb : Below w.heap.size w wr) => (show (Calls Try.prog 68 #[.slice x (Nd.ps t).length cap, ptr (adr h (Nd.ps t)[j])] (wr.drewN 1) fun e w' => e = .returned (.int .i64 (j : Int)) ∧ w' = wr.drewN 1) ∧ (Calls Try.prog 65 #[.pointer (some ⟨p, 0, none⟩), ptr (adr h (Nd.ps t)[j])] (wr.drewN 1) fun e w' => e = .returned (.bool true) ∧ Below (wr.drewN 1).heap.size (wr.drewN 1) w') from by
    have hb1 : Below w.heap.size w (wr.drewN 1) := below_drewN hb 1
    have m' := m.keep (Keep.ofBelow hb1 []) (fun _ _ => by simp)
    have hR : Row (wr.drewN 1) (Nd.r t) ((Nd.ps t).map (adr h)) := m'.2.1
    have es : (Nd.ps t).map (adr h) = ((Nd.ps t).take j).map (adr h) ++ adr h (Nd.ps t)[j] :: ((Nd.ps t).drop (j + 1)).map (adr h) := by
      conv => lhs; rw [← List.take_append_drop j (Nd.ps t), List.drop_eq_getElem_cons hj]
      rw [List.map_append, List.map_cons]
    constructor
    · have nn := fps_adrs n3
      rw [es, List.nodup_append] at nn
      have hi := index_any (((Nd.ps t).take j).map (adr h)) (((Nd.ps t).drop (j + 1)).map (adr h)) (Nd.r t) (adr h (Nd.ps t)[j]) (wr.drewN 1) (by rw [← es]; exact hR) (fun hc => nn.2.2 _ hc _ (List.mem_cons_self ..) rfl) (fun y hy => by
        rw [← es] at hy
        obtain ⟨s, hs, rfl⟩ := List.mem_map.1 hy
        exact Kn.lv (show Kn _ _ _ _ _ _ _ _ from (m'.2.2 s hs).root))
      rw [e, List.length_map, List.length_take, Nat.min_eq_left (by omega)] at hi
      exact hi
    · exact ih (Nd.ps t)[j] _ 4 (wr.drewN 1) (m'.2.2 _ (List.getElem_mem hj)) (fps_part n3 (List.getElem_mem hj)) (wf.2.2 _ (List.getElem_mem hj)) (.inr ⟨_, rfl, Nat.le_refl _⟩) (hle _ (List.getElem_mem hj)) (by omega) ((hf.part (List.getElem_mem hj)).below hb1)))
  have q1 := (Kn.cells (show Kn w (Nd.a t) u (Nd.r t) ((h + 1 : Nat) : Int) (-1) (Nd.m t) (sm (h + 1) t) from m.root)).2.1
  rw [e] at q1
  have hH : ((h + 1 : Nat) : Int) - 1 = (h : Int) := by omega
  have hn8 : (Nd.ps t).length ≤ 8 := wf.1.2
  clear m nd wf hl hf n3 hle c3 c4 e ih
  generalize ((h + 1 : Nat) : Int) = H1 at *
  generalize hH0 : (h : Int) = H0 at *
  have hh0 : -1 ≤ H0 ∧ H0 ≤ 1000 := by omega
  clear hH0
  have hH1 : H1 = H0 + 1 := by omega
  have hwr : IntKind.i64.wrap H0 = H0 := by rw [IntKind.wrap_i64]; omega
  generalize Nd.a t = A at *
  generalize Nd.ps t = ps at *
  have hqs := neq_same A
  unfold ptr at *
  go_enter Try.func84, Try.ntmps84
  go_wp2_with fail
  go_loopg [12] ps.length (fun gk i w' => ∃ j : Nat, j + gk = ps.length ∧ i = .int .i64 (j : Int) ∧ Below w.heap.size w w')
  case atStart => exact ⟨0, by omega, rfl, Below.refl _ _⟩
  case round =>
    obtain ⟨j, hj, rfl, hb1⟩ := hrel
    by_cases h8 : j < ps.length
    · have h8' := h8
      obtain ⟨⟨g, rfl, e1⟩, q0, q1', q2, q3⟩ := unhide RD j h8' wr hb1
      obtain ⟨x1, x2⟩ := unhide XX j h8' wr hb1
      have X1 := hide x1
      have X2 := hide x2
      have KK := hide (fun w' (hb : Below w.heap.size w w') => (unhide RD j h8' w' hb).2)
      have q1 := q1'
      clear q1' x1 x2
      have SZ := hide hb1.size
      have i8 : (j : Int) < (ps.length : Int) := by omega
      generalize adr h ps[j] = b at *
      go_wp2_with fail
      refine wp_region_tail 37 (by kernel_rfl) (by kernel_rfl) ?_
      simp only [List.take_succ_cons, List.take_zero, List.drop_succ_cons, List.drop_zero, List.length_cons, List.length_nil, Nat.reduceAdd]
      refine wpAny_of_held (S := (fun w' : World => w'.cell? ⟨b, 0, none⟩ = some (.pointer (some ⟨A, 0, none⟩)) ∧ w'.cell? ⟨A, 1, none⟩ = some (.slice (some ⟨g, 0, none⟩) ps.length cap) ∧ w'.cell? ⟨b, 2, none⟩ = some (.int .i64 H0) ∧ w'.cell? ⟨A, 2, none⟩ = some (.int .i64 H1))) _ _ _ _ ?_
      have hHeld : (fun w' : World => w'.cell? ⟨b, 0, none⟩ = some (.pointer (some ⟨A, 0, none⟩)) ∧ w'.cell? ⟨A, 1, none⟩ = some (.slice (some ⟨g, 0, none⟩) ps.length cap) ∧ w'.cell? ⟨b, 2, none⟩ = some (.int .i64 H0) ∧ w'.cell? ⟨A, 2, none⟩ = some (.int .i64 H1)) _ := ⟨q0, q1, q2, q3⟩
      refine wpAnyH_take (i := 0) (v := ?v0) rfl (by kernel_rfl) (by kernel_rfl) (by kernel_rfl) (fun _ _ _ h => h) (Or.inl ⟨by rfl, ?hy0⟩) (by assumption) ?rest0
      case hy0 => intro w hSw; (try dsimp only at hSw); go_simp; (try with_reducible rfl)
      try simp only [Act.put, List.getElem_toArray, List.getElem_cons_succ, List.getElem_cons_zero, List.setIfInBounds_toArray, List.set_cons_zero, List.set_cons_succ]
      refine wpAnyH_take (i := 1) (v := ?v1) rfl (by kernel_rfl) (by kernel_rfl) (by kernel_rfl) (fun _ _ _ h => h) (Or.inl ⟨by rfl, ?hy1⟩) (by assumption) ?rest1
      case hy1 => intro w hSw; (try dsimp only at hSw); go_simp; (try with_reducible rfl)
      try simp only [Act.put, List.getElem_toArray, List.getElem_cons_succ, List.getElem_cons_zero, List.setIfInBounds_toArray, List.set_cons_zero, List.set_cons_succ]
      refine wpAnyH_take (i := 2) (v := ?v2) rfl (by kernel_rfl) (by kernel_rfl) (by kernel_rfl) (fun _ _ _ h => h) (Or.inl ⟨by rfl, ?hy2⟩) (by assumption) ?rest2
      case hy2 => intro w hSw; (try dsimp only at hSw); go_simp; (try with_reducible rfl)
      try simp only [Act.put, List.getElem_toArray, List.getElem_cons_succ, List.getElem_cons_zero, List.setIfInBounds_toArray, List.set_cons_zero, List.set_cons_succ]
      refine wpAnyH_take (i := 3) (v := ?v3) rfl (by kernel_rfl) (by kernel_rfl) (by kernel_rfl) (fun _ _ _ h => h) (Or.inl ⟨by rfl, ?hy3⟩) (by assumption) ?rest3
      case hy3 => intro w hSw; (try dsimp only at hSw); go_simp; (try with_reducible rfl)
      try simp only [Act.put, List.getElem_toArray, List.getElem_cons_succ, List.getElem_cons_zero, List.setIfInBounds_toArray, List.set_cons_zero, List.set_cons_succ]
      refine wpAnyH_take (i := 4) (v := ?v4) rfl (by kernel_rfl) (by kernel_rfl) (by kernel_rfl) (fun _ _ _ h => h) (Or.inl ⟨by rfl, ?hy4⟩) (by assumption) ?rest4
      case hy4 => intro w hSw; (try dsimp only at hSw); go_simp; (try with_reducible rfl)
      try simp only [Act.put, List.getElem_toArray, List.getElem_cons_succ, List.getElem_cons_zero, List.setIfInBounds_toArray, List.set_cons_zero, List.set_cons_succ]
      refine wpAnyH_take (i := 5) (v := ?v5) rfl (by kernel_rfl) (by kernel_rfl) (by kernel_rfl) (fun _ _ _ h => h) (Or.inl ⟨by rfl, ?hy5⟩) (by assumption) ?rest5
      case hy5 => intro w hSw; (try dsimp only at hSw); go_simp; (try with_reducible rfl)
      try simp only [Act.put, List.getElem_toArray, List.getElem_cons_succ, List.getElem_cons_zero, List.setIfInBounds_toArray, List.set_cons_zero, List.set_cons_succ]
      refine wpAnyH_take (i := 6) (v := ?v6) rfl (by kernel_rfl) (by kernel_rfl) (by kernel_rfl) (fun _ _ _ h => h) (Or.inl ⟨by rfl, ?hy6⟩) (by assumption) ?rest6
      case hy6 => intro w hSw; (try dsimp only at hSw); go_simp; (try with_reducible rfl)
      try simp only [Act.put, List.getElem_toArray, List.getElem_cons_succ, List.getElem_cons_zero, List.setIfInBounds_toArray, List.set_cons_zero, List.set_cons_succ]
      refine wpAnyH_take (i := 7) (v := ?v7) rfl (by kernel_rfl) (by kernel_rfl) (by kernel_rfl) (fun _ _ _ h => h) (Or.inl ⟨by rfl, ?hy7⟩) (by assumption) ?rest7
      case hy7 => intro w hSw; (try dsimp only at hSw); go_simp; (try with_reducible rfl)
      try simp only [Act.put, List.getElem_toArray, List.getElem_cons_succ, List.getElem_cons_zero, List.setIfInBounds_toArray, List.set_cons_zero, List.set_cons_succ]
      refine wpAnyH_take (i := 8) (v := ?v8) rfl (by kernel_rfl) (by kernel_rfl) (by kernel_rfl) (fun _ _ _ h => h) (Or.inl ⟨by rfl, ?hy8⟩) (by assumption) ?rest8
      case hy8 => intro w hSw; (try dsimp only at hSw); go_simp; (try with_reducible rfl)
      try simp only [Act.put, List.getElem_toArray, List.getElem_cons_succ, List.getElem_cons_zero, List.setIfInBounds_toArray, List.set_cons_zero, List.set_cons_succ]
      refine wpAnyH_take (i := 9) (v := ?v9) rfl (by kernel_rfl) (by kernel_rfl) (by kernel_rfl) (fun _ _ _ h => h) (Or.inl ⟨by rfl, ?hy9⟩) (by assumption) ?rest9
      case hy9 => intro w hSw; (try dsimp only at hSw); go_simp; (try with_reducible rfl)
      try simp only [Act.put, List.getElem_toArray, List.getElem_cons_succ, List.getElem_cons_zero, List.setIfInBounds_toArray, List.set_cons_zero, List.set_cons_succ]
      refine wpAnyH_take (i := 10) (v := ?v10) rfl (by kernel_rfl) (by kernel_rfl) (by kernel_rfl) (fun _ _ _ h => h) (Or.inl ⟨by rfl, ?hy10⟩) (by assumption) ?rest10
      case hy10 => intro w hSw; (try dsimp only at hSw); go_simp; (try with_reducible rfl)
      try simp only [Act.put, List.getElem_toArray, List.getElem_cons_succ, List.getElem_cons_zero, List.setIfInBounds_toArray, List.set_cons_zero, List.set_cons_succ]
      refine wpAnyH_take (i := 11) (v := ?v11) rfl (by kernel_rfl) (by kernel_rfl) (by kernel_rfl) (fun _ _ _ h => h) (Or.inl ⟨by rfl, ?hy11⟩) (by assumption) ?rest11
      case hy11 => intro w hSw; (try dsimp only at hSw); go_simp; (try with_reducible rfl)
      try simp only [Act.put, List.getElem_toArray, List.getElem_cons_succ, List.getElem_cons_zero, List.setIfInBounds_toArray, List.set_cons_zero, List.set_cons_succ]
      refine wpAnyH_take (i := 12) (v := ?v12) rfl (by kernel_rfl) (by kernel_rfl) (by kernel_rfl) (fun _ _ _ h => h) (Or.inl ⟨by rfl, ?hy12⟩) (by assumption) ?rest12
      case hy12 => intro w hSw; (try dsimp only at hSw); go_simp; (try with_reducible rfl)
      try simp only [Act.put, List.getElem_toArray, List.getElem_cons_succ, List.getElem_cons_zero, List.setIfInBounds_toArray, List.set_cons_zero, List.set_cons_succ]
      refine wpAnyH_take (i := 13) (v := ?v13) rfl (by kernel_rfl) (by kernel_rfl) (by kernel_rfl) (fun _ _ _ h => h) (Or.inl ⟨by rfl, ?hy13⟩) (by assumption) ?rest13
      case hy13 => intro w hSw; (try dsimp only at hSw); go_simp; (try with_reducible rfl)
      try simp only [Act.put, List.getElem_toArray, List.getElem_cons_succ, List.getElem_cons_zero, List.setIfInBounds_toArray, List.set_cons_zero, List.set_cons_succ]
      refine wpAnyH_take (i := 14) (v := ?v14) rfl (by kernel_rfl) (by kernel_rfl) (by kernel_rfl) (fun _ _ _ h => h) (Or.inl ⟨by rfl, ?hy14⟩) (by assumption) ?rest14
      case hy14 => intro w hSw; (try dsimp only at hSw); go_simp; (try with_reducible rfl)
      try simp only [Act.put, List.getElem_toArray, List.getElem_cons_succ, List.getElem_cons_zero, List.setIfInBounds_toArray, List.set_cons_zero, List.set_cons_succ]
      refine wpAnyH_take (i := 15) (v := ?v15) rfl (by kernel_rfl) (by kernel_rfl) (by kernel_rfl) (fun _ _ _ h => h) (Or.inl ⟨by rfl, ?hy15⟩) (by assumption) ?rest15
      case hy15 => intro w hSw; (try dsimp only at hSw); go_simp; (try with_reducible rfl)
      try simp only [Act.put, List.getElem_toArray, List.getElem_cons_succ, List.getElem_cons_zero, List.setIfInBounds_toArray, List.set_cons_zero, List.set_cons_succ]
      refine wpAnyH_take (i := 17) (v := ?v17) rfl (by kernel_rfl) (by kernel_rfl) (by kernel_rfl) (fun _ _ _ h => h) (Or.inl ⟨by rfl, ?hy17⟩) (by assumption) ?rest17
      case hy17 => intro w hSw; (try dsimp only at hSw); go_simp; (try with_reducible rfl)
      try simp only [Act.put, List.getElem_toArray, List.getElem_cons_succ, List.getElem_cons_zero, List.setIfInBounds_toArray, List.set_cons_zero, List.set_cons_succ]
      refine wpAnyH_ready (rs := [16]) (by kernel_rfl) (by simp) (AllReadyH.cons rfl (fun K hK => ?_) AllReadyH.nil)
      go_simp
      refine (unhide X1).mono ?_
      rintro e w2 ⟨rfl, rfl⟩
      clear X1
      refine hK.out _ _ (by simp [go_sem, *]) (fun hHeld => ?_)
      clear hK K
      try simp only [Act.put, List.getElem_toArray, List.getElem_cons_succ, List.getElem_cons_zero, List.setIfInBounds_toArray, List.set_cons_zero, List.set_cons_succ]
      refine wpAnyH_take (i := 18) (v := ?v18) rfl (by kernel_rfl) (by kernel_rfl) (by kernel_rfl) (fun _ _ _ h => h) (Or.inl ⟨by rfl, ?hy18⟩) (by assumption) ?rest18
      case hy18 => intro w hSw; (try dsimp only at hSw); go_simp; (try with_reducible rfl)
      try simp only [Act.put, List.getElem_toArray, List.getElem_cons_succ, List.getElem_cons_zero, List.setIfInBounds_toArray, List.set_cons_zero, List.set_cons_succ]
      refine wpAnyH_take (i := 19) (v := ?v19) rfl (by kernel_rfl) (by kernel_rfl) (by kernel_rfl) (fun _ _ _ h => h) (Or.inl ⟨by rfl, ?hy19⟩) (by assumption) ?rest19
      case hy19 => intro w hSw; (try dsimp only at hSw); go_simp; (try with_reducible rfl)
      try simp only [Act.put, List.getElem_toArray, List.getElem_cons_succ, List.getElem_cons_zero, List.setIfInBounds_toArray, List.set_cons_zero, List.set_cons_succ]
      refine wpAnyH_take (i := 20) (v := ?v20) rfl (by kernel_rfl) (by kernel_rfl) (by kernel_rfl) (fun _ _ _ h => h) (Or.inl ⟨by rfl, ?hy20⟩) (by assumption) ?rest20
      case hy20 => intro w hSw; (try dsimp only at hSw); go_simp; (try with_reducible rfl)
      try simp only [Act.put, List.getElem_toArray, List.getElem_cons_succ, List.getElem_cons_zero, List.setIfInBounds_toArray, List.set_cons_zero, List.set_cons_succ]
      refine wpAnyH_take (i := 21) (v := ?v21) rfl (by kernel_rfl) (by kernel_rfl) (by kernel_rfl) (fun _ _ _ h => h) (Or.inl ⟨by rfl, ?hy21⟩) (by assumption) ?rest21
      case hy21 => intro w hSw; (try dsimp only at hSw); go_simp; (try with_reducible rfl)
      try simp only [Act.put, List.getElem_toArray, List.getElem_cons_succ, List.getElem_cons_zero, List.setIfInBounds_toArray, List.set_cons_zero, List.set_cons_succ]
      refine wpAnyH_take (i := 22) (v := ?v22) rfl (by kernel_rfl) (by kernel_rfl) (by kernel_rfl) (fun _ _ _ h => h) (Or.inl ⟨by rfl, ?hy22⟩) (by assumption) ?rest22
      case hy22 => intro w hSw; (try dsimp only at hSw); go_simp; (try with_reducible rfl)
      try simp only [Act.put, List.getElem_toArray, List.getElem_cons_succ, List.getElem_cons_zero, List.setIfInBounds_toArray, List.set_cons_zero, List.set_cons_succ]
      refine wpAnyH_take (i := 23) (v := ?v23) rfl (by kernel_rfl) (by kernel_rfl) (by kernel_rfl) (fun _ _ _ h => h) (Or.inl ⟨by rfl, ?hy23⟩) (by assumption) ?rest23
      case hy23 => intro w hSw; (try dsimp only at hSw); go_simp; (try with_reducible rfl)
      try simp only [Act.put, List.getElem_toArray, List.getElem_cons_succ, List.getElem_cons_zero, List.setIfInBounds_toArray, List.set_cons_zero, List.set_cons_succ]
      refine wpAnyH_take (i := 24) (v := ?v24) rfl (by kernel_rfl) (by kernel_rfl) (by kernel_rfl) (fun _ _ _ h => h) (Or.inl ⟨by rfl, ?hy24⟩) (by assumption) ?rest24
      case hy24 => intro w hSw; (try dsimp only at hSw); go_simp; (try with_reducible rfl)
      try simp only [Act.put, List.getElem_toArray, List.getElem_cons_succ, List.getElem_cons_zero, List.setIfInBounds_toArray, List.set_cons_zero, List.set_cons_succ]
      refine wpAnyH_take (i := 25) (v := ?v25) rfl (by kernel_rfl) (by kernel_rfl) (by kernel_rfl) (fun _ _ _ h => h) (Or.inl ⟨by rfl, ?hy25⟩) (by assumption) ?rest25
      case hy25 => intro w hSw; (try dsimp only at hSw); go_simp; (try with_reducible rfl)
      try simp only [Act.put, List.getElem_toArray, List.getElem_cons_succ, List.getElem_cons_zero, List.setIfInBounds_toArray, List.set_cons_zero, List.set_cons_succ]
      refine wpAnyH_take (i := 26) (v := ?v26) rfl (by kernel_rfl) (by kernel_rfl) (by kernel_rfl) (fun _ _ _ h => h) (Or.inl ⟨by rfl, ?hy26⟩) (by assumption) ?rest26
      case hy26 => intro w hSw; (try dsimp only at hSw); go_simp; (try with_reducible rfl)
      try simp only [Act.put, List.getElem_toArray, List.getElem_cons_succ, List.getElem_cons_zero, List.setIfInBounds_toArray, List.set_cons_zero, List.set_cons_succ]
      refine wpAnyH_take (i := 27) (v := ?v27) rfl (by kernel_rfl) (by kernel_rfl) (by kernel_rfl) (fun _ _ _ h => h) (Or.inl ⟨by rfl, ?hy27⟩) (by assumption) ?rest27
      case hy27 => intro w hSw; (try dsimp only at hSw); go_simp; (try with_reducible rfl)
      try simp only [Act.put, List.getElem_toArray, List.getElem_cons_succ, List.getElem_cons_zero, List.setIfInBounds_toArray, List.set_cons_zero, List.set_cons_succ]
      refine wpAnyH_take (i := 28) (v := ?v28) rfl (by kernel_rfl) (by kernel_rfl) (by kernel_rfl) (fun _ _ _ h => h) (Or.inl ⟨by rfl, ?hy28⟩) (by assumption) ?rest28
      case hy28 => intro w hSw; (try dsimp only at hSw); go_simp; (try with_reducible rfl)
      try simp only [Act.put, List.getElem_toArray, List.getElem_cons_succ, List.getElem_cons_zero, List.setIfInBounds_toArray, List.set_cons_zero, List.set_cons_succ]
      refine wpAnyH_take (i := 29) (v := ?v29) rfl (by kernel_rfl) (by kernel_rfl) (by kernel_rfl) (fun _ _ _ h => h) (Or.inl ⟨by rfl, ?hy29⟩) (by assumption) ?rest29
      case hy29 => intro w hSw; (try dsimp only at hSw); go_simp; (try with_reducible rfl)
      try simp only [Act.put, List.getElem_toArray, List.getElem_cons_succ, List.getElem_cons_zero, List.setIfInBounds_toArray, List.set_cons_zero, List.set_cons_succ]
      refine wpAnyH_take (i := 30) (v := ?v30) rfl (by kernel_rfl) (by kernel_rfl) (by kernel_rfl) (fun _ _ _ h => h) (Or.inl ⟨by rfl, ?hy30⟩) (by assumption) ?rest30
      case hy30 => intro w hSw; (try dsimp only at hSw); go_simp; (try with_reducible rfl)
      try simp only [Act.put, List.getElem_toArray, List.getElem_cons_succ, List.getElem_cons_zero, List.setIfInBounds_toArray, List.set_cons_zero, List.set_cons_succ]
      refine wpAnyH_take (i := 31) (v := ?v31) rfl (by kernel_rfl) (by kernel_rfl) (by kernel_rfl) (fun _ _ _ h => h) (Or.inl ⟨by rfl, ?hy31⟩) (by assumption) ?rest31
      case hy31 => intro w hSw; (try dsimp only at hSw); go_simp; (try with_reducible rfl)
      try simp only [Act.put, List.getElem_toArray, List.getElem_cons_succ, List.getElem_cons_zero, List.setIfInBounds_toArray, List.set_cons_zero, List.set_cons_succ]
      refine wpAnyH_take (i := 32) (v := ?v32) rfl (by kernel_rfl) (by kernel_rfl) (by kernel_rfl) (fun _ _ _ h => h) (Or.inl ⟨by rfl, ?hy32⟩) (by assumption) ?rest32
      case hy32 => intro w hSw; (try dsimp only at hSw); go_simp; (try with_reducible rfl)
      try simp only [Act.put, List.getElem_toArray, List.getElem_cons_succ, List.getElem_cons_zero, List.setIfInBounds_toArray, List.set_cons_zero, List.set_cons_succ]
      refine wpAnyH_take (i := 33) (v := ?v33) rfl (by kernel_rfl) (by kernel_rfl) (by kernel_rfl) (fun _ _ _ h => h) (Or.inl ⟨by rfl, ?hy33⟩) (by assumption) ?rest33
      case hy33 => intro w hSw; (try dsimp only at hSw); go_simp; (try with_reducible rfl)
      try simp only [Act.put, List.getElem_toArray, List.getElem_cons_succ, List.getElem_cons_zero, List.setIfInBounds_toArray, List.set_cons_zero, List.set_cons_succ]
      refine wpAnyH_take (i := 34) (v := ?v34) rfl (by kernel_rfl) (by kernel_rfl) (by kernel_rfl) (fun _ _ _ h => h) (Or.inl ⟨by rfl, ?hy34⟩) (by assumption) ?rest34
      case hy34 => intro w hSw; (try dsimp only at hSw); go_simp; (try with_reducible rfl)
      try simp only [Act.put, List.getElem_toArray, List.getElem_cons_succ, List.getElem_cons_zero, List.setIfInBounds_toArray, List.set_cons_zero, List.set_cons_succ]
      refine wpAnyH_ready (rs := [35]) (by kernel_rfl) (by simp) (AllReadyH.cons rfl (fun K hK => ?_) AllReadyH.nil)
      go_simp
      refine (unhide X2).mono ?_
      rintro e w3 ⟨rfl, hb9⟩
      have hb := below_undrew (q := 1) hb9
      clear hb9
      have BB := hide (hb1.trans (hb.mono (unhide SZ)))
      obtain ⟨z0, z1, z2, z3⟩ := unhide KK w3 (unhide BB)
      clear hb X2
      refine hK.out _ _ (by simp [go_sem, *]) (fun hHeld => ?_)
      clear hK K
      try simp only [Act.put, List.getElem_toArray, List.getElem_cons_succ, List.getElem_cons_zero, List.setIfInBounds_toArray, List.set_cons_zero, List.set_cons_succ]
      refine wpAnyH_take (i := 36) (v := ?v36) rfl (by kernel_rfl) (by kernel_rfl) (by kernel_rfl) (fun _ _ _ h => h) (Or.inl ⟨by rfl, ?hy36⟩) (by assumption) ?rest36
      case hy36 => intro w hSw; (try dsimp only at hSw); go_simp; (try with_reducible rfl)
      try simp only [Act.put, List.getElem_toArray, List.getElem_cons_succ, List.getElem_cons_zero, List.setIfInBounds_toArray, List.set_cons_zero, List.set_cons_succ]
      refine wpAnyH_done (by kernel_rfl) ?_ _
      unfold HT
      go_wp2_with fail
      go_roundg (gk - 1)
      case rel => exact ⟨j + 1, by omega, rfl, unhide BB⟩
      all_goals omega
    · have : j = ps.length := by omega
      subst this
      have HB := hide hb1
      go_wp2
      go_ret
      exact ⟨rfl, unhide HB⟩
end Go.Proofs.Ytbkneonbpcmepaa
/- Check: a knot; the top of a tree that begins with an item. -/

namespace Go.Proofs.Ytbkneonbpcmepaa
open Go.RowKit Go.Arb
set_option linter.unusedVariables false
set_option linter.unusedSimpArgs false

set_option maxRecDepth 100000 in
theorem knotFits_zero (p : Nat) : FitR p 0 := by
  intro t u k w m nd wf hu hl h9 hf
  have hs : sm 0 t = one (Lf.w t) := smL_one _
  have kn : Kn w (Lf.a t) u nilS 0 (Lf.v t : Nat) 0 (one (Lf.w t)) := by
    have := m.root
    unfold Root at this
    rw [hs] at this
    exact this
  have fb := wf.fit ((Lf.v t, Lf.a t), Lf.w t) (List.mem_singleton.2 rfl)
  have hy : fitB (Lf.w t) = true := by simp only [fitB, decide_eq_true_eq]; exact fb
  have C := hide (itemFits_any (p := p) kn (fun q => by
    have := hf (Lf.v t, Lf.a t) (List.mem_singleton.2 rfl) (w.drewN q) (below_drewN (Below.refl _ _) q)
    exact this) hy)
  obtain ⟨_, _, q2, _⟩ := kn.cells
  rw [show adr 0 t = Lf.a t from rfl]
  clear kn m hf wf fb hs hy
  generalize Lf.a t = a at *
  unfold ptr at *
  go_enter Try.func65, Try.ntmps65
  go_wp2_with fail
  refine (unhide C).mono ?_
  rintro e w1 ⟨rfl, hb⟩
  have B := hide hb
  clear hb C
  go_wp2
  go_ret
  exact ⟨rfl, unhide B⟩
set_option maxRecDepth 100000 in
theorem knotFits_step (p h : Nat) (ih : FitR p h) : FitR p (h + 1) := by
  intro t u k w m nd wf hu hl h9 hf
  obtain ⟨x, cap, e, c1, c2, c3, c4⟩ := (show Row w (Nd.r t) _ from m.2.1).form
  rw [List.length_map] at e
  have hk2 : 2 ≤ k := by rcases hu with ⟨_, h⟩ | ⟨_, _, h⟩ <;> omega
  have kn : Kn w (Nd.a t) u (.slice x (Nd.ps t).length cap) ((h + 1 : Nat) : Int) (-1) (Nd.m t) (sm (h + 1) t) := by rw [← e]; exact m.root
  have w8 := wf.1
  have C1 := hide (sizeFits_any kn w8.2 (by
    rcases hu with ⟨h1, h2⟩ | ⟨b, h1, h2⟩
    · exact .inl ⟨h1, by omega⟩
    · exact .inr ⟨b, h1, by omega⟩))
  have C2 := hide (partsFit_any ih t u w m nd wf hl h9 hf)
  have C3 := hide (fun w1 (hb : Below w.heap.size w w1) => sumFits_any t u w1 (m.keep (Keep.ofBelow hb []) (fun _ _ => by simp)) hk2 wf hl)
  obtain ⟨_, _, q2, _⟩ := kn.cells
  have hz : (((h + 1 : Nat) : Int) == 0) = false := by rw [beq_eq_false_iff_ne]; omega
  rw [show adr (h + 1) t = Nd.a t from rfl]
  clear kn m hf wf nd hl hu w8 e c3 c4 ih
  generalize Nd.a t = a at *
  generalize ((h + 1 : Nat) : Int) = H1 at *
  unfold ptr at *
  go_enter Try.func65, Try.ntmps65
  go_wp2_with fail
  refine (unhide C1).mono ?_
  rintro e w1 ⟨rfl, rfl⟩
  clear C1
  go_wp2_with fail
  refine (unhide C2).mono ?_
  rintro e w2 ⟨rfl, hb⟩
  have B := hide hb
  clear hb C2
  go_wp2_with fail
  refine (unhide C3 _ (unhide B)).mono ?_
  rintro e w3 ⟨rfl, hb⟩
  have B2 := hide ((unhide B).trans (hb.mono (unhide B).size))
  clear hb C3 B
  go_wp2
  go_ret
  exact ⟨rfl, unhide B2⟩
theorem knotFits_any (p : Nat) : ∀ h, FitR p h
  | 0 => knotFits_zero p
  | h + 1 => knotFits_step p h (knotFits_any p h)
end Go.Proofs.Ytbkneonbpcmepaa
/- Check: the top of a tree that begins with an item. -/

namespace Go.Proofs.Ytbkneonbpcmepaa
open Go.RowKit Go.Arb
set_option linter.unusedVariables false
set_option linter.unusedSimpArgs false

theorem drewN2 (w : World) (a b : Nat) : (w.drewN a).drewN b = w.drewN (a + b) := by simp [World.drewN, Nat.add_assoc]
theorem pre_first {d h : Nat} (c : Cx (d + 1) h) (hL : (hd c).L = []) : pre (d + 1) h c = pre d (h + 1) (tl c) := by
  rw [pre, hL]; simp [rz]
theorem pre_later {d h : Nat} (c : Cx (d + 1) h) {s : Tr h} {L : List (Tr h)} (hL : (hd c).L = s :: L) (ws : Wf h 4 s) : pre (d + 1) h c ≠ [] := fun e => by
  rw [pre, hL, List.append_eq_nil_iff] at e
  have h1 := congrArg List.length e.2
  rw [rz_length, List.flatMap_cons, List.length_append] at h1
  have h2 := List.length_pos_iff.2 (its_ne (by decide) ws)
  simp only [List.length_nil] at h1
  omega
set_option maxRecDepth 100000 in
theorem topOfFirst_any (T : Tp) (w : World) (o : Own1 w T) (d0 : Nat) (c0 : Cx d0 0) (x0 : Tr 0) (e0 : plug d0 0 c0 x0 = T) :
    Calls Try.prog 64 #[ptr (adr 0 x0)] w fun e w' => e = .returned (if pre d0 0 c0 = [] then .pointer (some ⟨adr T.h T.t, 0, none⟩) else .pointer none) ∧ ∃ q, w' = w.drewN q := by
  have O := hide (fun q => (show Own1 (w.drewN q) T from o.keep (keep_drewN [] w q) (fun _ _ => by simp)))
  clear o
  generalize hP : pre d0 0 c0 = P at *
  have HP := hide hP
  clear hP
  generalize hR : (if P = [] then Value.pointer (some ⟨adr T.h T.t, 0, none⟩) else .pointer none) = R
  have HR := hide hR
  clear hR
  unfold ptr
  go_enter Try.func64, Try.ntmps64
  go_wp2_with fail
  go_loopg [0] d0 (fun gk k w' => ∃ (d h : Nat) (c : Cx d h) (t : Tr h) (q : Nat), Hid (d = gk) ∧ Hid (plug d h c t = T) ∧ Hid (pre d h c = [] ↔ P = []) ∧ k = .pointer (some ⟨adr h t, 0, none⟩) ∧ w' = w.drewN q)
  case atStart => exact ⟨d0, 0, c0, x0, 0, hide rfl, hide e0, hide (by rw [unhide HP]), rfl, rfl⟩
  case round =>
    obtain ⟨d, h, c, t, q, hg, he, hn, rfl, rfl⟩ := hrel
    have oo := unhide O q
    obtain ⟨m1, m2⟩ := (mem_plug d h c t).1 (by rw [unhide he]; exact oo.mem)
    obtain ⟨q0, _, q2, _⟩ := Kn.cells m1.root
    cases d with
    | zero =>
      simp only [upC] at q0
      have e1 : (⟨h, t⟩ : Tp) = T := unhide he
      have e2 : R = .pointer (some ⟨adr h t, 0, none⟩) := by
        rw [← unhide HR, if_pos ((unhide hn).1 rfl), ← e1]
      have E2 := hide e2
      clear oo m1 m2 he hn e1 e2 HP HR O q2
      generalize adr h t = a at *
      go_wp2
      go_ret
      exact ⟨by rw [unhide E2]; rfl, _, rfl⟩
    | succ d =>
      simp only [upC] at q0
      have ws := wfC_of (d + 1) h c t (by rw [unhide he]; exact oo.wf)
      have hnd : (fp (plug (d + 1) h c t).h (plug (d + 1) h c t).t).Nodup := by rw [unhide he]; exact oo.nd
      have nn := (fp_plug (d + 1) h c t).nodup hnd
      rw [List.nodup_append] at nn
      obtain ⟨k1, k2, k3, k4⟩ := m2
      obtain ⟨_, r1, r2, _⟩ := Kn.cells (show Kn _ _ _ _ _ _ _ _ from k1)
      rw [show adr (h + 1) (fill (hd c) t) = (hd c).a from rfl] at r1 r2
      rw [show rowOf (h + 1) (fill (hd c) t) = (hd c).r from rfl] at r1
      obtain ⟨xx, cap, e, c1, c2, c3, c4⟩ := k2.form
      have hlen : (((hd c).L ++ t :: (hd c).R).map (adr h)).length = (hd c).L.length + 1 + (hd c).R.length := by rw [List.length_map, mem_at]
      rw [hlen] at e c1 c3 c4
      obtain ⟨g, rfl, hgl, _⟩ := c3 (by omega)
      have f0 := c4 g rfl 0 (by omega)
      rw [e] at r1
      have lt_ : Lv (w.drewN q) (adr h t) := Kn.lv (show Kn _ _ _ _ _ _ _ _ from m1.root)
      have hHH : decide (((h + 1 : Nat) : Int) ≤ (h : Int)) = false := decide_eq_false (by omega)
      have i0n : 0 < (hd c).L.length + 1 + (hd c).R.length := by omega
      have hn0 : ((((hd c).L.length + 1 + (hd c).R.length : Nat) : Int) == 0) = false := by rw [beq_eq_false_iff_ne]; omega
      have i0 : (0 : Int) < (((hd c).L.length + 1 + (hd c).R.length : Nat) : Int) := by omega
      have he2 := hide (show plug d (h + 1) (tl c) (fill (hd c) t) = T from unhide he)
      have e3 : adr (h + 1) (fill (hd c) t) = (hd c).a := rfl
      cases hL : (hd c).L with
      | nil =>
        rw [hL] at f0
        simp only [List.nil_append, List.map_cons, List.getD_cons_zero] at f0
        have hq := fun W => neq_same (adr h t) W
        have hn2 := hide (show (pre d (h + 1) (tl c) = [] ↔ P = []) by rw [← pre_first c hL]; exact unhide hn)
        clear oo m1 k1 k2 k3 k4 ws hnd nn c3 c4 e hn he lt_ hL hlen
        unfold ptr at *
        generalize adr h t = a at *
        generalize (hd c).L.length + 1 + (hd c).R.length = n at *
        generalize ((h + 1 : Nat) : Int) = H1 at *
        generalize (h : Int) = H0 at *
        generalize hW : w.drewN q = W at *
        have HW := hide hW
        clear hW
        go_wp2_with fail
        go_quiet (fail)
        go_wp2
        go_roundg (gk - 1)
        case rel => exact ⟨d, h + 1, tl c, fill (hd c) t, _, hide (by have := unhide hg; omega), he2, hn2, by rw [e3], by rw [← unhide HW]; exact drewN2 w q _⟩
        all_goals (have := unhide hg; omega)
      | cons s L =>
        rw [hL] at f0
        simp only [List.cons_append, List.map_cons, List.getD_cons_zero] at f0
        have hsL : s ∈ (hd c).L := by rw [hL]; simp
        have ls : Lv (w.drewN q) (adr h s) := Kn.lv (show Kn _ _ _ _ _ _ _ _ from (k3 s (by simp [hsL])).root)
        have hne : adr h s ≠ adr h t := fun e9 => nn.2.2 _ (adr_fp h t) _ ((mem_fpC c _).2 (.inr (.inr (.inl (fps_mem hsL (by rw [← e9]; exact adr_fp h s)))))) rfl
        have hq : ∀ k, (binOp .neq 66 (.pointer (some ⟨adr h s, 0, none⟩)) (.pointer (some ⟨adr h t, 0, none⟩))).run Try.prog ((w.drewN q).drewN k) = .ok (.bool true) ((w.drewN q).drewN k) := fun k => by
          have := neq_ptr ((w.drewN q).drewN k) (adr h s) (adr h t) (ls.keep (keep_drewN [] _ k) (by simp)) (lt_.keep (keep_drewN [] _ k) (by simp))
          rw [this, decide_eq_true hne]
        have e2 : R = .pointer none := by
          rw [← unhide HR, if_neg (fun h' => pre_later c hL (ws.1.2.1 s hsL) ((unhide hn).2 h'))]
        have E2 := hide e2
        clear oo m1 k1 k2 k3 k4 ws hnd nn c3 c4 e hn he lt_ hL hlen e2 hsL ls HR he2
        unfold ptr at *
        generalize adr h t = a at *
        generalize adr h s = b at *
        generalize (hd c).L.length + 1 + (hd c).R.length = n at *
        generalize ((h + 1 : Nat) : Int) = H1 at *
        generalize (h : Int) = H0 at *
        generalize hW : w.drewN q = W at *
        have HW := hide hW
        clear hW
        go_wp2_with fail
        go_quiet (fail)
        go_wp2
        go_ret
        exact ⟨by rw [unhide E2]; rfl, _, by rw [← unhide HW]; exact drewN2 w q _⟩
end Go.Proofs.Ytbkneonbpcmepaa
/- Check of the pool. -/

namespace Go.Proofs.Ytbkneonbpcmepaa
open Go.RowKit Go.Arb
set_option linter.unusedVariables false
set_option linter.unusedSimpArgs false

theorem sum_two (g h : Nat → Nat) (n : Nat) : ((List.range n).map fun i => g i + h i).sum = ((List.range n).map g).sum + ((List.range n).map h).sum := by
  induction n with
  | zero => rfl
  | succ n ih => simp only [List.range_succ, List.map_append, List.sum_append, ih, List.map_cons, List.map_nil, List.sum_cons, List.sum_nil]; omega
theorem sum_none (a c n : Nat) (h : n ≤ a) : ((List.range n).map fun i => if a = i then c else 0).sum = 0 := by
  induction n with
  | zero => rfl
  | succ n ih => rw [List.range_succ, List.map_append, List.sum_append, ih (by omega)]; simp; omega
theorem sum_one (a c n : Nat) (h : a < n) : ((List.range n).map fun i => if a = i then c else 0).sum = c := by
  induction n with
  | zero => omega
  | succ n ih =>
    rw [List.range_succ, List.map_append, List.sum_append]
    by_cases e : a = n
    · subst e; rw [sum_none _ _ _ (Nat.le_refl _)]; simp
    · rw [ih (by omega)]; simp [e]
def cnt (l : List Nat) (j : Nat) : Nat := ((List.range j).map fun i => if i ∈ l then 1 else 0).sum
def hds (L : List (List Nat)) (i : Nat) : Nat := (L.map fun m => if m.head? = some i then m.length else 0).sum
def fnd (L : List (List Nat)) (j : Nat) : Nat := ((List.range j).map (hds L)).sum
theorem cnt_step (l : List Nat) (j : Nat) : cnt l (j + 1) = cnt l j + if j ∈ l then 1 else 0 := by simp [cnt, List.range_succ]
theorem fnd_step (L : List (List Nat)) (j : Nat) : fnd L (j + 1) = fnd L j + hds L j := by simp [fnd, List.range_succ]
theorem cnt_le (l : List Nat) (j : Nat) : cnt l j ≤ j := by
  induction j with
  | zero => simp [cnt]
  | succ j ih => rw [cnt_step]; split <;> omega
theorem cnt_all : ∀ (l : List Nat) (n : Nat), l.Nodup → (∀ v ∈ l, v < n) → cnt l n = l.length
  | [], n, _, _ => by
    induction n with
    | zero => rfl
    | succ n ih => rw [cnt_step, ih (fun v hv => by simp at hv)]; simp
  | a :: l, n, h, hb => by
    rw [List.nodup_cons] at h
    have e : (fun i => if i ∈ a :: l then 1 else 0) = fun i => (if a = i then 1 else 0) + if i ∈ l then 1 else 0 := by
      funext i
      by_cases e : a = i
      · subst e; simp [h.1]
      · have e' : ¬ i = a := fun h => e h.symm
        simp [e, e']
    rw [cnt, e, sum_two, sum_one a 1 n (hb a (by simp))]
    have := cnt_all l n h.2 (fun v hv => hb v (by simp [hv]))
    unfold cnt at this
    rw [this]; simp; omega
theorem fnd_all : ∀ (L : List (List Nat)) (n : Nat), (∀ l ∈ L, l ≠ []) → (∀ v ∈ L.flatten, v < n) → fnd L n = L.flatten.length
  | [], n, _, _ => by
    induction n with
    | zero => rfl
    | succ n ih => rw [fnd_step, ih (fun v hv => by simp at hv)]; simp [hds]
  | m :: L, n, h, hb => by
    obtain ⟨a, l, rfl⟩ := List.exists_cons_of_ne_nil (h m (by simp))
    have e : hds ((a :: l) :: L) = fun i => (if a = i then (a :: l).length else 0) + hds L i := by
      funext i
      simp [hds]
    rw [fnd, e, sum_two, sum_one a _ n (hb a (by simp))]
    have := fnd_all L n (fun l hl => h l (by simp [hl])) (fun v hv => hb v (by rw [List.flatten_cons]; exact List.mem_append.2 (.inr hv)))
    unfold fnd at this
    rw [this, List.flatten_cons, List.length_append]
theorem fnd_mono (L : List (List Nat)) (j k : Nat) : fnd L j ≤ fnd L (j + k) := by
  induction k with
  | zero => exact Nat.le_refl _
  | succ k ih => rw [← Nat.add_assoc, fnd_step]; omega
theorem hds_none {L : List (List Nat)} {i : Nat} (h : i ∉ L.flatten) : hds L i = 0 := by
  induction L with
  | nil => rfl
  | cons m L ih =>
    rw [List.flatten_cons, List.mem_append, not_or] at h
    have e : hds (m :: L) i = (if m.head? = some i then m.length else 0) + hds L i := by simp [hds]
    rw [e, ih h.2, if_neg (fun hm => h.1 (List.mem_of_head? hm))]
theorem hds_at {L : List (List Nat)} {l : List Nat} {i : Nat} (nd : L.flatten.Nodup) (hl : l ∈ L) (hi : i ∈ l) : hds L i = if l.head? = some i then l.length else 0 := by
  induction L with
  | nil => simp at hl
  | cons m L ih =>
    have e : hds (m :: L) i = (if m.head? = some i then m.length else 0) + hds L i := by simp [hds]
    rw [List.flatten_cons, List.nodup_append] at nd
    rw [e]
    rcases List.mem_cons.1 hl with rfl | hl
    · rw [hds_none (fun hc => nd.2.2 i hi i hc rfl), Nat.add_zero]
    · rw [ih nd.2.1 hl, if_neg (fun hm => nd.2.2 i (List.mem_of_head? hm) i (List.mem_flatten.2 ⟨l, hl, hi⟩) rfl), Nat.zero_add]

section
variable {w w' : World} {p : Nat} {v : Value} {xs : List Value} {ad : Nat → Nat} {F F' : List Tp} {A : Se}
theorem Ctx.finds {T : Tp} {u d : Nat} {c : Cx d 0} {x : Tr 0} (q : Ctx w p v xs ad T F A u d c x) : Finds p w (its T.h T.t) := fun k hk W hb => by
  have e : its T.h T.t = itw A.W ad (A.seq u) := q.ti
  rw [e, ids_itw] at hk
  obtain ⟨y, hy, rfl⟩ := List.mem_map.1 hk
  have hyf : y ∈ A.L.flatten := List.mem_flatten.2 ⟨_, q.inL, hy⟩
  have h1 := find_any (y : Int) (q.pb.below hb)
  rw [findV_yes ad (show A.hasI (y : Int) = true from by rw [A.hasI_nat]; simpa using hyf)] at h1
  refine h1.mono ?_
  rintro e' W' ⟨rfl, rfl⟩
  exact ⟨rfl, rfl⟩
theorem Ctx.first {T : Tp} {u d : Nat} {c : Cx d 0} {x : Tr 0} (q : Ctx w p v xs ad T F A u d c x) : pre d 0 c = [] ↔ (A.seq u).head? = some u := by
  have h1 := q.split.1
  have hi := q.mem
  rw [← List.length_eq_zero_iff, ← h1]
  cases hs : A.seq u with
  | nil => rw [hs] at hi; simp at hi
  | cons y l =>
    by_cases e : y = u
    · subst e; simp
    · have e' : (y == u) = false := by simpa using e
      simp [List.idxOf_cons, e, e']
/-- What Check finds at a place of the list. -/
def Look (w wr : World) (p : Nat) (ad : Nat → Nat) (A : Se) (j : Nat) : Prop :=
  wr.cell? ⟨ad j, 3, none⟩ = some (.int .i64 (j : Int)) ∧ hds A.L j ≤ 4194304 ∧
    ((hds A.L j = 0 ∧ Calls Try.prog 64 #[.pointer (some ⟨ad j, 0, none⟩)] wr fun e w' => e = .returned (.pointer none) ∧ ∃ q, w' = wr.drewN q) ∨
     ∃ B, (Calls Try.prog 64 #[.pointer (some ⟨ad j, 0, none⟩)] wr fun e w' => e = .returned (.pointer (some ⟨B, 0, none⟩)) ∧ ∃ q, w' = wr.drewN q) ∧
      ∀ q, Calls Try.prog 65 #[.pointer (some ⟨p, 0, none⟩), .pointer (some ⟨B, 0, none⟩)] (wr.drewN q) fun e w' => e = .returned (.bool true) ∧ Below wr.heap.size wr w' ∧ w'.cell? ⟨B, 5, none⟩ = some (.int .i64 (hds A.L j : Nat)))
theorem PB.look (h : PB w p v xs ad F A) {j : Nat} (hj : j ∈ A.L.flatten) {wr : World} (hb : Below w.heap.size w wr) : Look w wr p ad A j := by
  obtain ⟨T, F1, d, c, x, q⟩ := (h.below hb).ctx hj
  have hh := hds_at h.nd q.inL q.mem
  have hlen := q.len
  have m0 := ((mem_plug d 0 c x).1 (by rw [q.pl]; exact q.own.mem)).1
  obtain ⟨_, _, _, i3, _⟩ := Kn.cells m0.root
  rw [q.a, show itm 0 x = ((Lf.v x : Nat) : Int) from rfl, q.v] at i3
  have tt := topOfFirst_any T wr q.own d c x q.pl
  rw [q.a] at tt
  refine ⟨i3, by rw [hh]; split <;> omega, ?_⟩
  by_cases e : (A.seq j).head? = some j
  · right
    rw [if_pos (q.first.2 e)] at tt
    rw [hh, if_pos e]
    refine ⟨adr T.h T.t, tt, fun k => ?_⟩
    have o := (q.drewN k).own
    refine (knotFits_any p T.h T.t (.pointer none) 2 (wr.drewN k) o.mem o.nd o.wf (.inl ⟨rfl, Nat.le_refl _⟩) o.len (by have := height_le o.wf (Nat.le_refl _) o.len; omega) (q.drewN k).finds).mono ?_
    rintro e' w' ⟨rfl, hb'⟩
    refine ⟨rfl, below_undrew hb', ?_⟩
    have := (Kn.cells ((q.drewN k).below hb').kn).2.2.2.2.2.1
    rw [this, ofR_c, List.length_map]
  · left
    rw [if_neg (fun h' => e (q.first.1 h'))] at tt
    exact ⟨by rw [hh, if_neg e], tt⟩
set_option maxRecDepth 100000 in
set_option maxHeartbeats 2000000 in
theorem check_any (h : PB w p v xs ad F A) : Calls Try.prog 41 #[.pointer (some ⟨p, 0, none⟩)] w fun e w' => e = .returned (.bool true) ∧ Below w.heap.size w w' := by
  obtain ⟨c0, c1, _, _⟩ := h.head
  have hn := h.n
  have xn := h.xn
  have LK := hide (fun j (hj : j ∈ A.L.flatten) wr (hb : Below w.heap.size w wr) => h.look hj hb)
  obtain ⟨y, cap, rfl, k1, k2, k3⟩ := row_form h.row
  have RD := hide (fun j (hj : j < xs.length) wr (hb : Below w.heap.size w wr) => (show ∃ g, y = some ⟨g, 0, none⟩ ∧ wr.cell? ⟨g, j, none⟩ = some (if j ∈ A.L.flatten then .pointer (some ⟨ad j, 0, none⟩) else .pointer none) from by
    obtain ⟨g, rfl, kl, _, kc⟩ := k3 (by omega)
    refine ⟨g, rfl, ?_⟩
    rw [hb.cell (p := ⟨g, j, none⟩) kl, (kc j (by omega)).1, h.cel j hj]
    rfl))
  have e1 := cnt_all A.L.flatten xs.length h.nd h.lt
  have e2 := fnd_all A.L xs.length h.ne h.lt
  have EE := hide (e1.trans e2.symm)
  have fb := hide (fun j (hj : j ≤ xs.length) => (show fnd A.L j ≤ 4194304 from by
    obtain ⟨k, hk⟩ := Nat.le.dest hj
    have h1 := fnd_mono A.L j k
    rw [hk, e2] at h1
    have h2 := length_le h.nd h.lt
    omega))
  have g1 : decide ((4194304 : Int) < (A.n : Int)) = false := decide_eq_false (by omega)
  have g2 : decide ((A.n : Int) < (xs.length : Int)) = false := decide_eq_false (by omega)
  have g3 : decide (A.n < xs.length) = false := decide_eq_false (by omega)
  have hx4 : xs.length ≤ 4194304 := by omega
  clear h k3 e1 e2
  go_enter Try.func41, Try.ntmps41
  go_wp2_with fail
  go_quiet (fail)
  go_wp2_with fail
  have B0 := hide (Below.refl w.heap.size w)
  go_loopg [3, 4, 34] xs.length (fun gk v3 v4 v5 w' => ∃ j : Nat, j + gk = xs.length ∧ v3 = .int .i64 (cnt A.L.flatten j : Nat) ∧ v4 = .int .i64 (fnd A.L j : Nat) ∧ v5 = .int .i64 (j : Int) ∧ Below w.heap.size w w')
  case atStart => exact ⟨0, by omega, rfl, rfl, rfl, below_drewN (Below.refl _ _) _⟩
  case round =>
    obtain ⟨j, hj, rfl, rfl, rfl, hb⟩ := hrel
    have HB := hide hb
    by_cases h8 : j < xs.length
    · obtain ⟨g, rfl, e1⟩ := unhide RD j h8 _ hb
      have s1 := cnt_step A.L.flatten j
      have s2 := fnd_step A.L j
      have cl := cnt_le A.L.flatten j
      have fl := unhide fb (j + 1) (by omega)
      have i8 : (j : Int) < (xs.length : Int) := by omega
      rw [s2] at fl
      by_cases hm : j ∈ A.L.flatten
      · rw [if_pos hm] at e1 s1
        obtain ⟨e3, e4, L⟩ := unhide LK j hm _ hb
        generalize cnt A.L.flatten j = cc at *
        generalize fnd A.L j = ff at *
        generalize hds A.L j = dd at *
        have S1 := hide s1
        have S2 := hide s2
        clear s1 s2 hb hm
        generalize ad j = a at *
        rcases L with ⟨z, T1⟩ | ⟨B, T1, K1⟩
        · have T1 := hide T1
          have Z := hide z
          clear z
          go_wp2_with fail
          refine (unhide T1).mono ?_
          rintro e w2 ⟨rfl, q, rfl⟩
          clear T1
          go_wp2
          go_roundg (gk - 1)
          case rel => exact ⟨j + 1, by omega, by rw [unhide S1]; simp, by rw [unhide S2, unhide Z]; simp, rfl, below_drewN (unhide HB) q⟩
          all_goals omega
        · have T1 := hide T1
          have K1 := hide K1
          go_wp2_with fail
          refine (unhide T1).mono ?_
          rintro e w2 ⟨rfl, q, rfl⟩
          clear T1
          go_wp2_with fail
          refine (unhide K1 q).mono ?_
          rintro e w3 ⟨rfl, hb3, e5⟩
          have H3 := hide ((unhide HB).trans (hb3.mono (unhide HB).size))
          clear hb3 K1
          go_wp2
          go_roundg (gk - 1)
          case rel => exact ⟨j + 1, by omega, by rw [unhide S1]; simp, by rw [unhide S2]; simp, rfl, unhide H3⟩
          all_goals omega
      · rw [if_neg hm] at e1 s1
        rw [hds_none hm] at s2
        generalize cnt A.L.flatten j = cc at *
        generalize fnd A.L j = ff at *
        have S1 := hide s1
        have S2 := hide s2
        clear s1 s2 hb hm fl
        go_wp2
        go_roundg (gk - 1)
        case rel => exact ⟨j + 1, by omega, by rw [unhide S1]; simp, by rw [unhide S2]; simp, rfl, unhide HB⟩
        all_goals omega
    · have hje : j = xs.length := by omega
      subst hje
      rw [unhide EE]
      generalize fnd A.L xs.length = ff at *
      clear hb
      go_wp2
      go_ret
      exact ⟨rfl, unhide HB⟩
end
end Go.Proofs.Ytbkneonbpcmepaa
/- What a nil pool answers; Check. -/

namespace Go.Proofs.Ytbkneonbpcmepaa
open Go.RowKit Go.Arb
set_option linter.unusedVariables false
set_option linter.unusedSimpArgs false

set_option maxHeartbeats 400000 in
theorem check_nil (w : World) : Calls Try.prog 41 #[.pointer none] w fun e w' => e = .returned (.bool false) ∧ Below w.heap.size w w' := by
  go_enter Try.func41, Try.ntmps41
  go_wp2_with fail
  go_quiet (fail)
  go_wp2
  go_ret
  exact ⟨rfl, below_drewN (Below.refl _ _) _⟩
theorem aCheck {w : World} {p : Nat} {A : Se} {ks : List Nat} (h : At w p A ks) : Calls Try.prog 41 #[.pointer (some ⟨p, 0, none⟩)] w fun e w' => e = .returned (.bool true) ∧ ∃ ks', At w' p A ks' ∧ Keep ks w w' ∧ Grew w ks ks' := by
  obtain ⟨v, xs, ad, F, h1, rfl⟩ := id h
  refine (check_any h1).mono ?_
  rintro e w' ⟨rfl, hb⟩; exact ⟨rfl, h.stays hb⟩
theorem nRange (a b : Int) (w : World) : Calls Try.prog 25 #[.pointer none, .int .i64 a, .int .i64 b] w fun e w' => e = .returned (.tuple #[smV zero, .bool false]) ∧ Below w.heap.size w w' := (range_nil a b w)
theorem nGet (x : Int) (w : World) : Calls Try.prog 27 #[.pointer none, .int .i64 x] w fun e w' => e = .returned (.tuple #[.int .i64 0, .bool false]) ∧ Below w.heap.size w w' := (get_nil x w).mono fun e w' h => ⟨h.1, h.2 ▸ Below.refl _ _⟩
theorem nHas (x : Int) (w : World) : Calls Try.prog 29 #[.pointer none, .int .i64 x] w fun e w' => e = .returned (.bool false) ∧ Below w.heap.size w w' := (has_nil x w).mono fun e w' h => ⟨h.1, h.2 ▸ Below.refl _ _⟩
theorem nAdd (x y : Int) (w : World) : Calls Try.prog 13 #[.pointer none, .int .i64 x, .int .i64 y] w fun e w' => e = .returned (.bool false) ∧ Below w.heap.size w w' := (padd_nil x y w).mono fun e w' h => ⟨h.1, h.2 ▸ Below.refl _ _⟩
theorem nDrop (x : Int) (w : World) : Calls Try.prog 15 #[.pointer none, .int .i64 x] w fun e w' => e = .returned (.bool false) ∧ Below w.heap.size w w' := (pdrop_nil x w)
theorem nLen (x : Int) (w : World) : Calls Try.prog 31 #[.pointer none, .int .i64 x] w fun e w' => e = .returned (.int .i64 0) ∧ Below w.heap.size w w' := (len_nil x w)
theorem nRank (x : Int) (w : World) : Calls Try.prog 33 #[.pointer none, .int .i64 x] w fun e w' => e = .returned (.int .i64 (-1)) ∧ Below w.heap.size w w' := (rank_nil x w).mono fun e w' h => ⟨h.1, h.2 ▸ Below.refl _ _⟩
theorem nAt (x k : Int) (w : World) : Calls Try.prog 35 #[.pointer none, .int .i64 x, .int .i64 k] w fun e w' => e = .returned (.int .i64 (-1)) ∧ Below w.heap.size w w' := (at_nil x k w)
theorem nSame (a b : Int) (w : World) : Calls Try.prog 37 #[.pointer none, .int .i64 a, .int .i64 b] w fun e w' => e = .returned (.bool false) ∧ Below w.heap.size w w' := (same_nil a b w).mono fun e w' h => ⟨h.1, by obtain ⟨q, hq⟩ := h.2; rw [hq]; exact below_drewN (Below.refl _ _) q⟩
theorem nBefore (x : Int) (w : World) : Calls Try.prog 17 #[.pointer none, .int .i64 x] w fun e w' => e = .returned (.bool false) ∧ Below w.heap.size w w' := (before_nil x w).mono fun e w' h => ⟨h.1, h.2 ▸ Below.refl _ _⟩
theorem nJoin (a b : Int) (w : World) : Calls Try.prog 19 #[.pointer none, .int .i64 a, .int .i64 b] w fun e w' => e = .returned (.bool false) ∧ Below w.heap.size w w' := (pjoin_nil a b w).mono fun e w' h => ⟨h.1, h.2 ▸ Below.refl _ _⟩
theorem nSet (x y : Int) (w : World) : Calls Try.prog 21 #[.pointer none, .int .i64 x, .int .i64 y] w fun e w' => e = .returned (.bool false) ∧ Below w.heap.size w w' := (pset_nil x y w).mono fun e w' h => ⟨h.1, h.2 ▸ Below.refl _ _⟩
theorem nLift (a b d : Int) (w : World) : Calls Try.prog 23 #[.pointer none, .int .i64 a, .int .i64 b, .int .i64 d] w fun e w' => e = .returned (.bool false) ∧ Below w.heap.size w w' := plift_nil a b d w
theorem nCheck (w : World) : Calls Try.prog 41 #[.pointer none] w fun e w' => e = .returned (.bool false) ∧ Below w.heap.size w w' := check_nil w
theorem nNew (n : Int) (w : World) (h : n < 0 ∨ 4194304 < n) : Calls Try.prog 11 #[.int .i64 n] w fun e w' => e = .returned (.pointer none) ∧ Below w.heap.size w w' := (pnew_no n w h).mono fun e w' h => ⟨h.1, h.2 ▸ Below.refl _ _⟩
end Go.Proofs.Ytbkneonbpcmepaa
