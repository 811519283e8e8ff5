import Derived.Test.YtakgacahaennoaaDoorE3
namespace Go.Proofs.YtakgacahaennoaaDoor
open Go.RowKit Go.Arb
attribute [local go_sem ↓] Go.wp_at_zero Go.wp_at_succ

theorem cut_row {B : Nat} {W : World} {v : Value} {l : List Int} {k : Nat} (hk : k < l.length) (h : W.ownsRow B 3 1 v (0 + k + (l.length - (k + 1))) ([] ++ (l.take k).map (Value.int .i64) ++ (l.drop (k + 1)).map (Value.int .i64))) : IRow B W v (l.take k ++ l.drop (k + 1)) := by
  unfold IRow
  have e : (l.take k ++ l.drop (k + 1)).length = 0 + k + (l.length - (k + 1)) := by simp; omega
  rw [e]
  simpa using h

theorem row_shape {W : World} {B : Nat} {e : TypeId} {s n : Nat} {v : Value} {xs : List Value} (h : W.ownsRow B e s v n xs) : ∃ x m c, v = .slice x m c := by
  obtain ⟨x, cap, hv, _⟩ := row_form h
  exact ⟨x, n, cap, hv⟩

/-- What lies behind the first of the two statements, behind the second. -/
structure Mid (w W : World) (q : Nat) (vi' va : Value) (I A : List Int) : Prop where
  rf : RfIn W q vi' va I A
  keep : Keep [q] w W
  ge : ∀ x ∈ own vi', w.heap.size ≤ x

theorem two_keep {w W W' : World} {q : Nat} {vi va : Value} (h : Keep [q] w W) (h' : Keep [q] W W') : Keep (rfp q vi va) w W' :=
  (h.trans h' (fun i hi => .inl hi)).mono (fun k hk => by simp at hk; subst hk; simp [rfp])
theorem two_grew {w W : World} {q : Nat} {vi va vi' va' : Value} (h : Keep [q] w W) (hi : ∀ x ∈ own vi', w.heap.size ≤ x) (ha : ∀ x ∈ own va', W.heap.size ≤ x) : Grew w (rfp q vi va) (rfp q vi' va') := fun k hk => by
  simp only [rfp, List.mem_cons, List.mem_append] at hk ⊢
  have := h.size
  rcases hk with hk | hk | hk
  · exact .inl (.inl hk)
  · exact .inr (hi k hk)
  · have := ha k hk; right; omega

set_option maxRecDepth 100000 in
set_option maxHeartbeats 4000000 in
theorem rdrop_yes (w : World) (q : Nat) (vi va : Value) (S : List Cell) (id n : Int) (h : RfIn w q vi va (idsS S) (numsS S)) (hl : S.length ≤ 1048576) (hg : getS S id = some n) :
    Calls Tryd.prog 12 #[.pointer (some ⟨q, 0, none⟩), .int .i64 id] w fun e w' => e = .returned (.bool true) ∧ ∃ vi' va', RfIn w' q vi' va' (idsS (dropS S id)) (numsS (dropS S id)) ∧ Keep (rfp q vi va) w w' ∧ Grew w (rfp q vi va) (rfp q vi' va') := by
  obtain ⟨i0, hi, hz0, hz1, hz2⟩ := info_parts Tryd.info3
  obtain ⟨c0, c1, f0, f1⟩ := h.cells2
  have hq := blk_lt h.blk
  have hget := rget_any w q vi va S id h hl
  rw [hg] at hget
  have hpl := place_any w q vi va S _ id h hl
  obtain ⟨hk, _, _⟩ := getS_mem hg
  have hid : idsS (dropS S id) = (idsS S).take (plc S id) ++ (idsS S).drop (plc S id + 1) := by rw [dropS_of hg]; simp [idsS]
  have hnd : numsS (dropS S id) = (numsS S).take (plc S id) ++ (numsS S).drop (plc S id + 1) := by rw [dropS_of hg]; simp [numsS]
  rw [hid, hnd]
  have HGP := hide (And.intro hget hpl)
  clear hget hpl hg hid hnd
  generalize plc S id = k at *
  have hI := idsS_len S
  have hA := numsS_len S
  generalize idsS S = I at *
  generalize numsS S = A at *
  have HH := hide h
  obtain ⟨u1, s1, r1, t1⟩ := slice_lo h.ri k (by omega)
  obtain ⟨u2, s2, r2, t2⟩ := slice_hi h.ri (k + 1) (by omega) ((k : Int) + 1) (by omega)
  have hb0 : Below w.heap.size w (w.alloc (.cells #[] 3)).drew := ((Below.refl _ w).alloc (Nat.le_refl _) _).drew
  have q1 := Src.below r1 h.ri t1 hb0
  have q2 : ∀ W', Below w.heap.size w W' → Src W' u2 (I.length - (k + 1)) ((I.drop (k + 1)).map (Value.int .i64)) := fun W' hb => Src.below r2 h.ri t2 hb
  have HS := hide (And.intro q1 q2)
  have B1 : 0 + k ≤ maxLen := by unfold maxLen; omega
  have B2 : (0 + k) * 8 ≤ 140737488355328 := by omega
  have B3 : 0 + k + (I.length - (k + 1)) ≤ maxLen := by unfold maxLen; omega
  have B4 : (0 + k + (I.length - (k + 1))) * 8 ≤ 140737488355328 := by omega
  have HB := hide (And.intro B1 (And.intro B2 (And.intro B3 B4)))
  have HN := hide (And.intro hI hA)
  have hkk : k < I.length := by omega
  clear h r1 r2 t1 t2 hb0 q1 q2 B1 B2 B3 B4 hI hA
  have W1 : IntKind.i64.wrap ((k : Int) + 1) = (k : Int) + 1 := IntWalk.i64_in _ (by omega)
  have hk8 : (k : Int) ≤ 1048576 := by omega
  go_enter Tryd.func12, Tryd.ntmps12
  go_wp2_with (first
    | (go_at_call 14; refine (unhide HGP).1.mono ?_; rintro e w' ⟨rfl, rfl⟩; dsimp only [Option.getD, Option.isSome])
    | (go_at_call 25; refine (unhide HGP).2.mono ?_; rintro e w' ⟨rfl, rfl⟩))
  go_cut [] (fun w' => ∃ vi', Hid (Mid w w' q vi' va (I.take k ++ I.drop (k + 1)) A))
  case first =>
    go_region_law
      ((first
        | (refine step_append_src _ (by rfl) (.tmp 20) (.tmp 26) 35 (by rfl) w.heap.size 3 i0 (.int .i64 0) 8 Tryd.underlying35 hi hz0 hz1 hz2 rfl (.slice (some ⟨w.heap.size, 0, none⟩) 0 0) 0 [] (by rfl) (World.ownsRow.drew (empty_row w)) u1 k _ (by rfl) (unhide HS).1 (ints_one _) (unhide HB).1 (unhide HB).2.1 (by simp) ?_; intro v6 w6 o6 g6 a6; have b6 := first_below g6; have cz6 : w6.cell? ⟨q, 0, none⟩ = some vi := (by rw [b6.cell (p := ⟨q, 0, none⟩) hq]; exact c0))
        | (refine step_append_src _ (by rfl) (.tmp 27) (.tmp 34) 35 (by rfl) w.heap.size 3 i0 (.int .i64 0) 8 Tryd.underlying35 hi hz0 hz1 hz2 rfl v6 (0 + k) _ (by rfl) o6 u2 _ _ (by rfl) ((unhide HS).2 _ b6) (ints_one _) (unhide HB).2.2.1 (unhide HB).2.2.2 b6.size ?_; intro v7 w7 o7 g7 a7; have b7 := next_below b6 o6 g7; have O7 := hide (cut_row hkk o7); obtain ⟨x7, n7, cap7, hv7⟩ := row_shape o7; clear o7 g7 a7; subst hv7; have cz7 : w7.cell? ⟨q, 0, none⟩ = some vi := (by rw [b7.cell (p := ⟨q, 0, none⟩) hq]; exact c0); have fz7 : w7.frozen? ⟨q, 0, none⟩ = false := (by rw [b7.frozen (p := ⟨q, 0, none⟩) hq]; exact f0))))
    all_goals
      go_wp2
      go_meet
      case rel => exact ⟨_, (unhide HH).newI b7 (unhide O7), keep_new b7, row_ge (unhide O7)⟩
  case rest =>
    obtain ⟨vi', HM⟩ := hcut
    clear c0 c1 f0 f1 s1 s2 HS
    obtain ⟨c0, c1, f0, f1⟩ := (unhide HM).rf.cells2
    have hq' := blk_lt (unhide HM).rf.blk
    have hkA : k < A.length := by have := unhide HN; omega
    have hAI : A.length = I.length := by have := unhide HN; omega
    obtain ⟨u3, s3, r3, t3⟩ := slice_lo (unhide HM).rf.ra k (by omega)
    obtain ⟨u4, s4, r4, t4⟩ := slice_hi (unhide HM).rf.ra (k + 1) (by omega) ((k : Int) + 1) (by omega)
    have hb0 : Below wc.heap.size wc (wc.alloc (.cells #[] 3)).drew := ((Below.refl _ wc).alloc (Nat.le_refl _) _).drew
    have q1 := Src.below r3 (unhide HM).rf.ra t3 hb0
    have q2 : ∀ W', Below wc.heap.size wc W' → Src W' u4 (A.length - (k + 1)) ((A.drop (k + 1)).map (Value.int .i64)) := fun W' hb => Src.below r4 (unhide HM).rf.ra t4 hb
    rw [hAI] at q2
    have HS := hide (And.intro q1 q2)
    have HAI := hide hAI
    clear r3 r4 t3 t4 hb0 q1 q2 hAI
    go_wp2
    go_region_law
      ((first
        | (refine step_append_src _ (by rfl) (.tmp 39) (.tmp 45) 35 (by rfl) wc.heap.size 3 i0 (.int .i64 0) 8 Tryd.underlying35 hi hz0 hz1 hz2 rfl (.slice (some ⟨wc.heap.size, 0, none⟩) 0 0) 0 [] (by rfl) (World.ownsRow.drew (empty_row wc)) u3 k _ (by rfl) (unhide HS).1 (ints_one _) (unhide HB).1 (unhide HB).2.1 (by simp) ?_; intro v6 w6 o6 g6 a6; have b6 := first_below g6; have cz6 : w6.cell? ⟨q, 1, none⟩ = some va := (by rw [b6.cell (p := ⟨q, 1, none⟩) hq']; exact c1))
        | (refine step_append_src _ (by rfl) (.tmp 46) (.tmp 53) 35 (by rfl) wc.heap.size 3 i0 (.int .i64 0) 8 Tryd.underlying35 hi hz0 hz1 hz2 rfl v6 (0 + k) _ (by rfl) o6 u4 _ _ (by rfl) ((unhide HS).2 _ b6) (ints_one _) (unhide HB).2.2.1 (unhide HB).2.2.2 b6.size ?_; intro v7 w7 o7 g7 a7; have b7 := next_below b6 o6 g7; have O7 := hide (cut_row hkA (by rw [unhide HAI]; exact o7)); obtain ⟨x7, n7, cap7, hv7⟩ := row_shape o7; clear o7 g7 a7; subst hv7; have cz7 : w7.cell? ⟨q, 1, none⟩ = some va := (by rw [b7.cell (p := ⟨q, 1, none⟩) hq']; exact c1); have fz7 : w7.frozen? ⟨q, 1, none⟩ = false := (by rw [b7.frozen (p := ⟨q, 1, none⟩) hq']; exact f1))))
    all_goals
      go_wp2
      go_ret
      exact ⟨rfl, _, _, (unhide HM).rf.newA b7 (unhide O7), two_keep (unhide HM).keep (keep_new b7), two_grew (unhide HM).keep (unhide HM).ge (row_ge (unhide O7))⟩
end Go.Proofs.YtakgacahaennoaaDoor
