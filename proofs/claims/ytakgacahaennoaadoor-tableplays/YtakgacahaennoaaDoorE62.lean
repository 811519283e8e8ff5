import Derived.Test.YtakgacahaennoaaDoorE50
namespace Go.Proofs.YtakgacahaennoaaDoor
open Go.RowKit Go.Arb
attribute [local go_sem ↓] Go.wp_at_zero Go.wp_at_succ

set_option maxRecDepth 100000 in
set_option maxHeartbeats 20000000 in
theorem region7 (R : Ending → World → Prop) (K : Act → World → Prop) (wc : World) (q : Nat) (vi va : Value) (I A : List Int) (id n : Int) (k : Nat) (h : RfIn wc q vi va I A) (hkk : k ≤ A.length) (hl : A.length < 1048576)
    (u3 u4 u5 u6 u8 u9 u10 u11 u12 u13 u14 u15 u16 u17 u18 u19 u20 u21 u22 u23 u24 u25 u26 u27 u28 u29 u30 u31 u32 u33 u34 u35 u36 u37 u38 u39 u40 u41 u42 u43 u44 u45 u46 u47 u48 u49 u50 u51 u52 u53 u54 u55 u56 u57 u58 u59 u60 u61 u62 u63 u64 u65 u66 u67 u68 u69 u70 u71 u72 u73 u74 u75 u76 u77 u78 u79 u80 u81 u82 u83 u84 u85 u86 u87 u88 : Value)
    (hK : ∀ (v68 v69 v70 v71 v72 v73 v74 v75 v76 v77 v78 v79 v80 v81 v82 v83 v84 v85 v86 v87 v88 : Value) (w' : World) (v' : Value), Hid (MidA wc w' q vi v' I (A.take k ++ n :: A.drop k)) → K { tmps := #[.pointer (some ⟨q, 0, none⟩), .int .i64 id, .int .i64 n, u3, u4, u5, u6, .int .i64 (k : Int), u8, u9, u10, u11, u12, u13, u14, u15, u16, u17, u18, u19, u20, u21, u22, u23, u24, u25, u26, u27, u28, u29, u30, u31, u32, u33, u34, u35, u36, u37, u38, u39, u40, u41, u42, u43, u44, u45, u46, u47, u48, u49, u50, u51, u52, u53, u54, u55, u56, u57, u58, u59, u60, u61, u62, u63, u64, u65, u66, u67, v68, v69, v70, v71, v72, v73, v74, v75, v76, v77, v78, v79, v80, v81, v82, v83, v84, v85, v86, v87, v88], defers := [] } w') :
    (sq1 (sq2 (sq2 (sq2 (sq2 (sq2 ((Tryd.f10.body).getD .skip))))))).wp Tryd.prog (Exit.then K (bodyPost Tryd.prog Tryd.f10 R)) { tmps := #[.pointer (some ⟨q, 0, none⟩), .int .i64 id, .int .i64 n, u3, u4, u5, u6, .int .i64 (k : Int), u8, u9, u10, u11, u12, u13, u14, u15, u16, u17, u18, u19, u20, u21, u22, u23, u24, u25, u26, u27, u28, u29, u30, u31, u32, u33, u34, u35, u36, u37, u38, u39, u40, u41, u42, u43, u44, u45, u46, u47, u48, u49, u50, u51, u52, u53, u54, u55, u56, u57, u58, u59, u60, u61, u62, u63, u64, u65, u66, u67, u68, u69, u70, u71, u72, u73, u74, u75, u76, u77, u78, u79, u80, u81, u82, u83, u84, u85, u86, u87, u88], defers := [] } wc := by
  obtain ⟨i0, hi, hz0, hz1, hz2⟩ := info_parts Tryd.info3
  obtain ⟨c0, c1, f0, f1⟩ := h.cells2
  have hq := blk_lt h.blk
  have hq' := hq
  have HH := hide h
  have HK := hide hK
  obtain ⟨u3_, s1, r1, t1⟩ := slice_lo h.ra k hkk
  obtain ⟨u4_, s2, r2, t2⟩ := slice_hi h.ra k hkk (k : Int) rfl
  have q1 : ∀ W', Below wc.heap.size wc W' → Src W' u3_ k ((A.take k).map (Value.int .i64)) := fun W' hb => Src.below r1 h.ra t1 hb
  have q2 : ∀ W', Below wc.heap.size wc W' → Src W' u4_ (A.length - k) ((A.drop k).map (Value.int .i64)) := fun W' hb => Src.below r2 h.ra t2 hb
  have HS := hide (And.intro q1 q2)
  have B1 : 0 + k ≤ maxLen := by unfold maxLen; omega
  have B2 : (0 + k) * 8 ≤ 140737488355328 := by omega
  have B3 : 0 + k + 1 ≤ maxLen := by unfold maxLen; omega
  have B4 : (0 + k + 1) * 8 ≤ 140737488355328 := by omega
  have B5 : 0 + k + 1 + (A.length - k) ≤ maxLen := by unfold maxLen; omega
  have B6 : (0 + k + 1 + (A.length - k)) * 8 ≤ 140737488355328 := by omega
  have HB := hide (And.intro B1 (And.intro B2 (And.intro B3 (And.intro B4 (And.intro B5 B6)))))
  clear h hK r1 r2 t1 t2 q1 q2 B1 B2 B3 B4 B5 B6
  have hk8 : (k : Int) ≤ 1048576 := by omega
  show (Code.region 7 _ true).wp Tryd.prog _ _ _
  go_region_law
    ((first
      | (refine step_append_src _ (by rfl) (.tmp 79) (.tmp 85) 35 (by rfl) wc.heap.size 3 i0 (.int .i64 0) 8 Tryd.underlying35 hi hz0 hz1 hz2 rfl v7 (0 + k + 1) _ (by rfl) o7 u4_ _ _ (by rfl) ((unhide HS).2 _ b7) (ints_one _) (unhide HB).2.2.2.2.1 (unhide HB).2.2.2.2.2 b7.size ?_; intro v8 w8 o8 g8 a8; have b8 := next_below b7 o7 g8; have O8 := hide (put_row hkk o8); obtain ⟨x8, n8, cap8, hv8⟩ := row_shape o8; clear o8 g8 a8 o7; subst hv8; have cz8 : w8.cell? ⟨q, 1, none⟩ = some va := (by rw [b8.cell (p := ⟨q, 1, none⟩) hq']; exact c1); have fz8 : w8.frozen? ⟨q, 1, none⟩ = false := (by rw [b8.frozen (p := ⟨q, 1, none⟩) hq']; exact f1))
      | (refine step_append_src _ (by rfl) (.tmp 76) (.tmp 78) 35 (by rfl) wc.heap.size 3 i0 (.int .i64 0) 8 Tryd.underlying35 hi hz0 hz1 hz2 rfl v6 (0 + k) _ (by rfl) o6 _ 1 [.int .i64 n] (by rfl) n6 (one1 n) (unhide HB).2.2.1 (unhide HB).2.2.2.1 b6.size ?_; intro v7 w7 o7 g7 a7; have b7 := next_below b6 o6 g7; clear g7 a7 o6 n6; have cz7 : w7.cell? ⟨q, 1, none⟩ = some va := (by rw [b7.cell (p := ⟨q, 1, none⟩) hq']; exact c1))
      | (refine step_append_src _ (by rfl) (.tmp 76) (.tmp 78) 35 (by rfl) wc.heap.size 3 i0 (.int .i64 0) 8 Tryd.underlying35 hi hz0 hz1 hz2 rfl v6 (0 + k) _ (by rfl) (o6.alloc _) (.slice (some ⟨w6.heap.size, 0, none⟩) 1 1) 1 [.int .i64 n] (by rfl) (src_new w6 _) (one1 n) (unhide HB).2.2.1 (unhide HB).2.2.2.1 (b6.alloc b6.size _).size ?_; intro v7 w7 o7 g7 a7; have b7 := nb1 b6 o6 g7; clear g7 a7 o6; have cz7 : w7.cell? ⟨q, 1, none⟩ = some va := (by rw [b7.cell (p := ⟨q, 1, none⟩) hq']; exact c1))
      | (refine step_append_src _ (by rfl) (.tmp 69) (.tmp 75) 35 (by rfl) wc.heap.size 3 i0 (.int .i64 0) 8 Tryd.underlying35 hi hz0 hz1 hz2 rfl (.slice (some ⟨wc.heap.size, 0, none⟩) 0 0) 0 [] (by rfl) (er1 wc) u3_ k _ (by rfl) ((unhide HS).1 _ (bl1 wc)) (ints_one _) (unhide HB).1 (unhide HB).2.1 (bl1 wc).size ?_; intro v6 w6 o6 g6 a6; have b6 := first_below g6; clear g6 a6; have hq6 : q < w6.heap.size := (Nat.lt_of_lt_of_le hq' b6.size); have cz6 : w6.cell? ⟨q, 1, none⟩ = some va := (by rw [b6.cell (p := ⟨q, 1, none⟩) hq']; exact c1))
      | (refine step_append_src _ (by rfl) (.tmp 69) (.tmp 75) 35 (by rfl) wc.heap.size 3 i0 (.int .i64 0) 8 Tryd.underlying35 hi hz0 hz1 hz2 rfl (.slice (some ⟨wc.heap.size, 0, none⟩) 0 0) 0 [] (by rfl) (er2 wc (.int .i64 n)) u3_ k _ (by rfl) ((unhide HS).1 _ (bl2 wc (.int .i64 n))) (ints_one _) (unhide HB).1 (unhide HB).2.1 (bl2 wc (.int .i64 n)).size ?_; intro v6 w6 o6 g6 a6; have b6 := fb2 g6; have n6 := sn2 g6; clear g6 a6; have cz6 : w6.cell? ⟨q, 1, none⟩ = some va := (by rw [b6.cell (p := ⟨q, 1, none⟩) hq']; exact c1))
      | (refine step_append_src _ (by rfl) (.tmp 69) (.tmp 75) 35 (by rfl) wc.heap.size 3 i0 (.int .i64 0) 8 Tryd.underlying35 hi hz0 hz1 hz2 rfl (.slice (some ⟨wc.heap.size + 1, 0, none⟩) 0 0) 0 [] (by rfl) (er3 wc (.int .i64 n)) u3_ k _ (by rfl) ((unhide HS).1 _ (bl3 wc (.int .i64 n))) (ints_one _) (unhide HB).1 (unhide HB).2.1 (bl3 wc (.int .i64 n)).size ?_; intro v6 w6 o6 g6 a6; have b6 := fb3 g6; have n6 := sn3 g6; clear g6 a6; have cz6 : w6.cell? ⟨q, 1, none⟩ = some va := (by rw [b6.cell (p := ⟨q, 1, none⟩) hq']; exact c1))))
  all_goals
    exact unhide HK _ _ _ _ _ _ _ _ _ _ _ _ _ _ _ _ _ _ _ _ _ _ _ ⟨(unhide HH).newA b8 (unhide O8), keep_new b8, row_ge (unhide O8)⟩
end Go.Proofs.YtakgacahaennoaaDoor
