/- Parse, the document's. -/
import Derived.Test.YtgdiglkbeijomaaC6
import Derived.Test.YtgdiglkbeijomaaC7
namespace Go.Proofs.Ytgdiglkbeijomaa
open Go.RowKit
set_option maxRecDepth 100000 in
theorem parseR_short (s : ByteArray) (h : ¬ s.size = 16) (w : World) :
    Calls Try.prog 13 #[.string s] w fun e w' => e = .returned (.tuple #[nd 0 0 0, .bool false]) ∧ Below w.heap.size w w' := by
  have h' : ((s.size : Int) != 16) = true := by
    rw [bne_iff_ne]
    omega
  go_enter Try.func13, Try.ntmps13
  go_wp2
  refine bodyPost_ret (v := .tuple #[nd 0 0 0, .bool false]) (by rw [results_cell_tmp rfl]; go_simp) rfl ⟨rfl, ?_⟩
  exact (Below.refl _ _).alloc (Nat.le_refl _) _


theorem TwoB.setU {w W : World} {I U X : Int} (h : TwoB w W I U X) (V : Int) : TwoB w (W.setCell ⟨w.heap.size + 1, 1, none⟩ (.int .i64 V)) I V X := by
  refine ⟨h.bel.setCell (by simp) _, ?_, heap_setCell_same W (w.heap.size + 1) 1 _ _ (.int .i64 V) h.x, ?_⟩
  · rw [Below.heap_setCell _ _ _ _ (by simp)]
    exact h.r
  · simp [World.setCell, h.n]
theorem TwoB.own {w W : World} {I U X : Int} (h : TwoB w W I U X) : W.cell? ⟨w.heap.size + 1, 0, none⟩ = some (.int .i64 I) ∧ W.cell? ⟨w.heap.size + 1, 1, none⟩ = some (.int .i64 U) ∧ W.cell? ⟨w.heap.size + 1, 2, none⟩ = some (.int .i64 X) ∧ W.frozen? ⟨w.heap.size + 1, 1, none⟩ = false := by
  have h2 := h.x
  exact ⟨by simp [World.cell?, h2], by simp [World.cell?, h2], by simp [World.cell?, h2], by simp [World.frozen?, h2]⟩
theorem or64u {a b : Nat} (ha : a < 4294967296) (hb : b < 4294967296) : bits .or .u64 (IntKind.u64.wrap ((a : Int) * 4294967296)) (b : Int) = ((a * 4294967296 + b : Nat) : Int) := by
  rw [IntWalk.u64_in _ (by omega)]
  have e : (a : Int) * 4294967296 = ((a * 4294967296 : Nat) : Int) := by omega
  rw [e, u64_or_nat _ _ (by omega) (by omega), or_mul b a 32 4294967296 (by decide) hb]
theorem wrap_sum {a b : Nat} (ha : a < 4294967296) (hb : b < 4294967296) : IntKind.i64.wrap ((a * 4294967296 + b : Nat) : Int) = s64 a b := by
  rw [IntKind.wrap_i64]
  unfold s64
  split <;> omega

set_option maxRecDepth 100000 in
set_option maxHeartbeats 4000000 in
theorem parseR_core (s : ByteArray) (h : s.size = 16) (a b c d : Nat) (ok : Bool) (ha : a < 4294967296) (hb : b < 4294967296) (hc : c < 4294967296) (hd : d < 4294967296)
    (h1 : rd (bs s) = a) (h2 : rd ((bs s).drop 4) = b) (h3 : rd ((bs s).drop 8) = c) (h4 : rd ((bs s).drop 12) = d) (hok : okN (a : Int) (upR b) (s64 c d) = ok) (w : World) :
    Calls Try.prog 13 #[.string s] w fun e w' => e = .returned (.tuple #[nd (if ok then a else 0) (if ok then upR b else 0) (if ok then s64 c d else 0), .bool ok]) ∧ Below w.heap.size w w' := by
  have hl : (bs s).length = 16 := by rw [bs_length, h]
  have x4 := bs_extract s 4 16
  have x8 := bs_extract s 8 16
  have x12 := bs_extract s 12 16
  rw [List.take_of_length_le (by omega)] at x4 x8 x12
  have z4 : (s.extract 4 16).size = 12 := by rw [ByteArray.size_extract]; omega
  have z8 : (s.extract 8 16).size = 8 := by rw [ByteArray.size_extract]; omega
  have z12 : (s.extract 12 16).size = 4 := by rw [ByteArray.size_extract]; omega
  generalize hx4 : s.extract 4 16 = t4 at *
  generalize hx8 : s.extract 8 16 = t8 at *
  generalize hx12 : s.extract 12 16 = t12 at *
  have S1 := hide (readR_any s (by omega))
  have S2 := hide (readR_any t4 (by omega))
  have S3 := hide (readR_any t8 (by omega))
  have S4 := hide (readR_any t12 (by omega))
  rw [h1] at S1
  rw [x4, h2] at S2
  rw [x8, h3] at S3
  rw [x12, h4] at S4
  have PH := hide (printR_any (a : Int) (upR b) (s64 c d))
  rw [hok] at PH
  have wa : IntKind.i64.wrap (a : Int) = (a : Int) := IntWalk.i64_in _ (by omega)
  have wb : IntKind.i64.wrap (b : Int) = (b : Int) := IntWalk.i64_in _ (by omega)
  have wc : IntKind.u64.wrap (c : Int) = (c : Int) := IntWalk.u64_in _ (by omega)
  have wd : IntKind.u64.wrap (d : Int) = (d : Int) := IntWalk.u64_in _ (by omega)
  have wo := or64u hc hd
  have ws := wrap_sum hc hd
  have HU : Hid (upR b = if b = 4294967295 then -1 else (b : Int)) := rfl
  have HBB := hide hb
  clear x4 x8 x12 h1 h2 h3 h4 hl hok ha hb hc hd
  generalize s64 c d = X at *
  generalize hn : c * 4294967296 + d = n at *
  generalize upR b = U at *
  clear hn
  by_cases hu : b = 4294967295
  · have hU : U = -1 := by rw [unhide HU, if_pos hu]
    subst hU
    have hu' : ((b : Int) == 4294967295) = true := by simp [hu]
    clear hu HU
    cases ok
    · simp only [Bool.false_eq_true, if_false]
      go_enter Try.func13, Try.ntmps13
      go_wp2_with fail
      go_region_held3 (fun _ => True) (simp [go_sem, *])
        (first
          | (go_at_call_of 15 (Value.string s); refine ((unhide S1) _).mono ?_; rintro e w2 ⟨rfl, q1, rfl⟩)
          | (go_at_call_of 15 (Value.string t4); refine ((unhide S2) _).mono ?_; rintro e w2 ⟨rfl, q1, rfl⟩)
          | (go_at_call_of 15 (Value.string t8); refine ((unhide S3) _).mono ?_; rintro e w2 ⟨rfl, q1, rfl⟩)
          | (go_at_call_of 15 (Value.string t12); refine ((unhide S4) _).mono ?_; rintro e w2 ⟨rfl, q1, rfl⟩))
      all_goals
        first
          | (generalize hg : (World.alloc (World.drewN _ _) _) = W2; have HT : Hid (TwoB w W2 a b X) := hide (hg ▸ TwoB.mk1 w _ a b X))
          | (generalize hg : (World.setCell (World.setCell (World.setCell (World.drewN (World.alloc (World.drewN _ _) _) _) _ _) _ _) _ _) = W2; have HT : Hid (TwoB w W2 a b X) := hide (hg ▸ TwoB.mk2 w _ _ a b X))
          | (generalize hg : (World.setCell (World.setCell (World.setCell (World.drewN (World.alloc (World.alloc _ _) _) _) _ _) _ _) _ _) = W2; have HT : Hid (TwoB w W2 a b X) := hide (hg ▸ TwoB.mk2 w 0 _ a b X))
      all_goals
        obtain ⟨c0, c1, c2, f1⟩ := (unhide HT).own
        clear hg
        have HT2 := hide ((unhide HT).setU (-1))
        go_wp2_with fail
        refine ((unhide PH) _).mono ?_
        rintro e w3 ⟨rfl, hb⟩
        obtain ⟨bel, r0, r1, r2, f0, f1, f2, d0, d1, d2⟩ := (unhide HT2).call hb
        have BEL := hide bel
        clear bel hb c0 c1 c2
        go_wp2
        refine bodyPost_ret (v := .tuple #[nd 0 0 0, .bool false]) (by rw [results_cell_tmp rfl]; go_simp) rfl ⟨rfl, ?_⟩
        exact (((unhide BEL).setCell (Nat.le_refl _) _).setCell (Nat.le_refl _) _).setCell (Nat.le_refl _) _
    · simp only [if_true]
      go_enter Try.func13, Try.ntmps13
      go_wp2_with fail
      go_region_held3 (fun _ => True) (simp [go_sem, *])
        (first
          | (go_at_call_of 15 (Value.string s); refine ((unhide S1) _).mono ?_; rintro e w2 ⟨rfl, q1, rfl⟩)
          | (go_at_call_of 15 (Value.string t4); refine ((unhide S2) _).mono ?_; rintro e w2 ⟨rfl, q1, rfl⟩)
          | (go_at_call_of 15 (Value.string t8); refine ((unhide S3) _).mono ?_; rintro e w2 ⟨rfl, q1, rfl⟩)
          | (go_at_call_of 15 (Value.string t12); refine ((unhide S4) _).mono ?_; rintro e w2 ⟨rfl, q1, rfl⟩))
      all_goals
        first
          | (generalize hg : (World.alloc (World.drewN _ _) _) = W2; have HT : Hid (TwoB w W2 a b X) := hide (hg ▸ TwoB.mk1 w _ a b X))
          | (generalize hg : (World.setCell (World.setCell (World.setCell (World.drewN (World.alloc (World.drewN _ _) _) _) _ _) _ _) _ _) = W2; have HT : Hid (TwoB w W2 a b X) := hide (hg ▸ TwoB.mk2 w _ _ a b X))
          | (generalize hg : (World.setCell (World.setCell (World.setCell (World.drewN (World.alloc (World.alloc _ _) _) _) _ _) _ _) _ _) = W2; have HT : Hid (TwoB w W2 a b X) := hide (hg ▸ TwoB.mk2 w 0 _ a b X))
      all_goals
        obtain ⟨c0, c1, c2, f1⟩ := (unhide HT).own
        clear hg
        have HT2 := hide ((unhide HT).setU (-1))
        go_wp2_with fail
        refine ((unhide PH) _).mono ?_
        rintro e w3 ⟨rfl, hb⟩
        obtain ⟨bel, r0, r1, r2, f0, f1, f2, d0, d1, d2⟩ := (unhide HT2).call hb
        have BEL := hide bel
        clear bel hb c0 c1 c2
        go_wp2
        refine bodyPost_ret (v := .tuple #[nd a (-1) X, .bool true]) (by rw [results_cell_tmp rfl]; go_simp) rfl ⟨rfl, ?_⟩
        exact (((unhide BEL).setCell (Nat.le_refl _) _).setCell (Nat.le_refl _) _).setCell (Nat.le_refl _) _
  · have hU : U = (b : Int) := by rw [unhide HU, if_neg hu]
    subst hU
    have hu' : ((b : Int) == 4294967295) = false := by
      rw [beq_eq_false_iff_ne]
      omega
    clear hu HU
    cases ok
    · simp only [Bool.false_eq_true, if_false]
      go_enter Try.func13, Try.ntmps13
      go_wp2_with fail
      go_region_held3 (fun _ => True) (simp [go_sem, *])
        (first
          | (go_at_call_of 15 (Value.string s); refine ((unhide S1) _).mono ?_; rintro e w2 ⟨rfl, q1, rfl⟩)
          | (go_at_call_of 15 (Value.string t4); refine ((unhide S2) _).mono ?_; rintro e w2 ⟨rfl, q1, rfl⟩)
          | (go_at_call_of 15 (Value.string t8); refine ((unhide S3) _).mono ?_; rintro e w2 ⟨rfl, q1, rfl⟩)
          | (go_at_call_of 15 (Value.string t12); refine ((unhide S4) _).mono ?_; rintro e w2 ⟨rfl, q1, rfl⟩))
      all_goals
        first
          | (generalize hg : (World.alloc (World.drewN _ _) _) = W2; have HT : Hid (TwoB w W2 a b X) := hide (hg ▸ TwoB.mk1 w _ a b X))
          | (generalize hg : (World.setCell (World.setCell (World.setCell (World.drewN (World.alloc (World.drewN _ _) _) _) _ _) _ _) _ _) = W2; have HT : Hid (TwoB w W2 a b X) := hide (hg ▸ TwoB.mk2 w _ _ a b X))
          | (generalize hg : (World.setCell (World.setCell (World.setCell (World.drewN (World.alloc (World.alloc _ _) _) _) _ _) _ _) _ _) = W2; have HT : Hid (TwoB w W2 a b X) := hide (hg ▸ TwoB.mk2 w 0 _ a b X))
      all_goals
        obtain ⟨c0, c1, c2, f1⟩ := (unhide HT).own
        clear hg
        go_wp2_with fail
        refine ((unhide PH) _).mono ?_
        rintro e w3 ⟨rfl, hb⟩
        obtain ⟨bel, r0, r1, r2, f0, f1, f2, d0, d1, d2⟩ := (unhide HT).call hb
        have BEL := hide bel
        clear bel hb c0 c1 c2
        go_wp2
        refine bodyPost_ret (v := .tuple #[nd 0 0 0, .bool false]) (by rw [results_cell_tmp rfl]; go_simp) rfl ⟨rfl, ?_⟩
        exact (((unhide BEL).setCell (Nat.le_refl _) _).setCell (Nat.le_refl _) _).setCell (Nat.le_refl _) _
    · simp only [if_true]
      go_enter Try.func13, Try.ntmps13
      go_wp2_with fail
      go_region_held3 (fun _ => True) (simp [go_sem, *])
        (first
          | (go_at_call_of 15 (Value.string s); refine ((unhide S1) _).mono ?_; rintro e w2 ⟨rfl, q1, rfl⟩)
          | (go_at_call_of 15 (Value.string t4); refine ((unhide S2) _).mono ?_; rintro e w2 ⟨rfl, q1, rfl⟩)
          | (go_at_call_of 15 (Value.string t8); refine ((unhide S3) _).mono ?_; rintro e w2 ⟨rfl, q1, rfl⟩)
          | (go_at_call_of 15 (Value.string t12); refine ((unhide S4) _).mono ?_; rintro e w2 ⟨rfl, q1, rfl⟩))
      all_goals
        first
          | (generalize hg : (World.alloc (World.drewN _ _) _) = W2; have HT : Hid (TwoB w W2 a b X) := hide (hg ▸ TwoB.mk1 w _ a b X))
          | (generalize hg : (World.setCell (World.setCell (World.setCell (World.drewN (World.alloc (World.drewN _ _) _) _) _ _) _ _) _ _) = W2; have HT : Hid (TwoB w W2 a b X) := hide (hg ▸ TwoB.mk2 w _ _ a b X))
          | (generalize hg : (World.setCell (World.setCell (World.setCell (World.drewN (World.alloc (World.alloc _ _) _) _) _ _) _ _) _ _) = W2; have HT : Hid (TwoB w W2 a b X) := hide (hg ▸ TwoB.mk2 w 0 _ a b X))
      all_goals
        obtain ⟨c0, c1, c2, f1⟩ := (unhide HT).own
        clear hg
        go_wp2_with fail
        refine ((unhide PH) _).mono ?_
        rintro e w3 ⟨rfl, hb⟩
        obtain ⟨bel, r0, r1, r2, f0, f1, f2, d0, d1, d2⟩ := (unhide HT).call hb
        have BEL := hide bel
        clear bel hb c0 c1 c2
        go_wp2
        refine bodyPost_ret (v := .tuple #[nd a (b) X, .bool true]) (by rw [results_cell_tmp rfl]; go_simp) rfl ⟨rfl, ?_⟩
        exact (((unhide BEL).setCell (Nat.le_refl _) _).setCell (Nat.le_refl _) _).setCell (Nat.le_refl _) _

theorem parseR_full (s : ByteArray) (h : s.size = 16) (w : World) :
    Calls Try.prog 13 #[.string s] w fun e w' => e = .returned (.tuple #[nd (nI (bs s)) (nU (bs s)) (nW (bs s)), .bool (isR (bs s))]) ∧ Below w.heap.size w w' := by
  have hd : ∀ k, rd ((bs s).drop k) < 4294967296 := fun k => rd_lt fun b hm => bs_lt s b (List.mem_of_mem_drop hm)
  have h0 : rd (bs s) < 4294967296 := hd 0
  obtain ⟨r1, r2⟩ := ref_same h0 (hd 4) (s64 (rd ((bs s).drop 8)) (rd ((bs s).drop 12)))
  have hk : isR (bs s) = okN (rd (bs s) : Nat) (upR (rd ((bs s).drop 4))) (s64 (rd ((bs s).drop 8)) (rd ((bs s).drop 12))) := by
    rw [r1]
    unfold isR
    rw [bs_length, h]
    rfl
  have key := parseR_core s h _ _ _ _ (isR (bs s)) h0 (hd 4) (hd 8) (hd 12) rfl rfl rfl rfl hk.symm w
  refine key.mono fun e W hh => ?_
  obtain ⟨rfl, hb⟩ := hh
  refine ⟨?_, hb⟩
  unfold nI nU nW
  cases hr : isR (bs s)
  · rfl
  · rw [hk, r1] at hr
    obtain ⟨e1, e2⟩ := r2 hr
    simp only [if_true]
    rw [e1, e2]
    rfl
end Go.Proofs.Ytgdiglkbeijomaa
