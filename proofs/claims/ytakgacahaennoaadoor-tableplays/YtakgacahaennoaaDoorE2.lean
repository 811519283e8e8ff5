import Derived.Test.YtakgacahaennoaaDoorE
import Derived.Test.YtakgacahaennoaaDoorA
namespace Go.Proofs.YtakgacahaennoaaDoor
open Go.RowKit Go.Arb

theorem add_none' (b off i : Nat) : (⟨b, off, none⟩ : Addr).add i = ⟨b, off + i, none⟩ := by unfold Addr.add; split <;> simp_all
theorem src_all {B : Nat} {W : World} {u : Value} {l : List Int} (h : IRow B W u l) : Src W u l.length (l.map (Value.int .i64)) := by
  rcases h.2 with ⟨rfl, h0⟩ | ⟨g, cap, cur, rfl, _, hg, _, _, _, _⟩
  · exact .inl ⟨rfl, h0, by rw [List.length_eq_zero_iff.1 h0]; rfl⟩
  · refine .inr ⟨⟨g, 0, none⟩, cap, rfl, by simp, fun j x hj => ?_⟩
    have hjl : j < l.length := by have := (List.getElem?_eq_some_iff.1 hj).1; simpa using this
    rw [add_none', Nat.zero_add, h.cellAt j (by omega)]
    exact hj
theorem ints_one (l : List Int) : ∀ u ∈ l.map (Value.int .i64), u.oneCell' = true := by
  intro u hu
  obtain ⟨x, _, rfl⟩ := List.mem_map.1 hu
  rfl
theorem empty_row (W : World) : (W.alloc (.cells #[] 3)).ownsRow W.heap.size 3 1 (.slice (some ⟨W.heap.size, 0, none⟩) 0 0) 0 [] := World.ownsRow_made W #[] 0 (Nat.le_refl _) (Nat.zero_le _) rfl

set_option maxHeartbeats 800000 in
theorem rlist_any (w : World) (q : Nat) (vi va : Value) (I A : List Int) (h : RfIn w q vi va I A) (hl : I.length ≤ 1048576) :
    Calls Tryd.prog 19 #[.pointer (some ⟨q, 0, none⟩)] w fun e w' => (∃ u, e = .returned u ∧ IRow w.heap.size w' u I) ∧ Below w.heap.size w w' := by
  obtain ⟨i0, hi, hz0, hz1, hz2⟩ := info_parts Tryd.info3
  obtain ⟨c0, _⟩ := h.cells2
  have hq := blk_lt h.blk
  have hsrc := (src_all h.ri).keep ((Keep.refl [] w).alloc (.cells #[] 3)) (fun k hk => ⟨row_lt h.ri k hk, by simp⟩)
  clear h
  go_enter Tryd.func19, Tryd.ntmps19
  go_wp2_with (at_builtin; refine wpList_append_src _ rfl _ _ 35 rfl w.heap.size 3 i0 (.int .i64 0) 8 Tryd.underlying35 hi hz0 hz1 hz2 rfl _ 0 [] rfl (empty_row w) _ I.length (I.map (Value.int .i64)) rfl hsrc (ints_one I) (by unfold maxLen; omega) (by omega) (by simp) ?_)
  intro v' w' hown hgrow hat
  have hb : Below w.heap.size w w' := ((Below.refl _ w).alloc (Nat.le_refl _) _).grown hgrow (by simp) (fun k hk => by simp [Value.ownBlock] at hk; omega)
  have HR : Hid (IRow w.heap.size w' v' I ∧ Below w.heap.size w w') := ⟨by unfold IRow; simpa using hown, hb⟩
  clear hown hgrow hat hb hsrc
  go_wp2
  go_ret
  exact ⟨⟨_, rfl, (unhide HR).1⟩, (unhide HR).2⟩

set_option maxHeartbeats 800000 in
theorem rget_any (w : World) (q : Nat) (vi va : Value) (S : List Cell) (id : Int) (h : RfIn w q vi va (idsS S) (numsS S)) (hl : S.length ≤ 1048576) :
    Calls Tryd.prog 14 #[.pointer (some ⟨q, 0, none⟩), .int .i64 id] w fun e w' => e = .returned (.tuple #[.int .i64 ((getS S id).getD 0), .bool (getS S id).isSome]) ∧ w = w' := by
  obtain ⟨c0, c1, _⟩ := h.cells2
  have hpl := hide (place_any w q vi va S _ id h hl)
  have hle := plc_le S id
  by_cases hin : plc S id < S.length
  · obtain ⟨g, cap, hv, h1, h2, hg, d0⟩ := h.ri.get0 (plc S id) (by rw [idsS_len]; exact hin)
    obtain ⟨g', cap', hv', h1', h2', hg', d1⟩ := h.ra.get0 (plc S id) (by rw [numsS_len]; exact hin)
    rw [idsS_len] at hv h1
    rw [numsS_len] at hv' h1'
    have e0 : (idsS S)[plc S id]'(by rw [idsS_len]; exact hin) = S[plc S id].1 := by simp [idsS]
    have e1 : (numsS S)[plc S id]'(by rw [numsS_len]; exact hin) = S[plc S id].2 := by simp [numsS]
    rw [e0] at d0
    rw [e1] at d1
    by_cases he : S[plc S id].1 = id
    · rw [getS_in hin he]
      rw [he] at d0
      clear h he
      generalize S[plc S id].2 = nm at *
      subst hv
      subst hv'
      generalize plc S id = k at *
      unfold maxLen at *
      have f1 : (0 : Int) ≤ (k : Int) := by omega
      have f2 : (k : Int) < (S.length : Int) := by omega
      have f3 : ((k : Int) == (S.length : Int)) = false := by rw [beq_eq_false_iff_ne]; omega
      clear e0 e1
      go_enter Tryd.func14, Tryd.ntmps14
      go_wp2_with (go_at_call 25; refine (unhide hpl).mono ?_; rintro e w' ⟨rfl, rfl⟩)
      refine bodyPost_ret (v := .tuple #[.int .i64 nm, .bool true]) (by simp [results, Tryd.results14, go_sem]) rfl ⟨rfl, rfl⟩
    · rw [getS_ne hin he]
      clear h e0 e1
      generalize S[plc S id].2 = nm at *
      generalize S[plc S id].1 = zi at *
      subst hv
      subst hv'
      generalize plc S id = k at *
      unfold maxLen at *
      have f1 : (0 : Int) ≤ (k : Int) := by omega
      have f2 : (k : Int) < (S.length : Int) := by omega
      have f3 : ((k : Int) == (S.length : Int)) = false := by rw [beq_eq_false_iff_ne]; omega
      have f4 : (zi == id) = false := by rw [beq_eq_false_iff_ne]; exact he
      go_enter Tryd.func14, Tryd.ntmps14
      go_wp2_with (go_at_call 25; refine (unhide hpl).mono ?_; rintro e w' ⟨rfl, rfl⟩)
      refine bodyPost_ret (v := .tuple #[.int .i64 0, .bool false]) (by simp [results, Tryd.results14, go_sem]) rfl ⟨rfl, rfl⟩
  · have hk : plc S id = S.length := by omega
    rw [getS_over hk]
    rw [hk] at hpl
    obtain ⟨x, cap, hv, h1, h2, _⟩ := row_form h.ri
    rw [idsS_len] at hv h1
    subst hv
    clear h hk
    unfold maxLen at *
    go_enter Tryd.func14, Tryd.ntmps14
    go_wp2_with (go_at_call 25; refine (unhide hpl).mono ?_; rintro e w' ⟨rfl, rfl⟩)
    refine bodyPost_ret (v := .tuple #[.int .i64 0, .bool false]) (by simp [results, Tryd.results14, go_sem]) rfl ⟨rfl, rfl⟩

set_option maxHeartbeats 800000 in
theorem same_yes (B B' : Nat) (w : World) (u u' : Value) (l : List Int) (h : IRow B w u l) (h' : IRow B' w u' l) :
    Calls Tryd.prog 17 #[u, u'] w fun e w' => e = .returned (.bool true) ∧ Below w.heap.size w w' := by
  obtain ⟨x, cap, hv, h1, h2, _⟩ := row_form h
  obtain ⟨x', cap', hv', h1', h2', _⟩ := row_form h'
  have HH := hide (And.intro h h')
  subst hv
  subst hv'
  clear h h'
  unfold maxLen at *
  go_enter Tryd.func17, Tryd.ntmps17
  go_wp2
  go_loopw [5] (fun i w' => ∃ t : Nat, t ≤ l.length ∧ i = .int .i64 (t : Int) ∧ Hid (Below w.heap.size w w')) (fun i _ => l.length - (intOf i).toNat)
  case atStart => exact ⟨0, Nat.zero_le _, rfl, Below.refl _ _⟩
  case round =>
    obtain ⟨t, ht, rfl, HB⟩ := hrel
    by_cases htl : t < l.length
    · obtain ⟨g, c, hg, _, _, hgl, d0⟩ := (unhide HH).1.get0 t htl
      obtain ⟨g', c', hg', _, _, hgl', d1⟩ := (unhide HH).2.get0 t htl
      simp only [Value.slice.injEq, true_and] at hg hg'
      obtain ⟨rfl, rfl⟩ := hg
      obtain ⟨rfl, rfl⟩ := hg'
      have d0' : wr.cell? ⟨g, t, none⟩ = some (.int .i64 l[t]) := by rw [(unhide HB).cell (p := ⟨g, t, none⟩) hgl]; exact d0
      have d1' : wr.cell? ⟨g', t, none⟩ = some (.int .i64 l[t]) := by rw [(unhide HB).cell (p := ⟨g', t, none⟩) hgl']; exact d1
      clear d0 d1
      generalize l[t] = z at *
      have e0 : (0 : Int) ≤ (t : Int) := by omega
      have e1 : (t : Int) < (l.length : Int) := by omega
      go_wp2
      go_quiet (fail)
      go_wp2
      go_roundw
      case rel => exact ⟨t + 1, by omega, by go_num, below_drewN (unhide HB) _⟩
      case measure => simp [intOf]; omega
    · have e1 : ¬ (t : Int) < (l.length : Int) := by omega
      go_wp2
      go_ret
      exact ⟨rfl, unhide HB⟩
end Go.Proofs.YtakgacahaennoaaDoor
