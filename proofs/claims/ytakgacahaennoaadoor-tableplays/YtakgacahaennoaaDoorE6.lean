import Derived.Test.YtakgacahaennoaaDoorE61
import Derived.Test.YtakgacahaennoaaDoorE62
namespace Go.Proofs.YtakgacahaennoaaDoor
open Go.RowKit Go.Arb

set_option maxRecDepth 100000 in
set_option maxHeartbeats 4000000 in
theorem rput_yes (w : World) (q : Nat) (vi va : Value) (S : List Cell) (id n : Int) (h : RfIn w q vi va (idsS S) (numsS S)) (h0 : 0 ≤ id) (h1 : id ≤ 2147483647) (hl : S.length < 1048576) (hg : getS S id = none) :
    Calls Tryd.prog 10 #[.pointer (some ⟨q, 0, none⟩), .int .i64 id, .int .i64 n] w fun e w' => e = .returned (.bool true) ∧ ∃ vi' va', RfIn w' q vi' va' (idsS (putS S id n)) (numsS (putS S id n)) ∧ Keep (rfp q vi va) w w' ∧ Grew w (rfp q vi va) (rfp q vi' va') := by
  obtain ⟨c0, c1, f0, f1⟩ := h.cells2
  have hq := blk_lt h.blk
  have hpl := place_any w q vi va S _ id h (by omega)
  have hk := plc_le S id
  have hid : idsS (putS S id n) = (idsS S).take (plc S id) ++ id :: (idsS S).drop (plc S id) := by unfold putS; simp [idsS]
  have hnd : numsS (putS S id n) = (numsS S).take (plc S id) ++ n :: (numsS S).drop (plc S id) := by unfold putS; simp [numsS]
  rw [hid, hnd]
  have hat : ∀ hlt : plc S id < S.length, S[plc S id].1 ≠ id := fun hlt e => by rw [getS_in hlt e] at hg; cases hg
  have hx : plc S id = S.length ∨ ∃ g cap z, vi = .slice (some ⟨g, 0, none⟩) S.length cap ∧ S.length ≤ cap ∧ cap ≤ maxLen ∧ plc S id < S.length ∧ w.cell? ⟨g, plc S id, none⟩ = some (.int .i64 z) ∧ z ≠ id := by
    by_cases hlt : plc S id < S.length
    · obtain ⟨g, cap, hv, hc1, hc2, hgl, d0⟩ := h.ri.get0 (plc S id) (by rw [idsS_len]; exact hlt)
      rw [idsS_len] at hv hc1
      refine .inr ⟨g, cap, _, hv, hc1, hc2, hlt, d0, ?_⟩
      have := hat hlt
      simpa [idsS] using this
    · left; omega
  obtain ⟨xi, ci, hvi, _, _, _⟩ := row_form h.ri
  rw [idsS_len] at hvi
  have HX := hide (And.intro hx hvi)
  have HP := hide hpl
  clear hpl hg hid hnd hat hx hvi
  generalize plc S id = k at *
  have hI := idsS_len S
  have hA := numsS_len S
  generalize idsS S = I at *
  generalize numsS S = A at *
  have HH := hide h
  have HN := hide (And.intro hI hA)
  have hkk : k ≤ I.length := by omega
  clear h hI hA
  have d1 : decide (id < 0) = false := by simpa using h0
  have d2 : decide (2147483647 < id) = false := by simpa using h1
  have d3 : decide ((1048576 : Int) ≤ (S.length : Int)) = false := by simp; omega
  have hk8 : (k : Int) ≤ 1048576 := by omega
  have hw0 : Hid (vi = .slice xi S.length ci) := (unhide HX).2
  have c0' : w.cell? ⟨q, 0, none⟩ = some (.slice xi S.length ci) := by rw [← unhide hw0]; exact c0
  have C0 := hide c0
  clear c0
  go_enter Tryd.func10, Tryd.ntmps10
  go_upto_region 4 with (go_at_call 25; refine (unhide HP).mono ?_; rintro e w' ⟨rfl, rfl⟩)
  go_cut [46] (fun s w' => s = .bool false ∧ w = w')
  case first =>
    rcases (unhide HX).1 with hx | ⟨g, cap, z, hv, hc1, hc2, hlt, d0, hz⟩
    · have e1 : ¬ (k : Int) < (S.length : Int) := by omega
      clear hx hk
      go_wp2
      go_meet
      case rel => exact ⟨rfl, rfl⟩
    · rw [unhide hw0] at hv
      simp only [Value.slice.injEq, true_and] at hv
      obtain ⟨rfl, rfl⟩ := hv
      unfold maxLen at hc2
      have e1 : (k : Int) < (S.length : Int) := by omega
      have e2 : (0 : Int) ≤ (k : Int) := by omega
      have e3 : (z == id) = false := by rw [beq_eq_false_iff_ne]; exact hz
      go_wp2
      go_meet
      case rel => exact ⟨rfl, rfl⟩
  case rest =>
    obtain ⟨rfl, rfl⟩ := hcut
    have c0 := unhide C0
    clear c0' C0 HX hw0
    go_wp2
    refine region6 _ _ w q vi va I A id n k (unhide HH) hkk (by have := unhide HN; omega) _ _ _ _ _ _ _ _ _ _ _ _ _ _ _ _ _ _ _ _ _ _ _ _ _ _ _ _ _ _ _ _ _ _ _ _ _ _ _ _ _ _ _ _ _ _ _ _ _ _ _ _ _ _ _ _ _ _ _ _ _ _ _ _ _ _ _ _ _ _ _ _ _ _ _ _ _ _ _ _ _ _ _ _ _ ?_
    intro v47 v48 v49 v50 v51 v52 v53 v54 v55 v56 v57 v58 v59 v60 v61 v62 v63 v64 v65 v66 v67 w6 vi' H6
    clear c0 c1 f0 f1
    go_wp2
    refine region7 _ _ w6 q vi' va (I.take k ++ id :: I.drop k) A id n k (unhide H6).rf (by have := unhide HN; omega) (by have := unhide HN; omega) _ _ _ _ _ _ _ _ _ _ _ _ _ _ _ _ _ _ _ _ _ _ _ _ _ _ _ _ _ _ _ _ _ _ _ _ _ _ _ _ _ _ _ _ _ _ _ _ _ _ _ _ _ _ _ _ _ _ _ _ _ _ _ _ _ _ _ _ _ _ _ _ _ _ _ _ _ _ _ _ _ _ _ _ _ ?_
    intro v68 v69 v70 v71 v72 v73 v74 v75 v76 v77 v78 v79 v80 v81 v82 v83 v84 v85 v86 v87 v88 w7 va' H7
    go_wp2
    go_ret
    exact ⟨rfl, _, _, (unhide H7).rf, two_keep (unhide H6).keep (unhide H7).keep, two_grew (unhide H6).keep (unhide H6).ge (unhide H7).ge⟩
end Go.Proofs.YtakgacahaennoaaDoor
