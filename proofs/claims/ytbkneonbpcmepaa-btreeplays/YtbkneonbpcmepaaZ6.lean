/- cut. -/
import Derived.Test.YtbkneonbpcmepaaZ5
namespace Go.Proofs.Ytbkneonbpcmepaa
open Go.RowKit Go.Arb
set_option linter.unusedVariables false
set_option linter.unusedSimpArgs false

theorem vw_empty (w : World) (ad : Addr) (c : Nat) : Vw w (.slice (some ad) 0 c) [] := .inr ⟨ad, c, rfl, rfl, fun j x h => by simp at h⟩
theorem Mk.drewN {w w' : World} {J : List Nat} {o : Option Tp} {xs : List It} (m : Mk w w' J o xs) (q : Nat) : Mk w (w'.drewN q) J o xs :=
  ⟨m.at_.keep (keep_drewN [] w' q) (fun _ _ => by simp), m.its, m.kp.tr (keep_drewN J w' q), m.gr⟩
theorem Mk.cell {w w' : World} {J : List Nat} {o : Option Tp} {xs : List It} (m : Mk w w' J o xs) {a i : Nat} (h1 : a < w.heap.size) (h2 : a ∉ J) : w'.cell? ⟨a, i, none⟩ = w.cell? ⟨a, i, none⟩ := m.kp.cell (p := ⟨a, i, none⟩) h1 h2
theorem Cut.drewN {w0 w : World} {J : List Nat} {d h : Nat} {c : Cx d h} {t : Tr h} {o1 o2 : Option Tp} {P Q : List It} (C : Cut w0 w J d h c t o1 o2 P Q) (q : Nat) : Cut w0 (w.drewN q) J d h c t o1 o2 P Q :=
  ⟨memC_keep (keep_drewN [] w q) C.memc (fun _ _ => by simp), C.a1.keep (keep_drewN [] w q) (fun _ _ => by simp), C.a2.keep (keep_drewN [] w q) (fun _ _ => by simp), C.nd, C.o12, C.f1, C.f2, C.at_, C.lv.keep (keep_drewN [] w q) (by simp), C.p, C.q, C.z, C.wf, C.fp_, C.fq, C.lp, C.lq, C.h9, C.kp.tr (keep_drewN J w q), C.gr, C.sub⟩
theorem plug_h : ∀ (d h : Nat) (c : Cx d h) (t : Tr h), (plug d h c t).h = h + d
  | 0, _, _, _ => rfl
  | d + 1, h, c, t => by rw [plug, plug_h d (h + 1)]; omega
theorem cut_start {d : Nat} {c : Cx d 0} {x : Tr 0} {w w1 : World} (o : Own1 w (plug d 0 c x)) (m : Mem w1 (plug d 0 (zc d 0 c) (rais (cw d 0 c) 0 x)).h (.pointer none) (plug d 0 (zc d 0 c) (rais (cw d 0 c) 0 x)).t) (k : Keep (fp (plug d 0 c x).h (plug d 0 c x).t) w w1) :
    Cut w (w1.setCell ⟨adr 0 x, 0, none⟩ (.pointer none)) (fp (plug d 0 c x).h (plug d 0 c x).t) d 0 (zc d 0 c) (rais (cw d 0 c) 0 x) none (some ⟨0, rais (cw d 0 c) 0 x⟩) (pre d 0 c) (its 0 (rais (cw d 0 c) 0 x) ++ post d 0 c) := by
  obtain ⟨mt, mc⟩ := (mem_plug d 0 (zc d 0 c) _).1 m
  have nd := (fp_plug d 0 c x).nodup o.nd
  have hfp : fp 0 x = [adr 0 x] := rfl
  have er : adr 0 (rais (cw d 0 c) 0 x) = adr 0 x := rfl
  have hfr : fp 0 (rais (cw d 0 c) 0 x) = [adr 0 x] := rfl
  rw [hfp, List.singleton_append, List.nodup_cons] at nd
  have kc := keep_cell w1 (adr 0 x) 0 (.pointer none)
  have fz := fpC_zc d 0 c
  have ep := plug_its d 0 c x
  have fit : FitL (its (plug d 0 c x).h (plug d 0 c x).t) := o.wf.fit
  have len := o.len
  rw [ep, ← its_rais] at fit len
  obtain ⟨f1, f2⟩ := FitL.append.1 fit
  rw [List.length_append] at len
  have hsub : ∀ k ∈ fp 0 x ++ fpC d 0 c, k ∈ fp (plug d 0 c x).h (plug d 0 c x).t := fun k hk => (fp_plug d 0 c x).mem_iff.2 hk
  have hm : Mem (w1.setCell ⟨adr 0 x, 0, none⟩ (.pointer none)) 0 (.pointer none) (rais (cw d 0 c) 0 x) := mem_up mt (by rw [hfr]; simp) kc (fun k h1 h2 h3 => h2 (by simp only [List.mem_singleton] at h3; rw [h3]; exact er.symm)) (root_up (.pointer none) mt.root)
  have hw : Wf 0 2 (rais (cw d 0 c) 0 x) := (FitL.append.1 f2).1
  refine ⟨memC_keep kc mc (fun k h1 h2 => ?_), ⟨fun T e => (by cases e), by simp [tfp]⟩, ⟨fun T e => ?_, ?_⟩, by rw [fz]; exact nd.2, fun k hk => (by simp [tfp] at hk), fun k hk => (by simp [tfp] at hk), fun k hk => ?_, ?_, Kn.lv (show Kn _ _ _ _ _ _ _ _ from hm), ?_, ?_, zr_zc d 0 c, ?_, f1, f2, by omega, by omega, ?_, k.tr (kc.mono (fun y hy => .inl (hsub y (by rw [hfp]; simp at hy; simp [hy])))), fun k hk => .inl (hsub k ?_), fun k hk => hsub k ?_⟩
  · rw [fz] at h1
    simp only [List.mem_singleton] at h2
    subst h2
    exact nd.1 h1
  · cases e
    exact ⟨hm, hw, by show 0 ≤ 22; omega⟩
  · show (fp 0 _).Nodup
    rw [hfr]; simp
  · have hk2 : k ∈ fp 0 (rais (cw d 0 c) 0 x) := hk
    rw [hfr, List.mem_singleton] at hk2
    subst hk2
    rw [fz]
    exact nd.1
  · rw [fz]; exact nd.1
  · show pre d 0 (zc d 0 c) ++ [] = _
    rw [pre_zc, List.append_nil]
  · show its 0 _ ++ post d 0 (zc d 0 c) = _
    rw [post_zc]
  · exact wfC_zc d 0 c (wfC_of d 0 c x o.wf) f1 (FitL.append.1 f2).2
  · have := height_le o.wf (Nat.le_refl _) o.len
    have e2 := plug_h d 0 c x
    omega
  · have hk2 : k ∈ fp 0 (rais (cw d 0 c) 0 x) := hk
    rw [hfr] at hk2
    rw [hfp]; simp at hk2; simp [hk2]
  · rw [fz] at hk
    simp [hk]

set_option maxRecDepth 100000 in
set_option maxHeartbeats 1000000 in
theorem cut_any (d0 : Nat) (c0 : Cx d0 0) (x : Tr 0) (w0 : World) (o : Own1 w0 (plug d0 0 c0 x)) :
    Calls Try.prog 50 #[ptr (adr 0 x)] w0 fun e w' => e = .returned (.tuple #[]) ∧ ∃ o1 o2, At1 w' o1 ∧ At1 w' o2 ∧ Off (tfp o1) (tfp o2) ∧ tits o1 = pre d0 0 c0 ∧ tits o2 = rz (cw d0 0 c0) (its 0 x) ++ post d0 0 c0 ∧ Keep (fp (plug d0 0 c0 x).h (plug d0 0 c0 x).t) w0 w' ∧ Grew w0 (fp (plug d0 0 c0 x).h (plug d0 0 c0 x).t) (tfp o1 ++ tfp o2) := by
  have S1 := hide (settleAbove_any d0 0 c0 x w0 o)
  have O := hide o
  clear o
  have HI := hide (its_rais (cw d0 0 c0) 0 x)
  generalize hJ : fp (plug d0 0 c0 x).h (plug d0 0 c0 x).t = J at *
  have HJ := hide hJ
  clear hJ
  unfold ptr at S1 ⊢
  go_enter Try.func50, Try.ntmps50
  go_wp2_with fail
  refine (unhide S1).mono ?_
  rintro e w1 ⟨rfl, h1, h2⟩
  obtain ⟨mt, mc⟩ := (mem_plug d0 0 _ _).1 h1
  rw [upC_zc] at mt
  obtain ⟨q0, _⟩ := Kn.cells mt.root
  have F0 := Kn.soft mt.root 0
  rw [show adr 0 (rais (cw d0 0 c0) 0 x) = adr 0 x from rfl] at q0 F0
  have G := hide (fun q => cut_start (unhide O) (h1.drewN q) (by rw [unhide HJ]; exact h2.tr (keep_drewN J w1 q)))
  rw [unhide HJ] at G
  have HA : adr 0 (rais (cw d0 0 c0) 0 x) = adr 0 x := rfl
  clear h1 h2 mt mc S1 O HJ
  generalize hA1 : adr 0 x = A1 at *
  generalize hu : upC d0 0 c0 = u0 at *
  have HU := hide hu
  clear hu hA1
  go_wp2_with fail
  go_quiet (fail)
  have GG := hide (unhide G nq)
  clear G
  have GV : Hid (upC d0 0 (zc d0 0 c0) = u0 ∧ tits (some ⟨0, rais (cw d0 0 c0) 0 x⟩) ++ post d0 0 (zc d0 0 c0) = its 0 (rais (cw d0 0 c0) 0 x) ++ post d0 0 c0) := hide ⟨by rw [upC_zc]; exact unhide HU, by rw [post_zc]; rfl⟩
  go_wp2_with fail
  go_loopg [2, 3, 4, 5] d0 (fun gk v2 v3 v4 v5 w' => ∃ (d h : Nat) (c : Cx d h) (t : Tr h) (o1 o2 : Option Tp), Hid (d = gk) ∧ Cut w0 w' J d h c t o1 o2 (pre d0 0 c0) (its 0 (rais (cw d0 0 c0) 0 x) ++ post d0 0 c0) ∧ v2 = .pointer (some ⟨adr h t, 0, none⟩) ∧ v3 = upC d h c ∧ v4 = tval o1 ∧ v5 = tval o2)
  case atStart => exact ⟨d0, 0, _, _, _, _, hide rfl, unhide GG, by rw [HA], (unhide GV).1.symm, rfl, by rw [← HA]; rfl⟩
  case round =>
    obtain ⟨d, hh, c, t, o1, o2, hd', C, rfl, rfl, rfl, rfl⟩ := hrel
    clear GG GV HU q0 F0 HA
    generalize hP : pre d0 0 c0 = P at *
    have HP := hide hP
    clear hP
    generalize hQ : its 0 (rais (cw d0 0 c0) 0 x) ++ post d0 0 c0 = Q at *
    have HQ := hide hQ
    clear hQ
    cases d with
    | zero =>
      have FIN : Hid (∃ o1 o2, At1 wr o1 ∧ At1 wr o2 ∧ Off (tfp o1) (tfp o2) ∧ tits o1 = pre d0 0 c0 ∧ tits o2 = rz (cw d0 0 c0) (its 0 x) ++ post d0 0 c0 ∧ Keep J w0 wr ∧ Grew w0 J (tfp o1 ++ tfp o2)) := hide ⟨o1, o2, C.a1, C.a2, C.o12, C.p.trans (unhide HP).symm, by
        have h1 := C.q
        rw [post, List.append_nil] at h1
        rw [h1, ← unhide HQ, unhide HI], C.kp, C.gr⟩
      clear C
      simp only [upC]
      generalize tval o1 = v4 at *
      generalize tval o2 = v5 at *
      go_wp2
      go_end0
      exact ⟨rfl, unhide FIN⟩
    | succ d =>
      simp only [upC]
      obtain ⟨n1, n2, n3, n4, n5, n6, n7, n8, n9, _, _, nt⟩ := fpC_nd C.nd
      have hlen : (((hd c).L ++ t :: (hd c).R).map (adr hh)).length = (hd c).L.length + 1 + (hd c).R.length := by rw [List.length_map, mem_at]
      obtain ⟨xx, cap, e, c1, c2, c3, c4⟩ := C.memc.2.1.form
      rw [hlen] at e c1 c3
      obtain ⟨g, rfl, hg, hgo⟩ := c3 (by omega)
      obtain ⟨q0, q1, _, _, _, _, _, _, _⟩ := Kn.cells (show Kn _ _ _ _ _ _ _ _ from C.memc.1)
      rw [show rowOf (hh + 1) (fill (hd c) t) = (hd c).r from rfl, e, show adr (hh + 1) (fill (hd c) t) = (hd c).a from rfl] at q1
      rw [show adr (hh + 1) (fill (hd c) t) = (hd c).a from rfl] at q0
      have LA : (hd c).a < wr.heap.size := Kn.lt (show Kn _ _ _ _ _ _ _ _ from C.memc.1)
      have hA : (hd c).a ∈ fpC (d + 1) hh c := (mem_fpC c _).2 (.inl rfl)
      have OA : Hid ((hd c).a ∉ fps hh (hd c).L ∧ (hd c).a ∉ fps hh (hd c).L ++ tfp o1 ∧ (hd c).a ∉ fps hh (hd c).R ∧ (hd c).a ∉ fps hh (hd c).R ++ tfp o2) := hide ⟨n2, fun hc => by
        rcases List.mem_append.1 hc with hc | hc
        · exact n2 hc
        · exact C.f1 _ hc hA, n3, fun hc => by
        rcases List.mem_append.1 hc with hc | hc
        · exact n3 hc
        · exact C.f2 _ hc hA⟩
      have OG : Hid (Off (own (.slice (some ⟨g, 0, none⟩) ((hd c).L.length + 1 + (hd c).R.length) cap)) (fps hh (hd c).L ++ tfp o1)) := hide (fun k h1 h2 => by
        rw [← e] at h1
        rcases List.mem_append.1 h2 with h2 | h2
        · exact n5 k h1 h2
        · exact C.f1 k h2 ((mem_fpC c _).2 (.inr (.inl h1))))
      have R0 := C.memc.2.1
      rw [e] at R0
      have hbl : adr hh t ∉ (hd c).L.map (adr hh) := fun hc => C.at_ ((mem_fpC c _).2 (.inr (.inr (.inl (adrs_fps _ hc)))))
      have hlv : ∀ y ∈ (hd c).L.map (adr hh) ++ adr hh t :: (hd c).R.map (adr hh), Lv wr y := fun y hy => by
        simp only [List.mem_append, List.mem_cons, List.mem_map] at hy
        rcases hy with ⟨s, hs, rfl⟩ | rfl | ⟨s, hs, rfl⟩
        · exact Kn.lv (show Kn _ _ _ _ _ _ _ _ from (C.memc.2.2.1 s (by simp [hs])).root)
        · exact C.lv
        · exact Kn.lv (show Kn _ _ _ _ _ _ _ _ from (C.memc.2.2.1 s (by simp [hs])).root)
      have X0 : Hid (Calls Try.prog 68 #[(.slice (some ⟨g, 0, none⟩) ((hd c).L.length + 1 + (hd c).R.length) cap), .pointer (some ⟨adr hh t, 0, none⟩)] wr fun e w' => e = .returned (.int .i64 ((hd c).L.length : Nat)) ∧ w' = wr) := hide (by
        have h1 := index_any ((hd c).L.map (adr hh)) ((hd c).R.map (adr hh)) (.slice (some ⟨g, 0, none⟩) ((hd c).L.length + 1 + (hd c).R.length) cap) (adr hh t) wr (by
          rw [← List.map_cons, ← List.map_append]
          exact R0) hbl hlv
        rw [List.length_map] at h1
        exact h1)
      have X1 := hide (clone_any ((hd c).L.map (adr hh)) (.slice (some ⟨g, 0, none⟩) (hd c).L.length cap) wr (by
        have h1 := vw_take R0 (k := (hd c).L.length) (by omega)
        rw [List.map_append, List.take_left' (by simp)] at h1
        exact h1) (by rw [List.length_map]; have := C.wf.1.1; omega))
      have CC := hide C
      have hL := C.wf.1.1
      have RR := hide R0
      have HG := hd'
      have r1 : (((hd c).L.length : Nat) : Int) ≤ (cap : Int) := by omega
      clear C n1 n2 n3 n4 n5 n6 n7 n8 n9 nt hlen c3 c4 hgo hA R0 hbl hlv e hd'
      generalize hA0 : (hd c).a = A0 at *
      have HA0 := hide hA0
      clear hA0
      have r2 : (((hd c).L.length : Nat) : Int) < ((hd c).L.length : Int) + 1 + ((hd c).R.length : Int) := by omega
      unfold ptr
      go_wp2_with fail
      refine (unhide X0).mono ?_
      rintro e w2 ⟨rfl, rfl⟩
      clear X0
      go_wp2_with fail
      refine (unhide X1).mono ?_
      rintro e w2 ⟨rv2, rfl, hr2, hb2, hn2⟩
      have X2 := hide ((unhide CC).step1 hr2 hb2 hn2)
      clear hr2 hb2 hn2 X1
      go_wp2_with fail
      refine (unhide X2).mono ?_
      rintro e w3 ⟨oa, rfl, hM⟩
      have X3 := hide ((unhide CC).step2 hM)
      clear hM X2
      go_wp2_with fail
      refine (unhide X3).mono ?_
      rintro e w4 ⟨o1', rfl, hM⟩
      have M1 := hide hM
      have z3 := hM.cell (i := 1) LA (unhide OA).2.1
      rw [q1] at z3
      have R4 : Row w4 (.slice (some ⟨g, 0, none⟩) ((hd c).L.length + 1 + (hd c).R.length) cap) (((hd c).L ++ t :: (hd c).R).map (adr hh)) := (unhide RR).keep hM.kp (unhide OG)
      have LA4 : A0 < w4.heap.size := Nat.lt_of_lt_of_le LA hM.size
      have X4 : Hid (∀ s, (∃ k c', s = .slice (some ⟨g, k, none⟩) (hd c).R.length c' ∧ (k = (hd c).L.length + 1 ∨ (hd c).R.length = 0)) → Calls Try.prog 70 #[s] w4 fun e w' => ∃ r, e = .returned r ∧ Row w' r ((hd c).R.map (adr hh)) ∧ Below w4.heap.size w4 w' ∧ ∀ g ∈ own r, w4.heap.size ≤ g) := hide (fun s hs => by
        obtain ⟨k, c', rfl, hk⟩ := hs
        refine clone_any _ _ w4 ?_ (by rw [List.length_map]; have := (unhide CC).wf.1.1; omega)
        by_cases hz : (hd c).R.length = 0
        · rw [hz, List.length_eq_zero_iff.1 hz]
          exact vw_empty _ _ _
        · have h1 := vw_drop R4 (k := (hd c).L.length + 1) (by omega) c'
          have e2 : (((hd c).L ++ t :: (hd c).R).map (adr hh)).drop ((hd c).L.length + 1) = (hd c).R.map (adr hh) := by
            rw [List.map_append, List.map_cons, ← List.drop_drop, List.drop_left' (by simp)]
            rfl
          rw [e2, Nat.add_sub_cancel_left] at h1
          rw [hk.resolve_right hz]
          exact h1)
      clear hM X3 R4 q1
      go_wp2_with fail
      all_goals
        refine (unhide X4 _ ⟨_, _, rfl, by first | exact .inl rfl | exact .inr (by omega)⟩).mono ?_
        rintro e w5 ⟨rv3, rfl, hr3, hb3, hn3⟩
        have X5 := hide ((unhide CC).step3 (unhide M1) hr3 hb3 hn3)
        clear hr3 hb3 hn3 X4
        go_wp2_with fail
        refine (unhide X5).mono ?_
        rintro e w6 ⟨ob, rfl, hM⟩
        have X6 := hide ((unhide CC).step4 (unhide M1) hM)
        clear hM X5
        go_wp2_with fail
        refine (unhide X6).mono ?_
        rintro e w7 ⟨o2', rfl, hM⟩
        obtain ⟨UP, q7⟩ := (unhide CC).up (unhide M1) hM
        rw [unhide HA0] at q7
        have UU := hide UP
        clear hM X6 UP z3
        go_wp2_with fail
        go_quiet (fail)
        go_wp2
        go_roundg (gk - 1)
        case rel => exact ⟨d, hh + 1, tl c, fill (hd c) t, o1', o2', hide (by have := unhide HG; omega), (unhide UU).drewN _, by rw [← unhide HA0]; rfl, rfl, rfl, rfl⟩
        all_goals (have := unhide HG; omega)
end Go.Proofs.Ytbkneonbpcmepaa
