/- The pool: Rank, Get. -/
import Derived.Test.YtbkneonbpcmepaaQ3
namespace Go.Proofs.Ytbkneonbpcmepaa
open Go.RowKit Go.Arb
set_option linter.unusedVariables false
set_option linter.unusedSimpArgs false

section
variable {w w' : World} {p : Nat} {v : Value} {xs : List Value} {ad : Nat → Nat} {F F' : List Tp} {A : Se}
theorem idx_of {l : List Nat} {v k : Nat} (hn : l.Nodup) (h : l[k]? = some v) : l.idxOf v = k := by
  obtain ⟨hk, rfl⟩ := List.getElem?_eq_some_iff.1 h
  exact hn.idxOf_getElem k hk
section
variable {T : Tp} {u d : Nat} {c : Cx d 0} {x : Tr 0}
theorem Ctx.split (q : Ctx w p v xs ad T F A u d c x) : (A.seq u).idxOf u = (pre d 0 c).length ∧ pre d 0 c = itw A.W ad ((A.seq u).take (pre d 0 c).length) ∧ rz (cw d 0 c) (its 0 x) ++ post d 0 c = itw A.W ad ((A.seq u).drop (pre d 0 c).length) ∧ Lf.w x + cw d 0 c = A.W u := by
  have h1 := plug_its d 0 c x
  rw [q.pl] at h1
  have h2 : itw A.W ad (A.seq u) = pre d 0 c ++ (rz (cw d 0 c) (its 0 x) ++ post d 0 c) := q.ti.symm.trans h1
  have h3 : rz (cw d 0 c) (its 0 x) = [((u, ad u), Lf.w x + cw d 0 c)] := by
    show [((Lf.v x, Lf.a x), Lf.w x + cw d 0 c)] = _
    rw [q.v, show Lf.a x = ad u from q.a]
  have h4 : (itw A.W ad (A.seq u))[(pre d 0 c).length]? = some ((u, ad u), Lf.w x + cw d 0 c) := by
    rw [h2, List.getElem?_append_right (Nat.le_refl _), h3]
    simp
  rw [itw, List.getElem?_map] at h4
  obtain ⟨y, hy, e⟩ := Option.map_eq_some_iff.1 h4
  simp only [Prod.mk.injEq] at e
  obtain ⟨⟨rfl, _⟩, e3⟩ := e
  refine ⟨idx_of (nodup_flatten q.pb.nd q.inL) hy, ?_, ?_, e3.symm⟩
  · have := congrArg (List.take (pre d 0 c).length) h2
    rw [List.take_left' rfl] at this
    exact this.symm.trans (by rw [itw, ← List.map_take]; rfl)
  · have := congrArg (List.drop (pre d 0 c).length) h2
    rw [List.drop_left' rfl] at this
    exact this.symm.trans (by rw [itw, ← List.map_drop]; rfl)
theorem Ctx.rank (q : Ctx w p v xs ad T F A u d c x) (hu : u ∈ A.L.flatten) : A.rankI u = ((pre d 0 c).length : Nat) := by
  rw [Se.rankI, A.hasI_nat, if_pos (by simpa using hu)]
  simp [q.split.1]
theorem Ctx.get (q : Ctx w p v xs ad T F A u d c x) (hu : u ∈ A.L.flatten) : A.getI u = Lf.w x + cw d 0 c := by
  rw [Se.getI, A.hasI_nat, if_pos (by simpa using hu), q.split.2.2.2]
  simp
theorem Ctx.len (q : Ctx w p v xs ad T F A u d c x) : (A.seq u).length ≤ 4194304 := by
  have h1 := q.own.len
  have h2 : its T.h T.t = itw A.W ad (A.seq u) := q.ti
  rw [h2, itw_length] at h1
  exact h1
theorem Ctx.fit (q : Ctx w p v xs ad T F A u d c x) : FitL (itw A.W ad (A.seq u)) := by rw [← q.ti]; exact q.own.wf.fit
end
theorem rank_nil (x : Int) (w : World) : Calls Try.prog 33 #[.pointer none, .int .i64 x] w fun e w' => e = .returned (.int .i64 (-1)) ∧ w = w' := by
  go_enter Try.func33, Try.ntmps33
  go_wp2_with (go_at_call 60; refine (find_nil _ _).mono ?_; rintro e w' ⟨rfl, rfl⟩)
  go_ret
  exact ⟨rfl, rfl⟩
set_option maxRecDepth 100000 in
theorem rank_any (x : Int) (h : PB w p v xs ad F A) : Calls Try.prog 33 #[.pointer (some ⟨p, 0, none⟩), .int .i64 x] w fun e w' => e = .returned (.int .i64 (A.rankI x)) ∧ w = w' := by
  have F1 := hide (find_any x h)
  cases hh : A.hasI x
  · rw [findV_no ad hh] at F1
    rw [show A.rankI x = -1 from by simp [Se.rankI, hh]]
    clear h hh
    go_enter Try.func33, Try.ntmps33
    go_wp2_with (go_at_call 60; refine (unhide F1).mono ?_; rintro e w' ⟨rfl, rfl⟩)
    go_ret
    exact ⟨rfl, rfl⟩
  · obtain ⟨u, rfl, hu⟩ := Se.hasI_true hh
    rw [findV_yes ad hh] at F1
    obtain ⟨T, F', d0, c0, x0, q⟩ := h.ctx hu
    rw [q.rank hu]
    have hR : (pre d0 0 c0).length ≤ 4194304 := by
      have h1 := q.own.len
      have h2 := plug_its d0 0 c0 x0
      rw [q.pl] at h2
      rw [h2, List.length_append] at h1
      omega
    have O := hide q.own
    have PL := hide q.pl
    have e0 : ad u = adr 0 x0 := q.a.symm
    rw [e0] at F1
    generalize hRR : (pre d0 0 c0).length = R at *
    have HRR := hide hRR
    clear h hh hu q e0 hRR
    go_enter Try.func33, Try.ntmps33
    go_wp2_with fail
    refine (unhide F1).mono ?_
    rintro e w2 ⟨rfl, rfl⟩
    clear F1
    go_wp2_with fail
    go_loopg [5, 6] d0 (fun gk k r w' => ∃ (d h : Nat) (c : Cx d h) (t : Tr h) (n : Nat), Hid (d = gk) ∧ Hid (plug d h c t = T) ∧ Hid (n + (pre d h c).length = R) ∧ k = .pointer (some ⟨adr h t, 0, none⟩) ∧ r = .int .i64 (n : Int) ∧ w' = w)
    case atStart => exact ⟨d0, 0, c0, x0, 0, hide rfl, PL, hide (by have := unhide HRR; omega), rfl, rfl, rfl⟩
    case round =>
      obtain ⟨d, h, c, t, n, hg, he, hn, rfl, rfl, rfl⟩ := hrel
      have m1 := ((mem_plug d h c t).1 (by rw [unhide he]; exact (unhide O).mem)).1
      obtain ⟨q0, _⟩ := Kn.cells m1.root
      clear m1
      cases d with
      | zero =>
        simp only [upC] at q0
        have e1 : n = R := by have := unhide hn; simpa [pre] using this
        subst e1
        go_wp2
        go_ret
        exact ⟨rfl, rfl⟩
      | succ d =>
        simp only [upC] at q0
        unfold ptr at q0
        have e2 : (pre (d + 1) h c).length = (pre d (h + 1) (tl c)).length + ((hd c).L.flatMap (its h)).length := by
          rw [pre, List.length_append, rz_length]
        have hn' : n + ((pre d (h + 1) (tl c)).length + ((hd c).L.flatMap (its h)).length) = R := by rw [← e2]; exact unhide hn
        have A1 := hide (ahead_any c t _ (by rw [unhide he]; exact (unhide O).mem) (by rw [unhide he]; exact (unhide O).nd) (by rw [unhide he]; exact (unhide O).len) (by
          have h1 := wfC_of (d + 1) h c t (by rw [unhide he]; exact (unhide O).wf)
          have := h1.1.1
          omega))
        have e3 : adr (h + 1) (fill (hd c) t) = (hd c).a := rfl
        generalize ((hd c).L.flatMap (its h)).length = m at *
        have HN := hide (show (n + m) + (pre d (h + 1) (tl c)).length = R by omega)
        have hnm : n + m ≤ 4194304 := by omega
        have he2 := hide (show plug d (h + 1) (tl c) (fill (hd c) t) = T from unhide he)
        clear hn hn' e2 he
        unfold ptr at A1
        go_wp2_with fail
        refine (unhide A1).mono ?_
        rintro e w2 ⟨rfl, rfl⟩
        clear A1
        go_wp2
        go_roundg (gk - 1)
        case rel => exact ⟨d, h + 1, tl c, fill (hd c) t, n + m, hide (by have := unhide hg; omega), he2, HN, by rw [e3], by rw [Int.natCast_add], rfl⟩
        all_goals (have := unhide hg; omega)

theorem addV_fit {x n : Int} (h1 : -1099511627776 ≤ x ∧ x ≤ 1099511627776) (h2 : -2199023255552 ≤ n ∧ n ≤ 2199023255552) (h3 : -1099511627776 ≤ x + n ∧ x + n ≤ 1099511627776) : addV x n = x + n := by
  rw [addV, if_pos]
  simp [addB, fitB, inB, h1, h2, h3]
theorem get_nil (x : Int) (w : World) : Calls Try.prog 27 #[.pointer none, .int .i64 x] w fun e w' => e = .returned (.tuple #[.int .i64 0, .bool false]) ∧ w = w' := by
  go_enter Try.func27, Try.ntmps27
  go_wp2_with (go_at_call 60; refine (find_nil _ _).mono ?_; rintro e w' ⟨rfl, rfl⟩)
  refine bodyPost_ret (v := .tuple #[.int .i64 0, .bool false]) (by simp [results, Try.results27, go_sem]) rfl ⟨rfl, rfl⟩
set_option maxRecDepth 100000 in
theorem get_any (x : Int) (h : PB w p v xs ad F A) : Calls Try.prog 27 #[.pointer (some ⟨p, 0, none⟩), .int .i64 x] w fun e w' => e = .returned (.tuple #[.int .i64 (A.getI x), .bool (A.hasI x)]) ∧ w = w' := by
  have F1 := hide (find_any x h)
  cases hh : A.hasI x
  · rw [findV_no ad hh] at F1
    rw [show A.getI x = 0 from by simp [Se.getI, hh]]
    clear h hh
    go_enter Try.func27, Try.ntmps27
    go_wp2_with (go_at_call 60; refine (unhide F1).mono ?_; rintro e w' ⟨rfl, rfl⟩)
    refine bodyPost_ret (v := .tuple #[.int .i64 0, .bool false]) (by simp [results, Try.results27, go_sem]) rfl ⟨rfl, rfl⟩
  · obtain ⟨u, rfl, hu⟩ := Se.hasI_true hh
    rw [findV_yes ad hh] at F1
    obtain ⟨T, F', d0, c0, x0, q⟩ := h.ctx hu
    rw [q.get hu]
    have O := hide q.own
    have PL := hide q.pl
    have e0 : ad u = adr 0 x0 := q.a.symm
    rw [e0] at F1
    have m0 := ((mem_plug d0 0 c0 x0).1 (by rw [q.pl]; exact q.own.mem)).1
    obtain ⟨q0, _, _, _, _, _, q6, _, _⟩ := Kn.cells m0.root
    have e6 : (sm 0 x0).s = Lf.w x0 := by
      show (smL [_]).s = _
      rw [smL_one]; rfl
    rw [e6] at q6
    generalize hRR : Lf.w x0 + cw d0 0 c0 = R at *
    have HRR := hide hRR
    have HM := hide (show ∃ k, (k, Lf.w x0) ∈ its 0 x0 from ⟨_, List.mem_singleton.2 rfl⟩)
    generalize hu0 : upC d0 0 c0 = u0 at *
    have HU := hide hu0
    clear h hh hu q hRR m0 e6 hu0 e0
    generalize Lf.w x0 = W0 at *
    generalize hA0 : adr 0 x0 = A0 at *
    clear hA0
    go_enter Try.func27, Try.ntmps27
    go_wp2_with fail
    refine (unhide F1).mono ?_
    rintro e w2 ⟨rfl, rfl⟩
    clear F1
    go_wp2_with fail
    go_loopg [6, 7] d0 (fun gk k r w' => ∃ (d h : Nat) (c : Cx d h) (t : Tr h) (y : Int), Hid (d = gk) ∧ Hid (plug d h c t = T) ∧ Hid (y + cw d h c = R) ∧ Hid (∃ k, (k, y) ∈ its h t) ∧ k = upC d h c ∧ r = .int .i64 y ∧ w' = w)
    case atStart => exact ⟨d0, 0, c0, x0, W0, hide rfl, PL, HRR, HM, (unhide HU).symm, rfl, rfl⟩
    case round =>
      obtain ⟨d, h, c, t, y, hg, he, hn, hm, rfl, rfl, rfl⟩ := hrel
      clear q0 q6 HU HRR HM
      cases d with
      | zero =>
        simp only [upC]
        have e1 : y = R := by have := unhide hn; simpa [cw] using this
        subst e1
        go_wp2
        refine bodyPost_ret (v := .tuple #[.int .i64 y, .bool true]) (by simp [results, Try.results27, go_sem]) rfl ⟨rfl, rfl⟩
      | succ d =>
        have m1 := ((mem_plug d (h + 1) (tl c) (fill (hd c) t)).1 (by rw [show plug d (h + 1) (tl c) (fill (hd c) t) = T from unhide he]; exact (unhide O).mem)).1
        obtain ⟨q0, _, _, _, q4, _⟩ := Kn.cells m1.root
        rw [show wt (h + 1) (fill (hd c) t) = (hd c).m from rfl, show adr (h + 1) (fill (hd c) t) = (hd c).a from rfl] at *
        have w1 := (wf_plug d (h + 1) 2 (tl c) (fill (hd c) t) (by omega) (by rw [show plug d (h + 1) (tl c) (fill (hd c) t) = T from unhide he]; exact (unhide O).wf)).1
        have w0 := (wf_plug (d + 1) h 2 c t (by omega) (by rw [unhide he]; exact (unhide O).wf)).1
        have b2 := Wf.wt (by decide) w1
        obtain ⟨k, hk⟩ := unhide hm
        have b1 := w0.fit _ hk
        have hk2 : (k, y + (hd c).m) ∈ its (h + 1) (fill (hd c) t) := by
          rw [its_fill]
          exact List.mem_map.2 ⟨(k, y), by simp [hk], rfl⟩
        have b3 := w1.fit _ hk2
        dsimp only at b1 b3
        rw [show wt (h + 1) (fill (hd c) t) = (hd c).m from rfl] at b2
        have hy := addV_fit b1 b2 b3
        have H1 := hide (fun W => heavier_any y (hd c).m W)
        rw [hy] at H1
        have hn2 := hide (show (y + (hd c).m) + cw d (h + 1) (tl c) = R by have := unhide hn; rw [cw] at this; omega)
        have he2 := hide (show plug d (h + 1) (tl c) (fill (hd c) t) = T from unhide he)
        have HK := hide (show ∃ k, (k, y + (hd c).m) ∈ its (h + 1) (fill (hd c) t) from ⟨k, hk2⟩)
        clear m1 w1 w0 b1 b2 b3 hk hk2 hm hy hn he
        simp only [upC]
        unfold ptr
        go_wp2_with fail
        refine (unhide H1 _).mono ?_
        rintro e w2 ⟨rfl, rfl⟩
        clear H1
        go_wp2
        go_roundg (gk - 1)
        case rel => exact ⟨d, h + 1, tl c, fill (hd c) t, y + (hd c).m, hide (by have := unhide hg; omega), he2, hn2, HK, rfl, rfl, rfl⟩
        all_goals (have := unhide hg; omega)
end
end Go.Proofs.Ytbkneonbpcmepaa
