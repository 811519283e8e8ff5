import Derived.Test.YtbcibdofcjehcaaC5
namespace Go.Proofs.Ytbcibdofcjehcaa
open Go.RowKit Go.Arb
set_option linter.unusedVariables false

theorem fits_any' (n : Int) (w : World) : Calls Try.prog 52 #[.int .i64 n] w fun r w' => r = .returned (.bool (fitB n)) ∧ w = w' := (fits_any n w).mono fun e w' h => ⟨h.1, h.2.symm⟩

def Tr.addB (T : Tr) (v w : Int) : Bool := decide (0 ≤ v) && decide (v < (T.n : Int)) && !T.hasI v && fitB w

set_option maxHeartbeats 400000 in
theorem add_nil (x y : Int) (w : World) : Calls Try.prog 17 #[.pointer none, .int .i64 x, .int .i64 y] w fun e w' => e = .returned (.bool false) ∧ w = w' := by
  go_enter Try.func17, Try.ntmps17
  go_wp2
  go_ret
  exact ⟨rfl, rfl⟩

set_option maxHeartbeats 800000 in
theorem add_no (x y : Int) (w : World) (p : Nat) (u v : Value) (F : Fo) (h : FoIn w p u v F) (hl : F.tr.addB x y = false) :
    Calls Try.prog 17 #[.pointer (some ⟨p, 0, none⟩), .int .i64 x, .int .i64 y] w fun e w' => e = .returned (.bool false) ∧ w = w' := by
  have h1 := hide (has_any x w p u v F h)
  have h2 := hide (fits_any' y w)
  obtain ⟨c0, c1, c2, _⟩ := h.cells
  unfold Tr.addB at hl
  rw [show F.tr.n = F.room from rfl] at hl
  clear h
  by_cases hx0 : x < 0
  · clear hl
    go_enter Try.func17, Try.ntmps17
    go_wp2
    go_ret
    exact ⟨rfl, rfl⟩
  · by_cases hx1 : (F.room : Int) ≤ x
    · clear hl
      go_enter Try.func17, Try.ntmps17
      go_wp2
      go_ret
      exact ⟨rfl, rfl⟩
    · rw [show decide (0 ≤ x) = true from by simp; omega, show decide (x < (F.room : Int)) = true from by simp; omega] at hl
      generalize F.tr.hasI x = a at *
      generalize fitB y = b at *
      have hx1' : ¬ x ≥ (F.room : Int) := by omega
      cases a
      · simp at hl
        subst hl
        go_enter Try.func17, Try.ntmps17
        go_wp2_with fail
        refine (unhide h1).mono ?_
        rintro e w' ⟨rfl, rfl⟩
        go_wp2_with fail
        refine (unhide h2).mono ?_
        rintro e w' ⟨rfl, rfl⟩
        go_wp2
        go_ret
        exact ⟨rfl, rfl⟩
      · clear hl
        go_enter Try.func17, Try.ntmps17
        go_wp2_with fail
        refine (unhide h1).mono ?_
        rintro e w' ⟨rfl, rfl⟩
        go_wp2
        go_ret
        exact ⟨rfl, rfl⟩

theorem Fo.more_len (F : Fo) (i : Nat) (hw : F.ws.length = F.ps.length) : i < (F.more (i + 1 - F.ps.length)).ps.length ∧ i < (F.more (i + 1 - F.ps.length)).ws.length := by
  simp [Fo.more]; omega

set_option maxHeartbeats 1000000 in
theorem add_yes (i : Nat) (y : Int) (w : World) (p : Nat) (u v : Value) (F : Fo) (h : FoIn w p u v F) (ho : Ok F) (hi : F.tr.par i = -2) (hn : i < F.room) (hy : fitB y = true) :
    Calls Try.prog 17 #[.pointer (some ⟨p, 0, none⟩), .int .i64 (i : Int), .int .i64 y] w fun e w' => e = .returned (.bool true) ∧ ∃ u' v' F', FoIn w' p u' v' F' ∧ Ok F' ∧ F'.tr = F.tr.add i y ∧ Keep (fp p u v) w w' ∧ Grew w (fp p u v) (fp p u' v') := by
  have h1 := hide (has_any i w p u v F h)
  have h2 := hide (fits_any' y w)
  rw [F.tr.hasI_nat, hi] at h1
  rw [hy] at h2
  obtain ⟨c0, c1, c2, _⟩ := h.cells
  have hrm : F.room ≤ 1048576 := ho.fit.n
  have h3 := hide (reach_any i _ w p u v F h ho.wl (by omega) rfl)
  have HO := hide (And.intro ho (And.intro hi (And.intro hn hy)))
  have hn' : ¬ (i : Int) ≥ (F.room : Int) := by omega
  have hn0 : ¬ (i : Int) < 0 := by omega
  clear ho hi h hy
  go_enter Try.func17, Try.ntmps17
  go_wp2_with fail
  refine (unhide h1).mono ?_
  rintro e w' ⟨rfl, rfl⟩
  go_wp2_with fail
  refine (unhide h2).mono ?_
  rintro e w' ⟨rfl, rfl⟩
  go_wp2_with fail
  refine (unhide h3).mono ?_
  rintro e w1 ⟨rfl, u', v', h, hk, hg⟩
  obtain ⟨ho, hi, _, hy⟩ := unhide HO
  obtain ⟨l1, l2⟩ := F.more_len i ho.wl
  have hOK : Ok ({ room := F.room, ps := (F.more (i + 1 - F.ps.length)).ps.set i (-1), ws := (F.more (i + 1 - F.ps.length)).ws.set i y } : Fo) ∧ ({ room := F.room, ps := (F.more (i + 1 - F.ps.length)).ps.set i (-1), ws := (F.more (i + 1 - F.ps.length)).ws.set i y } : Fo).tr = F.tr.add i y := by
    have e : ({ room := F.room, ps := (F.more (i + 1 - F.ps.length)).ps.set i (-1), ws := (F.more (i + 1 - F.ps.length)).ws.set i y } : Fo).tr = F.tr.add i y := by
      have m := F.more_tr (i + 1 - F.ps.length)
      have m1 : (F.more (i + 1 - F.ps.length)).tr.par = F.tr.par := by rw [m]
      have m2 : (F.more (i + 1 - F.ps.length)).tr.wt = F.tr.wt := by rw [m]
      simp only [Fo.tr] at m1 m2
      simp only [Fo.tr, Tr.add, getD_set l1, getD_set l2, m1, m2]
    refine ⟨⟨?_, ?_, ?_, ?_⟩, e⟩
    · have := ho.len; simp [Fo.more]; omega
    · have := ho.wl; simp [Fo.more, this]
    · rw [e]; exact ho.wf.add hi hn
    · rw [e]; exact ho.fit.add (by simpa [fitB] using hy)
  obtain ⟨c0, c1, c2, _⟩ := h.cells
  have hroom : (F.more (i + 1 - F.ps.length)).room = F.room := rfl
  generalize F.more (i + 1 - F.ps.length) = G at *
  obtain ⟨g, cap, rfl, k1, k2, k3, k4, o1, k5⟩ := h.par i l1
  obtain ⟨g', cap', rfl, k1', k2', k3', k4', o2, k5'⟩ := h.wt i l2
  have hgg : g ≠ g' := fun e => h.uv g (by rw [o1]; simp) (by rw [o2, e]; simp)
  obtain ⟨d, fd⟩ := k5 i l1
  obtain ⟨d', fd'⟩ := k5' i l2
  have R1 := h.setPar rfl i (-1)
  have R2 := R1.1.setWt rfl i y
  have R : Hid (∃ u' v' F', FoIn ((w1.setCell ⟨g, i, none⟩ (.int .i64 (-1))).setCell ⟨g', i, none⟩ (.int .i64 y)) p u' v' F' ∧ Ok F' ∧ F'.tr = F.tr.add i y ∧ Keep (fp p u v) w ((w1.setCell ⟨g, i, none⟩ (.int .i64 (-1))).setCell ⟨g', i, none⟩ (.int .i64 y)) ∧ Grew w (fp p u v) (fp p u' v')) := by
    have r := R2.1
    dsimp only at r
    rw [hroom] at r
    exact ⟨_, _, _, r, hOK.1, hOK.2, hk.trans (R1.2.trans R2.2 (fun _ hk => .inl hk)) (fun i hi => hg i hi), hg⟩
  clear h k5 k5' hi R1 R2 o1 o2 hOK ho hk hg hy hroom
  generalize G.ps.length = n at *
  generalize G.ws.length = n' at *
  unfold maxLen at k2 k2'
  have e1 : (0 : Int) ≤ (i : Int) := by omega
  have e2 : (i : Int) < (n : Int) := by omega
  have e2' : (i : Int) < (n' : Int) := by omega
  go_wp2
  go_ret
  exact ⟨rfl, unhide R⟩

theorem evert_no (x : Int) (w : World) (p : Nat) (u v : Value) (F : Fo) (h : FoIn w p u v F) (hl : F.tr.hasI x = false) :
    Calls Try.prog 25 #[.pointer (some ⟨p, 0, none⟩), .int .i64 x] w fun e w' => e = .returned (.bool false) ∧ w = w' := by
  have h1 := hide (has_any x w p u v F h)
  rw [hl] at h1
  clear h hl
  go_enter Try.func25, Try.ntmps25
  go_wp2_with fail
  refine (unhide h1).mono ?_
  rintro e w' ⟨rfl, rfl⟩
  go_wp2
  go_ret
  exact ⟨rfl, rfl⟩

def hdI : List Nat → Int
  | [] => -1
  | v :: _ => v

/-- Where the turning stands. -/
structure Turns (F F' : Fo) (l0 : List Nat) (z : Int) (l : List Nat) : Prop where
  room : F'.room = F.room
  lp : F'.ps.length = F.ps.length
  ws : F'.ws = F.ws
  t : turn F'.tr.par z l = turn F.tr.par (-1) l0
  same : ∀ x ∈ l, F'.tr.par x = F.tr.par x
  up : l = [] ∨ ∃ y, Up F.tr.par y l

theorem Turns.step {F F' : Fo} {l0 : List Nat} {z : Int} {y : Nat} {l : List Nat} (h : Turns F F' l0 z (y :: l)) (hy : y < F'.ps.length) : Turns F { F' with ps := F'.ps.set y z } l0 (y : Int) l := by
  have hu : Up F.tr.par y (y :: l) := by
    rcases h.up with e | ⟨y', hu⟩
    · simp at e
    · obtain ⟨t, e⟩ := hu.head
      simp at e
      rw [← e.1] at hu
      exact hu
  have nd := List.nodup_cons.1 hu.nodup
  refine ⟨h.room, by simp [h.lp], h.ws, ?_, fun x hx => ?_, ?_⟩
  · rw [Fo.tr_par hy]
    have := h.t
    rw [turn] at this
    exact this
  · rw [Fo.tr_par hy]
    show updF F'.tr.par y z x = _
    rw [updF_other _ _ (show x ≠ y from fun e => nd.1 (e ▸ hx))]
    exact h.same x (by simp [hx])
  · rcases hu.next with ⟨_, e⟩ | ⟨q, _, hq⟩
    · exact .inl e
    · exact .inr ⟨q, hq⟩
theorem Turns.next {F F' : Fo} {l0 : List Nat} {z : Int} {y : Nat} {l : List Nat} (h : Turns F F' l0 z (y :: l)) : F'.tr.par y = hdI l ∧ F.tr.par y ≠ -2 := by
  have hu : Up F.tr.par y (y :: l) := by
    rcases h.up with e | ⟨y', hu⟩
    · simp at e
    · obtain ⟨t, e⟩ := hu.head
      simp at e
      rw [← e.1] at hu
      exact hu
  rw [h.same y (by simp)]
  refine ⟨?_, hu.there⟩
  rcases hu.next with ⟨e, rfl⟩ | ⟨q, e, hq⟩
  · exact e
  · obtain ⟨t, rfl⟩ := hq.head
    exact e

set_option maxHeartbeats 1000000 in
theorem evert_yes (i : Nat) (w : World) (p : Nat) (u v : Value) (F : Fo) (h : FoIn w p u v F) (ho : Ok F) (hi : F.tr.par i ≠ -2) :
    Calls Try.prog 25 #[.pointer (some ⟨p, 0, none⟩), .int .i64 (i : Int)] w fun e w' => e = .returned (.bool true) ∧ ∃ F', FoIn w' p u v F' ∧ Ok F' ∧ F'.tr = F.tr.evert i ∧ Keep (fp p u v) w w' := by
  have h1 := hide (has_any i w p u v F h)
  rw [F.tr.hasI_nat, show (F.tr.par i != -2) = true from by simpa using hi] at h1
  have hup := ho.wf.spec hi
  have hl0 : hdI (F.tr.up i) = i := by obtain ⟨t, e⟩ := hup.head; rw [e]; rfl
  have HS := hide (show Turns F F (F.tr.up i) (-1) (F.tr.up i) from ⟨rfl, rfl, rfl, rfl, fun _ _ => rfl, .inr ⟨i, hup⟩⟩)
  have HE : Hid (∀ F', Turns F F' (F.tr.up i) (lastI (F.tr.up i)) [] → Ok F' ∧ F'.tr = F.tr.evert i) := fun F' ht => by
    have e : F'.tr = F.tr.evert i := by
      have t := ht.t
      rw [turn] at t
      unfold Tr.evert
      rw [← t]
      simp only [Fo.tr, ht.room, ht.ws]
    exact ⟨⟨by rw [ht.lp, ht.room]; exact ho.len, by rw [ht.lp, ht.ws]; exact ho.wl, by rw [e]; exact ho.wf.evert hi, by rw [e]; exact ho.fit.evert ho.wf hi⟩, e⟩
  have HL := hide hl0
  have HF := hide h
  have HFZ : Hid (∀ F' z, Turns F F' (F.tr.up i) z [] → Turns F F' (F.tr.up i) (lastI (F.tr.up i)) []) := fun F' z ht => ⟨ht.room, ht.lp, ht.ws, ht.t, ht.same, ht.up⟩
  clear hup hl0 ho hi h
  generalize F.tr.up i = l0 at *
  go_enter Try.func25, Try.ntmps25
  go_wp2_with fail
  refine (unhide h1).mono ?_
  rintro e w' ⟨rfl, rfl⟩
  go_wp2
  go_loopg [1, 5] l0.length (fun gk a b w' => ∃ (F' : Fo) (l : List Nat) (z : Int), a = .int .i64 (hdI l) ∧ b = .int .i64 z ∧ l.length = gk ∧ Hid (FoIn w' p u v F' ∧ Turns F F' l0 z l ∧ Keep (fp p u v) w w'))
  case atStart => exact ⟨F, l0, -1, by rw [unhide HL], rfl, rfl, unhide HF, unhide HS, Keep.refl _ _⟩
  case round =>
    obtain ⟨F', l, z, rfl, rfl, hgk, HK⟩ := hrel
    obtain ⟨h, ht, hk⟩ := unhide HK
    cases l with
    | nil =>
      have R := hide (And.intro h (And.intro (unhide HE F' (unhide HFZ F' z ht)) hk))
      clear h ht hk HK hgk
      rw [show hdI [] = -1 from rfl]
      go_wp2
      go_ret
      exact ⟨rfl, F', (unhide R).1, (unhide R).2.1.1, (unhide R).2.1.2, (unhide R).2.2⟩
    | cons y l =>
      obtain ⟨n1, n2⟩ := ht.next
      have hy : y < F'.ps.length := by rw [ht.lp]; exact Fo.par_lt n2
      obtain ⟨c0, c1, c2, _⟩ := h.cells
      obtain ⟨g, cap, rfl, k1, k2, k3, k4, o1, k5⟩ := h.par y hy
      obtain ⟨d, fd⟩ := k5 y hy
      rw [n1] at d
      have R1 := h.setPar rfl y z
      have R := hide (And.intro R1.1 (And.intro (ht.step hy) (hk.trans R1.2 (fun _ hk => .inl hk))))
      clear h ht hk k5 o1 R1 n1 n2 HK
      rw [show hdI (y :: l) = (y : Int) from rfl]
      have hyn : ((y : Int) == -1) = false := by rw [beq_eq_false_iff_ne]; omega
      generalize F'.ps.length = n at *
      unfold maxLen at k2
      have e1 : (0 : Int) ≤ (y : Int) := by omega
      have e2 : (y : Int) < (n : Int) := by omega
      have HG := hide hgk
      clear hgk
      generalize hq : hdI l = q at *
      have HQ := hide hq
      clear hq
      go_wp2
      go_roundg (gk - 1)
      case rel => exact ⟨_, l, y, by rw [unhide HQ], rfl, by have := unhide HG; simp at this; omega, unhide R⟩
      all_goals
        have := unhide HG
        simp at this
        omega
end Go.Proofs.Ytbcibdofcjehcaa
