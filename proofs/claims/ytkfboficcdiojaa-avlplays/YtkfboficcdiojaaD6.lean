import Derived.Test.YtkfboficcdiojaaD4
import Derived.Test.YtkfboficcdiojaaK7
namespace Go.Proofs.Ytkfboficcdiojaa
open Go.RowKit Go.Arb
set_option linter.unusedVariables false
set_option linter.unusedSimpArgs false

def RaiseTo (p g n cap room : Nat) (t : Nat) (f e d : Int) (S : Ss) (xs xs' : List It) : Prop := ∀ W, Pool W p g n cap room S → Calls Try.prog 59 #[.pointer (some ⟨p, 0, none⟩), .int .i64 (t : Int), .int .i64 f, .int .i64 e, .int .i64 d] W fun r w' => r = .returned (.tuple #[]) ∧ ∃ S', Pool w' p g n cap room S' ∧ Keep [g] W w' ∧ Rg S S' t xs xs'

set_option maxHeartbeats 4000000 in
theorem raiseWhole (p g n cap room t : Nat) (S : Ss) (xs : List It) (f e d : Int) (z : Z S) (hp : Pt S t xs) (nd : (ids xs).Nodup) (htn : t < n) (h1 : f ≤ 0) (h2 : (xs.length : Int) ≤ e) (hf : FitL (rz d xs)) (hl : xs.length ≤ 4194304) (d1 : -2199023255552 ≤ d) (d2 : d ≤ 2199023255552) : RaiseTo p g n cap room t f e d S xs (rz d xs) := by
  intro w h
  have R := hide (raise_any t d xs w p g n cap room S h z hp hf hl htn d1 d2)
  have FF := hide (Rg.raise hp z nd hf)
  have hc := hp.c z
  obtain ⟨_, c1, _, _, k1, k2⟩ := h.head
  obtain ⟨_, _, _, _, _, _, e6, _⟩ := h.slot htn
  have i1 : (0 : Int) ≤ (t : Int) := by omega
  have i2 : (t : Int) < (n : Int) := by omega
  have hce : (S t).sm.c ≤ e := by omega
  clear h hp z nd hf hc h2
  generalize (S t).sm.c = yc at *
  go_enter Try.func59, Try.ntmps59
  go_wp2_with fail
  refine (unhide R).mono ?_
  rintro e w1 ⟨rfl, hP, hK⟩
  have X := hide (And.intro hP hK)
  clear hP hK R
  go_wp2
  refine bodyPost_ret (results_none rfl _ _ _) rfl ?_
  exact ⟨rfl, _, (unhide X).1, (unhide X).2, unhide FF⟩

set_option maxRecDepth 100000 in
set_option maxHeartbeats 4000000 in
theorem raiseRange_any (p g n cap room : Nat) (n0 : 0 < n) (d : Int) (d1 : -2199023255552 ≤ d) (d2 : d ≤ 2199023255552) : ∀ (k t : Nat) (xs : List It) (S : Ss) (f e : Int) (b : Nat), (S t).h ≤ k → Z S → Pt S t xs → (ids xs).Nodup → (f < (xs.length : Int) ∨ f ≤ 0) → 0 ≤ e → e ≤ 8388608 → -(b : Int) ≤ f → b + xs.length ≤ 8388608 → f ≤ 8388608 → (∀ u ∈ ids xs, u < n) → xs.length ≤ 4194304 → FitL (rrL f e d xs) →
    RaiseTo p g n cap room t f e d S xs (rrL f e d xs) := by
  intro k
  induction k with
  | zero =>
    intro t xs S f e b hk z hp nd hf he he2 hb hb2 hf2 hn hl hfit
    have t0 : t = 0 := (hp.h0 z).1 (by omega)
    subst t0
    have hx := hp.of0
    subst hx
    exact raiseWhole p g n cap room 0 S [] f e d z hp nd n0 (by simp at hf; omega) (by simpa using he) FitL.nil (by simp) d1 d2
  | succ k ih =>
    intro t xs S f e b hk z hp ndx hf he he2 hb hb2 hf2 hn hl hfit
    by_cases t0 : t = 0
    · subst t0
      have hx := hp.of0
      subst hx
      exact raiseWhole p g n cap room 0 S [] f e d z hp ndx n0 (by simp at hf; omega) (by simpa using he) FitL.nil (by simp) d1 d2
    have htn := hn t (hp.mem t0)
    by_cases hw : f ≤ 0 ∧ (xs.length : Int) ≤ e
    · rw [rrL_all hw.1 hw.2] at hfit ⊢
      exact raiseWhole p g n cap room t S xs f e d z hp ndx htn hw.1 hw.2 hfit hl d1 d2
    intro w h
    have hcc := hp.c z
    have st := hp.settle z ndx t0
    have T := hide (settle_to (p := p) (g := g) (n := n) (cap := cap) (room := room) z hp ndx hl t0 w h)
    obtain ⟨_, c1, _, _, k1, k2⟩ := h.head
    obtain ⟨_, _, _, _, _, _, e6, _⟩ := h.slot htn
    generalize settleS S t = S1 at *
    have wt : (S1 t).wa = 0 := by rw [st.at']
    obtain ⟨xl, xr, p1, p2, nd, eq, ap⟩ := st.pt.still ndx t0 wt
    have hlen : xs.length = xl.length + xr.length + 1 := by rw [eq]; simp; omega
    have hh := nd.h
    have hht := st.hh t
    have nl : ∀ u ∈ ids xl, u < n := fun u hu => hn u (by rw [nd.idl]; simp [hu])
    have nr : ∀ u ∈ ids xr, u < n := fun u hu => hn u (by rw [nd.idl]; simp [hu])
    have hln : (S1 t).l < n := by
      by_cases e0 : (S1 t).l = 0
      · omega
      · exact nl _ (p1.mem e0)
    have hrn : (S1 t).r < n := by
      by_cases e0 : (S1 t).r = 0
      · omega
      · exact nr _ (p2.mem e0)
    have eqr : rrL f e d xs = rrL f e d xl ++ (t, if f ≤ (xl.length : Int) ∧ (xl.length : Int) < e then (S1 t).wt + d else (S1 t).wt) :: rrL (f - xl.length - 1) (e - xl.length - 1) d xr := by
      rw [eq, rrL_append, rrL_cons]
      congr 2
      have : (f - (xl.length : Int) ≤ 0 ∧ 0 < e - (xl.length : Int)) ↔ (f ≤ (xl.length : Int) ∧ (xl.length : Int) < e) := by omega
      simp only [this]
      split <;> rfl
    rw [eqr] at hfit ⊢
    have hfit' := hfit
    rw [FitL.append, FitL.cons] at hfit'
    obtain ⟨fit1, fit2, fit3⟩ := hfit'
    have r1 := rrL_ids f e d xl
    have r2 := rrL_ids (f - xl.length - 1) (e - xl.length - 1) d xr
    have rl1 := rrL_length f e d xl
    have rl2 := rrL_length (f - xl.length - 1) (e - xl.length - 1) d xr
    have I1 : (f < (xl.length : Int)) → Hid (RaiseTo p g n cap room (S1 t).l f e d S1 xl (rrL f e d xl)) := fun hc => ih (S1 t).l xl S1 f e b (by omega) st.z p1 ap.nl (.inl hc) he he2 hb (by omega) hf2 nl (by omega) fit1
    have N1 : (¬ f < (xl.length : Int)) → rrL f e d xl = xl := fun hc => rrL_none (.inl (by omega))
    have I2 : ∀ S2, Rg S1 S2 (S1 t).l xl (rrL f e d xl) → ((xl.length : Int) + 1 < e) → Hid (RaiseTo p g n cap room (S1 t).r (f - xl.length - 1) (e - xl.length - 1) d S2 xr (rrL (f - xl.length - 1) (e - xl.length - 1) d xr)) := fun S2 rg hc => ih (S1 t).r xr S2 _ _ (b + xl.length + 1) (by rw [(rg.sh _).1]; omega) rg.z (R2.mk' (S3 := S2) (yr := xr) ap p2 rg st.z).1 ap.nr (by omega) (by omega) (by omega) (by omega) (by omega) (by omega) nr (by omega) fit3
    have N2 : (¬ (xl.length : Int) + 1 < e) → rrL (f - xl.length - 1) (e - xl.length - 1) d xr = xr := fun hc => rrL_none (.inr (by omega))
    generalize rrL f e d xl = yl at *
    generalize rrL (f - xl.length - 1) (e - xl.length - 1) d xr = yr at *
    have C0 := p1.c st.z
    have CN := hide (fun W (hW : Pool W p g n cap room S1) => count_any (S1 t).l W p g n cap room S1 hW hln)
    rw [C0] at CN
    have G0 := hide (Rg.refl p1 st.z)
    have MK := hide (fun S2 S3 (rg : Rg S1 S2 (S1 t).l xl yl) (r : Rg S2 S3 (S1 t).r xr yr) => (R2.mk' (S3 := S3) (yr := yr) ap p2 rg st.z).2 r r1)
    have PR := hide (fun S2 (rg : Rg S1 S2 (S1 t).l xl yl) => (R2.mk' (S3 := S2) (yr := xr) ap p2 rg st.z).1)
    have FIN := hide (fun S3 c (h3 : R2 S1 S3 t xl xr yl yr) hf => h3.fin (c := c) nd ap wt r1 r2 hf)
    have GA := hide (fun S3 c (h3 : R2 S1 S3 t xl xr yl yr) (hfc : -1099511627776 ≤ c ∧ c ≤ 1099511627776) W (hW : Pool W p g n cap room (upd S3 t { S3 t with wt := c })) => by
      have el : (S1 t).l ≠ t := h3.pl.top_ne t0 (by rw [r1]; exact ap.tl)
      have er : (S1 t).r ≠ t := h3.pr.top_ne t0 (by rw [r2]; exact ap.tr)
      have hl1 := h3.pl.h_le h3.z
      have hl2 := h3.pr.h_le h3.z
      exact gather_any t yl yr W p g n cap room _ hW htn (by rw [upd_same, h3.at']; exact hln) (by rw [upd_same, h3.at']; exact hrn) (by rw [upd_same, h3.at', upd_ne _ _ el]; exact h3.pl.sm h3.z) (by rw [upd_same, h3.at', upd_ne _ _ er]; exact h3.pr.sm h3.z) h3.pl.fit h3.pr.fit (by rw [upd_same]; exact hfc) (by omega) (by rw [upd_same, h3.at', upd_ne _ _ el]; omega) (by rw [upd_same, h3.at', upd_ne _ _ er]; omega))
    have fw := nd.fitl.2.2
    have TOP : Hid (∀ S' xs', Rg S1 S' t xs xs' → Rg S S' t xs xs') := fun S' xs' r => ⟨r.pt, fun u => by
      have a := r.sh u
      have b := st.sh u
      exact ⟨a.1.trans b.1, a.2.1.trans b.2.1, a.2.2.1.trans b.2.2.1, a.2.2.2.trans b.2.2.2⟩, fun u hu => by rw [r.off u hu, st.off u hu], r.z⟩
    have hadd : f ≤ (xl.length : Int) ∧ (xl.length : Int) < e → addV (S1 t).wt d = (S1 t).wt + d := fun hc => by
      rw [if_pos hc] at fit2
      dsimp only at fit2
      rw [addV, if_pos]; simp [addB, fitB, inB]; omega
    have i1 : (0 : Int) ≤ (t : Int) := by omega
    have i2 : (t : Int) < (n : Int) := by omega
    have xb : (xl.length : Int) ≤ 4194304 := by omega
    have hflo : (-8388608 : Int) ≤ f := by omega
    have hwh : Hid ((f ≤ 0 ∧ ¬ (S t).sm.c ≤ e) ∨ ¬ f ≤ 0) := by
      rw [hcc]
      by_cases h0 : f ≤ 0
      · exact .inl ⟨h0, fun h1 => hw ⟨h0, h1⟩⟩
      · exact .inr h0
    have HFIT := hide hfit
    have FT2 := hide fit2
    have HAD := hide hadd
    have TN1 := hide N1
    have TN2 := hide N2
    clear st hp z ndx p1 p2 nd eq ap h hw hcc C0 ih hfit fit1 fit2 fit3 r1 r2 rl1 rl2 nl nr hn hb hb2 hlen hl hk hf eqr hh hht hadd N1 N2 wt
    generalize (S t).sm.c = yc at *
    generalize xl.length = here at *
    have wr1 : IntKind.i64.wrap (f - (here : Int)) = f - (here : Int) := IntWalk.i64_in _ (by omega)
    have wr2 : IntKind.i64.wrap (f - (here : Int) - 1) = f - (here : Int) - 1 := IntWalk.i64_in _ (by omega)
    have wr3 : IntKind.i64.wrap (e - (here : Int)) = e - (here : Int) := IntWalk.i64_in _ (by omega)
    have wr4 : IntKind.i64.wrap (e - (here : Int) - 1) = e - (here : Int) - 1 := IntWalk.i64_in _ (by omega)
    go_enter Try.func59, Try.ntmps59
    rcases unhide hwh with ⟨w0, w1⟩ | w0
    all_goals
      go_wp2_with fail
      refine (unhide T).mono ?_
      rintro e w1' ⟨rfl, hP, hK⟩
      have P1 := hide (And.intro hP hK)
      obtain ⟨_, v1, v2, _⟩ := hP.slot htn
      clear hP hK T c1 e6
      go_upto_if 44 with (go_at_call 64; refine (unhide CN _ (unhide P1).1).mono ?_; rintro e w' ⟨rfl, rfl⟩)
      go_cut [11] (fun a w' => a = .int .i64 (here : Int) ∧ ∃ S2, Hid (Pool w' p g n cap room S2 ∧ Keep [g] w w' ∧ Rg S1 S2 (S1 t).l xl yl))
      case first =>
        by_cases c : f < (here : Int)
        · have II := I1 c
          clear I1 I2
          go_wp2_with fail
          refine (unhide II _ (unhide P1).1).mono ?_
          rintro e w3 ⟨rfl, S2, hP, hK, hr⟩
          have X := hide (And.intro hP (And.intro ((unhide P1).2.tr hK) hr))
          clear hP hK hr v1 v2 II
          go_wp2
          go_meet
          exact ⟨rfl, S2, unhide X⟩
        · have hq := unhide TN1 (by omega)
          have X := hide (unhide G0)
          rw [← hq] at X
          clear I1 I2 hq v1 v2
          go_wp2
          go_meet
          refine ⟨rfl, S1, (unhide P1).1, (unhide P1).2, ?_⟩
          have := unhide TN1 (by omega)
          rw [this]
          exact unhide G0
      case rest =>
      obtain ⟨rfl, S2, Q1⟩ := hcut
      clear v1 v2 I1 G0
      go_upto_if 57 with fail
      go_cut [11] (fun a w' => a = .int .i64 (here : Int) ∧ ∃ S3, Hid (Pool w' p g n cap room S3 ∧ Keep [g] w w' ∧ R2 S1 S3 t xl xr yl yr))
      case first =>
        by_cases c : (here : Int) + 1 < e
        · have II := I2 S2 (unhide Q1).2.2 c
          obtain ⟨_, _, v2, _⟩ := (unhide Q1).1.slot htn
          rw [((unhide Q1).2.2.sh t).2.2.2] at v2
          clear I2
          go_wp2_with fail
          refine (unhide II _ (unhide Q1).1).mono ?_
          rintro e w3 ⟨rfl, S3, hP, hK, hr⟩
          have X := hide (And.intro hP (And.intro ((unhide Q1).2.1.tr hK) (unhide MK S2 S3 (unhide Q1).2.2 hr)))
          clear hP hK hr v2 II
          go_wp2
          go_meet
          exact ⟨rfl, S3, unhide X⟩
        · have hr : Rg S2 S2 (S1 t).r xr yr := by
            rw [unhide TN2 (by omega)]
            exact Rg.refl (unhide PR S2 (unhide Q1).2.2) (unhide Q1).2.2.z
          have X := hide (unhide MK S2 S2 (unhide Q1).2.2 hr)
          clear I2 hr
          go_wp2
          go_meet
          exact ⟨rfl, S2, (unhide Q1).1, (unhide Q1).2.1, unhide X⟩
      case rest =>
      obtain ⟨rfl, S3, Q2⟩ := hcut
      clear I2 MK PR TN1 TN2 Q1
      by_cases c : f ≤ (here : Int) ∧ (here : Int) < e
      · have CC := hide c
        have HA := hide (unhide HAD c)
        have FT := hide (unhide FT2)
        rw [if_pos c] at FT
        obtain ⟨ca, cb⟩ := c
        obtain ⟨_, c1, _, _, _, _⟩ := (unhide Q2).1.head
        obtain ⟨_, _, _, _, v4, _⟩ := (unhide Q2).1.slot htn
        obtain ⟨_, _, _, _, f4, _⟩ := (unhide Q2).1.soft htn
        rw [(unhide Q2).2.2.at'] at v4
        have PP := hide ((unhide Q2).1.put htn 4 (by omega) { S3 t with wt := (S1 t).wt + d } (.int .i64 ((S1 t).wt + d)) rfl)
        have GG := hide (unhide GA S3 _ (unhide Q2).2.2 (unhide FT) _ (unhide PP))
        have KK := hide ((unhide Q2).2.1.cellB (t * 10 + 4) (.int .i64 ((S1 t).wt + d)))
        clear GA
        go_wp2_with fail
        refine (heavier_any _ _ _).mono ?_
        rw [unhide HA]
        rintro e w' ⟨rfl, rfl⟩
        go_wp2_with fail
        refine (unhide GG).mono ?_
        rintro e w5 ⟨rfl, hP, hK⟩
        have X := hide (And.intro hP ((unhide KK).tr hK))
        clear hP hK GG PP v4 f4
        go_wp2
        go_end0
        refine ⟨rfl, _, (unhide X).1, (unhide X).2, ?_⟩
        have HFIT' := unhide HFIT
        rw [if_pos (unhide CC)] at HFIT'
        try rw [if_pos (unhide CC)]
        exact unhide TOP _ _ (unhide FIN S3 _ (unhide Q2).2.2 HFIT')
      · have CC := hide c
        have FT := hide (unhide FT2)
        rw [if_neg c] at FT
        have PP : Hid (Pool wc p g n cap room (upd S3 t { S3 t with wt := (S1 t).wt })) := by
          have e1 : ({ S3 t with wt := (S1 t).wt } : Sl) = S3 t := by rw [(unhide Q2).2.2.at']
          rw [e1]
          have e2 : upd S3 t (S3 t) = S3 := by funext j; simp only [upd]; split <;> simp_all
          rw [e2]
          exact (unhide Q2).1
        have GG := hide (unhide GA S3 _ (unhide Q2).2.2 (unhide FT) _ (unhide PP))
        have KK := hide (unhide Q2).2.1
        clear GA
        by_cases ca : f ≤ (here : Int)
        · have cb : ¬ (here : Int) < e := fun h => c ⟨ca, h⟩
          clear c
          go_wp2_with fail
          refine (unhide GG).mono ?_
          rintro e w5 ⟨rfl, hP, hK⟩
          have X := hide (And.intro hP ((unhide KK).tr hK))
          clear hP hK GG PP
          go_wp2
          go_end0
          refine ⟨rfl, _, (unhide X).1, (unhide X).2, ?_⟩
          have HFIT' := unhide HFIT
          rw [if_neg (unhide CC)] at HFIT'
          try rw [if_neg (unhide CC)]
          exact unhide TOP _ _ (unhide FIN S3 _ (unhide Q2).2.2 HFIT')
        · first
          | (exfalso; omega)
          | (clear c
             go_wp2_with fail
             refine (unhide GG).mono ?_
             rintro e w5 ⟨rfl, hP, hK⟩
             have X := hide (And.intro hP ((unhide KK).tr hK))
             clear hP hK GG PP
             go_wp2
             go_end0
             refine ⟨rfl, _, (unhide X).1, (unhide X).2, ?_⟩
             have HFIT' := unhide HFIT
             rw [if_neg (unhide CC)] at HFIT'
             try rw [if_neg (unhide CC)]
             exact unhide TOP _ _ (unhide FIN S3 _ (unhide Q2).2.2 HFIT'))
end Go.Proofs.Ytkfboficcdiojaa
