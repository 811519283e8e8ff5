import Derived.Test.YtkfboficcdiojaaC10
namespace Go.Proofs.Ytkfboficcdiojaa
open Go.RowKit Go.Arb
set_option linter.unusedVariables false
set_option linter.unusedSimpArgs false

set_option maxRecDepth 100000 in
set_option maxHeartbeats 4000000 in
theorem between_any (p g n cap room t : Nat) (t0 : t ≠ 0) (htn : t < n) : ∀ (k l r : Nat) (xl xr : List It) (S : Ss), (S l).h + (S r).h ≤ k → Z S → Pt S l xl → Pt S r xr → Ap S t xl xr → (S t).wa = 0 → (-1099511627776 ≤ (S t).wt ∧ (S t).wt ≤ 1099511627776) → xl.length + xr.length + 1 ≤ 4194304 →
    BetweenTo p g n cap room t l r S (xl ++ (t, (S t).wt) :: xr) (max (S l).h (S r).h) := by
  intro k
  induction k with
  | zero =>
    intro l r xl xr S hk z p1 p2 ap wt ft hlen w h
    have hln := p1.lt h z (by omega)
    have hrn := p2.lt h z (by omega)
    have A := hide (fun W hW => hold_any t l r xl xr W p g n cap room S hW z p1 p2 t0 htn ap ft hlen)
    have H := hold_ok p1 p2 z t0 ap wt
    have Q := H.pt t0 ap p1 p2 (by omega) (by omega) ft
    have hh := H.h
    have J : Jd S (holdS S t l r) t (xl ++ (t, (S t).wt) :: xr) (max (S l).h (S r).h) := ⟨Q, t0, by omega, by omega, fun u hu => by
      rw [ids_append, ids_cons] at hu
      simp only [List.mem_append, List.mem_cons, not_or] at hu
      exact H.off u hu.2.1 hu.1 hu.2.2, H.z⟩
    obtain ⟨_, c1, _, _, k1, k2⟩ := h.head
    obtain ⟨_, _, _, e3, _⟩ := h.slot hln
    obtain ⟨_, _, _, f3, _⟩ := h.slot hrn
    have i1 : (0 : Int) ≤ (l : Int) := by omega
    have i2 : (l : Int) < (n : Int) := by omega
    have i3 : (0 : Int) ≤ (r : Int) := by omega
    have i4 : (r : Int) < (n : Int) := by omega
    have z1 : (S l).h = 0 := by omega
    have z2 : (S r).h = 0 := by omega
    rw [z1] at e3
    rw [z2] at f3
    have HP := hide h
    have FF := hide J
    clear h z p1 p2 ap wt ft H Q hh J z1 z2 hk
    go_enter Try.func55, Try.ntmps55
    go_wp2
    go_quiet (fail)
    have P1 := hide ((unhide HP).drewN nq)
    go_wp2_with fail
    refine (unhide A _ (unhide P1)).mono ?_
    rintro e w1 ⟨rfl, hP, hK⟩
    have R := hide (And.intro hP ((keep_drewN [g] nq).tr hK))
    clear hP hK A P1
    go_wp2
    go_ret
    exact ⟨t, _, rfl, (unhide R).1, (unhide R).2, unhide FF⟩
  | succ k ih =>
    intro l r xl xr S hk z p1 p2 ap wt ft hlen w h
    have hln := p1.lt h z (by omega)
    have hrn := p2.lt h z (by omega)
    have hhl := p1.h_le z
    have hhr := p2.h_le z
    obtain ⟨_, c1, _, _, k1, k2⟩ := h.head
    obtain ⟨_, _, _, e3, _⟩ := h.slot hln
    obtain ⟨_, _, _, f3, _⟩ := h.slot hrn
    have i1 : (0 : Int) ≤ (l : Int) := by omega
    have i2 : (l : Int) < (n : Int) := by omega
    have i3 : (0 : Int) ≤ (r : Int) := by omega
    have i4 : (r : Int) < (n : Int) := by omega
    have HP := hide h
    by_cases cl : (S r).h + 1 < (S l).h
    · have l0 : l ≠ 0 := fun e => by rw [e, z] at cl; simp [Sl.zero] at cl
      obtain ⟨y1, y2, G⟩ := goL p1 p2 z ap l0
      have T := hide (settle_to (p := p) (g := g) (n := n) (cap := cap) (room := room) z p1 ap.nl (by omega) l0)
      generalize settleS S l = S1 at *
      have hle : xl.length = y1.length + y2.length + 1 := by rw [G.eq]; simp; omega
      obtain ⟨g1, g2, g3⟩ := G.hk
      have I := hide (ih (S1 l).r r y2 xr S1 (by have := G.hr; omega) G.st.z G.p2 G.p3 G.ap (by rw [G.at']; exact wt) (by rw [G.at']; exact ft) (by omega))
      have HO := hide (fun S2 m (j : Jd S1 S2 m (y2 ++ (t, (S1 t).wt) :: xr) (max (S1 (S1 l).r).h (S1 r).h)) W (hW : Pool W p g n cap room S2) => hold_any l (S1 l).l m y1 _ W p g n cap room S2 hW j.z (G.hold j).1 j.pt l0 hln (G.hold j).2.1 (by rw [(G.hold j).2.2.1]; exact G.fl) (by simp; omega))
      have HD := hide (fun S2 m (j : Jd S1 S2 m (y2 ++ (t, (S1 t).wt) :: xr) (max (S1 (S1 l).r).h (S1 r).h)) => hold_ok (G.hold j).1 j.pt j.z l0 (G.hold j).2.1 (by rw [(G.hold j).2.2.1]; exact G.wl))
      have BA := hide (fun S2 S3 m (j : Jd S1 S2 m (y2 ++ (t, (S1 t).wt) :: xr) (max (S1 (S1 l).r).h (S1 r).h)) (hd : Held S2 S3 l (S1 l).l m y1 (y2 ++ (t, (S1 t).wt) :: xr)) W (hW : Pool W p g n cap room S3) => by
        have hb := hd.hb l0 (G.hold j).1 j.pt (G.hold j).2.1 (by rw [(G.hold j).2.2.1]; exact G.fl)
        have el := (G.hold j).1.top_ne l0 (G.hold j).2.1.tl
        have er := j.pt.top_ne l0 (G.hold j).2.1.tr
        have j1 := j.lo
        have j2 := j.hi
        have hr := G.hr
        have e2 := (G.hold j).2.2.2
        exact balance_any l y1 _ W p g n cap room S3 hW hb (by simp; omega) hln (by rw [hd.fl, hd.fr, hd.hs _ el, hd.hs _ er, e2]; omega) (by rw [hd.fl, hd.fr, hd.hs _ el, hd.hs _ er, e2]; omega))
      have d1 : (1 : Int) < ((S l).h : Int) - ((S r).h : Int) := by omega
      have hbl : ((S l).h : Int) ≤ 4194304 := by omega
      have hbr : ((S r).h : Int) ≤ 4194304 := by omega
      have FIN := hide G
      have CL := hide cl
      clear h z p1 p2 ap wt ft G g1 g2 g3 hk hhl hhr hle hlen cl
      generalize hyl : (S l).h = hl at *
      generalize hyr : (S r).h = hr at *
      have HY := hide (And.intro hyl hyr)
      clear hyl hyr
      go_enter Try.func55, Try.ntmps55
      go_wp2
      go_quiet (fail)
      have P1 := hide ((unhide HP).drewN nq)
      go_wp2_with fail
      refine (unhide T _ (unhide P1)).mono ?_
      rintro e w1 ⟨rfl, hP, hK⟩
      have K1 := hide ((keep_drewN [g] nq).tr hK)
      have P2 := hide hP
      clear hP hK P1 T c1 e3 f3
      obtain ⟨_, c1, _, _, _, _⟩ := (unhide P2).head
      obtain ⟨v0, v1, v2, v3, v4, v5, v6, v7, v8, v9⟩ := (unhide P2).slot hln
      have G1 := hide (Gs.new (unhide P2) (S1 l)).drew
      go_wp2
      clear v0 v1 v2 v3 v4 v5 v6 v7 v8 v9
      obtain ⟨_, s1, s2, _⟩ := (unhide G1).b
      go_region_held3 (fun w' => w'.cell? ⟨w1.heap.size, 1, none⟩ = some (.int .i64 ((S1 l).l : Int)) ∧ w'.cell? ⟨w1.heap.size, 2, none⟩ = some (.int .i64 ((S1 l).r : Int)))
        (simp [go_sem, *])
        (first
          | (go_at_call 55; refine (unhide I _ (unhide G1).po).mono ?_; rintro e w3 ⟨m, S2, rfl, hP, hK, hj⟩; have G2 := hide ((unhide G1).step hK hP); have J := hide hj; (obtain ⟨_, s1', s2', _⟩ := (unhide G2).b); clear hP hK hj I)
          | (go_at_call 70; refine (unhide HO S2 m (unhide J) _ (unhide G2).po).mono ?_; rintro e w4 ⟨rfl, hP, hK⟩; have D := hide (unhide HD S2 m (unhide J)); have G3 := hide ((unhide G2).step hK hP); (obtain ⟨_, u1, u2, _⟩ := (unhide G3).b); clear hP hK HO HD))
      all_goals
        generalize holdS S2 l (S1 l).l m = S3 at *
        have B := hide (unhide BA S2 S3 m (unhide J) (unhide D) _ (unhide G3).po)
        clear BA
        go_wp2_with fail
        refine (unhide B).mono ?_
        rintro e w5 ⟨t', S4, rfl, hP, hK, hB, hh⟩
        have F := hide (And.intro hP (And.intro ((unhide G3).kp.tr hK) (And.intro hB hh)))
        clear hP hK hB hh B G1 G2 G3
        go_wp2
        go_ret
        obtain ⟨f1, f2, f3, f4⟩ := unhide F
        refine ⟨t', S4, rfl, f1, (unhide K1).tr f2, ?_⟩
        have CL' := unhide CL
        obtain ⟨hy1, hy2⟩ := unhide HY
        rw [← hy1, ← hy2]
        rw [← hy1, ← hy2] at CL'
        exact (unhide FIN).fin CL' (unhide J) (unhide D) f3 f4
    · by_cases cr : (S l).h + 1 < (S r).h
      · have l0 : r ≠ 0 := fun e => by rw [e, z] at cr; simp [Sl.zero] at cr
        obtain ⟨y1, y2, G⟩ := goR p1 p2 z ap l0
        have T := hide (settle_to (p := p) (g := g) (n := n) (cap := cap) (room := room) z p2 ap.nr (by omega) l0)
        generalize settleS S r = S1 at *
        have hle : xr.length = y1.length + y2.length + 1 := by rw [G.eq]; simp; omega
        obtain ⟨g1, g2, g3⟩ := G.hk
        have I := hide (ih l (S1 r).l xl y1 S1 (by have := G.hr; omega) G.st.z G.p1 G.p2 G.ap (by rw [G.at']; exact wt) (by rw [G.at']; exact ft) (by omega))
        have HO := hide (fun S2 m (j : Jd S1 S2 m (xl ++ (t, (S1 t).wt) :: y1) (max (S1 l).h (S1 (S1 r).l).h)) W (hW : Pool W p g n cap room S2) => hold_any r m (S1 r).r _ y2 W p g n cap room S2 hW j.z j.pt (G.hold j).1 l0 hrn (G.hold j).2.1 (by rw [(G.hold j).2.2.1]; exact G.fl) (by simp; omega))
        have HD := hide (fun S2 m (j : Jd S1 S2 m (xl ++ (t, (S1 t).wt) :: y1) (max (S1 l).h (S1 (S1 r).l).h)) => hold_ok j.pt (G.hold j).1 j.z l0 (G.hold j).2.1 (by rw [(G.hold j).2.2.1]; exact G.wl))
        have BA := hide (fun S2 S3 m (j : Jd S1 S2 m (xl ++ (t, (S1 t).wt) :: y1) (max (S1 l).h (S1 (S1 r).l).h)) (hd : Held S2 S3 r m (S1 r).r (xl ++ (t, (S1 t).wt) :: y1) y2) W (hW : Pool W p g n cap room S3) => by
          have hb := hd.hb l0 j.pt (G.hold j).1 (G.hold j).2.1 (by rw [(G.hold j).2.2.1]; exact G.fl)
          have el := (G.hold j).1.top_ne l0 (G.hold j).2.1.tr
          have er := j.pt.top_ne l0 (G.hold j).2.1.tl
          have j1 := j.lo
          have j2 := j.hi
          have hr := G.hr
          have e2 := (G.hold j).2.2.2
          exact balance_any r _ y2 W p g n cap room S3 hW hb (by simp; omega) hrn (by rw [hd.fl, hd.fr, hd.hs _ el, hd.hs _ er, e2]; omega) (by rw [hd.fl, hd.fr, hd.hs _ el, hd.hs _ er, e2]; omega))
        have d1 : ¬ (1 : Int) < ((S l).h : Int) - ((S r).h : Int) := by omega
        have d2 : ((S l).h : Int) - ((S r).h : Int) < -1 := by omega
        have hbl : ((S l).h : Int) ≤ 4194304 := by omega
        have hbr : ((S r).h : Int) ≤ 4194304 := by omega
        have FIN := hide G
        have CL := hide cr
        clear h z p1 p2 ap wt ft G g1 g2 g3 hk hhl hhr hle hlen cl cr
        generalize hyl : (S l).h = hl at *
        generalize hyr : (S r).h = hr at *
        have HY := hide (And.intro hyl hyr)
        clear hyl hyr
        go_enter Try.func55, Try.ntmps55
        go_wp2
        go_quiet (fail)
        have P1 := hide ((unhide HP).drewN nq)
        go_wp2_with fail
        refine (unhide T _ (unhide P1)).mono ?_
        rintro e w1 ⟨rfl, hP, hK⟩
        have K1 := hide ((keep_drewN [g] nq).tr hK)
        have P2 := hide hP
        clear hP hK P1 T c1 e3 f3
        obtain ⟨_, c1, _, _, _, _⟩ := (unhide P2).head
        obtain ⟨v0, v1, v2, v3, v4, v5, v6, v7, v8, v9⟩ := (unhide P2).slot hrn
        have G1 := hide (Gs.new (unhide P2) (S1 r)).drew
        go_wp2
        clear v0 v1 v2 v3 v4 v5 v6 v7 v8 v9
        obtain ⟨_, s1, s2, _⟩ := (unhide G1).b
        go_region_held3 (fun w' => w'.cell? ⟨w1.heap.size, 1, none⟩ = some (.int .i64 ((S1 r).l : Int)) ∧ w'.cell? ⟨w1.heap.size, 2, none⟩ = some (.int .i64 ((S1 r).r : Int)))
          (simp [go_sem, *])
          (first
            | (go_at_call 55; refine (unhide I _ (unhide G1).po).mono ?_; rintro e w3 ⟨m, S2, rfl, hP, hK, hj⟩; have G2 := hide ((unhide G1).step hK hP); have J := hide hj; (obtain ⟨_, s1', s2', _⟩ := (unhide G2).b); clear hP hK hj I)
            | (go_at_call 70; refine (unhide HO S2 m (unhide J) _ (unhide G2).po).mono ?_; rintro e w4 ⟨rfl, hP, hK⟩; have D := hide (unhide HD S2 m (unhide J)); have G3 := hide ((unhide G2).step hK hP); (obtain ⟨_, u1, u2, _⟩ := (unhide G3).b); clear hP hK HO HD))
        all_goals
          generalize holdS S2 r m (S1 r).r = S3 at *
          have B := hide (unhide BA S2 S3 m (unhide J) (unhide D) _ (unhide G3).po)
          clear BA
          go_wp2_with fail
          refine (unhide B).mono ?_
          rintro e w5 ⟨t', S4, rfl, hP, hK, hB, hh⟩
          have F := hide (And.intro hP (And.intro ((unhide G3).kp.tr hK) (And.intro hB hh)))
          clear hP hK hB hh B G1 G2 G3
          go_wp2
          go_ret
          obtain ⟨f1, f2, f3, f4⟩ := unhide F
          refine ⟨t', S4, rfl, f1, (unhide K1).tr f2, ?_⟩
          have CL' := unhide CL
          obtain ⟨hy1, hy2⟩ := unhide HY
          rw [← hy1, ← hy2]
          rw [← hy1, ← hy2] at CL'
          exact (unhide FIN).fin CL' (unhide J) (unhide D) f3 f4
      · have A := hide (fun W hW => hold_any t l r xl xr W p g n cap room S hW z p1 p2 t0 htn ap ft hlen)
        have H := hold_ok p1 p2 z t0 ap wt
        have Q := H.pt t0 ap p1 p2 (by omega) (by omega) ft
        have hh := H.h
        have J : Jd S (holdS S t l r) t (xl ++ (t, (S t).wt) :: xr) (max (S l).h (S r).h) := ⟨Q, t0, by omega, by omega, fun u hu => by
          rw [ids_append, ids_cons] at hu
          simp only [List.mem_append, List.mem_cons, not_or] at hu
          exact H.off u hu.2.1 hu.1 hu.2.2, H.z⟩
        have d1 : ¬ (1 : Int) < ((S l).h : Int) - ((S r).h : Int) := by omega
        have d2 : ¬ ((S l).h : Int) - ((S r).h : Int) < -1 := by omega
        have hbl : ((S l).h : Int) ≤ 4194304 := by omega
        have hbr : ((S r).h : Int) ≤ 4194304 := by omega
        have FF := hide J
        clear h z p1 p2 ap wt ft H Q hh J hk ih cl cr hhl hhr
        generalize hyl : (S l).h = hl at *
        generalize hyr : (S r).h = hr at *
        clear hyl hyr
        go_enter Try.func55, Try.ntmps55
        go_wp2
        go_quiet (fail)
        have P1 := hide ((unhide HP).drewN nq)
        go_wp2_with fail
        refine (unhide A _ (unhide P1)).mono ?_
        rintro e w1 ⟨rfl, hP, hK⟩
        have R := hide (And.intro hP ((keep_drewN [g] nq).tr hK))
        clear hP hK A P1
        go_wp2
        go_ret
        exact ⟨t, _, rfl, (unhide R).1, (unhide R).2, unhide FF⟩
end Go.Proofs.Ytkfboficcdiojaa
