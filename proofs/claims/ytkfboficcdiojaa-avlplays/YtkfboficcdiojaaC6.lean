import Derived.Test.YtkfboficcdiojaaC5
namespace Go.Proofs.Ytkfboficcdiojaa
open Go.RowKit Go.Arb
set_option linter.unusedVariables false
set_option linter.unusedSimpArgs false

theorem nodup5l {x1 x2 x3 : List Nat} {a t : Nat} (h : (x1 ++ t :: (x2 ++ a :: x3)).Nodup) : x1.Nodup ∧ x2.Nodup ∧ x3.Nodup ∧ a ∉ x1 ∧ a ∉ x2 ∧ a ∉ x3 ∧ t ∉ x1 ∧ t ∉ x2 ∧ t ∉ x3 ∧ a ≠ t ∧ (∀ u ∈ x1, u ∉ x2) ∧ (∀ u ∈ x1, u ∉ x3) ∧ (∀ u ∈ x2, u ∉ x3) ∧ (x2 ++ a :: x3).Nodup ∧ (x1 ++ t :: x2).Nodup := by
  obtain ⟨d1, d2, d3, d4, d5, d6, d7, d8, d9, d10, d11, d12, d13, d14, d15⟩ := nodup5 h
  exact ⟨d1, d2, d3, d7, d8, d9, d4, d5, d6, fun e => d10 e.symm, d11, d12, d13, d14, d15⟩

set_option maxRecDepth 100000 in
set_option maxHeartbeats 4000000 in
theorem turnLeft_any (t a : Nat) (x1 x2 x3 : List It) (w : World) (p g n cap room : Nat) (S S0 S1 : Ss) (h : Pool w p g n cap room S) (hs0 : SettleTo p g n cap room t S S0) (hs1 : SettleTo p g n cap room a S0 S1)
    (ha : (S0 t).r = a) (htn : t < n) (han : a < n) (z : Z S1) (wt : (S1 t).wa = 0) (wa : (S1 a).wa = 0) (p1 : Pt S1 (S1 t).l x1) (p2 : Pt S1 (S1 a).l x2) (p3 : Pt S1 (S1 a).r x3) (t0 : t ≠ 0) (a0 : a ≠ 0)
    (nd : (ids x1 ++ t :: (ids x2 ++ a :: ids x3)).Nodup) (ft : -1099511627776 ≤ (S1 t).wt ∧ (S1 t).wt ≤ 1099511627776) (fa : -1099511627776 ≤ (S1 a).wt ∧ (S1 a).wt ≤ 1099511627776) (hlen : x1.length + x2.length + x3.length + 2 ≤ 4194304)
    (b1 : (S1 (S1 t).l).h ≤ (S1 (S1 a).l).h + 1) (b2 : (S1 (S1 a).l).h ≤ (S1 (S1 t).l).h + 1) :
    Calls Try.prog 81 #[.pointer (some ⟨p, 0, none⟩), .int .i64 (t : Int)] w fun e w' => e = .returned (.int .i64 (a : Int)) ∧ ∃ S2 S3, Pool w' p g n cap room S3 ∧ Keep [g] w w' ∧ Held S1 S2 t (S1 t).l (S1 a).l x1 x2 ∧ Held S2 S3 a t (S1 a).r (x1 ++ (t, (S1 t).wt) :: x2) x3 ∧ (S2 a).wt = (S1 a).wt ∧ (S2 (S1 a).r).h = (S1 (S1 a).r).h ∧ Pt S2 t (x1 ++ (t, (S1 t).wt) :: x2) := by
  obtain ⟨d1, d2, d3, d4, d5, d6, d7, d8, d9, d10, d11, d12, d13, d14, d15⟩ := nodup5l nd
  have ap1 : Ap S1 t x1 x2 := ⟨d1, d2, d7, d8, d11⟩
  have H1 := hold_ok p1 p2 z t0 ap1 wt
  have Q1 := H1.pt t0 ap1 p1 p2 b1 b2 ft
  generalize hS2 : holdS S1 t (S1 t).l (S1 a).l = S2 at *
  have e1 : S2 a = S1 a := H1.off a d10 d4 d5
  have r1 : Pt S2 (S1 a).r x3 := p3.frame (by rw [H1.z, z]) d3 (fun u hu => H1.off u (fun e => d9 (e ▸ hu)) (fun hx => d12 u hx hu) (fun hx => d13 u hx hu))
  have ap2 : Ap S2 a (x1 ++ (t, (S1 t).wt) :: x2) x3 := ⟨by rw [ids_append, ids_cons]; exact d15, d3, by rw [ids_append, ids_cons]; simp [d4, d5, d10], d6, fun u hu => by
    rw [ids_append, ids_cons] at hu
    rcases List.mem_append.1 hu with h' | h'
    · exact d12 u h'
    · rcases List.mem_cons.1 h' with h' | h'
      · rw [h']; exact d9
      · exact d13 u h'⟩
  have H2 := hold_ok Q1 r1 H1.z a0 ap2 (by rw [e1]; exact wa)
  have A1 := hide (fun W hW => hold_any t (S1 t).l (S1 a).l x1 x2 W p g n cap room S1 hW z p1 p2 t0 htn ap1 ft (by omega))
  have A2 := hide (fun W hW => hold_any a t (S1 a).r (x1 ++ (t, (S1 t).wt) :: x2) x3 W p g n cap room S2 hW H1.z Q1 r1 a0 han ap2 (by rw [e1]; exact fa) (by simp; omega))
  rw [hS2] at A1
  have hh : (S2 (S1 a).r).h = (S1 (S1 a).r).h := H1.hs _ (p3.top_ne t0 d9)
  have FF := hide (And.intro H1 (And.intro H2 (And.intro (show (S2 a).wt = (S1 a).wt by rw [e1]) (And.intro hh Q1))))
  have E1 := hide e1
  have hr2 := H1.fl
  have E2 := hide hr2
  generalize holdS S2 a t (S1 a).r = S3 at *
  have i1 : (0 : Int) ≤ (t : Int) := by omega
  have i2 : (t : Int) < (n : Int) := by omega
  have i3 : (0 : Int) ≤ (a : Int) := by omega
  have i4 : (a : Int) < (n : Int) := by omega
  have A0 := hide (hs0 w h)
  have HS1 := hide hs1
  have HA := hide ha
  clear nd d1 d2 d3 d4 d5 d6 d7 d8 d9 d10 d11 d12 d13 d14 d15 ap1 H1 Q1 hS2 e1 r1 ap2 H2 hh hr2 h hs0 hs1 ha z wt wa p1 p2 p3 ft fa hlen b1 b2
  go_enter Try.func81, Try.ntmps81
  go_wp2_with fail
  refine (unhide A0).mono ?_
  rintro e w1 ⟨rfl, hP, hK⟩
  have KK := hide hK
  have A3 := hide (unhide HS1 w1 hP)
  obtain ⟨_, c1, _, _, k1, k2⟩ := hP.head
  obtain ⟨_, _, e1, _⟩ := hP.slot htn
  rw [unhide HA] at e1
  clear hP hK A0 HS1 HA
  go_wp2_with fail
  refine (unhide A3).mono ?_
  rintro e w2 ⟨rfl, hP, hK⟩
  have K2 := hide ((unhide KK).tr hK).drew
  have P2 := hide hP.drew
  clear c1 k1 k2 e1 A3 KK hP hK
  obtain ⟨_, c1, _, _, k1, k2⟩ := (unhide P2).head
  obtain ⟨_, e2, _⟩ := (unhide P2).slot htn
  obtain ⟨_, e3, _⟩ := (unhide P2).slot han
  generalize hra : (S1 a).l = ra at *
  generalize hrt : (S1 t).l = rt at *
  have HRA := hide (And.intro hra hrt)
  clear hra hrt
  go_wp2
  go_region_held3 (fun w' => w'.cell? ⟨p, 1, none⟩ = some (.slice (some ⟨g, 0, none⟩) n cap) ∧ w'.cell? ⟨g, t * 10 + 1, none⟩ = some (.int .i64 (rt : Int)) ∧ w'.cell? ⟨g, a * 10 + 1, none⟩ = some (.int .i64 (ra : Int)))
    (simp [go_sem, *])
    (first
      | (go_at_call 70; refine (unhide A1 _ (unhide P2)).mono ?_; rintro e w3 ⟨rfl, hP, hK⟩; have K3 := hide ((unhide K2).tr hK); have P3 := hide hP; (obtain ⟨_, v1, _⟩ := (unhide P3).head); (obtain ⟨_, v2, _⟩ := (unhide P3).slot htn); (obtain ⟨_, v3, v4, _⟩ := (unhide P3).slot han); rw [unhide E1] at v3 v4; rw [(unhide HRA).1] at v3; rw [unhide E2] at v2; clear hP hK A1))
  all_goals
    go_wp2_with fail
    refine (unhide A2 _ (unhide P3)).mono ?_
    rintro e w4 ⟨rfl, hP, hK⟩
    have R := hide (And.intro hP ((unhide K3).tr hK))
    clear hP hK A2 P3 P2
    go_wp2
    go_ret
    obtain ⟨r1, r2⟩ := unhide R
    obtain ⟨f1, f2, f3, f4, f5⟩ := unhide FF
    refine ⟨rfl, S2, S3, r1, r2, ?_, f2, f3, f4, f5⟩
    rw [(unhide HRA).1, (unhide HRA).2]; exact f1
end Go.Proofs.Ytkfboficcdiojaa
