import Derived.Test.YtkfboficcdiojaaC4
namespace Go.Proofs.Ytkfboficcdiojaa
open Go.RowKit Go.Arb
set_option linter.unusedVariables false
set_option linter.unusedSimpArgs false

/-- What settling a slot is for a walk: it leads from slots S to slots S'. -/
def SettleTo (p g n cap room : Nat) (t : Nat) (S S' : Ss) : Prop := ∀ W, Pool W p g n cap room S → Calls Try.prog 69 #[.pointer (some ⟨p, 0, none⟩), .int .i64 (t : Int)] W fun e w' => e = .returned (.tuple #[]) ∧ Pool w' p g n cap room S' ∧ Keep [g] W w'

set_option maxHeartbeats 1000000 in
theorem settle_none {p g n cap room t : Nat} {S : Ss} (htn : t < n) (hw : (S t).wa = 0) : SettleTo p g n cap room t S S := by
  intro w h
  have b1 : (0 : Int) ≤ (t : Int) := by omega
  have b2' : (t : Int) < (n : Int) := by omega
  obtain ⟨_, c1, _, _, k1, k2⟩ := h.head
  obtain ⟨_, _, _, _, _, e5, _⟩ := h.slot htn
  rw [hw] at e5
  have HH := hide h
  clear h
  go_enter Try.func69, Try.ntmps69
  go_wp2
  refine bodyPost_ret (results_none rfl _ _ _) rfl ?_
  exact ⟨rfl, unhide HH, Keep.refl _ _⟩
theorem settle_to {p g n cap room t : Nat} {S : Ss} {xs : List It} (z : Z S) (hp : Pt S t xs) (nd : (ids xs).Nodup) (hl : xs.length ≤ 4194304) (ht : t ≠ 0) : SettleTo p g n cap room t S (settleS S t) :=
  fun W hW => settle_any t xs W p g n cap room S hW z hp nd hl ht

theorem nodup5 {x1 x2 x3 : List Nat} {a t : Nat} (h : (x1 ++ a :: (x2 ++ t :: x3)).Nodup) : x1.Nodup ∧ x2.Nodup ∧ x3.Nodup ∧ a ∉ x1 ∧ a ∉ x2 ∧ a ∉ x3 ∧ t ∉ x1 ∧ t ∉ x2 ∧ t ∉ x3 ∧ a ≠ t ∧ (∀ u ∈ x1, u ∉ x2) ∧ (∀ u ∈ x1, u ∉ x3) ∧ (∀ u ∈ x2, u ∉ x3) ∧ (x2 ++ t :: x3).Nodup ∧ (x1 ++ a :: x2).Nodup := by
  rw [List.nodup_append] at h
  obtain ⟨n1, n2, n3⟩ := h
  rw [List.nodup_cons] at n2
  obtain ⟨m1, m2⟩ := n2
  have m2' := m2
  rw [List.nodup_append] at m2
  obtain ⟨k1, k2, k3⟩ := m2
  rw [List.nodup_cons] at k2
  simp only [List.mem_append, List.mem_cons, not_or] at m1
  refine ⟨n1, k1, k2.2, fun e => n3 a e a (by simp) rfl, m1.1, m1.2.2, fun e => n3 t e t (by simp) rfl, fun e => k3 t e t (by simp) rfl, k2.1, m1.2.1, fun u h1 h2 => n3 u h1 u (by simp [h2]) rfl, fun u h1 h2 => n3 u h1 u (by simp [h2]) rfl, fun u h1 h2 => k3 u h1 u (by simp [h2]) rfl, m2', ?_⟩
  rw [List.nodup_append]
  exact ⟨n1, List.nodup_cons.2 ⟨m1.1, k1⟩, fun u h1 v h2 e => n3 u h1 v (by rcases List.mem_cons.1 h2 with h | h <;> simp [h]) e⟩

set_option maxRecDepth 100000 in
set_option maxHeartbeats 4000000 in
theorem turnRight_any (t a : Nat) (x1 x2 x3 : List It) (w : World) (p g n cap room : Nat) (S S0 S1 : Ss) (h : Pool w p g n cap room S) (hs0 : SettleTo p g n cap room t S S0) (hs1 : SettleTo p g n cap room a S0 S1)
    (ha : (S0 t).l = a) (htn : t < n) (han : a < n) (z : Z S1) (wt : (S1 t).wa = 0) (wa : (S1 a).wa = 0) (p1 : Pt S1 (S1 a).l x1) (p2 : Pt S1 (S1 a).r x2) (p3 : Pt S1 (S1 t).r x3) (t0 : t ≠ 0) (a0 : a ≠ 0)
    (nd : (ids x1 ++ a :: (ids x2 ++ t :: ids x3)).Nodup) (ft : -1099511627776 ≤ (S1 t).wt ∧ (S1 t).wt ≤ 1099511627776) (fa : -1099511627776 ≤ (S1 a).wt ∧ (S1 a).wt ≤ 1099511627776) (hlen : x1.length + x2.length + x3.length + 2 ≤ 4194304)
    (b1 : (S1 (S1 a).r).h ≤ (S1 (S1 t).r).h + 1) (b2 : (S1 (S1 t).r).h ≤ (S1 (S1 a).r).h + 1) :
    Calls Try.prog 82 #[.pointer (some ⟨p, 0, none⟩), .int .i64 (t : Int)] w fun e w' => e = .returned (.int .i64 (a : Int)) ∧ ∃ S2 S3, Pool w' p g n cap room S3 ∧ Keep [g] w w' ∧ Held S1 S2 t (S1 a).r (S1 t).r x2 x3 ∧ Held S2 S3 a (S1 a).l t x1 (x2 ++ (t, (S1 t).wt) :: x3) ∧ (S2 a).wt = (S1 a).wt ∧ (S2 (S1 a).l).h = (S1 (S1 a).l).h ∧ Pt S2 t (x2 ++ (t, (S1 t).wt) :: x3) := by
  obtain ⟨d1, d2, d3, d4, d5, d6, d7, d8, d9, d10, d11, d12, d13, d14, d15⟩ := nodup5 nd
  have ap1 : Ap S1 t x2 x3 := ⟨d2, d3, d8, d9, d13⟩
  have H1 := hold_ok p2 p3 z t0 ap1 wt
  have Q1 := H1.pt t0 ap1 p2 p3 b1 b2 ft
  generalize hS2 : holdS S1 t (S1 a).r (S1 t).r = S2 at *
  have e1 : S2 a = S1 a := H1.off a d10 d5 d6
  have r1 : Pt S2 (S1 a).l x1 := p1.frame (by rw [H1.z, z]) d1 (fun u hu => H1.off u (fun e => d7 (e ▸ hu)) (d11 u hu) (d12 u hu))
  have ap2 : Ap S2 a x1 (x2 ++ (t, (S1 t).wt) :: x3) := ⟨d1, by rw [ids_append, ids_cons]; exact d14, d4, by rw [ids_append, ids_cons]; simp [d5, d6, d10], fun u hu => by rw [ids_append, ids_cons]; simp [d11 u hu, d12 u hu]; exact fun e => d7 (e ▸ hu)⟩
  have H2 := hold_ok r1 Q1 H1.z a0 ap2 (by rw [e1]; exact wa)
  have A1 := hide (fun W hW => hold_any t (S1 a).r (S1 t).r x2 x3 W p g n cap room S1 hW z p2 p3 t0 htn ap1 ft (by omega))
  have A2 := hide (fun W hW => hold_any a (S1 a).l t x1 (x2 ++ (t, (S1 t).wt) :: x3) W p g n cap room S2 hW H1.z r1 Q1 a0 han ap2 (by rw [e1]; exact fa) (by simp; omega))
  rw [hS2] at A1
  have hh : (S2 (S1 a).l).h = (S1 (S1 a).l).h := H1.hs _ (p1.top_ne t0 d7)
  have FF := hide (And.intro H1 (And.intro H2 (And.intro (show (S2 a).wt = (S1 a).wt by rw [e1]) (And.intro hh Q1))))
  have E1 := hide e1
  have hr2 := H1.fr
  have E2 := hide hr2
  generalize holdS S2 a (S1 a).l t = S3 at *
  have i1 : (0 : Int) ≤ (t : Int) := by omega
  have i2 : (t : Int) < (n : Int) := by omega
  have i3 : (0 : Int) ≤ (a : Int) := by omega
  have i4 : (a : Int) < (n : Int) := by omega
  have A0 := hide (hs0 w h)
  have HS1 := hide hs1
  have HA := hide ha
  clear nd d1 d2 d3 d4 d5 d6 d7 d8 d9 d10 d11 d12 d13 d14 d15 ap1 H1 Q1 hS2 e1 r1 ap2 H2 hh hr2 h hs0 hs1 ha z wt wa p1 p2 p3 ft fa hlen b1 b2
  go_enter Try.func82, Try.ntmps82
  go_wp2_with fail
  refine (unhide A0).mono ?_
  rintro e w1 ⟨rfl, hP, hK⟩
  have KK := hide hK
  have A3 := hide (unhide HS1 w1 hP)
  obtain ⟨_, c1, _, _, k1, k2⟩ := hP.head
  obtain ⟨_, e1, _⟩ := hP.slot htn
  rw [unhide HA] at e1
  clear hP hK A0 HS1 HA
  go_wp2_with fail
  refine (unhide A3).mono ?_
  rintro e w2 ⟨rfl, hP, hK⟩
  have K2 := hide ((unhide KK).tr hK).drew
  have P2 := hide hP.drew
  clear c1 k1 k2 e1 A3 KK hP hK
  obtain ⟨_, c1, _, _, k1, k2⟩ := (unhide P2).head
  obtain ⟨_, _, e2, _⟩ := (unhide P2).slot htn
  obtain ⟨_, _, e3, _⟩ := (unhide P2).slot han
  generalize hra : (S1 a).r = ra at *
  generalize hrt : (S1 t).r = rt at *
  have HRA := hide (And.intro hra hrt)
  clear hra hrt
  go_wp2
  go_region_held3 (fun w' => w'.cell? ⟨p, 1, none⟩ = some (.slice (some ⟨g, 0, none⟩) n cap) ∧ w'.cell? ⟨g, t * 10 + 2, none⟩ = some (.int .i64 (rt : Int)) ∧ w'.cell? ⟨g, a * 10 + 2, none⟩ = some (.int .i64 (ra : Int)))
    (simp [go_sem, *])
    (first
      | (go_at_call 70; refine (unhide A1 _ (unhide P2)).mono ?_; rintro e w3 ⟨rfl, hP, hK⟩; have K3 := hide ((unhide K2).tr hK); have P3 := hide hP; (obtain ⟨_, v1, _⟩ := (unhide P3).head); (obtain ⟨_, _, v2, _⟩ := (unhide P3).slot htn); (obtain ⟨_, v4, v3, _⟩ := (unhide P3).slot han); rw [unhide E1] at v3 v4; rw [(unhide HRA).1] at v3; rw [unhide E2] at v2; clear hP hK A1))
  all_goals
    go_wp2_with fail
    refine (unhide A2 _ (unhide P3)).mono ?_
    rintro e w4 ⟨rfl, hP, hK⟩
    have R := hide (And.intro hP ((unhide K3).tr hK))
    clear hP hK A2 P3 P2
    go_wp2
    go_ret
    obtain ⟨r1, r2⟩ := unhide R
    obtain ⟨f1, f2, f3, f4, f5⟩ := unhide FF
    refine ⟨rfl, S2, S3, r1, r2, ?_, f2, f3, f4, f5⟩
    rw [(unhide HRA).1, (unhide HRA).2]; exact f1
end Go.Proofs.Ytkfboficcdiojaa
