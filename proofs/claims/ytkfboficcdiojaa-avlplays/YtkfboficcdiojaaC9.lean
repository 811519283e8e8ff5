import Derived.Test.YtkfboficcdiojaaC8
namespace Go.Proofs.Ytkfboficcdiojaa
open Go.RowKit Go.Arb
set_option linter.unusedVariables false
set_option linter.unusedSimpArgs false

theorem Hb.hle {S : Ss} {t : Nat} {xl xr : List It} (h : Hb S t xl xr) : (S (S t).l).h ≤ xl.length ∧ (S (S t).r).h ≤ xr.length := ⟨h.pl.h_le h.z, h.pr.h_le h.z⟩
theorem Pt.kids {w : World} {p g n cap room : Nat} {S : Ss} {t : Nat} {xs : List It} (h : Pool w p g n cap room S) (hp : Pt S t xs) (z : Z S) (hn : 0 < n) (hl : xs.length ≤ 4194304) (ht : t ≠ 0) : (S t).l < n ∧ (S t).r < n ∧ (S (S t).l).h ≤ 4194304 ∧ (S (S t).r).h ≤ 4194304 := by
  obtain ⟨xl, xr, p1, p2, k⟩ := hp.node ht
  have := k.length
  have h1 := p1.h_le z
  have h2 := p2.h_le z
  exact ⟨p1.lt h z hn, p2.lt h z hn, by omega, by omega⟩

set_option maxRecDepth 100000 in
set_option maxHeartbeats 4000000 in
theorem balance_any (t : Nat) (xl xr : List It) (w : World) (p g n cap room : Nat) (S : Ss) (h : Pool w p g n cap room S) (hb : Hb S t xl xr) (hlen : xl.length + xr.length + 1 ≤ 4194304) (htn : t < n)
    (b1 : (S (S t).l).h ≤ (S (S t).r).h + 2) (b2 : (S (S t).r).h ≤ (S (S t).l).h + 2) :
    Calls Try.prog 71 #[.pointer (some ⟨p, 0, none⟩), .int .i64 (t : Int)] w fun e w' => ∃ (t' : Nat) (S' : Ss), e = .returned (.int .i64 (t' : Int)) ∧ Pool w' p g n cap room S' ∧ Keep [g] w w' ∧ Bal S S' t t' (xl ++ (t, (S t).wt) :: xr) ∧ ((S (S t).l).h ≤ (S (S t).r).h + 1 → (S (S t).r).h ≤ (S (S t).l).h + 1 → (S' t').h = (S t).h) := by
  obtain ⟨hle1, hle2⟩ := hb.hle
  have n0 : 0 < n := by omega
  have hln := hb.pl.lt h hb.z n0
  have hrn := hb.pr.lt h hb.z n0
  have L := hide (fun W (hW : Pool W p g n cap room S) => lean_any t W p g n cap room S hW htn hln hrn (by omega) (by omega))
  have i1 : (0 : Int) ≤ (t : Int) := by omega
  have i2 : (t : Int) < (n : Int) := by omega
  obtain ⟨_, c1, _, _, k1, k2⟩ := h.head
  obtain ⟨e0, e1, e2, e3, e4, e5, e6, e7, e8, e9⟩ := h.slot htn
  have G0 := hide (Gs.new h (S t))
  have HB := hide hb
  by_cases cb : (S (S t).l).h ≤ (S (S t).r).h + 1 ∧ (S (S t).r).h ≤ (S (S t).l).h + 1
  · have hd1 : ((((S (S t).l).h : Int) - ((S (S t).r).h : Int)) == 2) = false := by rw [beq_eq_false_iff_ne]; omega
    have hd2 : ((((S (S t).l).h : Int) - ((S (S t).r).h : Int)) == -2) = false := by rw [beq_eq_false_iff_ne]; omega
    generalize (((S (S t).l).h : Int) - ((S (S t).r).h : Int)) = dd at *
    have FF := hide (hb.pt cb.1 cb.2)
    clear h hb b1 b2 cb hle1 hle2 hln hrn n0
    go_enter Try.func71, Try.ntmps71
    go_wp2_with fail
    refine (unhide L _ (unhide G0).po).mono ?_
    rintro e w1 ⟨rfl, hP, hK⟩
    have G1 := hide ((unhide G0).step hK hP)
    clear hP hK G0 L
    go_wp2
    go_ret
    exact ⟨t, S, rfl, (unhide G1).po, (unhide G1).kp, ⟨unhide FF, (unhide HB).ne, Nat.le_refl _, by omega, fun _ _ => rfl, (unhide HB).z⟩, fun _ _ => rfl⟩
  · by_cases cl : (S (S t).l).h = (S (S t).r).h + 2
    · have a0 : (S t).l ≠ 0 := fun e => by rw [e, hb.z] at cl; simp [Sl.zero] at cl
      obtain ⟨kn1, kn2, kh1, kh2⟩ := hb.pl.kids h hb.z n0 (by omega) a0
      have L2 := hide (fun W (hW : Pool W p g n cap room S) => lean_any (S t).l W p g n cap room S hW hln kn1 kn2 kh1 kh2)
      have hd1 : (((S (S t).l).h : Int) - ((S (S t).r).h : Int)) = 2 := by omega
      rw [hd1] at L
      have i3 : (0 : Int) ≤ ((S t).l : Int) := by omega
      have i4 : ((S t).l : Int) < (n : Int) := by omega
      have HX := hide (show ¬ ((S (S t).l).h ≤ (S (S t).r).h + 1 ∧ (S (S t).r).h ≤ (S (S t).l).h + 1) from cb)
      by_cases cc : (S (S (S t).l).r).h ≤ (S (S (S t).l).l).h
      · have hd2 : ¬ (((S (S (S t).l).l).h : Int) - ((S (S (S t).l).r).h : Int)) < 0 := by omega
        have R := hide (fun W (hW : Pool W p g n cap room S) => balR1 t xl xr W p g n cap room S hW hb hlen htn cl cc)
        generalize (((S (S (S t).l).l).h : Int) - ((S (S (S t).l).r).h : Int)) = dd at *
        clear h hb b1 b2 cb hle1 hle2 hd1 cl cc kh1 kh2
        go_enter Try.func71, Try.ntmps71
        go_wp2_with fail
        refine (unhide L _ (unhide G0).po).mono ?_
        rintro e w1 ⟨rfl, hP, hK⟩
        have G1 := hide ((unhide G0).step hK hP)
        obtain ⟨_, s1, s2, _⟩ := (unhide G1).b
        clear hP hK G0 L
        go_wp2_with fail
        refine (unhide L2 _ (unhide G1).po).mono ?_
        rintro e w2 ⟨rfl, hP, hK⟩
        have G2 := hide ((unhide G1).step hK hP)
        clear hP hK G1 L2 s1 s2
        go_wp2_with fail
        refine (unhide R _ (unhide G2).po).mono ?_
        rintro e w3 ⟨t', S', rfl, hP, hK, hB⟩
        have F := hide (And.intro hP (And.intro ((unhide G2).kp.tr hK) hB))
        clear hP hK hB R G2
        go_wp2
        go_ret
        exact ⟨t', S', rfl, (unhide F).1, (unhide F).2.1, (unhide F).2.2, fun g1 g2 => absurd ⟨g1, g2⟩ (unhide HX)⟩
      · have hd2 : (((S (S (S t).l).l).h : Int) - ((S (S (S t).l).r).h : Int)) < 0 := by omega
        have R1 := hide (fun W (hW : Pool W p g n cap room S) => dblR1 t xl xr W p g n cap room S hW hb hlen cl (by omega))
        have R2 := hide (fun W m y1 y2 S3 (hW : Pool W p g n cap room S3) hf hmn => dblR2 t m y1 y2 xl xr W p g n cap room S S3 hW hb hf hlen htn hmn hrn)
        have R3 := hide (fun W m y1 y2 S3 S4 (hW : Pool W p g n cap room S4) hf md hmn => dblR3 t m y1 y2 xl xr W p g n cap room S S3 S4 hW hb hf md hlen htn hmn cl)
        generalize (((S (S (S t).l).l).h : Int) - ((S (S (S t).l).r).h : Int)) = dd at *
        clear h hb b1 b2 cb hle1 hle2 hd1 cl cc kh1 kh2
        go_enter Try.func71, Try.ntmps71
        go_wp2_with fail
        refine (unhide L _ (unhide G0).po).mono ?_
        rintro e w1 ⟨rfl, hP, hK⟩
        have G1 := hide ((unhide G0).step hK hP)
        obtain ⟨_, s1, s2, _⟩ := (unhide G1).b
        clear hP hK G0 L
        go_wp2_with fail
        refine (unhide L2 _ (unhide G1).po).mono ?_
        rintro e w2 ⟨rfl, hP, hK⟩
        have G2 := hide ((unhide G1).step hK hP).drew
        clear hP hK G1 L2 s1 s2
        obtain ⟨_, s1, s2, _⟩ := (unhide G2).b
        go_wp2
        go_region_held3 (fun w' => w'.cell? ⟨w.heap.size, 1, none⟩ = some (.int .i64 ((S t).l : Int)) ∧ w'.cell? ⟨w.heap.size, 2, none⟩ = some (.int .i64 ((S t).r : Int)))
          (simp [go_sem, *])
          (first
            | (go_at_call 81; refine (unhide R1 _ (unhide G2).po).mono ?_; rintro e w3 ⟨m, S3, y1, y2, rfl, hP, hK, hf, hmn, q1, q2, q3⟩; have G3 := hide ((unhide G2).step hK hP); have HF := hide (And.intro hf (And.intro hmn (And.intro q1 (And.intro q2 q3)))); (obtain ⟨_, v1, v2, _⟩ := (unhide G3).b); clear hP hK hf hmn q1 q2 q3 R1)
            | (go_at_call 70; refine (unhide R2 _ m y1 y2 S3 (unhide G3).po (unhide HF).1 (unhide HF).2.1).1.mono ?_; rintro e w4 ⟨rfl, hP, hK⟩; have MD := hide (unhide R2 _ m y1 y2 S3 (unhide G3).po (unhide HF).1 (unhide HF).2.1).2; have G4 := hide ((unhide G3).step hK hP); (obtain ⟨_, u1, u2, _⟩ := (unhide G4).b); clear hP hK R2))
        all_goals
          generalize holdS S3 t m (S t).r = S4 at *
          go_wp2_with fail
          refine (unhide R3 _ m y1 y2 S3 S4 (unhide G4).po (unhide HF).1 (unhide MD) (unhide HF).2.1 (unhide HF).2.2.1 (unhide HF).2.2.2.1 (unhide HF).2.2.2.2).mono ?_
          rintro e w5 ⟨t', S', rfl, hP, hK, hB⟩
          have F := hide (And.intro hP (And.intro ((unhide G4).kp.tr hK) hB))
          clear hP hK hB R3 G4 G3 G2 MD HF
          go_wp2
          go_ret
          exact ⟨t', S', rfl, (unhide F).1, (unhide F).2.1, (unhide F).2.2, fun g1 g2 => absurd ⟨g1, g2⟩ (unhide HX)⟩
    · have cr : (S (S t).r).h = (S (S t).l).h + 2 := by omega
      have a0 : (S t).r ≠ 0 := fun e => by rw [e, hb.z] at cr; simp [Sl.zero] at cr
      obtain ⟨kn1, kn2, kh1, kh2⟩ := hb.pr.kids h hb.z n0 (by omega) a0
      have L2 := hide (fun W (hW : Pool W p g n cap room S) => lean_any (S t).r W p g n cap room S hW hrn kn1 kn2 kh1 kh2)
      have hd1 : (((S (S t).l).h : Int) - ((S (S t).r).h : Int)) = -2 := by omega
      rw [hd1] at L
      have i3 : (0 : Int) ≤ ((S t).r : Int) := by omega
      have i4 : ((S t).r : Int) < (n : Int) := by omega
      have HX := hide (show ¬ ((S (S t).l).h ≤ (S (S t).r).h + 1 ∧ (S (S t).r).h ≤ (S (S t).l).h + 1) from cb)
      by_cases cc : (S (S (S t).r).l).h ≤ (S (S (S t).r).r).h
      · have hd2 : ¬ 0 < (((S (S (S t).r).l).h : Int) - ((S (S (S t).r).r).h : Int)) := by omega
        have R := hide (fun W (hW : Pool W p g n cap room S) => balL1 t xl xr W p g n cap room S hW hb hlen htn cr cc)
        generalize (((S (S (S t).r).l).h : Int) - ((S (S (S t).r).r).h : Int)) = dd at *
        clear h hb b1 b2 cb hle1 hle2 hd1 cl cr cc kh1 kh2
        go_enter Try.func71, Try.ntmps71
        go_wp2_with fail
        refine (unhide L _ (unhide G0).po).mono ?_
        rintro e w1 ⟨rfl, hP, hK⟩
        have G1 := hide ((unhide G0).step hK hP)
        obtain ⟨_, s1, s2, _⟩ := (unhide G1).b
        clear hP hK G0 L
        go_wp2_with fail
        refine (unhide L2 _ (unhide G1).po).mono ?_
        rintro e w2 ⟨rfl, hP, hK⟩
        have G2 := hide ((unhide G1).step hK hP)
        clear hP hK G1 L2 s1 s2
        go_wp2_with fail
        refine (unhide R _ (unhide G2).po).mono ?_
        rintro e w3 ⟨t', S', rfl, hP, hK, hB⟩
        have F := hide (And.intro hP (And.intro ((unhide G2).kp.tr hK) hB))
        clear hP hK hB R G2
        go_wp2
        go_ret
        exact ⟨t', S', rfl, (unhide F).1, (unhide F).2.1, (unhide F).2.2, fun g1 g2 => absurd ⟨g1, g2⟩ (unhide HX)⟩
      · have hd2 : 0 < (((S (S (S t).r).l).h : Int) - ((S (S (S t).r).r).h : Int)) := by omega
        have R1 := hide (fun W (hW : Pool W p g n cap room S) => dblL1 t xl xr W p g n cap room S hW hb hlen cr (by omega))
        have R2 := hide (fun W m y1 y2 S3 (hW : Pool W p g n cap room S3) hf hmn => dblL2 t m y1 y2 xl xr W p g n cap room S S3 hW hb hf hlen htn hmn hln)
        have R3 := hide (fun W m y1 y2 S3 S4 (hW : Pool W p g n cap room S4) hf md hmn => dblL3 t m y1 y2 xl xr W p g n cap room S S3 S4 hW hb hf md hlen htn hmn cr)
        generalize (((S (S (S t).r).l).h : Int) - ((S (S (S t).r).r).h : Int)) = dd at *
        clear h hb b1 b2 cb hle1 hle2 hd1 cl cr cc kh1 kh2
        go_enter Try.func71, Try.ntmps71
        go_wp2_with fail
        refine (unhide L _ (unhide G0).po).mono ?_
        rintro e w1 ⟨rfl, hP, hK⟩
        have G1 := hide ((unhide G0).step hK hP)
        obtain ⟨_, s1, s2, _⟩ := (unhide G1).b
        clear hP hK G0 L
        go_wp2_with fail
        refine (unhide L2 _ (unhide G1).po).mono ?_
        rintro e w2 ⟨rfl, hP, hK⟩
        have G2 := hide ((unhide G1).step hK hP).drew
        clear hP hK G1 L2 s1 s2
        obtain ⟨_, s1, s2, _⟩ := (unhide G2).b
        go_wp2
        go_region_held3 (fun w' => w'.cell? ⟨w.heap.size, 1, none⟩ = some (.int .i64 ((S t).l : Int)) ∧ w'.cell? ⟨w.heap.size, 2, none⟩ = some (.int .i64 ((S t).r : Int)))
          (simp [go_sem, *])
          (first
            | (go_at_call 82; refine (unhide R1 _ (unhide G2).po).mono ?_; rintro e w3 ⟨m, S3, y1, y2, rfl, hP, hK, hf, hmn, q1, q2, q3⟩; have G3 := hide ((unhide G2).step hK hP); have HF := hide (And.intro hf (And.intro hmn (And.intro q1 (And.intro q2 q3)))); (obtain ⟨_, v1, v2, _⟩ := (unhide G3).b); clear hP hK hf hmn q1 q2 q3 R1)
            | (go_at_call 70; refine (unhide R2 _ m y1 y2 S3 (unhide G3).po (unhide HF).1 (unhide HF).2.1).1.mono ?_; rintro e w4 ⟨rfl, hP, hK⟩; have MD := hide (unhide R2 _ m y1 y2 S3 (unhide G3).po (unhide HF).1 (unhide HF).2.1).2; have G4 := hide ((unhide G3).step hK hP); (obtain ⟨_, u1, u2, _⟩ := (unhide G4).b); clear hP hK R2))
        all_goals
          generalize holdS S3 t (S t).l m = S4 at *
          go_wp2_with fail
          refine (unhide R3 _ m y1 y2 S3 S4 (unhide G4).po (unhide HF).1 (unhide MD) (unhide HF).2.1 (unhide HF).2.2.1 (unhide HF).2.2.2.1 (unhide HF).2.2.2.2).mono ?_
          rintro e w5 ⟨t', S', rfl, hP, hK, hB⟩
          have F := hide (And.intro hP (And.intro ((unhide G4).kp.tr hK) hB))
          clear hP hK hB R3 G4 G3 G2 MD HF
          go_wp2
          go_ret
          exact ⟨t', S', rfl, (unhide F).1, (unhide F).2.1, (unhide F).2.2, fun g1 g2 => absurd ⟨g1, g2⟩ (unhide HX)⟩
end Go.Proofs.Ytkfboficcdiojaa
