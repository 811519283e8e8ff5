import Derived.Test.YtkfboficcdiojaaD15
namespace Go.Proofs.Ytkfboficcdiojaa
open Go.RowKit Go.Arb
set_option linter.unusedVariables false
set_option linter.unusedSimpArgs false

section
variable {w w' : World} {p g n cap room : Nat} {S S' : Ss} {A : Se}
set_option maxRecDepth 100000 in
set_option maxHeartbeats 4000000 in
theorem treeFits_any (t : Nat) (xl xr xs : List It) (h : Pool w p g n cap room S) (nb : Nb S n t xl xr xs) (htn : t < n) : Calls Try.prog 78 #[.pointer (some ⟨p, 0, none⟩), .int .i64 (t : Int)] w fun e w' => e = .returned (.bool true) ∧ Pool w' p g n cap room S ∧ Keep [g] w w' := by
  have hh1 := nb.pl.h_le nb.z
  have hh2 := nb.pr.h_le nb.z
  have hlen := nb.nd.length
  have hl4 := nb.len
  have hh := nb.nd.h
  have hb1 := nb.nd.b1
  have hb2 := nb.nd.b2
  have L := hide (fun W (hW : Pool W p g n cap room S) => lean_any t W p g n cap room S hW htn nb.ln nb.rn (by omega) (by omega))
  have hln := nb.ln
  have hrn := nb.rn
  have i1 : (0 : Int) ≤ (t : Int) := by omega
  have i2 : (t : Int) < (n : Int) := by omega
  have i3 : (0 : Int) ≤ ((S t).l : Int) := by omega
  have i4 : ((S t).l : Int) < (n : Int) := by omega
  have i5 : (0 : Int) ≤ ((S t).r : Int) := by omega
  have i6 : ((S t).r : Int) < (n : Int) := by omega
  have hL := h.lt
  have D := hide h.drew
  have HP := hide h
  obtain ⟨_, c1, _, _, k1, k2⟩ := h.head
  obtain ⟨e0, e1, e2, e3, e4, e5, e6, e7, e8, e9⟩ := h.slot htn
  have G0 := hide (Gw.new h (Keep.refl [g] w) (S t)).drew
  have Z0 : Hid (Gw w (w.alloc (.cells #[.int .i64 0, .int .i64 0, .int .i64 0, .int .i64 0, .int .i64 0, .int .i64 0, .int .i64 0, .int .i64 0, .int .i64 0, .int .i64 0] 67)).drew p g n cap room S w.heap.size Sl.zero) := (Gw.new h (Keep.refl [g] w) Sl.zero).drew
  have hmx : (if (S (S t).l).h < (S (S t).r).h then ((S (S t).r).h : Int) else ((S (S t).l).h : Int)) = ((max (S (S t).l).h (S (S t).r).h : Nat) : Int) := by split <;> omega
  have hmx2 : ((S t).h : Int) = 1 + ((max (S (S t).l).h (S (S t).r).h : Nat) : Int) := by omega
  have d1 : (-1 : Int) ≤ ((S (S t).l).h : Int) - ((S (S t).r).h : Int) := by omega
  have d2 : ((S (S t).l).h : Int) - ((S (S t).r).h : Int) ≤ 1 := by omega
  have mb : ((max (S (S t).l).h (S (S t).r).h : Nat) : Int) ≤ 4194304 := by omega
  have HM := hide (And.intro hmx (And.intro hmx2 (And.intro d1 (And.intro d2 mb))))
  clear h nb hh hb1 hb2 hh1 hh2 hlen hl4 hmx hmx2 d1 d2 mb
  go_enter Try.func78, Try.ntmps78
  go_upto_region 1 with fail
  go_cut [5, 6] (fun a b w' => ∃ B : Nat, a = .pointer (some ⟨B, 0, none⟩) ∧ b = .int .i64 (((S (S t).l).h : Int) - ((S (S t).r).h : Int)) ∧ Hid (Pool w' p g n cap room S ∧ Keep [g] w w' ∧ SlAt w' B (S t)))
  case first =>
    go_wp2
    go_region_with (first
      | (go_at_call 80; refine Calls.mono (unhide L _ (by first | exact unhide D | exact (unhide G0).po | exact (unhide Z0).po)) ?_; rintro e w1 ⟨rfl, hP, hK⟩; have P1 := hide hP; have hL1 := hP.lt; (obtain ⟨_, c1', _⟩ := hP.head); (obtain ⟨v0, v1, v2, v3, v4, v5, v6, v7, v8, v9⟩ := hP.slot htn); (first | (have Z1 := hide ((unhide Z0).step hK hP); (obtain ⟨x0, x1, x2, x3, x4, x5, x6, x7, x8, x9⟩ := (unhide Z1).b.at'); simp only [Sl.zero, zero] at x0 x1 x2 x3 x4 x5 x6 x7 x8 x9; (obtain ⟨f0, f1, f2, f3, f4, f5, f6, f7, f8, f9⟩ := (unhide Z1).b.soft)) | (have G1 := hide ((unhide G0).step hK hP); have nz := (unhide G1).nb) | (have K1 := hide ((Keep.refl [g] w).drew.tr hK)))))
    all_goals go_wp2
    all_goals go_meet
    all_goals first
      | (have K2 := unhide K1; have F := Gs.new (unhide P1) (S t); clear L D G0 Z0 HP HM; exact ⟨_, rfl, rfl, hide ⟨F.po, K2.tr F.kp, F.b⟩⟩)
      | (have Z2 := unhide Z1; have F := Z2.put (S t); clear L D G0 Z0 HP HM; exact ⟨_, rfl, rfl, hide ⟨F.po, F.kp, F.b.at'⟩⟩)
  case rest =>
  obtain ⟨B, rfl, rfl, HC⟩ := hcut
  obtain ⟨q1, q2, q3⟩ := unhide HC
  have HQ := hide (And.intro q1 q2)
  clear c1 e0 e1 e2 e3 e4 e5 e6 e7 e8 e9 D G0 Z0 L
  obtain ⟨_, c1, _, _, _, _⟩ := q1.head
  obtain ⟨_, _, _, a3, _⟩ := q1.slot hln
  obtain ⟨_, _, _, b3, _⟩ := q1.slot hrn
  obtain ⟨_, s1, s2, s3, _⟩ := q3
  obtain ⟨hmx, hmx2, d1, d2, mb⟩ := unhide HM
  rw [hmx2] at s3
  have wr : IntKind.i64.wrap (1 + ((max (S (S t).l).h (S (S t).r).h : Nat) : Int)) = 1 + ((max (S (S t).l).h (S (S t).r).h : Nat) : Int) := IntWalk.i64_in _ (by omega)
  clear HC q1 q2 hmx2 HM
  generalize max (S (S t).l).h (S (S t).r).h = mm at *
  generalize ((S (S t).l).h : Int) - ((S (S t).r).h : Int) = dd at *
  go_wp2
  go_quiet (fail)
  go_wp2
  go_ret
  exact ⟨by simp, (unhide HQ).1.drewN nq, (unhide HQ).2.tr (keep_drewN [g] nq)⟩
end
end Go.Proofs.Ytkfboficcdiojaa
