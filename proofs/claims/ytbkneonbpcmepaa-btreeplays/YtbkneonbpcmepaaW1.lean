/- isAll; within, for sumOf's closure. -/
import Derived.Test.YtbkneonbpcmepaaZ6
namespace Go.Proofs.Ytbkneonbpcmepaa
open Go.RowKit Go.Arb
set_option linter.unusedVariables false
set_option linter.unusedSimpArgs false

set_option maxRecDepth 100000 in
theorem isAll_any {a : Nat} {u r : Value} {h i m : Int} {s : Sm} {w : World} (k : Kn w a u r h i m s) (f t : Int) :
    Calls Try.prog 73 #[ptr a, .int .i64 f, .int .i64 t] w fun e w' => e = .returned (.bool (decide (f ≤ 0 ∧ s.c ≤ t))) ∧ w' = w := by
  obtain ⟨_, _, _, _, _, q5, _, _, _⟩ := k.cells
  clear k
  unfold ptr
  by_cases h1 : f ≤ 0
  · by_cases h2 : s.c ≤ t
    · rw [decide_eq_true (p := f ≤ 0 ∧ s.c ≤ t) ⟨h1, h2⟩]
      go_enter Try.func73, Try.ntmps73
      go_wp2
      go_ret
      exact ⟨rfl, rfl⟩
    · rw [decide_eq_false (p := f ≤ 0 ∧ s.c ≤ t) (fun h => h2 h.2)]
      go_enter Try.func73, Try.ntmps73
      go_wp2
      go_ret
      exact ⟨rfl, rfl⟩
  · rw [decide_eq_false (p := f ≤ 0 ∧ s.c ≤ t) (fun h => h1 h.1)]
    go_enter Try.func73, Try.ntmps73
    go_wp2
    go_ret
    exact ⟨rfl, rfl⟩

set_option maxRecDepth 100000 in
theorem within75 {hh : Nat} (ps : List (Tr hh)) (A box : Nat) (u r : Value) (h i m f t : Int) (s : Sm) (w : World) (Iv : Nat → World → Prop) (k : Kn w A u r h i m s) (h8 : ps.length ≤ 8) (hl : (ps.flatMap (its hh)).length ≤ 4194304)
    (b1 : -4398046511104 ≤ f ∧ f ≤ 4398046511104) (b2 : -4398046511104 ≤ t ∧ t ≤ 4398046511104) (hr : Row w r (ps.map (adr hh)))
    (h0 : Iv 0 w) (hrow : ∀ j w', Iv j w' → Row w' r (ps.map (adr hh))) (hcnt : ∀ j (hj : j < ps.length) w', Iv j w' → w'.cell? ⟨adr hh ps[j], 5, none⟩ = some (.int .i64 ((its hh ps[j]).length : Nat)))
    (hs : ∀ j (hj : j < ps.length) w', Iv j w' → f - (((ps.take j).flatMap (its hh)).length : Nat) < (its hh ps[j]).length → 0 < t - (((ps.take j).flatMap (its hh)).length : Nat) →
      Calls Try.prog 75 #[ptr (adr hh ps[j]), .int .i64 (f - (((ps.take j).flatMap (its hh)).length : Nat)), .int .i64 (t - (((ps.take j).flatMap (its hh)).length : Nat)), ptr box] w' fun e w'' => e = .returned (.tuple #[]) ∧ Iv (j + 1) w'')
    (hn : ∀ j (hj : j < ps.length) w', Iv j w' → ¬ (f - (((ps.take j).flatMap (its hh)).length : Nat) < (its hh ps[j]).length ∧ 0 < t - (((ps.take j).flatMap (its hh)).length : Nat)) → Iv (j + 1) w') :
    Calls Try.prog 74 #[ptr A, .int .i64 f, .int .i64 t, .func (.func 75) #[] #[ptr box]] w fun e w' => e = .returned (.tuple #[]) ∧ Iv ps.length w' := by
  obtain ⟨_, q1, _, _, _, _, _, _, _⟩ := k.cells
  obtain ⟨x, cap, e, c1, c2, c3, c4⟩ := hr.form
  rw [e] at q1
  rw [List.length_map] at q1 c1 c3
  have H0 := hide h0
  have HR := hide hrow
  have HC := hide hcnt
  have HS := hide hs
  have HN := hide hn
  have HL := hide hl
  have E := hide e
  clear h0 hrow hcnt hs hn hl c4 hr e k
  unfold ptr
  go_enter Try.func74, Try.ntmps74
  go_wp2_with fail
  go_loopg [1, 2, 16] ps.length (fun gk v1 v2 v3 w' => ∃ j : Nat, j + gk = ps.length ∧ v1 = .int .i64 (f - (((ps.take j).flatMap (its hh)).length : Nat)) ∧ v2 = .int .i64 (t - (((ps.take j).flatMap (its hh)).length : Nat)) ∧ v3 = .int .i64 (j : Int) ∧ Iv j w')
  case atStart => exact ⟨0, by omega, by simp, by simp, rfl, unhide H0⟩
  case round =>
    obtain ⟨j, hj, rfl, rfl, rfl, hI⟩ := hrel
    by_cases h9 : j < ps.length
    · obtain ⟨x', cap', e', _, _, c3', c4'⟩ := (unhide HR j _ hI).form
      have e2 := (unhide E).symm.trans e'
      rw [List.length_map] at c3' c4'
      simp only [Value.slice.injEq] at e2
      obtain ⟨rfl, _, rfl⟩ := e2
      obtain ⟨g, rfl, hg, _⟩ := c3' (by omega)
      have e1 := c4' g rfl j h9
      rw [mapD _ _ h9] at e1
      have e5 := unhide HC j h9 _ hI
      have z1 : ((ps.take (j + 1)).flatMap (its hh)).length = ((ps.take j).flatMap (its hh)).length + (its hh ps[j]).length := by
        rw [take_step _ h9, List.flatMap_append, List.length_append]
        simp
      have z2 := flat_len ps (j + 1)
      have z3 := unhide HL
      have Z1 := hide z1
      rw [z1] at z2
      have S1 := hide (unhide HS j h9 _ hI)
      have N1 := hide (unhide HN j h9 _ hI)
      clear z1 hI e' c3' c4'
      unfold ptr at *
      generalize hn1 : ((ps.take j).flatMap (its hh)).length = n1 at *
      generalize hn2 : (its hh ps[j]).length = n2 at *
      clear hn1 hn2
      generalize adr hh ps[j] = b at *
      have y1 : -9223372036854775808 ≤ f - (n1 : Int) ∧ f - (n1 : Int) ≤ 9223372036854775807 := by omega
      have y2 : -9223372036854775808 ≤ t - (n1 : Int) ∧ t - (n1 : Int) ≤ 9223372036854775807 := by omega
      have y3 : -9223372036854775808 ≤ f - (n1 : Int) - (n2 : Int) ∧ f - (n1 : Int) - (n2 : Int) ≤ 9223372036854775807 := by omega
      have y4 : -9223372036854775808 ≤ t - (n1 : Int) - (n2 : Int) ∧ t - (n1 : Int) - (n2 : Int) ≤ 9223372036854775807 := by omega
      have y5 : (j : Int) < (ps.length : Int) := by omega
      have F1 : f - (n1 : Int) - (n2 : Int) = f - ((n1 + n2 : Nat) : Int) := by omega
      have F2 : t - (n1 : Int) - (n2 : Int) = t - ((n1 + n2 : Nat) : Int) := by omega
      have FF := hide (And.intro F1 F2)
      clear F1 F2 z2 z3
      by_cases a1 : f - (n1 : Int) < (n2 : Int)
      · by_cases a2 : (n1 : Int) < t
        · have S2 := hide (unhide S1 a1 (by omega))
          clear S1 N1
          go_wp2_with fail
          refine (unhide S2).mono ?_
          rintro e w2 ⟨rfl, hI⟩
          have I2 := hide hI
          clear hI S2
          go_wp2
          go_roundg (gk - 1)
          case rel => exact ⟨j + 1, by omega, by rw [unhide Z1, (unhide FF).1], by rw [unhide Z1, (unhide FF).2], rfl, unhide I2⟩
          all_goals omega
        · have I2 := hide (unhide N1 (fun hc => a2 (by omega)))
          clear S1 N1
          go_wp2
          go_roundg (gk - 1)
          case rel => exact ⟨j + 1, by omega, by rw [unhide Z1, (unhide FF).1], by rw [unhide Z1, (unhide FF).2], rfl, unhide I2⟩
          all_goals omega
      · have I2 := hide (unhide N1 (fun hc => a1 hc.1))
        clear S1 N1
        go_wp2
        go_roundg (gk - 1)
        case rel => exact ⟨j + 1, by omega, by rw [unhide Z1, (unhide FF).1], by rw [unhide Z1, (unhide FF).2], rfl, unhide I2⟩
        all_goals omega
    · have hje : j = ps.length := by omega
      subst hje
      have I2 := hide hI
      clear hI
      generalize ((ps.take ps.length).flatMap (its hh)).length = n1 at *
      go_wp2
      go_end0
      exact ⟨rfl, unhide I2⟩
end Go.Proofs.Ytbkneonbpcmepaa
