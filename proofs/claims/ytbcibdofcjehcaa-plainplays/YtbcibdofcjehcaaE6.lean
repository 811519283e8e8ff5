import Derived.Test.YtbcibdofcjehcaaE5
import Derived.Test.YtbcibdofcjehcaaA6
namespace Go.Proofs.Ytbcibdofcjehcaa
open Go.RowKit Go.Arb
set_option linter.unusedVariables false
set_option linter.unusedSimpArgs false

/-- A row of numbers, as a walk reads it later on. -/
theorem NRow.form {B : Nat} {w : World} {v : Value} {l : List Nat} (h : NRow B w v l) :
    ∃ x cap, v = .slice x l.length cap ∧ l.length ≤ cap ∧ cap ≤ maxLen ∧ (0 < l.length → ∃ g, x = some ⟨g, 0, none⟩ ∧ g < w.heap.size ∧ B ≤ g ∧ ∀ k, (hk : k < l.length) → w.cell? ⟨g, k, none⟩ = some (.int .i64 ((l[k] : Nat) : Int))) := by
  obtain ⟨x, cap, hv, h1, h2, h3⟩ := row_form h
  refine ⟨x, cap, hv, h1, h2, fun h0 => ?_⟩
  obtain ⟨g, cap', hv', _, _, hg, hB, _, hc⟩ := h.at h0
  rw [hv] at hv'
  simp only [Value.slice.injEq] at hv'
  exact ⟨g, hv'.1, hg, hB, hc⟩
theorem lcaL_hit {l m : List Nat} {i : Nat} (hi : i < l.length) (hm : l[i] ∈ m) (hno : ∀ j, (hj : j < i) → l[j]'(by omega) ∉ m) : lcaL l m = (l[i] : Int) := by
  have : meetL l m = some l[i] := by
    unfold meetL
    rw [List.find?_eq_some_iff_getElem]
    exact ⟨by simpa using hm, i, hi, rfl, fun j hj => by simpa using hno j hj⟩
  simp [lcaL, this]
theorem lcaL_miss {l m : List Nat} (hno : ∀ j, (hj : j < l.length) → l[j] ∉ m) : lcaL l m = -1 := lca_none fun x hx => by
  obtain ⟨j, hj, rfl⟩ := List.mem_iff_getElem.1 hx
  exact hno j hj

set_option maxHeartbeats 2000000 in
theorem rlca_any (x y : Int) (w : World) (q bt bu bw n : Nat) (ft : Nat → Bool) (fu fw : Nat → Int) (T : Tr) (h : RIn w q bt bu bw n ft fu fw) (hs : Says T n ft fu fw) :
    Calls Try.prog 46 #[.pointer (some ⟨q, 0, none⟩), .int .i64 x, .int .i64 y] w fun e w' => e = .returned (.int .i64 (T.lcaI x y)) ∧ Below w.heap.size w w' := by
  have h1 := hide (rhas_any x w q bt bu bw n ft fu fw T h hs)
  have h2 := hide (rhas_any y w q bt bu bw n ft fu fw T h hs)
  cases hx : T.hasI x
  · rw [show T.lcaI x y = -1 from by rw [Tr.lcaI, Tr.upI_gone hx]; rfl]
    rw [hx] at h1
    clear h hs hx
    go_enter Try.func46, Try.ntmps46
    go_wp2_with fail
    refine (unhide h1).mono ?_
    rintro e w' ⟨rfl, rfl⟩
    go_wp2
    go_ret
    exact ⟨rfl, Below.refl _ _⟩
  · rw [hx] at h1
    cases hy : T.hasI y
    · rw [show T.lcaI x y = -1 from by rw [Tr.lcaI, Tr.upI_gone hy]; exact lca_none (by simp)]
      rw [hy] at h2
      clear h hs hx hy
      go_enter Try.func46, Try.ntmps46
      go_wp2_with fail
      refine (unhide h1).mono ?_
      rintro e w' ⟨rfl, rfl⟩
      go_wp2_with fail
      refine (unhide h2).mono ?_
      rintro e w' ⟨rfl, rfl⟩
      go_wp2
      go_ret
      exact ⟨rfl, Below.refl _ _⟩
    · rw [hy] at h2
      have h3 := hide (above_any x w q bt bu bw n ft fu fw T h hs)
      have h4 := hide (fun (w1 : World) (hb : Below w.heap.size w w1) => above_any y w1 q bt bu bw n ft fu fw T (h.below hb) hs)
      unfold Tr.lcaI
      generalize T.upI x = l at *
      generalize T.upI y = m at *
      clear h hs hx hy
      go_enter Try.func46, Try.ntmps46
      go_wp2_with fail
      refine (unhide h1).mono ?_
      rintro e w' ⟨rfl, rfl⟩
      go_wp2_with fail
      refine (unhide h2).mono ?_
      rintro e w' ⟨rfl, rfl⟩
      go_wp2_with fail
      refine (unhide h3).mono ?_
      rintro e w1 ⟨⟨s1, rfl, r1⟩, b1⟩
      have HB1 := hide b1
      have HR1 := hide r1
      clear r1 b1
      go_wp2_with fail
      refine (unhide h4 w1 (unhide HB1)).mono ?_
      rintro e w2 ⟨⟨s2, rfl, r2⟩, b2⟩
      have r1 := row_keep (unhide HR1) (Keep.ofBelow b2 []) (fun _ _ => by simp)
      have r1' : NRow w.heap.size w2 s1 l := r1
      obtain ⟨xl, cl, rfl, p1, p2, p3⟩ := r1'.form
      obtain ⟨xm, cm, rfl, q1, q2, q3⟩ := r2.form
      have HB2 := hide ((unhide HB1).trans (b2.mono (unhide HB1).size))
      have HP := hide (And.intro p3 q3)
      clear r1 r1' r2 b2 HB1 HR1 p3 q3 h1 h2 h3 h4
      unfold maxLen at p2 q2
      generalize hLl : l.length = Ll at p1 ⊢
      generalize hLm : m.length = Lm at q1 ⊢
      have HLL := hide (And.intro hLl hLm)
      clear hLl hLm
      go_wp2
      go_loopw [9] (fun a w' => ∃ i : Nat, i ≤ Ll ∧ a = .int .i64 (i : Int) ∧ Hid (Below w2.heap.size w2 w' ∧ ∀ j, (hj : j < l.length) → j < i → l[j] ∉ m)) (fun a _ => Ll - (intOf a).toNat)
      case atStart => exact ⟨0, by omega, rfl, Below.refl _ _, fun j _ hj => by omega⟩
      case round =>
        obtain ⟨i, hi, rfl, HI⟩ := hrel
        by_cases hil : i < Ll
        · have e1 : (i : Int) < (Ll : Int) := by omega
          have e2 : (0 : Int) ≤ (i : Int) := by omega
          have hil' : i < l.length := by rw [(unhide HLL).1]; exact hil
          obtain ⟨gl, rfl, hgl, _, cl9⟩ := (unhide HP).1 (by omega)
          have dl := cl9 i hil'
          clear cl9
          generalize hli : l[i] = li at *
          have HLI := hide hli
          clear hli
          go_wp2
          go_loopw [10] (fun a w' => ∃ k : Nat, k ≤ Lm ∧ a = .int .i64 (k : Int) ∧ Hid (Below w2.heap.size w2 w' ∧ ∀ j, (hj : j < m.length) → j < k → m[j] ≠ li)) (fun a _ => Lm - (intOf a).toNat)
          case atStart => exact ⟨0, by omega, rfl, (unhide HI).1, fun j _ hj => by omega⟩
          case round =>
            obtain ⟨k, hk, rfl, HK⟩ := hrel
            by_cases hkl : k < Lm
            · have e3 : (k : Int) < (Lm : Int) := by omega
              have e4 : (0 : Int) ≤ (k : Int) := by omega
              have hkl' : k < m.length := by rw [(unhide HLL).2]; exact hkl
              obtain ⟨gm, rfl, hgm, _, cm9⟩ := (unhide HP).2 (by omega)
              have dm := cm9 k hkl'
              clear cm9
              generalize hmk : m[k] = mk at *
              have HMK := hide (And.intro hmk (show mk ∈ m from hmk ▸ List.getElem_mem hkl'))
              clear hmk
              have dl' := dl
              rw [← (unhide HK).1.cell (p := ⟨gl, i, none⟩) hgl] at dl'
              rw [← (unhide HK).1.cell (p := ⟨gm, k, none⟩) hgm] at dm
              clear dl
              by_cases he : li = mk
              · have he' : ((li : Int) == (mk : Int)) = true := by rw [beq_iff_eq]; omega
                have HE := hide he
                clear he
                go_wp2
                go_quiet (fail)
                go_wp2
                go_ret
                refine ⟨?_, below_drewN ((unhide HB2).trans ((unhide HK).1.mono (unhide HB2).size)) _⟩
                have hh := lcaL_hit hil' (by rw [unhide HLI, unhide HE]; exact (unhide HMK).2) (fun j hj => (unhide HI).2 j (by omega) hj)
                rw [hh, unhide HLI]; rfl
              · have he' : ((li : Int) == (mk : Int)) = false := by rw [beq_eq_false_iff_ne]; omega
                have HE := hide he
                clear he
                go_wp2
                go_quiet (fail)
                go_wp2
                go_roundw
                case rel =>
                  refine ⟨k + 1, by omega, by go_num, below_drewN (unhide HK).1 _, fun j hj hjk => ?_⟩
                  by_cases e : j = k
                  · subst e; rw [(unhide HMK).1]; exact fun e => unhide HE e.symm
                  · exact (unhide HK).2 j hj (by omega)
                case measure => simp [intOf]; omega
            · have e3 : ¬ (k : Int) < (Lm : Int) := by omega
              have hkm : k = Lm := by omega
              have HKM := hide hkm
              clear hkm dl
              go_wp2
              go_roundw
              case rel =>
                refine ⟨i + 1, by omega, by go_num, (unhide HK).1, fun j hj hji => ?_⟩
                by_cases e : j = i
                · subst e
                  rw [unhide HLI]
                  intro hm
                  obtain ⟨j2, hj2, e2⟩ := List.mem_iff_getElem.1 hm
                  exact (unhide HK).2 j2 hj2 (by rw [unhide HKM, ← (unhide HLL).2]; exact hj2) e2
                · exact (unhide HI).2 j hj (by omega)
              case measure => simp [intOf]; omega
        · have e1 : ¬ (i : Int) < (Ll : Int) := by omega
          have hil2 : i = Ll := by omega
          have HE := hide (show lcaL l m = -1 from lcaL_miss fun j hj => (unhide HI).2 j hj (by rw [hil2, ← (unhide HLL).1]; exact hj))
          clear hil2
          go_wp2
          go_ret
          exact ⟨by rw [unhide HE]; rfl, (unhide HB2).trans ((unhide HI).1.mono (unhide HB2).size)⟩
end Go.Proofs.Ytbcibdofcjehcaa
