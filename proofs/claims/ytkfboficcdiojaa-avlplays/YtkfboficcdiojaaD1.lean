/- The program's pool: what it tells, with no slot turned. -/
import Derived.Test.YtkfboficcdiojaaC14
import Derived.Test.YtkfboficcdiojaaD
namespace Go.Proofs.Ytkfboficcdiojaa
open Go.RowKit Go.Arb
set_option linter.unusedVariables false
set_option linter.unusedSimpArgs false

/-- The pool at p holds the sequences A. -/
structure PA (w : World) (p g n cap : Nat) (S : Ss) (A : Se) : Prop where
  po : Pool w p g n cap A.n S
  iv : Inv S A
  n0 : 0 < n
  nn : n ≤ A.n + 1

section
variable {w w' : World} {p g n cap : Nat} {S : Ss} {A : Se}
theorem PA.ltn (h : PA w p g n cap S A) {v : Nat} (hv : v ∈ A.L.flatten) : v + 1 < n := Classical.byContradiction fun hn => h.iv.there hv (by rw [h.po.out (by omega)]; rfl)
theorem PA.below (h : PA w p g n cap S A) (hb : Below w.heap.size w w') : PA w' p g n cap S A := ⟨h.po.below hb, h.iv, h.n0, h.nn⟩

set_option maxHeartbeats 1000000 in
theorem find_nil (x : Int) (w : World) : Calls Try.prog 51 #[.pointer none, .int .i64 x] w fun e w' => e = .returned (.int .i64 0) ∧ w = w' := by
  go_enter Try.func51, Try.ntmps51
  go_wp2
  go_ret
  exact ⟨rfl, rfl⟩

def Se.findI (A : Se) (x : Int) : Nat := if A.hasI x then x.toNat + 1 else 0
set_option maxHeartbeats 1000000 in
theorem find_any (x : Int) (h : PA w p g n cap S A) : Calls Try.prog 51 #[.pointer (some ⟨p, 0, none⟩), .int .i64 x] w fun e w' => e = .returned (.int .i64 (A.findI x : Int)) ∧ w = w' := by
  obtain ⟨_, c1, _, _, k1, k2⟩ := h.po.head
  have n0 := h.n0
  have nn := h.nn
  have nb := h.iv.n
  have hnb : (n : Int) ≤ 4194305 := by omega
  by_cases h0 : x < 0
  · have hf : A.findI x = 0 := by simp [Se.findI, Se.hasI]; omega
    rw [hf]
    clear h
    go_enter Try.func51, Try.ntmps51
    go_wp2
    go_ret
    exact ⟨rfl, rfl⟩
  · obtain ⟨v, rfl⟩ := Int.eq_ofNat_of_zero_le (by omega : 0 ≤ x)
    by_cases h1 : n ≤ v + 1
    · have hf : A.findI v = 0 := by
        rw [Se.findI, A.hasI_nat, if_neg]
        simp only [decide_eq_true_eq]
        exact fun hv => by have := h.ltn hv; omega
      rw [hf]
      have g1 : (n : Int) - 1 ≤ (v : Int) := by omega
      clear h hf
      go_enter Try.func51, Try.ntmps51
      go_wp2
      go_ret
      exact ⟨rfl, rfl⟩
    · have g1 : ¬ (n : Int) - 1 ≤ (v : Int) := by omega
      have g2 : (0 : Int) ≤ (v : Int) + 1 := by omega
      have g3 : (v : Int) + 1 < (n : Int) := by omega
      obtain ⟨_, _, _, e3, _⟩ := h.po.slot (t := v + 1) (by omega)
      by_cases hv : v ∈ A.L.flatten
      · have hh := h.iv.there hv
        have hf : A.findI v = v + 1 := by rw [Se.findI, A.hasI_nat, if_pos (by simpa using hv)]; simp
        rw [hf]
        generalize (S (v + 1)).h = hh' at *
        have hh2 : ((hh' : Int) == 0) = false := by rw [beq_eq_false_iff_ne]; omega
        clear h hf hh
        go_enter Try.func51, Try.ntmps51
        go_wp2
        go_ret
        exact ⟨rfl, rfl⟩
      · have hf : A.findI v = 0 := by rw [Se.findI, A.hasI_nat, if_neg (by simpa using hv)]
        rw [hf]
        rw [h.iv.gone hv] at e3
        simp only [Sl.zero] at e3
        clear h hf
        go_enter Try.func51, Try.ntmps51
        go_wp2
        go_ret
        exact ⟨rfl, rfl⟩
set_option maxHeartbeats 1000000 in
theorem has_nil (x : Int) (w : World) : Calls Try.prog 29 #[.pointer none, .int .i64 x] w fun e w' => e = .returned (.bool false) ∧ w = w' := by
  go_enter Try.func29, Try.ntmps29
  go_wp2_with (go_at_call 51; refine (find_nil _ _).mono ?_; rintro e w' ⟨rfl, rfl⟩)
  go_ret
  exact ⟨rfl, rfl⟩
theorem Se.findI_has (A : Se) (x : Int) : (A.findI x = 0 ∧ A.hasI x = false) ∨ (A.findI x ≠ 0 ∧ A.hasI x = true) := by
  unfold Se.findI
  cases A.hasI x
  · left; simp
  · right; simp
set_option maxHeartbeats 1000000 in
theorem has_any (x : Int) (h : PA w p g n cap S A) : Calls Try.prog 29 #[.pointer (some ⟨p, 0, none⟩), .int .i64 x] w fun e w' => e = .returned (.bool (A.hasI x)) ∧ w = w' := by
  have F := hide (find_any x h)
  clear h
  rcases A.findI_has x with ⟨h1, h2⟩ | ⟨h1, h2⟩
  · rw [h1] at F
    rw [h2]
    clear h1 h2
    go_enter Try.func29, Try.ntmps29
    go_wp2_with (go_at_call 51; refine (unhide F).mono ?_; rintro e w' ⟨rfl, rfl⟩)
    go_ret
    exact ⟨rfl, rfl⟩
  · rw [h2]
    generalize A.findI x = f at *
    have h3 : ((f : Int) == 0) = false := by rw [beq_eq_false_iff_ne]; omega
    have H1 := hide h1
    clear h1 h2
    go_enter Try.func29, Try.ntmps29
    go_wp2_with (go_at_call 51; refine (unhide F).mono ?_; rintro e w' ⟨rfl, rfl⟩)
    go_ret
    exact ⟨by simpa using unhide H1, rfl⟩

set_option maxHeartbeats 1000000 in
theorem top_any (t r : Nat) (ys : List It) (room : Nat) (h : Pool w p g n cap room S) (z : Z S) (hp : Pt S r ys) (hu : (S r).up = 0) (hm : t ∈ ids ys) : Calls Try.prog 53 #[.pointer (some ⟨p, 0, none⟩), .int .i64 (t : Int)] w fun e w' => e = .returned (.int .i64 (r : Int)) ∧ w = w' := by
  obtain ⟨k, xs, hs⟩ := Sub.ex hp t hm
  obtain ⟨_, c1, _, _, k1, k2⟩ := h.head
  have SL := hide (fun u (hu : u ∈ ids ys) => And.intro (hp.ltn h z u hu) (h.slot (hp.ltn h z u hu)).1)
  have SB := hide hs
  have HP := hide hp
  have HU := hide hu
  have HZ := hide (hp.ne0 t hm)
  clear h z hp hu hm hs
  go_enter Try.func53, Try.ntmps53
  go_wp2
  go_loopg [1] k (fun gk a w' => ∃ (y : Nat) (l : List It), a = .int .i64 (y : Int) ∧ w' = w ∧ Hid (Sub S false r ys gk y l ∧ y ≠ 0))
  case atStart => exact ⟨t, xs, rfl, rfl, unhide SB, unhide HZ⟩
  case round =>
    obtain ⟨y, l, rfl, rfl, HY⟩ := hrel
    obtain ⟨hy, y0⟩ := unhide HY
    obtain ⟨g1, d⟩ := unhide SL y (hy.mem (unhide HP) y0)
    have i1 : (0 : Int) ≤ (y : Int) := by omega
    have i2 : (y : Int) < (n : Int) := by omega
    cases gk with
    | zero =>
      rw [hy.up0 (unhide HU)] at d
      have e : y = r := hy.1
      subst e
      clear hy HY SL SB HP HU
      go_wp2
      go_ret
      exact ⟨rfl, rfl⟩
    | succ j =>
      obtain ⟨u, zs, xl, xr, e1, u0, k0, _⟩ := hy.up
      rw [e1] at d
      have u0' : ((u : Int) == 0) = false := by rw [beq_eq_false_iff_ne]; omega
      have NX := hide (And.intro k0 u0)
      clear hy HY k0 u0 e1
      go_wp2
      go_roundg j
      case rel => exact ⟨u, zs, rfl, rfl, unhide NX⟩
      all_goals omega
end
end Go.Proofs.Ytkfboficcdiojaa
