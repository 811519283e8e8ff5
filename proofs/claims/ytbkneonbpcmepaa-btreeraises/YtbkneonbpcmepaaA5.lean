/- Ranges of a sequence that stands in its items' order, raised, in plain mathematics. -/
import Derived.Test.YtbkneonbpcmepaaA4
namespace Go.Proofs.Ytbkneonbpcmepaa
set_option linter.unusedVariables false
set_option linter.unusedSimpArgs false

section
variable {n a b : Nat} {W : Nat → Int} {d : Int}
theorem rank_one {i : Nat} (hi : i < n) : (st n [rg 0 n] W).rankI (i : Int) = (i : Int) := one_rank hi
theorem okR_one (ha : a < n) (hb : b < n) : (st n [rg 0 n] W).okR (a : Int) (b : Int) = decide (a ≤ b) := by
  rw [Se.okR, rank_one ha, rank_one hb, st_same (one_nd n) (l := rg 0 n) (by simp) (by rw [rg_mem]; omega) (by rw [rg_mem]; omega)]
  simp
theorem part_one (hab : a ≤ b) (hb : b < n) : (st n [rg 0 n] W).part (a : Int) (b : Int) = rg a (b + 1 - a) := by
  rw [Se.part, rank_one (show a < n by omega), rank_one hb, st_seqI (one_nd n) (l := rg 0 n) (by simp) (by rw [rg_mem]; omega), Int.toNat_natCast, Int.toNat_natCast, rg_take (by omega), rg_drop (by omega), Nat.zero_add]
theorem range_one (hab : a ≤ b) (hb : b < n) : (st n [rg 0 n] W).rangeI (a : Int) (b : Int) = ofR ((rg a (b + 1 - a)).map W) := by
  rw [Se.rangeI, okR_one (by omega) hb, if_pos (by simpa using hab), part_one hab hb]
/-- Weights of a law's own, raised some times. -/
def Lim (n : Nat) (W : Nat → Int) (c : Int) : Prop := ∀ v, v < n → -c ≤ W v ∧ W v ≤ c
theorem lift_one (hab : a ≤ b) (hb : b < n) (hw : Lim n W 1000000) (h1 : -1000000 ≤ d) (h2 : d ≤ 1000000) :
    (st n [rg 0 n] W).liftB (a : Int) (b : Int) d = true ∧ (st n [rg 0 n] W).liftA (a : Int) (b : Int) d = st n [rg 0 n] (upW W (rg a (b + 1 - a)) d) := by
  have h : (st n [rg 0 n] W).liftB (a : Int) (b : Int) d = true := by
    rw [Se.liftB, okR_one (by omega) hb, range_one hab hb]
    obtain ⟨q1, q2, q3, _⟩ := ofR_bd (-1000000) 1000000 ((rg a (b + 1 - a)).map W) (fun x hx => by
      obtain ⟨v, hv, rfl⟩ := List.mem_map.1 hx
      rw [rg_mem] at hv
      exact hw v (by omega)) (map_ne (by omega))
    simp only [addB, fitB, inB, Bool.and_eq_true, decide_eq_true_eq]
    omega
  exact ⟨h, by rw [Se.liftA, if_pos h, part_one hab hb]⟩
theorem up_in {v : Nat} (h1 : a ≤ v) (h2 : v ≤ b) : upW W (rg a (b + 1 - a)) d v = W v + d := by rw [upW, if_pos (by rw [rg_mem]; omega)]
theorem up_out {v : Nat} (h : v < a ∨ b < v) (hab : a ≤ b) : upW W (rg a (b + 1 - a)) d v = W v := by rw [upW, if_neg (by rw [rg_mem]; omega)]
theorem up_lim {c c' : Int} (hab : a ≤ b) (hw : Lim n W c) (h0 : 0 ≤ c') (h1 : -c' ≤ d) (h2 : d ≤ c') : Lim n (upW W (rg a (b + 1 - a)) d) (c + c') := fun v hv => by
  have := hw v hv
  by_cases h : a ≤ v ∧ v ≤ b
  · rw [up_in h.1 h.2]; omega
  · rw [up_out (by omega) hab]; omega
theorem up_back : upW (upW W (rg a (b + 1 - a)) d) (rg a (b + 1 - a)) (-d) = W := by
  funext v
  simp only [upW]
  split <;> omega
theorem up_comm {l m : List Nat} {e : Int} : upW (upW W l d) m e = upW (upW W m e) l d := by
  funext v
  simp only [upW]
  split <;> split <;> omega
theorem get_one {i : Nat} (hi : i < n) : (st n [rg 0 n] W).getI (i : Int) = W i := st_get (l := rg 0 n) (by simp) (by rw [rg_mem]; omega)
theorem has_one {i : Nat} (hi : i < n) : (st n [rg 0 n] W).hasI (i : Int) = true := st_has (l := rg 0 n) (by simp) (by rw [rg_mem]; omega)
theorem lim16 {g : Nat → Int} (h : Fits16 g) : Lim n (gW n g) 32768 := fun v hv => by have := h v; rw [gW_in hv]; omega
theorem Lim.wide {c c' : Int} (h : Lim n W c) (hc : c ≤ c') : Lim n W c' := fun v hv => by have := h v hv; omega
theorem rg_succ (hb : a ≤ b) : rg a (b + 1 - a) = rg a (b - a) ++ [b] := by
  have := rg_app (s := a) (a := b - a) (b := 1)
  rw [show a + (b - a) = b by omega, show b - a + 1 = b + 1 - a by omega, rg_one] at this
  exact this.symm

/-- What a law gathers of some weights, one by one. -/
def Acc (l : List Int) (c s lo hi : Int) : Prop := (l = [] → c = 0 ∧ s = 0 ∧ lo = 1048576 ∧ hi = -1048576) ∧ (l ≠ [] → ofR l = ⟨c, s, lo, hi⟩)
theorem Acc.nil : Acc [] 0 0 1048576 (-1048576) := ⟨fun _ => ⟨rfl, rfl, rfl, rfl⟩, fun h => absurd rfl h⟩
theorem Acc.step {l : List Int} {c s lo hi x : Int} (h : Acc l c s lo hi) (h1 : -32768 ≤ x) (h2 : x ≤ 32767) : Acc (l ++ [x]) (c + 1) (s + x) (min lo x) (max hi x) := by
  refine ⟨fun e => by simp at e, fun _ => ?_⟩
  rw [ofR_append]
  by_cases e : l = []
  · obtain ⟨rfl, rfl, rfl, rfl⟩ := h.1 e
    subst e
    rw [show ofR [] = zero from rfl, jn_zero_left, show ofR [x] = jn (one x) zero from rfl, jn_zero_right (ok_one x)]
    exact Sm.same (by simp [one]) (by simp [one]) (by simp [one]; omega) (by simp [one]; omega)
  · have hc := ofR_c l
    rw [h.2 e] at hc ⊢
    rw [show ofR [x] = jn (one x) zero from rfl, jn_zero_right (ok_one x)]
    dsimp only at hc
    rw [jn, if_neg (by have := List.length_pos_iff.2 e; simp; omega), if_neg (by simp [one])]
    rfl
theorem sum_last {m : Nat} : ((rg 0 (m + 1)).map W).sum = ((rg 0 m).map W).sum + W m := by
  rw [← rg_app (s := 0) (a := m) (b := 1), Nat.zero_add, rg_one, List.map_append, List.sum_append]
  simp
end
end Go.Proofs.Ytbkneonbpcmepaa
