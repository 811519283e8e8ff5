import Derived.Test.YtkfboficcdiojaaD13
namespace Go.Proofs.Ytkfboficcdiojaa
open Go.RowKit Go.Arb
set_option linter.unusedVariables false
set_option linter.unusedSimpArgs false

def Se.setB (A : Se) (x y : Int) : Bool := A.hasI x && fitB y
def Se.setA (A : Se) (x y : Int) : Se := if A.setB x y then { A with W := fun v => if v = x.toNat then y else A.W v } else A

section
variable {w w' : World} {p g n cap : Nat} {S S' : Ss} {A : Se}
theorem Chd.of {A' : Se} (h : ∃ S', PA w' p g n cap S' A' ∧ Keep [g] w w') : Chd w w' p g g A' := by
  obtain ⟨S', h1, h2⟩ := h
  exact Chd.mk ⟨n, cap, S', h1⟩ (h2.mono (by simp)) (.inl rfl)
theorem Se.self (h : Inv S A) {v : Nat} (hv : v ∈ A.L.flatten) : A.okR v v = true ∧ A.part v v = [v] ∧ A.rangeI v v = one (A.W v) := by
  have hh : A.hasI v = true := by rw [A.hasI_nat]; simpa using hv
  have hm := (Se.seq_mem hv)
  have ho : A.okR v v = true := by simp [Se.okR, Se.sameI, hh, Se.seqI_nat hv, hm.2]
  have hp : A.part v v = [v] := by
    have hk := List.idxOf_lt_length_of_mem hm.2
    rw [Se.part, Se.seqI_nat hv, Se.rankI, hh]
    simp only [if_true, Int.toNat_natCast]
    rw [List.drop_take]
    have e1 : (A.seq v).idxOf v + 1 - (A.seq v).idxOf v = 1 := by omega
    rw [e1, List.take_one, List.head?_drop, List.getElem?_eq_getElem hk]
    simp
  exact ⟨ho, hp, by rw [Se.rangeI, if_pos ho, hp]; simp [ofR, jn_zero_right (ok_one _)]⟩
theorem Se.fitW (h : Inv S A) {v : Nat} (hv : v ∈ A.L.flatten) : -1099511627776 ≤ A.W v ∧ A.W v ≤ 1099511627776 := by
  obtain ⟨r, t⟩ := h.tree hv
  exact t.pt.fit (v + 1, A.W v) (List.mem_map.2 ⟨v, (Se.seq_mem hv).2, rfl⟩)

set_option maxHeartbeats 1000000 in
theorem pset_nil (x y : Int) (w : World) : Calls Try.prog 21 #[.pointer none, .int .i64 x, .int .i64 y] w fun e w' => e = .returned (.bool false) ∧ w = w' := by
  go_enter Try.func21, Try.ntmps21
  go_wp2_with (go_at_call 27; refine (get_nil _ _).mono ?_; rintro e w' ⟨rfl, rfl⟩)
  go_ret
  exact ⟨rfl, rfl⟩
set_option maxHeartbeats 4000000 in
theorem pset_any (x y : Int) (h : PA w p g n cap S A) : Calls Try.prog 21 #[.pointer (some ⟨p, 0, none⟩), .int .i64 x, .int .i64 y] w fun e w' => e = .returned (.bool (A.setB x y)) ∧ ∃ g', Chd w w' p g g' (A.setA x y) := by
  have G := hide (get_any x h)
  have FT := hide (fits_any y)
  have HH := hide h
  cases hh : A.hasI x
  · have hf : A.setB x y = false := by simp [Se.setB, hh]
    have eA : A.setA x y = A := by simp [Se.setA, hf]
    rw [hf, eA]
    rw [hh] at G
    generalize A.getI x = gx at *
    clear h hh hf eA
    go_enter Try.func21, Try.ntmps21
    go_wp2_with fail
    refine (unhide G).mono ?_
    rintro e w' ⟨rfl, rfl⟩
    go_wp2
    go_ret
    exact ⟨rfl, g, (unhide HH).same⟩
  rw [hh] at G
  cases hy : fitB y
  · have hf : A.setB x y = false := by simp [Se.setB, hy]
    have eA : A.setA x y = A := by simp [Se.setA, hf]
    rw [hf, eA]
    rw [hy] at FT
    generalize A.getI x = gx at *
    clear h hh hf eA hy
    go_enter Try.func21, Try.ntmps21
    go_wp2_with fail
    refine (unhide G).mono ?_
    rintro e w' ⟨rfl, rfl⟩
    go_wp2_with fail
    refine (unhide FT _).mono ?_
    rintro e w' ⟨rfl, hw⟩
    obtain rfl : w = w' := hw.symm
    go_wp2
    go_ret
    exact ⟨rfl, g, (unhide HH).same⟩
  · rw [hy] at FT
    obtain ⟨v, rfl, hv⟩ := Se.hasI_true hh
    have fy : -1099511627776 ≤ y ∧ y ≤ 1099511627776 := by simpa [fitB] using hy
    obtain ⟨f1, f2⟩ := Se.fitW h.iv hv
    obtain ⟨s1, s2, s3⟩ := Se.self h.iv hv
    have hg : A.getI v = A.W v := by simp [Se.getI, hh]
    rw [hg] at G
    have hf : A.setB v y = true := by simp [Se.setB, hh, hy]
    have hl : A.liftB v v (y - A.W v) = true := by
      have ha : addB (A.W v) (y - A.W v) = true := by
        simp only [addB, fitB, inB, Bool.and_eq_true, decide_eq_true_eq]
        omega
      rw [Se.liftB, s1, s3]
      simp only [one, ha, Bool.and_self]
    have eA : A.liftA v v (y - A.W v) = A.setA v y := by
      rw [Se.liftA, if_pos hl, Se.setA, if_pos hf, s2]
      congr 1
      funext u
      unfold upW
      by_cases e : u = v
      · subst e; simp; omega
      · simp [e]
    have L := hide (plift_any v v (y - A.W v) h)
    rw [hl, eA] at L
    rw [hf]
    obtain ⟨g1, g2⟩ := fy
    clear h hh hf eA hy s1 s2 s3 hg hl hv
    generalize A.setA v y = A' at *
    generalize A.W v = old at *
    go_enter Try.func21, Try.ntmps21
    go_wp2_with fail
    refine (unhide G).mono ?_
    rintro e w' ⟨rfl, rfl⟩
    go_wp2_with fail
    refine (unhide FT _).mono ?_
    rintro e w' ⟨rfl, hw⟩
    obtain rfl : w = w' := hw.symm
    clear hw
    go_wp2_with fail
    refine (unhide L).mono ?_
    rintro e w1 ⟨rfl, hp⟩
    have X := hide (Chd.of hp)
    clear hp L
    go_wp2
    go_ret
    exact ⟨rfl, g, unhide X⟩

set_option maxHeartbeats 1000000 in
theorem pnew_no (n : Int) (w : World) (h : n < 0 ∨ 4194304 < n) : Calls Try.prog 11 #[.int .i64 n] w fun e w' => e = .returned (.pointer none) ∧ w = w' := by
  rcases h with h | h
  · go_enter Try.func11, Try.ntmps11
    go_wp2
    go_ret
    exact ⟨rfl, rfl⟩
  · have h' : ¬ n < 0 := by omega
    go_enter Try.func11, Try.ntmps11
    go_wp2
    go_ret
    exact ⟨rfl, rfl⟩
theorem make_one (w : World) : (Instr.makeSlice 58 (.int .i64 1) (.int .i64 1)).run Try.prog w = .ok (.slice (some ⟨w.heap.size, 0, none⟩) 1 1) (w.alloc (.cells #[.int .i64 0, .int .i64 0, .int .i64 0, .int .i64 0, .int .i64 0, .int .i64 0, .int .i64 0, .int .i64 0, .int .i64 0, .int .i64 0] 67)) := by
  obtain ⟨i, hi, hzz⟩ := Option.map_eq_some_iff.1 Try.info67
  simp only [Prod.mk.injEq] at hzz
  obtain ⟨hz, hs, hb⟩ := hzz
  have hr := run_make (P := Try.prog) w 58 67 i _ Try.underlying58 hi hz .i64 .i64 1 1 (by omega) (Int.le_refl _) (by rw [hb]; omega) (by omega)
  rw [hs] at hr
  have e : madeCells (Value.agg #[.int .i64 0, .int .i64 0, .int .i64 0, .int .i64 0, .int .i64 0, .int .i64 0, .int .i64 0, .int .i64 0, .int .i64 0, .int .i64 0]).cells (Int.toNat 1 * 10) = #[.int .i64 0, .int .i64 0, .int .i64 0, .int .i64 0, .int .i64 0, .int .i64 0, .int .i64 0, .int .i64 0, .int .i64 0, .int .i64 0] := by kernel_rfl
  rw [e] at hr
  exact hr
/-- A pool that was just made. -/
structure Fresh (w w' : World) (p k : Nat) : Prop where
  ex : ∃ g cap S, PA w' p g 1 cap S (Se.new k) ∧ w.heap.size ≤ g
  bel : Below w.heap.size w w'
  hp : w.heap.size ≤ p
set_option maxHeartbeats 1000000 in
theorem pnew_any (k : Nat) (w : World) (h : k ≤ 4194304) : Calls Try.prog 11 #[.int .i64 (k : Int)] w fun e w' => ∃ p, e = .returned (.pointer (some ⟨p, 0, none⟩)) ∧ Fresh w w' p k := by
  have h1 : ¬ (k : Int) < 0 := by omega
  have h2 : ¬ 4194304 < (k : Int) := by omega
  have hmk := make_one
  go_enter Try.func11, Try.ntmps11
  go_wp2
  go_ret
  refine ⟨w.heap.size + 1, rfl, ⟨⟨w.heap.size, 1, fun _ => Sl.zero, ⟨⟨[Sl.zero], ⟨?_, ?_, by simp [own, Value.ownBlock]⟩, rfl, ?_⟩, ?_, by omega, by simp [Se.new]⟩, Nat.le_refl _⟩, b2 _ _ _, by omega⟩⟩
  · have := heap_alloc_new (w.alloc (.cells #[.int .i64 0, .int .i64 0, .int .i64 0, .int .i64 0, .int .i64 0, .int .i64 0, .int .i64 0, .int .i64 0, .int .i64 0, .int .i64 0] 67)) (.cells #[.int .i64 (k : Int), .slice (some ⟨w.heap.size, 0, none⟩) 1 1] 60)
    simpa [Se.new] using this
  · refine ⟨rfl, .inr ⟨w.heap.size, 1, #[.int .i64 0, .int .i64 0, .int .i64 0, .int .i64 0, .int .i64 0, .int .i64 0, .int .i64 0, .int .i64 0, .int .i64 0, .int .i64 0], rfl, Nat.zero_le _, ?_, Nat.le_refl _, by decide, rfl, rfl⟩⟩
    rw [Below.heap_alloc _ _ _ (by simp)]
    exact heap_alloc_new w _
  · funext t
    unfold sl
    rw [List.getD_eq_getElem?_getD]
    cases t with
    | zero => rfl
    | succ t => simp
  · exact ⟨rfl, by simp [Se.new], by simp [Se.new], by simp [Se.new], fun _ _ => rfl, by simp [Se.new], h⟩
end
end Go.Proofs.Ytkfboficcdiojaa
