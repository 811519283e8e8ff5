/- The document's forest in memory: a block with three slices, and three rows. -/
import Derived.Test.YtbcibdofcjehcaaG
import Derived.BigRegion
namespace Go.Proofs.Ytbcibdofcjehcaa
open Go.RowKit Go.Arb
set_option linter.unusedVariables false
set_option linter.unusedSimpArgs false

theorem Try.info4 : (Try.prog.info? 4).map (fun i => (i.zero, i.size, i.bytes)) = some (some (.bool false), 1, 1) := by kernel_rfl
def blV (f : Nat → Bool) : Nat → Value := fun x => .bool (f x)
theorem blV_set (P : Nat → Bool) (i : Nat) (k : Bool) : (fun j => if j = i then Value.bool k else blV P j) = blV (updF P i k) := by
  funext j
  by_cases e : j = i
  · simp [e, blV, updF]
  · simp [e, blV, updF]

/-- Blocks: the object, who is there, parents, weights. -/
structure RIn (w : World) (q bt bu bw n : Nat) (ft : Nat → Bool) (fu fw : Nat → Int) : Prop where
  blk : w.heap[q]? = some (.cells #[.slice (some ⟨bt, 0, none⟩) n n, .slice (some ⟨bu, 0, none⟩) n n, .slice (some ⟨bw, 0, none⟩) n n] 68)
  rt : w.rowIs bt 4 n (blV ft)
  ru : w.rowIs bu 3 n (inV fu)
  rw : w.rowIs bw 3 n (inV fw)
  nd : [q, bt, bu, bw].Nodup
/-- What it says of a plain forest. -/
structure Says (T : Tr) (n : Nat) (ft : Nat → Bool) (fu fw : Nat → Int) : Prop where
  nn : n = T.n
  th : ∀ v, v < n → ft v = (T.par v != -2)
  up : ∀ v, T.par v ≠ -2 → fu v = T.par v
  wt : ∀ v, T.par v ≠ -2 → fw v = T.wt v
  wf : T.Wf
  fit : T.Fit

section
variable {w w' : World} {q bt bu bw n : Nat} {ft : Nat → Bool} {fu fw : Nat → Int} {ks : List Nat}
theorem RIn.lt (h : RIn w q bt bu bw n ft fu fw) : ∀ k ∈ [q, bt, bu, bw], k < w.heap.size := fun k hk => by
  simp only [List.mem_cons, List.mem_nil_iff, or_false] at hk
  rcases hk with rfl | rfl | rfl | rfl
  · exact blk_lt h.blk
  · exact h.rt.lt
  · exact h.ru.lt
  · exact h.rw.lt
theorem RIn.keep (h : RIn w q bt bu bw n ft fu fw) (hk : Keep ks w w') (ho : Off [q, bt, bu, bw] ks) : RIn w' q bt bu bw n ft fu fw :=
  ⟨by rw [hk.block q (blk_lt h.blk) (ho q (by simp))]; exact h.blk, h.rt.of_block (hk.block _ h.rt.lt (ho _ (by simp))), h.ru.of_block (hk.block _ h.ru.lt (ho _ (by simp))), h.rw.of_block (hk.block _ h.rw.lt (ho _ (by simp))), h.nd⟩
theorem RIn.below (h : RIn w q bt bu bw n ft fu fw) (hb : Below w.heap.size w w') : RIn w' q bt bu bw n ft fu fw := h.keep (Keep.ofBelow hb []) (fun _ _ => by simp)
theorem RIn.cells (h : RIn w q bt bu bw n ft fu fw) : w.cell? ⟨q, 0, none⟩ = some (.slice (some ⟨bt, 0, none⟩) n n) ∧ w.cell? ⟨q, 1, none⟩ = some (.slice (some ⟨bu, 0, none⟩) n n) ∧ w.cell? ⟨q, 2, none⟩ = some (.slice (some ⟨bw, 0, none⟩) n n) := by
  simp [World.cell?, h.blk]
theorem RIn.ne (h : RIn w q bt bu bw n ft fu fw) : q ≠ bt ∧ q ≠ bu ∧ q ≠ bw ∧ bt ≠ bu ∧ bt ≠ bw ∧ bu ≠ bw := by
  have := h.nd
  simp at this
  omega
theorem RIn.setT (h : RIn w q bt bu bw n ft fu fw) (i : Nat) (x : Bool) : RIn (w.setCell ⟨bt, i, none⟩ (.bool x)) q bt bu bw n (updF ft i x) fu fw ∧ Keep [q, bt, bu, bw] w (w.setCell ⟨bt, i, none⟩ (.bool x)) := by
  obtain ⟨n1, n2, n3, n4, n5, n6⟩ := h.ne
  refine ⟨⟨?_, ?_, h.ru.setOther (a := ⟨bt, i, none⟩) (fun e => n4 e.symm) _, h.rw.setOther (a := ⟨bt, i, none⟩) (fun e => n5 e.symm) _, h.nd⟩, (Keep.refl _ _).setCell (p := ⟨bt, i, none⟩) (.inl (by simp)) _⟩
  · rw [Below.heap_setCell _ _ _ _ n1]; exact h.blk
  · rw [← blV_set]; exact h.rt.set i _
theorem RIn.setU (h : RIn w q bt bu bw n ft fu fw) (i : Nat) (x : Int) : RIn (w.setCell ⟨bu, i, none⟩ (.int .i64 x)) q bt bu bw n ft (updF fu i x) fw ∧ Keep [q, bt, bu, bw] w (w.setCell ⟨bu, i, none⟩ (.int .i64 x)) := by
  obtain ⟨n1, n2, n3, n4, n5, n6⟩ := h.ne
  refine ⟨⟨?_, h.rt.setOther (a := ⟨bu, i, none⟩) n4 _, ?_, h.rw.setOther (a := ⟨bu, i, none⟩) (fun e => n6 e.symm) _, h.nd⟩, (Keep.refl _ _).setCell (p := ⟨bu, i, none⟩) (.inl (by simp)) _⟩
  · rw [Below.heap_setCell _ _ _ _ n2]; exact h.blk
  · rw [← inV_set]; exact h.ru.set i _
theorem RIn.setW (h : RIn w q bt bu bw n ft fu fw) (i : Nat) (x : Int) : RIn (w.setCell ⟨bw, i, none⟩ (.int .i64 x)) q bt bu bw n ft fu (updF fw i x) ∧ Keep [q, bt, bu, bw] w (w.setCell ⟨bw, i, none⟩ (.int .i64 x)) := by
  obtain ⟨n1, n2, n3, n4, n5, n6⟩ := h.ne
  refine ⟨⟨?_, h.rt.setOther (a := ⟨bw, i, none⟩) n5 _, h.ru.setOther (a := ⟨bw, i, none⟩) n6 _, ?_, h.nd⟩, (Keep.refl _ _).setCell (p := ⟨bw, i, none⟩) (.inl (by simp)) _⟩
  · rw [Below.heap_setCell _ _ _ _ n3]; exact h.blk
  · rw [← inV_set]; exact h.rw.set i _
end
section
variable {T : Tr} {n : Nat} {ft : Nat → Bool} {fu fw : Nat → Int}
theorem Says.le (h : Says T n ft fu fw) : n ≤ 1048576 := by rw [h.nn]; exact h.fit.n
theorem Says.lt (h : Says T n ft fu fw) {v : Nat} (hv : T.par v ≠ -2) : v < n := by rw [h.nn]; exact h.wf.lt v hv
end

set_option maxHeartbeats 1000000 in
theorem rhas_any (x : Int) (w : World) (q bt bu bw n : Nat) (ft : Nat → Bool) (fu fw : Nat → Int) (T : Tr) (h : RIn w q bt bu bw n ft fu fw) (hs : Says T n ft fu fw) :
    Calls Try.prog 38 #[.pointer (some ⟨q, 0, none⟩), .int .i64 x] w fun e w' => e = .returned (.bool (T.hasI x)) ∧ w = w' := by
  have hn := hs.le
  obtain ⟨c0, c1, c2⟩ := h.cells
  by_cases h0 : x < 0
  · rw [show T.hasI x = false from by simp [Tr.hasI]; omega]
    have h0' : ¬ 0 ≤ x := by omega
    clear h hs
    go_enter Try.func38, Try.ntmps38
    go_wp2
    go_ret
    exact ⟨rfl, rfl⟩
  · obtain ⟨i, rfl⟩ := Int.eq_ofNat_of_zero_le (by omega : 0 ≤ x)
    have e1 : (0 : Int) ≤ (i : Int) := by omega
    by_cases h1 : i < n
    · have d := h.rt.cell h1
      unfold blV at d
      rw [T.hasI_nat, ← hs.th i h1]
      have e2 : (i : Int) < (n : Int) := by omega
      generalize ft i = y at *
      clear h hs
      go_enter Try.func38, Try.ntmps38
      go_wp2
      go_ret
      exact ⟨rfl, rfl⟩
    · have hp : T.par i = -2 := Classical.byContradiction fun hp => h1 (hs.lt hp)
      rw [T.hasI_nat, hp]
      have e2 : ¬ (i : Int) < (n : Int) := by omega
      clear h hs
      go_enter Try.func38, Try.ntmps38
      go_wp2
      go_ret
      exact ⟨rfl, rfl⟩

set_option maxHeartbeats 1000000 in
theorem rparent_any (x : Int) (w : World) (q bt bu bw n : Nat) (ft : Nat → Bool) (fu fw : Nat → Int) (T : Tr) (h : RIn w q bt bu bw n ft fu fw) (hs : Says T n ft fu fw) :
    Calls Try.prog 42 #[.pointer (some ⟨q, 0, none⟩), .int .i64 x] w fun e w' => e = .returned (.int .i64 (T.parI x)) ∧ w = w' := by
  have hq := hide (rhas_any x w q bt bu bw n ft fu fw T h hs)
  have hn := hs.le
  cases hh : T.hasI x
  · rw [show T.parI x = -1 from by simp [Tr.parI, hh]]
    rw [hh] at hq
    clear h hs hh
    go_enter Try.func42, Try.ntmps42
    go_wp2_with fail
    refine (unhide hq).mono ?_
    rintro e w' ⟨rfl, rfl⟩
    go_wp2
    go_ret
    exact ⟨rfl, rfl⟩
  · rw [hh] at hq
    obtain ⟨i, rfl, hi⟩ := Tr.hasI_true hh
    rw [show T.parI i = T.par i from by simp [Tr.parI, hh]]
    obtain ⟨c0, c1, c2⟩ := h.cells
    have h1 := hs.lt hi
    have d := h.ru.cell h1
    unfold inV at d
    rw [hs.up i hi] at d
    generalize T.par i = y at *
    have e1 : (0 : Int) ≤ (i : Int) := by omega
    have e2 : (i : Int) < (n : Int) := by omega
    clear h hs hh
    go_enter Try.func42, Try.ntmps42
    go_wp2_with fail
    refine (unhide hq).mono ?_
    rintro e w' ⟨rfl, rfl⟩
    go_wp2
    go_ret
    exact ⟨rfl, rfl⟩

set_option maxHeartbeats 1000000 in
theorem rget_any (x : Int) (w : World) (q bt bu bw n : Nat) (ft : Nat → Bool) (fu fw : Nat → Int) (T : Tr) (h : RIn w q bt bu bw n ft fu fw) (hs : Says T n ft fu fw) :
    Calls Try.prog 36 #[.pointer (some ⟨q, 0, none⟩), .int .i64 x] w fun e w' => e = .returned (.tuple #[.int .i64 (T.getI x), .bool (T.hasI x)]) ∧ w = w' := by
  have hq := hide (rhas_any x w q bt bu bw n ft fu fw T h hs)
  have hn := hs.le
  cases hh : T.hasI x
  · rw [show T.getI x = 0 from by simp [Tr.getI, hh]]
    rw [hh] at hq
    clear h hs hh
    go_enter Try.func36, Try.ntmps36
    go_wp2_with fail
    refine (unhide hq).mono ?_
    rintro e w' ⟨rfl, rfl⟩
    go_wp2
    go_ret2
    exact ⟨rfl, rfl⟩
  · rw [hh] at hq
    obtain ⟨i, rfl, hi⟩ := Tr.hasI_true hh
    rw [show T.getI i = T.wt i from by simp [Tr.getI, hh]]
    obtain ⟨c0, c1, c2⟩ := h.cells
    have h1 := hs.lt hi
    have d := h.rw.cell h1
    unfold inV at d
    rw [hs.wt i hi] at d
    generalize T.wt i = y at *
    have e1 : (0 : Int) ≤ (i : Int) := by omega
    have e2 : (i : Int) < (n : Int) := by omega
    clear h hs hh
    go_enter Try.func36, Try.ntmps36
    go_wp2_with fail
    refine (unhide hq).mono ?_
    rintro e w' ⟨rfl, rfl⟩
    go_wp2
    go_ret2
    exact ⟨rfl, rfl⟩

set_option maxHeartbeats 1000000 in
theorem rroot_any (x : Int) (w : World) (q bt bu bw n : Nat) (ft : Nat → Bool) (fu fw : Nat → Int) (T : Tr) (h : RIn w q bt bu bw n ft fu fw) (hs : Says T n ft fu fw) :
    Calls Try.prog 40 #[.pointer (some ⟨q, 0, none⟩), .int .i64 x] w fun e w' => e = .returned (.int .i64 (T.rootI x)) ∧ w = w' := by
  have hq := hide (rhas_any x w q bt bu bw n ft fu fw T h hs)
  have hn := hs.le
  cases hh : T.hasI x
  · rw [Tr.rootI_gone hh]
    rw [hh] at hq
    clear h hs hh
    go_enter Try.func40, Try.ntmps40
    go_wp2_with fail
    refine (unhide hq).mono ?_
    rintro e w' ⟨rfl, rfl⟩
    go_wp2
    go_ret
    exact ⟨rfl, rfl⟩
  · rw [hh] at hq
    obtain ⟨i, rfl, hi⟩ := Tr.hasI_true hh
    have HU := hide (hs.wf.spec hi)
    rw [show T.rootI i = lastI (T.up i) from by rw [Tr.rootI, Tr.upI_nat]]
    obtain ⟨c0, c1, c2⟩ := h.cells
    have HC : Hid (∀ y, T.par y ≠ -2 → y < n ∧ w.cell? ⟨bu, y, none⟩ = some (.int .i64 (T.par y))) := fun y hy => ⟨hs.lt hy, by rw [h.ru.cell (hs.lt hy), inV, hs.up y hy]⟩
    generalize T.up i = l0 at *
    generalize T.par = par at *
    clear h hs hh hi
    go_enter Try.func40, Try.ntmps40
    go_wp2_with fail
    refine (unhide hq).mono ?_
    rintro e w' ⟨rfl, rfl⟩
    go_wp2
    go_loopg [1] l0.length (fun gk a w' => ∃ (y : Nat) (l : List Nat), a = .int .i64 (y : Int) ∧ w' = w ∧ Hid (Up par y l ∧ l.length = gk ∧ lastI l = lastI l0))
    case atStart => exact ⟨i, l0, rfl, rfl, unhide HU, rfl, rfl⟩
    case round =>
      obtain ⟨y, l, rfl, rfl, HY⟩ := hrel
      obtain ⟨hy, hg, hl⟩ := unhide HY
      obtain ⟨hyn, d⟩ := unhide HC y hy.there
      have e1 : (0 : Int) ≤ (y : Int) := by omega
      have e2 : (y : Int) < (n : Int) := by omega
      obtain ⟨t, rfl⟩ := hy.head
      rcases hy.next with ⟨hr, rfl⟩ | ⟨z, hr, hq'⟩
      · rw [hr] at d
        have HR := hide hl
        clear hl hg hy HY hr
        go_wp2
        go_ret
        exact ⟨by rw [← unhide HR]; rfl, rfl⟩
      · rw [hr] at d
        have hz0 : (0 : Int) ≤ (z : Int) := by omega
        have HQ := hide (And.intro hq' (And.intro hg hl))
        clear hl hg hy HY hr hq'
        go_wp2
        go_roundg (gk - 1)
        case rel =>
          obtain ⟨q1, q2, q3⟩ := unhide HQ
          exact ⟨z, t, rfl, rfl, q1, by simp at q2; omega, by rw [lastI_cons _ q1.ne] at q3; exact q3⟩
        all_goals
          obtain ⟨q1, q2, q3⟩ := unhide HQ
          simp at q2
          omega
end Go.Proofs.Ytbcibdofcjehcaa
