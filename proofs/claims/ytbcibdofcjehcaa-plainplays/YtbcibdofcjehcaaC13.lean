import Derived.Test.YtbcibdofcjehcaaC10
import Derived.Test.YtbcibdofcjehcaaC11
namespace Go.Proofs.Ytbcibdofcjehcaa
open Go.RowKit Go.Arb
set_option linter.unusedVariables false
set_option linter.unusedSimpArgs false

set_option maxHeartbeats 1000000 in
theorem listsFit_any (w : World) (p : Nat) (u v : Value) (F : Fo) (h : FoIn w p u v F) (ho : Ok F) :
    Calls Try.prog 69 #[.pointer (some ⟨p, 0, none⟩)] w fun e w' => e = .returned (.bool true) ∧ Below w.heap.size w w' := by
  obtain ⟨c0, c1, c2, _⟩ := h.cells
  obtain ⟨x, cap, rfl, k1, k2, k9⟩ := ints_form h.rp
  obtain ⟨x', cap', rfl, k1', k2', k9'⟩ := ints_form h.rw
  have hr : F.room ≤ 1048576 := ho.fit.n
  have hl := ho.len
  have hw := ho.wl
  rw [hw] at c2
  clear h ho hw k1' k2' k1 k2 k9 k9'
  generalize F.ps.length = n at *
  generalize F.room = r at *
  have e1 : (r : Int) ≤ 1048576 := by omega
  have e2 : (n : Int) ≤ (r : Int) := by omega
  go_enter Try.func69, Try.ntmps69
  go_wp2
  go_quiet (fail)
  go_wp2
  go_ret
  exact ⟨rfl, below_drewN (Below.refl _ _) _⟩

set_option maxHeartbeats 1000000 in
theorem nodesFit_any (w : World) (p : Nat) (u v : Value) (F : Fo) (h : FoIn w p u v F) (ho : Ok F) :
    Calls Try.prog 70 #[.pointer (some ⟨p, 0, none⟩)] w fun e w' => e = .returned (.bool true) ∧ Below w.heap.size w w' := by
  obtain ⟨c0, c1, c2, _⟩ := h.cells
  obtain ⟨x, cap, hu, k1, k2, k9⟩ := ints_form h.rp
  obtain ⟨x', cap', hv, k1', k2', k9'⟩ := ints_form h.rw
  have hH := hide (fun (x : Int) => has_any x w p u v F h)
  have hn : F.ps.length ≤ 1048576 := Nat.le_trans ho.len ho.fit.n
  have HO := hide ho
  have hw := ho.wl
  have HC := hide k9
  have HC' := hide k9'
  subst hu hv
  rw [hw] at c2
  clear h k9 k9' ho k1 k1' k2 k2' c0
  have HEX : Hid (∃ n, F.ps.length = n) := ⟨_, rfl⟩
  obtain ⟨n, hnn⟩ := HEX.out
  rw [hnn] at hw hn c1 c2
  have HN := hide (And.intro hnn hw)
  clear hnn hw HEX
  go_enter Try.func70, Try.ntmps70
  go_wp2
  go_loopw [11] (fun a w' => ∃ k : Nat, k ≤ n ∧ a = .int .i64 k ∧ w' = w) (fun i _ => n - (intOf i).toNat)
  case atStart => exact ⟨0, Nat.zero_le _, rfl, rfl⟩
  case round =>
    obtain ⟨k, hk, rfl, hw⟩ := hrel
    obtain rfl : w = wr := hw.symm
    clear hw
    by_cases hlt : k < n
    · obtain ⟨hnn, hw⟩ := unhide HN
      have hkp : k < F.ps.length := by omega
      have hkw : k < F.ws.length := by omega
      obtain ⟨g, rfl, hg, _, hc⟩ := unhide HC (by omega)
      obtain ⟨g', rfl, hg', _, hc'⟩ := unhide HC' (by omega)
      have d := (hc k hkp).1
      have d' := (hc' k hkw).1
      have hpar : F.tr.par k = F.ps[k] := by simp [Fo.tr, List.getD_eq_getElem?_getD, hkp]
      have hwt : F.tr.wt k = F.ws[k] := by simp [Fo.tr, List.getD_eq_getElem?_getD, hkw]
      rw [← hpar] at d
      rw [← hwt] at d'
      have e1 : (0 : Int) ≤ (k : Int) := by omega
      have e2 : (k : Int) < (n : Int) := by omega
      have hz := (unhide HO).fit.zero k
      have hfit : fitB (F.tr.wt k) = true := by simpa [fitB] using (unhide HO).fit.wt k
      have hf := hide (fits_any' (F.tr.wt k) w)
      rw [hfit] at hf
      have hpc := (unhide HO).wf.par_cases (v := k)
      have HHq : Hid (∀ q : Nat, F.tr.par q ≠ -2 → F.tr.hasI q = true) := fun q hq => by rw [F.tr.hasI_nat]; simpa using hq
      clear hc hc' hpar hwt hfit hnn hw hkp hkw
      generalize hy : F.tr.par k = y at *
      generalize F.tr.wt k = z at *
      have HY := hide hy
      clear hy
      by_cases hg2 : y = -2
      · subst hg2
        have := hz rfl
        subst this
        clear hz hpc
        go_wp2
        go_roundw
        case rel => exact ⟨k + 1, by omega, by go_num, by first | trivial | rfl⟩
        case measure => simp [intOf]; omega
      · have hg2' : (y == -2) = false := by rw [beq_eq_false_iff_ne]; exact hg2
        rcases hpc hg2 with rfl | ⟨q, rfl, hq⟩
        · clear hz hpc hg2
          go_wp2_with fail
          refine (unhide hf).mono ?_
          rintro e w' ⟨rfl, rfl⟩
          go_wp2
          go_roundw
          case rel => exact ⟨k + 1, by omega, by go_num, by first | trivial | rfl⟩
          case measure => simp [intOf]; omega
        · have hq1 : ((q : Int) == -1) = false := by rw [beq_eq_false_iff_ne]; omega
          have hh := hide (unhide hH q)
          rw [unhide HHq q hq] at hh
          clear hz hpc hg2 hq
          go_wp2_with fail
          refine (unhide hf).mono ?_
          rintro e w' ⟨rfl, rfl⟩
          go_wp2_with fail
          refine (unhide hh).mono ?_
          rintro e w' ⟨rfl, rfl⟩
          go_wp2
          go_roundw
          case rel => exact ⟨k + 1, by omega, by go_num, by first | trivial | rfl⟩
          case measure => simp [intOf]; omega
    · have : k = n := by omega
      subst this
      go_wp2
      go_ret
      exact ⟨rfl, Below.refl _ _⟩

def mkV (M : Nat → Nat) : Nat → Value := fun x => .int .i64 (M x : Int)
theorem mkV_set (P : Nat → Nat) (i k : Nat) : (fun j => if j = i then Value.int .i64 (k : Int) else mkV P j) = mkV (updF P i k) := by
  funext j
  by_cases e : j = i
  · simp [e, mkV, updF]
  · simp [e, mkV, updF]

/-- Where a walk of marks stands. -/
structure Mk (T : Tr) (k : Nat) (M : Nat → Nat) (l : List Nat) : Prop where
  le : ∀ x, M x ≤ k + 1
  low : ∀ x ∈ l, M x ≤ k
  up : l = [] ∨ ∃ y, Up T.par y l
theorem Mk.upy {T : Tr} {k y : Nat} {M : Nat → Nat} {t : List Nat} (h : Mk T k M (y :: t)) : Up T.par y (y :: t) := by
  rcases h.up with e | ⟨y', hu⟩
  · simp at e
  · obtain ⟨t', e⟩ := hu.head
    simp at e
    rw [← e.1] at hu
    exact hu
theorem Mk.next {T : Tr} {k y : Nat} {M : Nat → Nat} {t : List Nat} (h : Mk T k M (y :: t)) : T.par y = hdI t ∧ T.par y ≠ -2 := by
  refine ⟨?_, h.upy.there⟩
  rcases h.upy.next with ⟨e, rfl⟩ | ⟨q, e, hq⟩
  · exact e
  · obtain ⟨t', rfl⟩ := hq.head
    exact e
theorem Mk.step {T : Tr} {k y : Nat} {M : Nat → Nat} {t : List Nat} (h : Mk T k M (y :: t)) : Mk T k (updF M y (k + 1)) t := by
  have nd := List.nodup_cons.1 h.upy.nodup
  refine ⟨fun x => ?_, fun x hx => ?_, ?_⟩
  · unfold updF; split
    · exact Nat.le_refl _
    · exact h.le x
  · rw [updF_other _ _ (show x ≠ y from fun e => nd.1 (e ▸ hx))]
    exact h.low x (by simp [hx])
  · rcases h.upy.next with ⟨_, e⟩ | ⟨q, _, hq⟩
    · exact .inl e
    · exact .inr ⟨q, hq⟩

set_option maxHeartbeats 2000000 in
theorem waysEnd_any (w : World) (p : Nat) (u v : Value) (F : Fo) (h : FoIn w p u v F) (ho : Ok F) :
    Calls Try.prog 71 #[.pointer (some ⟨p, 0, none⟩)] w fun e w' => e = .returned (.bool true) ∧ Below w.heap.size w w' := by
  have hH := hide (fun (x : Int) (w1 : World) (hb : Below w.heap.size w w1) => has_any x w1 p u v F (h.below hb))
  obtain ⟨c0, c1, c2, _⟩ := h.cells
  obtain ⟨x0, cap, hu, k1, k2, k9⟩ := ints_form h.rp
  have hn : F.ps.length ≤ 1048576 := Nat.le_trans ho.len ho.fit.n
  have hp : p < w.heap.size := blk_lt h.blk
  have HWF := hide ho.wf
  have HPC : Hid (∀ i, i < F.ps.length → ∃ g, x0 = some ⟨g, 0, none⟩ ∧ g < w.heap.size ∧ ∀ i, i < F.ps.length → w.cell? ⟨g, i, none⟩ = some (.int .i64 (F.tr.par i))) := fun i hi => by
    obtain ⟨g, rfl, hg, _, hc⟩ := k9 (by omega)
    exact ⟨g, rfl, hg, fun i hi => by have := (hc i hi).1; simpa [Fo.tr, List.getD_eq_getElem?_getD, hi] using this⟩
  have HLT := hide (fun j (hj : F.tr.par j ≠ -2) => Fo.par_lt hj)
  subst hu
  clear h ho c0 c2 k9
  generalize hTT : F.tr = T at *
  clear hTT
  generalize F.ps.length = n at *
  have hmk := run_make_row' (P := Try.prog) 53 3 (.int .i64 0) 8 Try.underlying53 Try.info3 rfl .i64 .i64 n (by omega) (by omega)
  unfold maxLen at k2
  have HR0 := hide (World.rowIs_made w (.int .i64 0) n 3)
  have HB0 := hide ((Below.refl w.heap.size w).alloc (Nat.le_refl _) (.cells (madeCells #[.int .i64 0] n) 3))
  go_enter Try.func71, Try.ntmps71
  go_wp2
  go_loopw [15] (fun a w' => ∃ (k : Nat) (M : Nat → Nat), k ≤ n ∧ a = .int .i64 (k : Int) ∧ Hid (w'.rowIs w.heap.size 3 n (mkV M) ∧ Below w.heap.size w w' ∧ ∀ x, M x ≤ k)) (fun a _ => n - (intOf a).toNat)
  case atStart => exact ⟨0, fun _ => 0, Nat.zero_le _, rfl, unhide HR0, unhide HB0, fun _ => Nat.zero_le _⟩
  case round =>
    obtain ⟨k, M, hk, rfl, HK⟩ := hrel
    by_cases hlt : k < n
    · have e3 : (k : Int) < (n : Int) := by omega
      go_wp2_with fail
      refine (unhide hH k _ (unhide HK).2.1).mono ?_
      rintro e w1 ⟨rfl, rfl⟩
      rw [T.hasI_nat]
      by_cases hx : T.par k = -2
      · rw [show (T.par k != -2) = false from by simp [hx]]
        clear hx
        go_wp2
        go_roundw
        case rel =>
          obtain ⟨r1, r2, r3⟩ := unhide HK
          exact ⟨k + 1, M, by omega, by go_num, r1, r2, fun x => Nat.le_succ_of_le (r3 x)⟩
        case measure => simp [intOf]; omega
      · rw [show (T.par k != -2) = true from by simp [hx]]
        have HU := hide ((unhide HWF).spec hx)
        have HI : Hid (∃ l0, T.up k = l0) := ⟨_, rfl⟩
        obtain ⟨l0, hl0⟩ := HI.out
        rw [hl0] at HU
        have HL0 := hide (show hdI l0 = (k : Int) from by obtain ⟨t, e⟩ := (unhide HU).head; rw [e]; rfl)
        clear hx hl0 HI
        go_wp2
        go_loopg [6] l0.length (fun gk a w' => ∃ (l : List Nat) (M' : Nat → Nat), a = .int .i64 (hdI l) ∧ l.length = gk ∧ Hid (w'.rowIs w.heap.size 3 n (mkV M') ∧ Below w.heap.size w w' ∧ Mk T k M' l))
        case atStart =>
          obtain ⟨r1, r2, r3⟩ := unhide HK
          exact ⟨l0, M, by rw [unhide HL0], rfl, r1, r2, fun x => Nat.le_succ_of_le (r3 x), fun x _ => r3 x, .inr ⟨k, unhide HU⟩⟩
        case round =>
          obtain ⟨l, M', rfl, hgk, HK2⟩ := hrel
          obtain ⟨r1, r2, r3⟩ := unhide HK2
          cases l with
          | nil =>
            have R := hide (And.intro r1 (And.intro r2 r3.le))
            clear r1 r2 r3 HK2 hgk
            rw [show hdI [] = -1 from rfl]
            go_wp2
            go_roundw
            case rel =>
              obtain ⟨r1, r2, r3⟩ := unhide R
              exact ⟨k + 1, M', by omega, by go_num, r1, r2, r3⟩
            case measure => simp [intOf]; omega
          | cons y t =>
            obtain ⟨n1, n2⟩ := r3.next
            have hyn := unhide HLT y n2
            obtain ⟨g, rfl, hg, hc⟩ := unhide HPC y hyn
            have d := hc y hyn
            have d3 := r1.cell hyn
            have f3 := r1.frozen y
            have c1' := c1
            rw [← r2.cell (p := ⟨p, 1, none⟩) hp] at c1'
            rw [← r2.cell (p := ⟨g, y, none⟩) hg] at d
            unfold mkV at d3
            rw [n1] at d
            rw [show hdI (y :: t) = (y : Int) from rfl]
            have hyn1 : ((y : Int) == -1) = false := by rw [beq_eq_false_iff_ne]; omega
            have e1 : (0 : Int) ≤ (y : Int) := by omega
            have e2 : (y : Int) < (n : Int) := by omega
            have hgw : w.heap.size ≠ g := by omega
            have hgp : w.heap.size ≠ p := by omega
            by_cases hz : M' y = 0
            · have R := hide (And.intro (mkV_set M' y (k + 1) ▸ r1.set y (.int .i64 ((k + 1 : Nat) : Int))) (And.intro (r2.setCell (p := ⟨w.heap.size, y, none⟩) (Nat.le_refl _) (.int .i64 ((k + 1 : Nat) : Int))) r3.step))
              rw [hz] at d3
              have HG := hide hgk
              clear r1 r2 r3 HK2 hgk n1 n2 hz hc
              generalize hq : hdI t = q at *
              have HQ := hide hq
              clear hq
              go_wp2
              go_roundg (gk - 1)
              case rel => exact ⟨t, _, by rw [unhide HQ], by have := unhide HG; simp at this; omega, unhide R⟩
              all_goals
                have := unhide HG
                simp at this
                omega
            · have hlow := r3.low y (by simp)
              have R := hide (And.intro r1 (And.intro r2 r3.le))
              have hz1 : ((M' y : Int) == 0) = false := by rw [beq_eq_false_iff_ne]; omega
              have hz2 : ((M' y : Int) == (k : Int) + 1) = false := by rw [beq_eq_false_iff_ne]; omega
              clear r1 r2 r3 HK2 hgk n1 n2 hz hc
              generalize M' y = z at *
              go_wp2
              go_roundw
              case rel =>
                obtain ⟨r1, r2, r3⟩ := unhide R
                exact ⟨k + 1, M', by omega, by go_num, r1, r2, r3⟩
              case measure => simp [intOf]; omega
    · have : k = n := by omega
      subst this
      go_wp2
      go_ret
      exact ⟨rfl, (unhide HK).2.1⟩

set_option maxHeartbeats 1000000 in
theorem check_any (w : World) (p : Nat) (u v : Value) (F : Fo) (h : FoIn w p u v F) (ho : Ok F) :
    Calls Try.prog 49 #[.pointer (some ⟨p, 0, none⟩)] w fun e w' => e = .returned (.bool true) ∧ Below w.heap.size w w' := by
  have h1 := hide (listsFit_any w p u v F h ho)
  have h2 := hide (fun w1 (hb : Below w.heap.size w w1) => nodesFit_any w1 p u v F (h.below hb) ho)
  have h3 := hide (fun w1 (hb : Below w.heap.size w w1) => waysEnd_any w1 p u v F (h.below hb) ho)
  clear h ho
  go_enter Try.func49, Try.ntmps49
  go_wp2_with fail
  refine (unhide h1).mono ?_
  rintro e w1 ⟨rfl, hb1⟩
  have HB1 := hide hb1
  clear hb1
  go_wp2_with fail
  refine (unhide h2 _ (unhide HB1)).mono ?_
  rintro e w2 ⟨rfl, hb2⟩
  have HB2 := hide ((unhide HB1).trans (hb2.mono (unhide HB1).size))
  clear hb2
  go_wp2_with fail
  refine (unhide h3 _ (unhide HB2)).mono ?_
  rintro e w3 ⟨rfl, hb3⟩
  have HB3 := hide ((unhide HB2).trans (hb3.mono (unhide HB2).size))
  clear hb3
  go_wp2
  go_ret
  exact ⟨rfl, unhide HB3⟩
end Go.Proofs.Ytbcibdofcjehcaa
