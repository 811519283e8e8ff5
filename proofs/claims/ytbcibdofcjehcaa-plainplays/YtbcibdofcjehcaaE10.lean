/- The document's PathAdd. -/
import Derived.Test.YtbcibdofcjehcaaE9
import Derived.BigRegion
namespace Go.Proofs.Ytbcibdofcjehcaa
open Go.RowKit Go.Arb
set_option linter.unusedVariables false
set_option linter.unusedSimpArgs false

theorem Says.raise {T : Tr} {n : Nat} {ft : Nat → Bool} {fu fw : Nat → Int} (h : Says T n ft fu fw) {l : List Nat} {d : Int} (hth : ∀ z ∈ l, T.par z ≠ -2) (hok : ∀ z ∈ l, addB (T.wt z) d = true) {fw' : Nat → Int} (hf : ∀ v, T.par v ≠ -2 → fw' v = raiseF T.wt l d v) : Says (T.raise l d) n ft fu fw' := by
  refine ⟨h.nn, h.th, h.up, hf, h.wf.raise, h.fit.raise fun x hx => ⟨hth x hx, ?_⟩⟩
  have := hok x hx
  simp only [addB, fitB, Bool.and_eq_true, decide_eq_true_eq] at this
  exact this.2
theorem raiseF_perm {wt : Nat → Int} {l m : List Nat} {d : Int} (h : l.Perm m) : raiseF wt l d = raiseF wt m d := by
  funext u
  unfold raiseF
  congr 1
  rw [eq_iff_iff]
  exact h.mem_iff
theorem raiseF_nil (wt : Nat → Int) (d : Int) : raiseF wt [] d = wt := by funext u; simp [raiseF]

/-- Where the raising stands. -/
structure Ra (w1 W : World) (q bt bu bw n : Nat) (ft : Nat → Bool) (fu fw : Nat → Int) (T : Tr) (l : List Nat) (d : Int) : Prop where
  rin : RIn W q bt bu bw n ft fu fw
  kp : Keep [bw] w1 W
  wt : ∀ v, T.par v ≠ -2 → fw v = raiseF T.wt l d v
theorem Ra.step {w1 W : World} {q bt bu bw n : Nat} {ft : Nat → Bool} {fu fw : Nat → Int} {T : Tr} {l : List Nat} {d : Int} {x : Nat} (h : Ra w1 W q bt bu bw n ft fu fw T l d) (hx : x ∉ l) : Ra w1 (W.setCell ⟨bw, x, none⟩ (.int .i64 (T.wt x + d))) q bt bu bw n ft fu (updF fw x (T.wt x + d)) T (l ++ [x]) d := by
  refine ⟨(h.rin.setW x _).1, h.kp.setCell (p := ⟨bw, x, none⟩) (.inl (by simp)) _, fun v hv => ?_⟩
  by_cases e : v = x
  · subst e; simp [updF, raiseF]
  · rw [updF_other _ _ e, h.wt v hv]; simp [raiseF, e]
theorem Ra.drew {w1 W : World} {q bt bu bw n : Nat} {ft : Nat → Bool} {fu fw : Nat → Int} {T : Tr} {l : List Nat} {d : Int} (h : Ra w1 W q bt bu bw n ft fu fw T l d) : Ra w1 W.drew q bt bu bw n ft fu fw T l d := ⟨h.rin.below (Below.refl _ _).drew, h.kp.drew, h.wt⟩

set_option maxHeartbeats 4000000 in
theorem rpathAdd_any (x y d : Int) (w : World) (q bt bu bw n : Nat) (ft : Nat → Bool) (fu fw : Nat → Int) (T : Tr) (h : RIn w q bt bu bw n ft fu fw) (hs : Says T n ft fu fw) :
    Calls Try.prog 30 #[.pointer (some ⟨q, 0, none⟩), .int .i64 x, .int .i64 y, .int .i64 d] w fun e w' => e = .returned (.bool (T.raiseB x y d)) ∧ ∃ fw', RIn w' q bt bu bw n ft fu fw' ∧ Says (T.pathAdd x y d) n ft fu fw' ∧ Keep [q, bt, bu, bw] w w' := by
  obtain ⟨f1, f2, f3, f4⟩ := hs.wf.way_facts x y
  have h1 := hide (rway_any x y w q bt bu bw n ft fu fw T h hs)
  have hn := hs.le
  have f5 : (T.wayI x y).length ≤ 1048576 := Nat.le_trans f4 hs.fit.n
  obtain ⟨_, _, c2⟩ := h.cells
  have hp : q < w.heap.size := blk_lt h.blk
  have hbw0 : bw < w.heap.size := h.rw.lt
  have HH := hide h
  have HSA := hide hs
  have HC : Hid (∀ z, T.par z ≠ -2 → z < n ∧ w.cell? ⟨bw, z, none⟩ = some (.int .i64 (T.wt z)) ∧ -1099511627776 ≤ T.wt z ∧ T.wt z ≤ 1099511627776) := fun z hz => ⟨hs.lt hz, by rw [h.rw.cell (hs.lt hz), inV, hs.wt z hz], hs.fit.wt z⟩
  have HF : Hid (∀ l : List Nat, l.Perm (T.wayI x y) → l.Nodup ∧ (∀ z ∈ l, T.par z ≠ -2) ∧ l.length ≤ 1048576 ∧ decide (0 < l.length) = T.sameI x y) := fun l hp => ⟨hp.symm.nodup f1, fun z hz => f2 z (hp.mem_iff.1 hz), by rw [hp.length_eq]; exact f5, by rw [hp.length_eq]; exact f3⟩
  clear h hs f1 f2 f3 f4 f5
  go_enter Try.func30, Try.ntmps30
  go_wp2_with fail
  refine (unhide h1).mono ?_
  rintro e w1 ⟨⟨s, l, rfl, hrow, hperm⟩, hb1⟩
  obtain ⟨hnd, hth, hll, hsm⟩ := unhide HF l hperm
  have HTH := hide (And.intro hth (And.intro hnd (And.intro hperm hsm)))
  obtain ⟨xs, cap', rfl, r1, r2, r3⟩ := hrow.form
  have HW := hide r3
  have HB1 := hide hb1
  have hsz : w.heap.size ≤ w1.heap.size := hb1.size
  clear hrow r3 hb1 h1 HF hperm hth hnd hsm
  have HL : Hid (∃ m, l.length = m) := ⟨_, rfl⟩
  obtain ⟨m, hm⟩ := HL.out
  rw [hm] at r1 hll ⊢
  have HM := hide hm
  clear hm HL
  unfold maxLen at r2
  go_wp2
  go_loopw [10] (fun i w' => ∃ k : Nat, k ≤ m ∧ i = .int .i64 k ∧ Hid (Below w1.heap.size w1 w' ∧ ∀ j, (hj : j < l.length) → j < k → addB (T.wt l[j]) d = true)) (fun i _ => m - (intOf i).toNat)
  case atStart => exact ⟨0, Nat.zero_le _, rfl, Below.refl _ _, fun j _ hj => by omega⟩
  case round =>
    obtain ⟨k, hk, rfl, HK⟩ := hrel
    by_cases hlt : k < m
    · have hkl : k < l.length := by rw [unhide HM]; exact hlt
      obtain ⟨g', rfl, hg3, hg', r5⟩ := unhide HW (by omega)
      have dl := r5 k hkl
      clear r5
      obtain ⟨x0, d2, hn1, hn2⟩ := unhide HC l[k] ((unhide HTH).1 _ (List.getElem_mem hkl))
      rw [← (unhide HK).1.cell (p := ⟨g', k, none⟩) hg3] at dl
      have c2' := c2
      rw [← (unhide HB1).cell (p := ⟨q, 2, none⟩) hp, ← (unhide HK).1.cell (p := ⟨q, 2, none⟩) (by show q < _; omega)] at c2'
      rw [← (unhide HB1).cell (p := ⟨bw, l[k], none⟩) hbw0, ← (unhide HK).1.cell (p := ⟨bw, l[k], none⟩) (by show bw < _; omega)] at d2
      have HLK := hide (rfl : l[k] = l[k])
      generalize hx : l[k] = z at dl x0 d2 hn1 hn2
      have HX := hide hx
      clear hx HLK
      have e0 : (0 : Int) ≤ (k : Int) := by omega
      have e1 : (k : Int) < (m : Int) := by omega
      have e2 : (0 : Int) ≤ (z : Int) := by omega
      have e3 : (z : Int) < (n : Int) := by omega
      have HAV := hide (fun W => radd_any (T.wt z) d W)
      have HWZ : Hid (∃ wz, T.wt z = wz) := ⟨_, rfl⟩
      obtain ⟨wz, hwz⟩ := HWZ.out
      have HAZ := hide hwz
      rw [hwz] at d2 HAV
      clear HWZ hwz
      cases hb : addB wz d
      · rw [hb] at HAV
        have HBB := hide hb
        clear hb
        generalize addV wz d = av at *
        go_wp2
        go_region_held3 (fun w' => w'.cell? ⟨q, 2, none⟩ = some (.slice (some ⟨bw, 0, none⟩) n n) ∧ w'.cell? ⟨g', k, none⟩ = some (.int .i64 (z : Int)) ∧ w'.cell? ⟨bw, z, none⟩ = some (.int .i64 wz))
          (simp [go_sem, *])
          (first
            | (go_at_call 61; refine (unhide HAV _).mono ?_; rintro e w2 ⟨rfl, rfl⟩))
        go_wp2
        go_ret
        have hraise : T.raiseB x y d = false := by
          rw [Tr.raiseB]
          have : (T.wayI x y).all (fun u => addB (T.wt u) d) = false := by
            rw [List.all_eq_false]
            refine ⟨z, (unhide HTH).2.2.1.mem_iff.1 (by rw [← unhide HX]; exact List.getElem_mem hkl), ?_⟩
            rw [unhide HAZ, unhide HBB]; simp
          rw [this]; simp
        have hbel : Below w.heap.size w wr.drew := (unhide HB1).trans (((unhide HK).1.mono hsz).drew)
        exact ⟨by rw [hraise]; rfl, fw, (unhide HH).below hbel, by rw [Tr.pathAdd, hraise]; exact unhide HSA, Keep.ofBelow hbel _⟩
      · rw [hb] at HAV
        have HBB := hide hb
        clear hb
        generalize addV wz d = av at *
        go_wp2
        go_region_held3 (fun w' => w'.cell? ⟨q, 2, none⟩ = some (.slice (some ⟨bw, 0, none⟩) n n) ∧ w'.cell? ⟨g', k, none⟩ = some (.int .i64 (z : Int)) ∧ w'.cell? ⟨bw, z, none⟩ = some (.int .i64 wz))
          (simp [go_sem, *])
          (first
            | (go_at_call 61; refine (unhide HAV _).mono ?_; rintro e w2 ⟨rfl, rfl⟩))
        go_wp2
        go_roundw
        case rel =>
          refine ⟨k + 1, by omega, by go_num, (unhide HK).1.drew, fun j hj hjk => ?_⟩
          by_cases e : j = k
          · subst e; rw [unhide HX, unhide HAZ]; exact unhide HBB
          · exact (unhide HK).2 j hj (by omega)
        case measure => simp [intOf]; omega
    · have hkl : k = m := by omega
      subst hkl
      have HOK : Hid (∀ z ∈ l, addB (T.wt z) d = true) := fun z hz => by
        obtain ⟨j, hj, e⟩ := List.mem_iff_getElem.1 hz
        rw [← e]; exact (unhide HK).2 j hj (by rw [← unhide HM]; exact hj)
      have hB2 := (unhide HB1).trans ((unhide HK).1.mono hsz)
      have HR0 : Hid (Ra wr wr q bt bu bw n ft fu fw T (l.take 0) d) := ⟨(unhide HH).below hB2, Keep.refl _ _, fun v hv => by rw [List.take_zero, raiseF_nil]; exact (unhide HSA).wt v hv⟩
      have HB2 := hide hB2
      have hszr : w1.heap.size ≤ wr.heap.size := (unhide HK).1.size
      have HD : Hid (0 < k → ∃ g', xs = some ⟨g', 0, none⟩ ∧ g' < wr.heap.size ∧ w.heap.size ≤ g' ∧ ∀ j, (hj : j < l.length) → wr.cell? ⟨g', j, none⟩ = some (.int .i64 ((l[j] : Nat) : Int))) := fun h0 => by
        obtain ⟨g', e, hg3, hg', r5⟩ := unhide HW (by rw [unhide HM]; exact h0)
        exact ⟨g', e, by omega, hg', fun j hj => by rw [(unhide HK).1.cell (p := ⟨g', j, none⟩) hg3]; exact r5 j hj⟩
      clear HK HW hB2 HC c2
      go_wp2
      go_loopw [13] (fun i w' => ∃ (j : Nat) (fw' : Nat → Int), j ≤ k ∧ i = .int .i64 j ∧ Hid (Ra wr w' q bt bu bw n ft fu fw' T (l.take j) d)) (fun i _ => k - (intOf i).toNat)
      case atStart => exact ⟨0, fw, Nat.zero_le _, rfl, HR0⟩
      case round =>
        clear HR0
        obtain ⟨j, fw', hj, rfl, HR⟩ := hrel
        by_cases hlt' : j < k
        · have hjl : j < l.length := by rw [unhide HM]; exact hlt'
          obtain ⟨g', rfl, hg3, hg', r5⟩ := unhide HD (by omega)
          have dl := r5 j hjl
          rw [← (unhide HR).kp.cell (p := ⟨g', j, none⟩) hg3 (by simp; omega)] at dl
          clear r5
          have hzt := (unhide HTH).1 _ (List.getElem_mem hjl)
          have hni : l[j] ∉ l.take j := fun hm => by
            obtain ⟨i, hi, e⟩ := List.mem_iff_getElem.1 hm
            rw [List.length_take] at hi
            rw [List.getElem_take] at e
            have := (List.getElem_inj (unhide HTH).2.1).1 e
            omega
          have x0 := (unhide HSA).lt hzt
          have hcur : fw' l[j] = T.wt l[j] := by rw [(unhide HR).wt _ hzt]; simp [raiseF, hni]
          have hst := (unhide HR).step hni
          rw [← List.take_succ_eq_append_getElem hjl] at hst
          have d2 := (unhide HR).rin.rw.cell x0
          have f2 := (unhide HR).rin.rw.frozen l[j]
          unfold inV at d2
          rw [hcur] at d2
          obtain ⟨_, _, c2⟩ := (unhide HR).rin.cells
          have hb2 := unhide HOK _ (List.getElem_mem hjl)
          have hw1 := (unhide HSA).fit.wt l[j]
          simp only [addB, fitB, Bool.and_eq_true, decide_eq_true_eq] at hb2
          have R := hide hst.drew
          clear HR hst hcur hzt hni
          generalize T.wt l[j] = y at *
          generalize l[j] = z at *
          have e0 : (0 : Int) ≤ (j : Int) := by omega
          have e1 : (j : Int) < (k : Int) := by omega
          have e2 : (0 : Int) ≤ (z : Int) := by omega
          have e3 : (z : Int) < (n : Int) := by omega
          have wr1 : IntKind.i64.wrap (y + d) = y + d := IntWalk.i64_in _ (by omega)
          go_wp2
          go_region
          all_goals
            go_wp2
            go_roundw
            case rel => exact ⟨j + 1, _, by omega, by go_num, R⟩
            case measure => simp [intOf]; omega
        · have : j = k := by omega
          subst this
          have hall := unhide HR
          rw [show l.take j = l from List.take_of_length_le (by rw [unhide HM]; exact Nat.le_refl _)] at hall
          have HA := hide hall
          clear hall HR
          go_wp2
          go_ret
          obtain ⟨hth, hnd, hperm, hsm⟩ := unhide HTH
          have hall2 : (T.wayI x y).all (fun u => addB (T.wt u) d) = true := by
            rw [List.all_eq_true]
            exact fun u hu => unhide HOK u (hperm.mem_iff.2 hu)
          have hraise : T.raiseB x y d = T.sameI x y := by rw [Tr.raiseB, hall2]; simp
          refine ⟨?_, fw', (unhide HA).rin, ?_, ((Keep.ofBelow (unhide HB2) _).trans (unhide HA).kp (fun i hi => .inl (by simp at hi; simp [hi])))⟩
          · rw [hraise, ← hsm, unhide HM]; simp
          · rw [Tr.pathAdd, hraise]
            have hSR : Says (T.raise (T.wayI x y) d) n ft fu fw' := (unhide HSA).raise (fun z hz => hth z (hperm.mem_iff.2 hz)) (fun z hz => unhide HOK z (hperm.mem_iff.2 hz)) (fun v hv => by rw [(unhide HA).wt v hv, raiseF_perm hperm])
            cases hq : T.sameI x y
            · rw [hq] at hsm
              have hl0 : l = [] := by simpa using hsm
              rw [hl0] at hperm
              have hw0 : T.wayI x y = [] := List.perm_nil.1 hperm.symm
              rw [hw0] at hSR
              have : T.raise [] d = T := by simp [Tr.raise, raiseF_nil]
              rw [this] at hSR
              exact hSR
            · exact hSR
end Go.Proofs.Ytbcibdofcjehcaa
