/- slices.Index, slices.Grow, slices.Concat. -/
import Derived.LaidEqlPtr
import Derived.Test.YtbkneonbpcmepaaP4
import Derived.Test.YtbkneonbpcmepaaApp2
namespace Go.Proofs.Ytbkneonbpcmepaa
open Go.RowKit Go.Arb
set_option linter.unusedVariables false
set_option linter.unusedSimpArgs false

/-- A block that holds a knot. -/
def Lv (w : World) (a : Nat) : Prop := ∃ c, w.heap[a]? = some (.cells c 68 (0, 0))
theorem Kn.lv {w : World} {a : Nat} {u r : Value} {h i m : Int} {s : Sm} (k : Kn w a u r h i m s) : Lv w a := ⟨_, k⟩
theorem Try.info68 : (Try.prog.info? 68).map (fun i => decide (i.size ≠ 0)) = some true := by kernel_rfl
theorem eq_ptr (w : World) (a b : Nat) (ha : Lv w a) (hb : Lv w b) : (binOp .eql 66 (.pointer (some ⟨a, 0, none⟩)) (.pointer (some ⟨b, 0, none⟩))).run Try.prog w = .ok (.bool (decide (a = b))) w := by
  obtain ⟨j, hj, hz⟩ := Option.map_eq_some_iff.1 Try.info68
  by_cases e : a = b
  · subst e
    rw [run_eql_ptr_same w _ Try.underlying66 hj]
    simp
  · obtain ⟨c, hc⟩ := ha
    obtain ⟨d, hd⟩ := hb
    rw [run_eql_ptr_other w Try.underlying66 hj (by simpa using hz) (fun h => e (by injection h)) hc hd]
    simp [e]

set_option maxRecDepth 100000 in
theorem index_any (l r : List Nat) (s : Value) (b : Nat) (w : World) (hr : Row w s (l ++ b :: r)) (hb : b ∉ l) (hlv : ∀ y ∈ l ++ b :: r, Lv w y) :
    Calls Try.prog 68 #[s, ptr b] w fun e w' => e = .returned (.int .i64 (l.length : Nat)) ∧ w' = w := by
  obtain ⟨x, cap, rfl, c1, c2, c3, c4⟩ := hr.form
  have hlen : (l ++ b :: r).length = l.length + 1 + r.length := by simp; omega
  obtain ⟨g, rfl, hg, hgo⟩ := c3 (by omega)
  have hat : ∀ j, j < l.length → (l ++ b :: r).getD j 0 ≠ b ∧ Lv w ((l ++ b :: r).getD j 0) := fun j hj => by
    have e : (l ++ b :: r).getD j 0 = l[j] := by
      rw [List.getD_eq_getElem?_getD, List.getElem?_append_left hj, List.getElem?_eq_getElem hj]
      rfl
    rw [e]
    exact ⟨fun e => hb (e ▸ List.getElem_mem hj), hlv _ (by simp)⟩
  have hth : (l ++ b :: r).getD l.length 0 = b := by
    rw [List.getD_eq_getElem?_getD, List.getElem?_append_right (Nat.le_refl _)]
    simp
  have hbb := hlv b (by simp)
  generalize (l ++ b :: r) = ls at *
  have hil : l.length < ls.length := by omega
  generalize l.length = i at *
  have C4 := hide (c4 g rfl)
  have HA := hide hat
  have HH := hide hth
  have HL := hide hbb
  clear c3 c4 hr hat hth hlv hbb hlen
  unfold ptr at *
  go_enter Try.func68, Try.ntmps68
  go_wp2_with fail
  go_loopg [8] i (fun gk x w' => ∃ k : Nat, k + gk = i ∧ x = .int .i64 (k : Int) ∧ w' = w)
  case atStart => exact ⟨0, by omega, rfl, rfl⟩
  case round =>
    obtain ⟨k, hk, rfl, rfl⟩ := hrel
    have hkl : k < ls.length := by omega
    have e1 := unhide C4 k hkl
    by_cases h8 : k < i
    · obtain ⟨hne, hlv⟩ := unhide HA k h8
      have hq := eq_ptr _ b (ls.getD k 0) (unhide HL) hlv
      rw [decide_eq_false (fun e => hne e.symm)] at hq
      clear hne hlv
      generalize ls.getD k 0 = y at *
      go_wp2
      go_roundg (gk - 1)
      case rel => exact ⟨k + 1, by omega, rfl, rfl⟩
      all_goals omega
    · have hki : k = i := by omega
      subst hki
      rw [unhide HH] at e1
      have hq := eq_ptr _ b b (unhide HL) (unhide HL)
      rw [decide_eq_true rfl] at hq
      go_wp2
      go_ret
      exact ⟨rfl, rfl⟩

theorem zero_row (m : Nat) : (Builtin.zeroCells #[.pointer none] m).toList = List.replicate m (.pointer none) := by
  apply List.ext_getElem?
  intro j
  by_cases hj : j < m
  · simp [Builtin.zeroCells, hj, Nat.mod_one]
  · simp [Builtin.zeroCells, hj]
theorem zero_cells (m : Nat) : ∀ u ∈ (Builtin.zeroCells (Value.pointer none).cells m).toList, u.oneCell' = true := fun u hu => by
  rw [show (Value.pointer none).cells = #[.pointer none] from rfl, zero_row] at hu
  rw [List.eq_of_mem_replicate hu]
  rfl
set_option maxRecDepth 100000 in
theorem grow_any (n : Nat) (w : World) (h0 : 0 < n) (h9 : n ≤ 2000) :
    Calls Try.prog 92 #[.slice none 0 0, .int .i64 (n : Int)] w fun e w' => ∃ v, e = .returned v ∧ w'.ownsRow 0 66 1 v 0 [] ∧ Below w.heap.size w w' ∧ ∀ g ∈ own v, w.heap.size ≤ g := by
  obtain ⟨i0, hi0, hz0, hz1, hz2⟩ := info66
  go_enter Try.func92, Try.ntmps92
  go_wp2_with (at_builtin; refine wpList_append_zeros _ rfl _ _ 58 3 rfl 0 66 i0 (.pointer none) 1 8 .i64 Try.underlying58 Try.underlying3 hi0 hz0 hz1 hz2 rfl (by decide) (.slice none 0 0) 0 n [] rfl ⟨rfl, .inl ⟨rfl, rfl⟩⟩ rfl h0 (zero_cells n) (by unfold maxLen; omega) (by omega) (Nat.zero_le _) ?_)
  intro v' w2 hown hgrow hat
  rcases hown.2 with ⟨_, e⟩ | ⟨g, cap, cur, rfl, _, hg, hn, hm, hs, _⟩
  · omega
  have O2 : Hid (w2.ownsRow 0 66 1 (.slice (some ⟨g, 0, none⟩) 0 cap) 0 []) := hide ⟨rfl, .inr ⟨g, cap, cur, rfl, Nat.zero_le _, hg, Nat.zero_le _, hm, hs, by simp⟩⟩
  have hge : Hid (∀ k ∈ own (.slice (some ⟨g, 0, none⟩) 0 cap), w.heap.size ≤ k) := hide (fun k hk => by
    rw [mem_own] at hk
    simp [Value.ownBlock] at hk hat
    omega)
  have HB := hide ((Below.refl w.heap.size w).grown hgrow (Nat.le_refl _) (fun k hk => by simp [Value.ownBlock] at hk))
  unfold maxLen at hm
  clear hown hgrow hat hg hs
  go_wp2
  go_ret
  exact ⟨_, rfl, unhide O2, unhide HB, unhide hge⟩

theorem vw_form {w : World} {s : Value} {ls : List Nat} (h : Vw w s ls) : ∃ x cap, s = .slice x ls.length cap := by
  rcases h with ⟨rfl, h, _⟩ | ⟨ad, c, rfl, _, _⟩
  · exact ⟨none, 0, by rw [h]⟩
  · exact ⟨_, _, rfl⟩
theorem Vw.below {w w' : World} {s : Value} {ls : List Nat} (h : Vw w s ls) (hb : Below w.heap.size w w') : Vw w' s ls := by
  rcases h with h | ⟨ad, c, rfl, hl, hc⟩
  · exact .inl h
  · exact .inr ⟨ad, c, rfl, hl, fun j x hj => by
      have h1 := hc j x hj
      rw [hb.cell (p := ad.add j) (World.block_lt_of_cell? w _ h1)]
      exact h1⟩

set_option maxRecDepth 100000 in
theorem concat_any (l1 l2 : List Nat) (v1 v2 : Value) (gs cs : Nat) (w : World) (h1 : Vw w v1 l1) (h2 : Vw w v2 l2) (k1 : w.cell? ⟨gs, 0, none⟩ = some v1) (k2 : w.cell? ⟨gs, 1, none⟩ = some v2) (h0 : 0 < l1.length + l2.length) (h9 : l1.length + l2.length ≤ 2000) (hcs : 2 ≤ cs) (hcs9 : cs ≤ 100) :
    Calls Try.prog 88 #[.slice (some ⟨gs, 0, none⟩) 2 cs] w fun e w' => ∃ r, e = .returned r ∧ Row w' r (l1 ++ l2) ∧ Below w.heap.size w w' ∧ ∀ g ∈ own r, w.heap.size ≤ g := by
  obtain ⟨x1, c1, rfl⟩ := vw_form h1
  obtain ⟨x2, c2, rfl⟩ := vw_form h2
  have hgs := World.block_lt_of_cell? w _ k1
  dsimp only at hgs
  have HV := hide (And.intro h1 h2)
  clear h1 h2
  go_enter Try.func88, Try.ntmps88
  go_wp2_with fail
  go_loopg [3, 11] 2 (fun gk z i w' => ∃ k : Nat, k + gk = 2 ∧ i = .int .i64 (k : Int) ∧ z = .int .i64 ((if k = 0 then 0 else if k = 1 then l1.length else l1.length + l2.length : Nat) : Int) ∧ w' = w)
  case atStart => exact ⟨0, by omega, rfl, rfl, rfl⟩
  case round =>
    obtain ⟨k, hk, rfl, rfl, rfl⟩ := hrel
    by_cases e0 : k = 0
    · subst e0
      rw [if_pos rfl]
      go_wp2
      go_roundg (gk - 1)
      case rel => exact ⟨1, by omega, rfl, by simp, rfl⟩
      all_goals omega
    by_cases e1 : k = 1
    · subst e1
      rw [if_neg (by decide), if_pos rfl]
      have a1 : (0 : Int) ≤ (l1.length : Int) + (l2.length : Int) := by omega
      go_wp2
      go_roundg (gk - 1)
      case rel => exact ⟨2, by omega, rfl, by simp, rfl⟩
      all_goals omega
    have hk2 : k = 2 := by omega
    subst hk2
    rw [if_neg (by decide), if_neg (by decide)]
    go_wp2_with fail
    obtain ⟨w0, hw0⟩ : ∃ x, x = wr := ⟨_, rfl⟩
    subst hw0
    have hsum : (l1.length : Int) + (l2.length : Int) = ((l1.length + l2.length : Nat) : Int) := by omega
    rw [hsum]
    refine (grow_any (l1.length + l2.length) w0 h0 h9).mono ?_
    rintro e w1 ⟨v, rfl, g1, g2, g3⟩
    have G1 := hide (And.intro g1 (And.intro g2 g3))
    have k1' : w1.cell? ⟨gs, 0, none⟩ = some (.slice x1 l1.length c1) := by rw [g2.cell (p := ⟨gs, 0, none⟩) hgs]; exact k1
    have k2' : w1.cell? ⟨gs, 1, none⟩ = some (.slice x2 l2.length c2) := by rw [g2.cell (p := ⟨gs, 1, none⟩) hgs]; exact k2
    have HK := hide (And.intro k1 (And.intro k2 hgs))
    clear g1 g2 g3 k1 k2 k1' k2' hgs hsum
    go_wp2_with fail
    obtain ⟨i0, hi0, hz0, hz1, hz2⟩ := info66
    go_loopg [6, 27] 2 (fun gk v i w' => ∃ k : Nat, k + gk = 2 ∧ i = .int .i64 (k : Int) ∧ Row w' v (if k = 0 then [] else if k = 1 then l1 else l1 ++ l2) ∧ Below w0.heap.size w0 w' ∧ ∀ g ∈ own v, w0.heap.size ≤ g)
    case atStart => exact ⟨0, by omega, rfl, (unhide G1).1, (unhide G1).2.1, (unhide G1).2.2⟩
    case round =>
      obtain ⟨k, hk, rfl, r1, r2, r3⟩ := hrel
      have k1 : wr.cell? ⟨gs, 0, none⟩ = some (.slice x1 l1.length c1) := by rw [r2.cell (p := ⟨gs, 0, none⟩) (unhide HK).2.2]; exact (unhide HK).1
      have k2 : wr.cell? ⟨gs, 1, none⟩ = some (.slice x2 l2.length c2) := by rw [r2.cell (p := ⟨gs, 1, none⟩) (unhide HK).2.2]; exact (unhide HK).2.1
      have V1 := hide ((unhide HV).1.below r2)
      have V2 := hide ((unhide HV).2.below r2)
      have step : ∀ (la lb : List Nat) (v' : Value) (w' : World), w'.ownsRow 0 66 1 v' (la.length + lb.length) (la.map ptr ++ lb.map ptr) → Row w' v' (la ++ lb) := fun la lb v' w' h => by
        unfold Row
        rw [List.length_append, List.map_append]
        exact h
      have after : ∀ (v' : Value) (w' : World), wr.grownBy w' u6.ownBlock → (v'.ownBlock = u6.ownBlock ∨ v'.ownBlock = some wr.heap.size) → Below w0.heap.size w0 w' ∧ ∀ g ∈ own v', w0.heap.size ≤ g := fun v' w' hg ho =>
        ⟨r2.grown hg r2.size (fun k hk => r3 k (mem_own.2 hk)), fun g hg' => by
          rw [mem_own] at hg'
          rcases ho with h | h
          · rw [h] at hg'; exact r3 g (mem_own.2 hg')
          · rw [h] at hg'; simp at hg'; have := r2.size; omega⟩
      have AF := hide (And.intro step after)
      have R2 := hide (And.intro r2 r3)
      clear step after r2 r3
      by_cases e0 : k = 0
      · subst e0
        rw [if_pos rfl] at r1
        have R1 := hide r1
        clear r1
        go_wp2_with (at_builtin; refine wpList_append_src _ rfl _ _ 58 rfl 0 66 i0 (.pointer none) 8 Try.underlying58 hi0 hz0 hz1 hz2 rfl u6 0 [] rfl (unhide R1) (.slice x1 l1.length c1) l1.length (l1.map ptr) rfl (unhide V1) (one_ptr l1) (by unfold maxLen; omega) (by omega) (Nat.zero_le _) ?_)
        intro v' w2 hown hgrow hat
        have A1 := hide ((unhide AF).2 v' w2 hgrow hat)
        have O1 := hide hown
        clear hown hgrow hat k1 k2
        go_wp2
        go_roundg (gk - 1)
        case rel => exact ⟨1, by omega, rfl, unhide O1, (unhide A1).1, (unhide A1).2⟩
        all_goals omega
      by_cases e1 : k = 1
      · subst e1
        rw [if_neg (by decide), if_pos rfl] at r1
        have R1 := hide r1
        clear r1
        go_wp2_with (at_builtin; refine wpList_append_src _ rfl _ _ 58 rfl 0 66 i0 (.pointer none) 8 Try.underlying58 hi0 hz0 hz1 hz2 rfl u6 l1.length (l1.map ptr) rfl (unhide R1) (.slice x2 l2.length c2) l2.length (l2.map ptr) rfl (unhide V2) (one_ptr l2) (by unfold maxLen; omega) (by omega) (Nat.zero_le _) ?_)
        intro v' w2 hown hgrow hat
        have A1 := hide ((unhide AF).2 v' w2 hgrow hat)
        have O1 := hide ((unhide AF).1 _ _ _ _ hown)
        clear hown hgrow hat k1 k2
        go_wp2
        go_roundg (gk - 1)
        case rel => exact ⟨2, by omega, rfl, unhide O1, (unhide A1).1, (unhide A1).2⟩
        all_goals omega
      have hk2 : k = 2 := by omega
      subst hk2
      rw [if_neg (by decide), if_neg (by decide)] at r1
      have R1 := hide r1
      clear r1
      go_wp2
      go_ret
      exact ⟨u6, rfl, unhide R1, (unhide R2).1, (unhide R2).2⟩
end Go.Proofs.Ytbkneonbpcmepaa
