/- laid: a sequence of so many items, of weights. -/
import Derived.Test.YtbkneonbpcmepaaH
import Derived.Test.YtbkneonbpcmepaaA1
import Derived.Test.YtbkneonbpcmepaaO
namespace Go.Proofs.Ytbkneonbpcmepaa
open Go.RowKit Go.Arb
set_option linter.unusedVariables false
set_option linter.unusedSimpArgs false

theorem IRow.get {k : IntKind} {w W : World} {x : Option Addr} {len : Nat} {zs : List Int} (h : IRow k w x len zs) (hb : Below w.heap.size w W) {i : Nat} (hi : i < len) :
    ∃ b o, x = some ⟨b, o, none⟩ ∧ b < w.heap.size ∧ W.cell? ⟨b, o + i, none⟩ = some (.int k (zs.getD i 0)) := by
  obtain ⟨b, o, e, h1, h2⟩ := h.2.1 (by omega)
  exact ⟨b, o, e, h1, by rw [hb.cell (p := ⟨b, o + i, none⟩) h1]; exact h2 i hi⟩
theorem getD_wf {k : IntKind} {w : World} {x : Option Addr} {len : Nat} {zs : List Int} (h : IRow k w x len zs) {i : Nat} (hi : i < len) : (Lit.int k (zs.getD i 0)).wf = true := by
  have : i < zs.length := by rw [h.1]; exact hi
  rw [List.getD_eq_getElem?_getD, List.getElem?_eq_getElem this]
  exact h.2.2 _ (List.getElem_mem this)

theorem IRow.none (k : IntKind) (w : World) : IRow k w none 0 [] := ⟨rfl, fun h => by omega, fun n hn => by simp at hn⟩

set_option maxRecDepth 100000 in
set_option maxHeartbeats 4000000 in
theorem laid_any {js : List Nat} (n : Nat) (y : Option Addr) (ly cy : Nat) (ws : List Int) (w W : World) (hb : Below w.heap.size w W) (hj : ∀ j ∈ js, j < W.heap.size) (hn : n ≤ 1000) (hy : IRow .i16 w y ly ws) (hly : ly ≤ maxLen) :
    Calls Try.prog 43 #[.int .i64 (n : Int), .slice y ly cy] W fun e W' => ∃ p, e = .returned (.pointer (some ⟨p, 0, none⟩)) ∧ Ob w W' p (ln n n (wF ws)) js ∧ Kept js W W' := by
  have hw0 : ∀ z ∈ ws, -32768 ≤ z ∧ z ≤ 32767 := fun z hz => bounds_i16 (hy.2.2 z hz)
  have WF := hide (wF_fit hw0)
  have HY := hide hy
  have HB := hide hb
  clear hy hw0 hb
  unfold maxLen at hly
  go_enter Try.func43, Try.ntmps43
  go_wp2_with fail
  refine (oNew (w := w) (js := js) n W (unhide HB) hj (by omega)).mono ?_
  rintro e W1 ⟨p, rfl, h, k⟩
  rw [← ln_new (wF ws)] at h
  have H0 := hide (And.intro h k)
  clear h k hj
  go_wp2
  go_loopw [6] (fun i w' => ∃ m : Nat, m ≤ n ∧ i = .int .i64 (m : Int) ∧ Hid (Ob w w' p (ln n m (wF ws)) js ∧ Kept js W w')) (fun i _ => n - (intOf i).toNat)
  case atStart => exact ⟨0, Nat.zero_le _, rfl, H0⟩
  case round =>
    clear H0
    obtain ⟨m, hm, rfl, HM⟩ := hrel
    by_cases hlt : m < n
    · have e0 : (0 : Int) ≤ (m : Int) := by omega
      have e1 : (m : Int) < (n : Int) := by omega
      have key : ∀ (g : Int), g = wF ws m → Hid ((ln n m (wF ws)).addOk m g = true ∧ (ln n m (wF ws)).addA m g = st n (lnL m ++ [[m]]) (gW (m + 1) (wF ws))) := fun g hg => by
        subst hg
        exact ln_add hlt (by have := unhide WF m; simp [fitB]; omega)
      have hz : ly ≤ m → Hid (wF ws m = 0) := fun h => by
        show ws.getD m 0 = 0
        rw [List.getD_eq_getElem?_getD, List.getElem?_eq_none (by rw [(unhide HY).1]; exact h)]; rfl
      by_cases hwl : m < ly
      · obtain ⟨by', oy, rfl, hby, dy⟩ := (unhide HY).get (unhide HM).1.bel (i := m) hwl
        have e3 : (m : Int) < (ly : Int) := by omega
        have HG := key (ws.getD m 0) rfl
        obtain ⟨hg0, hg1⟩ := bounds_i16 (getD_wf (unhide HY) (i := m) hwl)
        generalize ws.getD m 0 = gv at *
        clear key hz
        go_wp2_with fail
        clear dy
        refine ((unhide HM).1.call fun _ ha => aAdd _ _ ha).mono ?_
        rw [(unhide HG).1, (unhide HG).2]
        rintro e W2 ⟨rfl, h, k⟩
        have H2 := hide (And.intro h ((unhide HM).2.trans k))
        clear h k HM HG
        by_cases hm0 : m = 0
        · subst hm0
          go_wp2
          go_roundw
          case rel => exact ⟨0 + 1, by omega, by go_num, H2⟩
          case measure => simp [intOf]; omega
        · have hm1 : (0 : Int) < (m : Int) := by omega
          have HL := hide (ln_join (n := n) (g := wF ws) (show 0 < m by omega))
          go_wp2_with fail
          refine ((unhide H2).1.call fun _ ha => aJoin ((0 : Nat) : Int) _ ha).mono ?_
          rw [(unhide HL).1, (unhide HL).2]
          rintro e W3 ⟨rfl, h, k⟩
          have H3 := hide (And.intro h ((unhide H2).2.trans k))
          clear h k H2 HL
          go_wp2
          go_roundw
          case rel => exact ⟨m + 1, by omega, by go_num, H3⟩
          case measure => simp [intOf]; omega
      · have hwl' : ¬ (m : Int) < (ly : Int) := by omega
        have HG := key 0 (unhide (hz (by omega))).symm
        clear key hz
        go_wp2_with fail
        refine ((unhide HM).1.call fun _ ha => aAdd _ _ ha).mono ?_
        rw [(unhide HG).1, (unhide HG).2]
        rintro e W2 ⟨rfl, h, k⟩
        have H2 := hide (And.intro h ((unhide HM).2.trans k))
        clear h k HM HG
        by_cases hm0 : m = 0
        · subst hm0
          go_wp2
          go_roundw
          case rel => exact ⟨0 + 1, by omega, by go_num, H2⟩
          case measure => simp [intOf]; omega
        · have hm1 : (0 : Int) < (m : Int) := by omega
          have HL := hide (ln_join (n := n) (g := wF ws) (show 0 < m by omega))
          go_wp2_with fail
          refine ((unhide H2).1.call fun _ ha => aJoin ((0 : Nat) : Int) _ ha).mono ?_
          rw [(unhide HL).1, (unhide HL).2]
          rintro e W3 ⟨rfl, h, k⟩
          have H3 := hide (And.intro h ((unhide H2).2.trans k))
          clear h k H2 HL
          go_wp2
          go_roundw
          case rel => exact ⟨m + 1, by omega, by go_num, H3⟩
          case measure => simp [intOf]; omega
    · have hge : ¬ (m : Int) < (n : Int) := by omega
      have : m = n := by omega
      subst this
      go_wp2
      go_ret
      exact ⟨p, rfl, unhide HM⟩
end Go.Proofs.Ytbkneonbpcmepaa
