/- grown: a forest by bytes. -/
import Derived.Test.YtbcibdofcjehcaaH
import Derived.Test.YtbcibdofcjehcaaA2
import Derived.Test.YtbcibdofcjehcaaO
namespace Go.Proofs.Ytbcibdofcjehcaa
open Go.RowKit Go.Arb
set_option linter.unusedVariables false
set_option linter.unusedSimpArgs false

theorem IRow.get {k : IntKind} {w W : World} {x : Option Addr} {len : Nat} {zs : List Int} (h : IRow k w x len zs) (hb : Below w.heap.size w W) {i : Nat} (hi : i < len) :
    ∃ b o, x = some ⟨b, o, none⟩ ∧ b < w.heap.size ∧ W.cell? ⟨b, o + i, none⟩ = some (.int k (zs.getD i 0)) := by
  obtain ⟨b, o, e, h1, h2⟩ := h.2.1 (by omega)
  exact ⟨b, o, e, h1, by rw [hb.cell (p := ⟨b, o + i, none⟩) h1]; exact h2 i hi⟩
theorem getD_wf {k : IntKind} {w : World} {x : Option Addr} {len : Nat} {zs : List Int} (h : IRow k w x len zs) {i : Nat} (hi : i < len) : (Lit.int k (zs.getD i 0)).wf = true := by
  have : i < zs.length := by rw [h.1]; exact hi
  rw [List.getD_eq_getElem?_getD, List.getElem?_eq_getElem this]
  exact h.2.2 _ (List.getElem_mem this)

set_option maxRecDepth 100000 in
set_option maxHeartbeats 4000000 in
theorem grown_any {js : List Nat} (n : Nat) (x y : Option Addr) (lx cx ly cy : Nat) (us ws : List Int) (w W : World) (hb : Below w.heap.size w W) (hj : ∀ j ∈ js, j < W.heap.size) (hn : n ≤ 1000) (hnx : n ≤ lx) (hx : IRow .u8 w x lx us) (hy : IRow .i16 w y ly ws) (hly : ly ≤ maxLen) (hlx : lx ≤ maxLen) :
    Calls Try.prog 51 #[.int .i64 (n : Int), .slice x lx cx, .slice y ly cy] W fun e W' => ∃ p, e = .returned (.pointer (some ⟨p, 0, none⟩)) ∧ Ob w W' p (gr n n (upF us) (wF ws)) js ∧ Kept js W W' := by
  have hu0 : ∀ z ∈ us, 0 ≤ z := fun z hz => (bounds_u8 (hx.2.2 z hz)).1
  have hw0 : ∀ z ∈ ws, -32768 ≤ z ∧ z ≤ 32767 := fun z hz => bounds_i16 (hy.2.2 z hz)
  have LF := hide (upF_low hu0)
  have WF := hide (wF_fit hw0)
  have HX := hide hx
  have HY := hide hy
  have HB := hide hb
  clear hx hy hu0 hw0 hb
  unfold maxLen at hly hlx
  go_enter Try.func51, Try.ntmps51
  go_wp2_with fail
  refine (oNew (w := w) (js := js) n W (unhide HB) hj (by omega)).mono ?_
  rintro e W1 ⟨p, rfl, h, k⟩
  rw [← gr_new (f := upF us) (g := wF ws)] at h
  have H0 := hide (And.intro h k)
  clear h k hj
  go_wp2
  go_loopw [8] (fun i w' => ∃ m : Nat, m ≤ n ∧ i = .int .i64 (m : Int) ∧ Hid (Ob w w' p (gr n m (upF us) (wF ws)) js ∧ Kept js W w')) (fun i _ => n - (intOf i).toNat)
  case atStart => exact ⟨0, Nat.zero_le _, rfl, H0⟩
  case round =>
    clear H0
    obtain ⟨m, hm, rfl, HM⟩ := hrel
    by_cases hlt : m < n
    · have e0 : (0 : Int) ≤ (m : Int) := by omega
      have e1 : (m : Int) < (n : Int) := by omega
      -- the weight
      have key : ∀ (g : Int), g = wF ws m → Hid (fitB g = true ∧ (gr n m (upF us) (wF ws)).addB m g = true ∧ (gr n m (upF us) (wF ws)).addI m g = gr n (m + 1) (updF (upF us) m (-1)) (wF ws)) := fun g hg => by
        subst hg
        have hfit : fitB (wF ws m) = true := by
          have := unhide WF m
          simp [fitB]; omega
        have ha := gr_addB (n := n) (m := m) (f := upF us) (g := wF ws) (unhide LF) hlt hfit
        exact ⟨hfit, ha, by rw [addI_yes ha]; exact gr_add⟩
      obtain ⟨bx, ox, rfl, hbx, dx⟩ := (unhide HX).get (unhide HM).1.bel (i := m) (by omega)
      have hbu := bounds_u8 (getD_wf (unhide HX) (i := m) (show m < lx by omega))
      have hub : Hid (upF us m = if 0 < m ∧ us.getD m 0 % 8 ≠ 0 then us.getD m 0 % (m : Int) else -1) := rfl
      obtain ⟨hb0, hb1⟩ := hbu
      have HEX : Hid (∃ bn : Nat, us.getD m 0 = (bn : Int)) := ⟨(us.getD m 0).toNat, by omega⟩
      obtain ⟨bn, hbn⟩ := HEX.out
      rw [hbn] at dx hub hb1
      clear hb0 hbn HEX
      have e2 : (m : Int) < (lx : Int) := by omega
      have hz : ly ≤ m → Hid (wF ws m = 0) := fun h => by
        show ws.getD m 0 = 0
        rw [List.getD_eq_getElem?_getD, List.getElem?_eq_none (by rw [(unhide HY).1]; exact h)]; rfl
      by_cases hwl : m < ly
      · obtain ⟨by', oy, rfl, hby, dy⟩ := (unhide HY).get (unhide HM).1.bel (i := m) hwl
        have e3 : (m : Int) < (ly : Int) := by omega
        have HG := key (ws.getD m 0) rfl
        obtain ⟨hg0, hg1⟩ := bounds_i16 (getD_wf (unhide HY) (i := m) hwl)
        generalize ws.getD m 0 = gv at *
        clear key hz
        go_wp2_with fail
        clear dy
        refine ((unhide HM).1.call fun _ ha => aAdd _ _ ha).mono ?_
        rw [(unhide HG).2.1, (unhide HG).2.2]
        rintro e W2 ⟨rfl, h, k⟩
        have dx2 : W2.cell? ⟨bx, ox + m, none⟩ = some (.int .u8 (bn : Int)) := by
          rw [← dx, h.bel.cell (p := ⟨bx, ox + m, none⟩) hbx, (unhide HM).1.bel.cell (p := ⟨bx, ox + m, none⟩) hbx]
        have H2 := hide (And.intro h ((unhide HM).2.trans k))
        clear h k HM dx
        by_cases hm0 : m = 0
        · subst hm0
          have hf : Hid (upF us 0 = -1) := by show upF us 0 = -1; unfold upF; simp
          go_wp2
          go_roundw
          case rel => exact ⟨0 + 1, by omega, by go_num, hide (by rw [← gr_root (unhide hf)]; exact unhide H2)⟩
          case measure => simp [intOf]; omega
        · have hm1 : (0 : Int) < (m : Int) := by omega
          by_cases h8 : bn % 8 = 0
          · have h8' : ((bn : Int) % 8 == 0) = true := by rw [beq_iff_eq]; omega
            have hf : Hid (upF us m = -1) := by show upF us m = -1; rw [unhide hub, if_neg (by omega)]
            clear hub
            go_wp2
            go_roundw
            case rel => exact ⟨m + 1, by omega, by go_num, hide (by rw [← gr_root (unhide hf)]; exact unhide H2)⟩
            case measure => simp [intOf]; omega
          · have h8' : ((bn : Int) % 8 == 0) = false := by rw [beq_eq_false_iff_ne]; omega
            have hf : Hid (upF us m = ((bn % m : Nat) : Int)) := by show upF us m = ((bn % m : Nat) : Int); rw [unhide hub, if_pos (by omega)]; rfl
            have hjm : bn % m < m := Nat.mod_lt _ (by omega)
            have hmz : ((m : Int) == 0) = false := by rw [beq_eq_false_iff_ne]; omega
            clear hub
            go_wp2_with fail
            rw [show ((bn : Int) % (m : Int)) = ((bn % m : Nat) : Int) from rfl]
            have HL := hide (gr_linkB (g := wF ws) (unhide LF) hlt hjm)
            refine ((unhide H2).1.call fun _ ha => aLink _ _ ha).mono ?_
            rw [unhide HL, linkI_yes (unhide HL)]
            rintro e W3 ⟨rfl, h, k⟩
            rw [Int.toNat_natCast, Int.toNat_natCast, gr_link (unhide hf)] at h
            have H3 := hide (And.intro h ((unhide H2).2.trans k))
            clear h k H2 dx2
            go_wp2
            go_roundw
            case rel => exact ⟨m + 1, by omega, by go_num, H3⟩
            case measure => simp [intOf]; omega
      · have hwl' : ¬ (m : Int) < (ly : Int) := by omega
        have HG := key 0 (unhide (hz (by omega))).symm
        clear key hz
        go_wp2_with fail
        refine ((unhide HM).1.call fun _ ha => aAdd _ _ ha).mono ?_
        rw [(unhide HG).2.1, (unhide HG).2.2]
        rintro e W2 ⟨rfl, h, k⟩
        have dx2 : W2.cell? ⟨bx, ox + m, none⟩ = some (.int .u8 (bn : Int)) := by
          rw [← dx, h.bel.cell (p := ⟨bx, ox + m, none⟩) hbx, (unhide HM).1.bel.cell (p := ⟨bx, ox + m, none⟩) hbx]
        have H2 := hide (And.intro h ((unhide HM).2.trans k))
        clear h k HM dx
        by_cases hm0 : m = 0
        · subst hm0
          have hf : Hid (upF us 0 = -1) := by show upF us 0 = -1; unfold upF; simp
          go_wp2
          go_roundw
          case rel => exact ⟨0 + 1, by omega, by go_num, hide (by rw [← gr_root (unhide hf)]; exact unhide H2)⟩
          case measure => simp [intOf]; omega
        · have hm1 : (0 : Int) < (m : Int) := by omega
          by_cases h8 : bn % 8 = 0
          · have h8' : ((bn : Int) % 8 == 0) = true := by rw [beq_iff_eq]; omega
            have hf : Hid (upF us m = -1) := by show upF us m = -1; rw [unhide hub, if_neg (by omega)]
            clear hub
            go_wp2
            go_roundw
            case rel => exact ⟨m + 1, by omega, by go_num, hide (by rw [← gr_root (unhide hf)]; exact unhide H2)⟩
            case measure => simp [intOf]; omega
          · have h8' : ((bn : Int) % 8 == 0) = false := by rw [beq_eq_false_iff_ne]; omega
            have hf : Hid (upF us m = ((bn % m : Nat) : Int)) := by show upF us m = ((bn % m : Nat) : Int); rw [unhide hub, if_pos (by omega)]; rfl
            have hjm : bn % m < m := Nat.mod_lt _ (by omega)
            have hmz : ((m : Int) == 0) = false := by rw [beq_eq_false_iff_ne]; omega
            clear hub
            go_wp2_with fail
            rw [show ((bn : Int) % (m : Int)) = ((bn % m : Nat) : Int) from rfl]
            have HL := hide (gr_linkB (g := wF ws) (unhide LF) hlt hjm)
            refine ((unhide H2).1.call fun _ ha => aLink _ _ ha).mono ?_
            rw [unhide HL, linkI_yes (unhide HL)]
            rintro e W3 ⟨rfl, h, k⟩
            rw [Int.toNat_natCast, Int.toNat_natCast, gr_link (unhide hf)] at h
            have H3 := hide (And.intro h ((unhide H2).2.trans k))
            clear h k H2 dx2
            go_wp2
            go_roundw
            case rel => exact ⟨m + 1, by omega, by go_num, H3⟩
            case measure => simp [intOf]; omega
    · have hge : ¬ (m : Int) < (n : Int) := by omega
      have : m = n := by omega
      subst this
      go_wp2
      go_ret
      exact ⟨p, rfl, unhide HM⟩
end Go.Proofs.Ytbcibdofcjehcaa
