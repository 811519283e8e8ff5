/- Check: the top of a tree that begins with an item. -/
import Derived.Test.YtbkneonbpcmepaaQF
namespace Go.Proofs.Ytbkneonbpcmepaa
open Go.RowKit Go.Arb
set_option linter.unusedVariables false
set_option linter.unusedSimpArgs false

theorem drewN2 (w : World) (a b : Nat) : (w.drewN a).drewN b = w.drewN (a + b) := by simp [World.drewN, Nat.add_assoc]
theorem pre_first {d h : Nat} (c : Cx (d + 1) h) (hL : (hd c).L = []) : pre (d + 1) h c = pre d (h + 1) (tl c) := by
  rw [pre, hL]; simp [rz]
theorem pre_later {d h : Nat} (c : Cx (d + 1) h) {s : Tr h} {L : List (Tr h)} (hL : (hd c).L = s :: L) (ws : Wf h 4 s) : pre (d + 1) h c ≠ [] := fun e => by
  rw [pre, hL, List.append_eq_nil_iff] at e
  have h1 := congrArg List.length e.2
  rw [rz_length, List.flatMap_cons, List.length_append] at h1
  have h2 := List.length_pos_iff.2 (its_ne (by decide) ws)
  simp only [List.length_nil] at h1
  omega
set_option maxRecDepth 100000 in
theorem topOfFirst_any (T : Tp) (w : World) (o : Own1 w T) (d0 : Nat) (c0 : Cx d0 0) (x0 : Tr 0) (e0 : plug d0 0 c0 x0 = T) :
    Calls Try.prog 64 #[ptr (adr 0 x0)] w fun e w' => e = .returned (if pre d0 0 c0 = [] then .pointer (some ⟨adr T.h T.t, 0, none⟩) else .pointer none) ∧ ∃ q, w' = w.drewN q := by
  have O := hide (fun q => (show Own1 (w.drewN q) T from o.keep (keep_drewN [] w q) (fun _ _ => by simp)))
  clear o
  generalize hP : pre d0 0 c0 = P at *
  have HP := hide hP
  clear hP
  generalize hR : (if P = [] then Value.pointer (some ⟨adr T.h T.t, 0, none⟩) else .pointer none) = R
  have HR := hide hR
  clear hR
  unfold ptr
  go_enter Try.func64, Try.ntmps64
  go_wp2_with fail
  go_loopg [0] d0 (fun gk k w' => ∃ (d h : Nat) (c : Cx d h) (t : Tr h) (q : Nat), Hid (d = gk) ∧ Hid (plug d h c t = T) ∧ Hid (pre d h c = [] ↔ P = []) ∧ k = .pointer (some ⟨adr h t, 0, none⟩) ∧ w' = w.drewN q)
  case atStart => exact ⟨d0, 0, c0, x0, 0, hide rfl, hide e0, hide (by rw [unhide HP]), rfl, rfl⟩
  case round =>
    obtain ⟨d, h, c, t, q, hg, he, hn, rfl, rfl⟩ := hrel
    have oo := unhide O q
    obtain ⟨m1, m2⟩ := (mem_plug d h c t).1 (by rw [unhide he]; exact oo.mem)
    obtain ⟨q0, _, q2, _⟩ := Kn.cells m1.root
    cases d with
    | zero =>
      simp only [upC] at q0
      have e1 : (⟨h, t⟩ : Tp) = T := unhide he
      have e2 : R = .pointer (some ⟨adr h t, 0, none⟩) := by
        rw [← unhide HR, if_pos ((unhide hn).1 rfl), ← e1]
      have E2 := hide e2
      clear oo m1 m2 he hn e1 e2 HP HR O q2
      generalize adr h t = a at *
      go_wp2
      go_ret
      exact ⟨by rw [unhide E2]; rfl, _, rfl⟩
    | succ d =>
      simp only [upC] at q0
      have ws := wfC_of (d + 1) h c t (by rw [unhide he]; exact oo.wf)
      have hnd : (fp (plug (d + 1) h c t).h (plug (d + 1) h c t).t).Nodup := by rw [unhide he]; exact oo.nd
      have nn := (fp_plug (d + 1) h c t).nodup hnd
      rw [List.nodup_append] at nn
      obtain ⟨k1, k2, k3, k4⟩ := m2
      obtain ⟨_, r1, r2, _⟩ := Kn.cells (show Kn _ _ _ _ _ _ _ _ from k1)
      rw [show adr (h + 1) (fill (hd c) t) = (hd c).a from rfl] at r1 r2
      rw [show rowOf (h + 1) (fill (hd c) t) = (hd c).r from rfl] at r1
      obtain ⟨xx, cap, e, c1, c2, c3, c4⟩ := k2.form
      have hlen : (((hd c).L ++ t :: (hd c).R).map (adr h)).length = (hd c).L.length + 1 + (hd c).R.length := by rw [List.length_map, mem_at]
      rw [hlen] at e c1 c3 c4
      obtain ⟨g, rfl, hgl, _⟩ := c3 (by omega)
      have f0 := c4 g rfl 0 (by omega)
      rw [e] at r1
      have lt_ : Lv (w.drewN q) (adr h t) := Kn.lv (show Kn _ _ _ _ _ _ _ _ from m1.root)
      have hHH : decide (((h + 1 : Nat) : Int) ≤ (h : Int)) = false := decide_eq_false (by omega)
      have i0n : 0 < (hd c).L.length + 1 + (hd c).R.length := by omega
      have hn0 : ((((hd c).L.length + 1 + (hd c).R.length : Nat) : Int) == 0) = false := by rw [beq_eq_false_iff_ne]; omega
      have i0 : (0 : Int) < (((hd c).L.length + 1 + (hd c).R.length : Nat) : Int) := by omega
      have he2 := hide (show plug d (h + 1) (tl c) (fill (hd c) t) = T from unhide he)
      have e3 : adr (h + 1) (fill (hd c) t) = (hd c).a := rfl
      cases hL : (hd c).L with
      | nil =>
        rw [hL] at f0
        simp only [List.nil_append, List.map_cons, List.getD_cons_zero] at f0
        have hq := fun W => neq_same (adr h t) W
        have hn2 := hide (show (pre d (h + 1) (tl c) = [] ↔ P = []) by rw [← pre_first c hL]; exact unhide hn)
        clear oo m1 k1 k2 k3 k4 ws hnd nn c3 c4 e hn he lt_ hL hlen
        unfold ptr at *
        generalize adr h t = a at *
        generalize (hd c).L.length + 1 + (hd c).R.length = n at *
        generalize ((h + 1 : Nat) : Int) = H1 at *
        generalize (h : Int) = H0 at *
        generalize hW : w.drewN q = W at *
        have HW := hide hW
        clear hW
        go_wp2_with fail
        go_quiet (fail)
        go_wp2
        go_roundg (gk - 1)
        case rel => exact ⟨d, h + 1, tl c, fill (hd c) t, _, hide (by have := unhide hg; omega), he2, hn2, by rw [e3], by rw [← unhide HW]; exact drewN2 w q _⟩
        all_goals (have := unhide hg; omega)
      | cons s L =>
        rw [hL] at f0
        simp only [List.cons_append, List.map_cons, List.getD_cons_zero] at f0
        have hsL : s ∈ (hd c).L := by rw [hL]; simp
        have ls : Lv (w.drewN q) (adr h s) := Kn.lv (show Kn _ _ _ _ _ _ _ _ from (k3 s (by simp [hsL])).root)
        have hne : adr h s ≠ adr h t := fun e9 => nn.2.2 _ (adr_fp h t) _ ((mem_fpC c _).2 (.inr (.inr (.inl (fps_mem hsL (by rw [← e9]; exact adr_fp h s)))))) rfl
        have hq : ∀ k, (binOp .neq 66 (.pointer (some ⟨adr h s, 0, none⟩)) (.pointer (some ⟨adr h t, 0, none⟩))).run Try.prog ((w.drewN q).drewN k) = .ok (.bool true) ((w.drewN q).drewN k) := fun k => by
          have := neq_ptr ((w.drewN q).drewN k) (adr h s) (adr h t) (ls.keep (keep_drewN [] _ k) (by simp)) (lt_.keep (keep_drewN [] _ k) (by simp))
          rw [this, decide_eq_true hne]
        have e2 : R = .pointer none := by
          rw [← unhide HR, if_neg (fun h' => pre_later c hL (ws.1.2.1 s hsL) ((unhide hn).2 h'))]
        have E2 := hide e2
        clear oo m1 k1 k2 k3 k4 ws hnd nn c3 c4 e hn he lt_ hL hlen e2 hsL ls HR he2
        unfold ptr at *
        generalize adr h t = a at *
        generalize adr h s = b at *
        generalize (hd c).L.length + 1 + (hd c).R.length = n at *
        generalize ((h + 1 : Nat) : Int) = H1 at *
        generalize (h : Int) = H0 at *
        generalize hW : w.drewN q = W at *
        have HW := hide hW
        clear hW
        go_wp2_with fail
        go_quiet (fail)
        go_wp2
        go_ret
        exact ⟨by rw [unhide E2]; rfl, _, by rw [← unhide HW]; exact drewN2 w q _⟩
end Go.Proofs.Ytbkneonbpcmepaa
