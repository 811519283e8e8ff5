/- The way up from an item: its tree's top, its place, its weight; and the way down to a place. -/
import Derived.Test.YtbkneonbpcmepaaZ
namespace Go.Proofs.Ytbkneonbpcmepaa
open Go.RowKit Go.Arb
set_option linter.unusedVariables false
set_option linter.unusedSimpArgs false

set_option maxRecDepth 100000 in
theorem top_any (T : Tp) (w : World) (hm : Mem w T.h (.pointer none) T.t) (d0 h0 : Nat) (c0 : Cx d0 h0) (t0 : Tr h0) (e0 : plug d0 h0 c0 t0 = T) :
    Calls Try.prog 52 #[ptr (adr h0 t0)] w fun e w' => e = .returned (ptr (adr T.h T.t)) ∧ w' = w := by
  have M := hide hm
  clear hm
  unfold ptr
  go_enter Try.func52, Try.ntmps52
  go_wp2_with fail
  go_loopg [0] d0 (fun gk k w' => ∃ (d h : Nat) (c : Cx d h) (t : Tr h), d = gk ∧ plug d h c t = T ∧ k = .pointer (some ⟨adr h t, 0, none⟩) ∧ w' = w)
  case atStart => exact ⟨d0, h0, c0, t0, rfl, e0, rfl, rfl⟩
  case round =>
    obtain ⟨d, h, c, t, hd', he, rfl, rfl⟩ := hrel
    have m1 := ((mem_plug d h c t).1 (by rw [he]; exact unhide M)).1
    obtain ⟨q0, _, _, _, _, _, _, _, _⟩ := Kn.cells m1.root
    have HE := hide he
    have HG := hide hd'
    clear m1 hd'
    cases d with
    | zero =>
      have e1 : (⟨h, t⟩ : Tp) = T := he
      subst e1
      simp only [upC] at q0
      clear he
      go_wp2
      go_ret
      exact ⟨rfl, rfl⟩
    | succ d =>
      have e1 : adr (h + 1) (fill (hd c) t) = (hd c).a := rfl
      simp only [upC] at q0
      unfold ptr at q0
      have he2 := hide (show plug d (h + 1) (tl c) (fill (hd c) t) = T from he)
      clear he HE
      go_wp2
      go_roundg (gk - 1)
      case rel => exact ⟨d, h + 1, tl c, fill (hd c) t, by have := unhide HG; omega, unhide he2, by rw [e1], rfl⟩
      all_goals (have := unhide HG; omega)

/-- A row of pointers in which one stands behind some others. -/
theorem mem_at {X : Type} (L R : List X) (t : X) : (L ++ t :: R).length = L.length + 1 + R.length := by simp; omega
set_option maxRecDepth 100000 in
theorem ahead_any {d h : Nat} (c : Cx (d + 1) h) (t : Tr h) (w : World) (hm : Mem w (plug (d + 1) h c t).h (.pointer none) (plug (d + 1) h c t).t) (hn : (fp (plug (d + 1) h c t).h (plug (d + 1) h c t).t).Nodup) (hl : (its (plug (d + 1) h c t).h (plug (d + 1) h c t).t).length ≤ 4194304) (h8 : (hd c).L.length ≤ 1000) :
    Calls Try.prog 62 #[ptr (adr h t)] w fun e w' => e = .returned (.int .i64 (((hd c).L.flatMap (its h)).length : Nat)) ∧ w' = w := by
  obtain ⟨mt, k1, k2, k3, k4⟩ := (mem_plug (d + 1) h c t).1 hm
  have nd : (adr h t) ∉ (hd c).L.map (adr h) := by
    have h1 := (fp_plug (d + 1) h c t).nodup hn
    intro hc
    rw [List.nodup_append] at h1
    refine h1.2.2 _ (adr_fp h t) _ ?_ rfl
    simp only [fpC, List.mem_cons, List.mem_append]
    exact .inr (.inr (.inl (adrs_fps _ hc)))
  have hle : ((hd c).L.flatMap (its h)).length ≤ 4194304 := by
    refine Nat.le_trans ?_ hl
    rw [plug_its]
    simp only [pre, List.length_append, rz_length]
    omega
  obtain ⟨q0, _, _, _, _, _, _, _, _⟩ := Kn.cells mt.root
  obtain ⟨_, p1, _, _, _, _, _, _, _⟩ := Kn.cells k1
  obtain ⟨x, cap, e, c1, c2, c3, c4⟩ := k2.form
  rw [List.length_map, mem_at] at e c1 c3 c4
  obtain ⟨g, rfl, hg, hgo⟩ := c3 (by omega)
  have p1' : w.cell? ⟨(hd c).a, 1, none⟩ = some (.slice (some ⟨g, 0, none⟩) ((hd c).L.length + 1 + (hd c).R.length) cap) := by rw [← e]; exact p1
  have C4 : Hid (∀ j (hj : j < (hd c).L.length), w.cell? ⟨g, j, none⟩ = some (ptr (adr h (hd c).L[j])) ∧ w.cell? ⟨adr h (hd c).L[j], 5, none⟩ = some (.int .i64 ((its h (hd c).L[j]).length : Nat)) ∧ (binOp .eql 66 (.pointer (some ⟨adr h (hd c).L[j], 0, none⟩)) (.pointer (some ⟨adr h t, 0, none⟩))).run Try.prog w = .ok (.bool false) w) := hide (fun j hj => by
    have m := k3 (hd c).L[j] (by simp)
    refine ⟨?_, ?_, ?_⟩
    · rw [c4 g rfl j (by omega), mapD _ _ (by rw [mem_at]; omega)]
      congr 3
      rw [List.getElem_append_left hj]
    · have := (Kn.cells m.root).2.2.2.2.2.1
      rw [this]
      unfold sm
      rw [smL_c]
    · rw [eq_ptr w _ _ (Kn.lv m.root) (Kn.lv mt.root)]
      congr 2
      exact decide_eq_false (fun e => nd (by rw [← e]; exact getD_map _ _ _ hj)))
  have e2 : w.cell? ⟨g, (hd c).L.length, none⟩ = some (ptr (adr h t)) := by
    rw [c4 g rfl _ (by omega), mapD _ _ (by rw [mem_at]; omega)]
    congr 3
    rw [List.getElem_append_right (Nat.le_refl _)]
    simp
  have q2 := eq_ptr w _ _ (Kn.lv mt.root) (Kn.lv mt.root)
  rw [decide_eq_true rfl] at q2
  clear mt k1 k2 k3 k4 nd c3 c4 p1 hm hn hl hg hgo e
  simp only [upC] at q0
  generalize (hd c).L = L at *
  generalize (hd c).R.length = rr at *
  generalize (hd c).a = A0 at *
  generalize adr h t = b at *
  have HLE := hide hle
  clear hle
  unfold ptr at *
  go_enter Try.func62, Try.ntmps62
  go_wp2_with fail
  go_loopg [3, 14] L.length (fun gk s i w' => ∃ k : Nat, k + gk = L.length ∧ s = .int .i64 ((((L.take k).flatMap (its h)).length : Nat) : Int) ∧ i = .int .i64 (k : Int) ∧ w' = w)
  case atStart => exact ⟨0, by omega, rfl, rfl, rfl⟩
  case round =>
    obtain ⟨k, hk, rfl, rfl, rfl⟩ := hrel
    have hlt : (k : Int) < (L.length : Int) + 1 + (rr : Int) := by omega
    by_cases h9 : k < L.length
    · obtain ⟨y1, y2, y3⟩ := unhide C4 k h9
      have z1 : ((L.take (k + 1)).flatMap (its h)).length = ((L.take k).flatMap (its h)).length + (its h L[k]).length := by
        rw [take_step _ h9, List.flatMap_append, List.length_append]
        simp
      have z2 := flat_len L (k + 1)
      have z3 := unhide HLE
      rw [z1] at z2
      have Z1 := hide z1
      clear z1
      generalize ((L.take k).flatMap (its h)).length = n1 at *
      generalize (its h L[k]).length = n2 at *
      generalize adr h L[k] = y at *
      generalize (L.flatMap (its h)).length = n3 at *
      clear e2
      go_wp2
      go_roundg (gk - 1)
      case rel => exact ⟨k + 1, by omega, by rw [unhide Z1]; rfl, rfl, rfl⟩
      all_goals omega
    · have hkn : k = L.length := by omega
      subst hkn
      rw [List.take_length]
      go_wp2
      go_ret
      exact ⟨rfl, rfl⟩
end Go.Proofs.Ytbkneonbpcmepaa
