/- The item at a place. -/
import Derived.Test.YtbkneonbpcmepaaZ2
namespace Go.Proofs.Ytbkneonbpcmepaa
open Go.RowKit Go.Arb
set_option linter.unusedVariables false
set_option linter.unusedSimpArgs false

theorem ids_flat {h : Nat} (m : Int) (ps : List (Tr h)) : ids (rz m (ps.flatMap (its h))) = ps.flatMap (fun s => ids (its h s)) := by
  rw [ids_rz]
  simp [ids, List.map_flatMap]
theorem ids_at {h : Nat} (ps : List (Tr h)) (p i : Nat) (hi : i < ps.length) (h1 : ((ps.take i).flatMap (its h)).length ≤ p) (h2 : p < ((ps.take i).flatMap (its h)).length + (its h ps[i]).length) :
    (ids (ps.flatMap (its h))).getD p (0, 0) = (ids (its h ps[i])).getD (p - ((ps.take i).flatMap (its h)).length) (0, 0) := by
  have e : ps = ps.take i ++ ps[i] :: ps.drop (i + 1) := by
    conv => lhs; rw [← List.take_append_drop i ps]
    rw [List.drop_eq_getElem_cons hi]
  have e2 : ids (ps.flatMap (its h)) = ids ((ps.take i).flatMap (its h)) ++ (ids (its h ps[i]) ++ ids ((ps.drop (i + 1)).flatMap (its h))) := by
    conv => lhs; rw [e]
    rw [List.flatMap_append, List.flatMap_cons, ids_append, ids_append]
  rw [e2, List.getD_eq_getElem?_getD, List.getD_eq_getElem?_getD, List.getElem?_append_right (by simpa [ids] using h1)]
  have e3 : (ids ((ps.take i).flatMap (its h))).length = ((ps.take i).flatMap (its h)).length := by simp [ids]
  rw [e3, List.getElem?_append_left (by simp only [ids, List.length_map]; omega)]

set_option maxRecDepth 100000 in
theorem at_any (h0 : Nat) (t0 : Tr h0) (u0 : Value) (p0 : Nat) (w : World) (hm : Mem w h0 u0 t0) (hp : p0 < (its h0 t0).length) (hl : (its h0 t0).length ≤ 4194304) (h9 : h0 ≤ 1000) (hw : ∃ k, Wf h0 k t0) :
    Calls Try.prog 63 #[ptr (adr h0 t0), .int .i64 (p0 : Int)] w fun e w' => e = .returned (.int .i64 (((ids (its h0 t0)).getD p0 (0, 0)).1 : Nat)) ∧ w' = w := by
  have M := hide (And.intro hm (And.intro hp (And.intro hl hw)))
  generalize hX : ((ids (its h0 t0)).getD p0 (0, 0)).1 = X at *
  have HX := hide hX
  clear hm hp hl hX hw
  unfold ptr
  go_enter Try.func63, Try.ntmps63
  go_wp2_with fail
  go_loopg [0, 1] h0 (fun gk k q w' => ∃ (h : Nat) (t : Tr h) (u : Value) (p : Nat), Hid (h = gk) ∧ Mem w h u t ∧ p < (its h t).length ∧ (its h t).length ≤ 4194304 ∧ (∃ k, Wf h k t) ∧ h ≤ 1000 ∧ Hid (((ids (its h t)).getD p (0, 0)).1 = X) ∧ k = .pointer (some ⟨adr h t, 0, none⟩) ∧ q = .int .i64 (p : Int) ∧ w' = w)
  case atStart => exact ⟨h0, t0, u0, p0, hide rfl, (unhide M).1, (unhide M).2.1, (unhide M).2.2.1, (unhide M).2.2.2, h9, HX, rfl, rfl, rfl⟩
  case round =>
    obtain ⟨h, t, u, p, hg, hm, hp, hl, hw, h9', hx, rfl, rfl, rfl⟩ := hrel
    cases h with
    | zero =>
      obtain ⟨_, _, q2, q3, _, _, _, _, _⟩ := Kn.cells hm.root
      have e1 : (Lf.v t) = X := by
        have e2 : ids (its 0 t) = [(Lf.v t, Lf.a t)] := rfl
        have e3 : p = 0 := by
          have : (its 0 t).length = 1 := rfl
          omega
        have e4 := unhide hx
        rw [e2, e3] at e4
        exact e4
      have e5 : itm 0 t = (X : Int) := by rw [← e1]; rfl
      rw [e5] at q3
      clear hm hw e1 e5 M HX hx
      go_wp2
      go_ret
      exact ⟨rfl, rfl⟩
    | succ h =>
      obtain ⟨_, q1, q2, _, _, _, _, _, _⟩ := Kn.cells hm.root
      obtain ⟨x, cap, e, c1, c2, c3, c4⟩ := (show Row wr (Nd.r t) _ from hm.2.1).form
      rw [show rowOf (h + 1) t = Nd.r t from rfl, e] at q1
      rw [List.length_map] at q1 c1 c3 c4
      have hl1 : 0 < (Nd.ps t).length := by
        refine Classical.byContradiction fun hc => ?_
        have : Nd.ps t = [] := List.length_eq_zero_iff.1 (by omega)
        have e2 : (its (h + 1) t).length = 0 := by
          show (rz (Nd.m t) ((Nd.ps t).flatMap (its h))).length = 0
          rw [this]; rfl
        omega
      have hl8 : (Nd.ps t).length ≤ 8 := by obtain ⟨k, hk⟩ := hw; exact hk.1.2
      obtain ⟨g, rfl, hgl, hgo⟩ := c3 hl1
      have el : (its (h + 1) t).length = ((Nd.ps t).flatMap (its h)).length := rz_length _ _
      have ei : ids (its (h + 1) t) = ids ((Nd.ps t).flatMap (its h)) := ids_rz _ _
      rw [el] at hp hl
      rw [ei] at hx
      have C4 : Hid (∀ j (hj : j < (Nd.ps t).length), wr.cell? ⟨g, j, none⟩ = some (ptr (adr h (Nd.ps t)[j])) ∧ wr.cell? ⟨adr h (Nd.ps t)[j], 5, none⟩ = some (.int .i64 ((its h (Nd.ps t)[j]).length : Nat)) ∧ Mem wr h (ptr (Nd.a t)) (Nd.ps t)[j]) := hide (fun j hj => by
        have m := hm.2.2 (Nd.ps t)[j] (List.getElem_mem hj)
        refine ⟨by rw [c4 g rfl j hj, mapD _ _ hj], ?_, m⟩
        have := (Kn.cells m.root).2.2.2.2.2.1
        rw [this]
        unfold sm
        rw [smL_c])
      have HW : Hid (∀ s ∈ Nd.ps t, Wf h 4 s) := hide (by obtain ⟨k, hk⟩ := hw; exact hk.2.2)
      have hH : (0 : Int) < ((h + 1 : Nat) : Int) := by omega
      clear hm c3 c4 e el ei hgl hgo hw
      rw [show adr (h + 1) t = Nd.a t from rfl] at *
      generalize Nd.a t = A0 at *
      generalize Nd.ps t = ps at *
      have HP := hide (And.intro hp hl)
      clear hp hl
      have hH2 : ¬ ((h + 1 : Nat) : Int) ≤ 0 := by omega
      generalize hHH : ((h + 1 : Nat) : Int) = H1 at *
      clear hHH
      obtain ⟨w0, hw0⟩ : ∃ x, x = wr := ⟨_, rfl⟩
      subst hw0
      obtain ⟨g0, hg0⟩ : ∃ x, x = gk := ⟨_, rfl⟩
      subst hg0
      go_wp2_with fail
      go_loopg [1, 5] ps.length (fun gi q i w' => ∃ k : Nat, k + gi = ps.length ∧ ((ps.take k).flatMap (its h)).length ≤ p ∧ q = .int .i64 ((p : Int) - (((ps.take k).flatMap (its h)).length : Nat)) ∧ i = .int .i64 (k : Int) ∧ w' = w0)
      case atStart => exact ⟨0, by omega, by simp, by simp, rfl, rfl⟩
      case round =>
        obtain ⟨k, hk, h1, rfl, rfl, rfl⟩ := hrel
        have h8 : k < ps.length := by
          refine Classical.byContradiction fun hc => ?_
          rw [List.take_of_length_le (by omega)] at h1
          have := (unhide HP).1
          omega
        obtain ⟨y1, y2, y3⟩ := unhide C4 k h8
        have z1 : ((ps.take (k + 1)).flatMap (its h)).length = ((ps.take k).flatMap (its h)).length + (its h ps[k]).length := by
          rw [take_step _ h8, List.flatMap_append, List.length_append]
          simp
        have z2 := flat_len ps (k + 1)
        have z3 := (unhide HP).2
        have z4 := (unhide HP).1
        have h8' : (k : Int) < (ps.length : Int) := by omega
        by_cases c : ((ps.take k).flatMap (its h)).length + (its h ps[k]).length ≤ p
        · have Z1 := hide z1
          have c' : ((its h ps[k]).length : Int) ≤ (p : Int) - (((ps.take k).flatMap (its h)).length : Nat) := by omega
          rw [z1] at z2
          clear z1 y3
          generalize ((ps.take k).flatMap (its h)).length = n1 at *
          generalize (its h ps[k]).length = n2 at *
          generalize (ps.flatMap (its h)).length = n3 at *
          unfold ptr at y1
          generalize adr h ps[k] = y at *
          have b1 : -9223372036854775808 ≤ (p : Int) - (n1 : Int) - (n2 : Int) ∧ (p : Int) - (n1 : Int) - (n2 : Int) ≤ 9223372036854775807 := by omega
          go_wp2
          go_roundg (gk - 1)
          case rel => exact ⟨k + 1, by omega, by rw [unhide Z1]; omega, by rw [unhide Z1]; congr 1; omega, rfl, rfl⟩
          all_goals omega
        · have c' : ¬ ((its h ps[k]).length : Int) ≤ (p : Int) - (((ps.take k).flatMap (its h)).length : Nat) := by omega
          have ea := ids_at ps p k h8 h1 (by omega)
          have F1 : Hid (((ids (its h ps[k])).getD (p - ((ps.take k).flatMap (its h)).length) (0, 0)).1 = X) := hide (by rw [← ea]; exact unhide hx)
          have F2 : Hid (p - ((ps.take k).flatMap (its h)).length < (its h ps[k]).length ∧ (its h ps[k]).length ≤ 4194304) := hide ⟨by omega, by omega⟩
          have F3 := hide (And.intro y3 (unhide HW ps[k] (List.getElem_mem h8)))
          have F4 : Hid ((p : Int) - (((ps.take k).flatMap (its h)).length : Nat) = ((p - ((ps.take k).flatMap (its h)).length : Nat) : Int)) := hide (by omega)
          clear z1 z2 z3 z4 ea y3
          unfold ptr at y1
          generalize hn1 : ((ps.take k).flatMap (its h)).length = n1 at *
          generalize hn2 : (its h ps[k]).length = n2 at *
          have N2 := hide hn2
          clear hn1 hn2
          go_wp2
          go_roundg h
          case rel => exact ⟨h, ps[k], _, p - n1, hide rfl, (unhide F3).1, by rw [unhide N2]; exact (unhide F2).1, by rw [unhide N2]; exact (unhide F2).2, ⟨4, (unhide F3).2⟩, by omega, F1, rfl, by rw [unhide F4], rfl⟩
          all_goals (have := unhide hg; omega)
end Go.Proofs.Ytbkneonbpcmepaa
