/- The program's table holds what the plain list of ids is. -/
import Derived.Test.YtakgacahaennoaaDoorC5
namespace Go.Proofs.YtakgacahaennoaaDoor
open Go.RowKit Go.Arb

structure Abs (C : Tc) (S : List Cell) : Prop where
  ris : Ris S
  st : (C = ⟨[], 0, 0⟩ ∧ S = []) ∨ (Good C S ∧ 2 * busy C.cells ≤ C.cells.length)

theorem Abs.ids {C : Tc} {S : List Cell} (h : Abs C S) : C.ids = S.length := by
  rcases h.st with ⟨rfl, rfl⟩ | ⟨h1, _⟩
  · rfl
  · exact h1.ids

def FindR (C : Tc) (S : List Cell) (id r : Int) : Prop := (r = -1 ∧ getS S id = none) ∨ ∃ (q : Nat) (n : Int), r = (q : Int) ∧ C.cells[q]? = some (id + 1, n) ∧ getS S id = some n ∧ 0 ≤ id ∧ id ≤ 2147483647

theorem find_abs (id : Int) (w : World) (p : Nat) (v : Value) (C : Tc) (S : List Cell) (h : TcIn w p v C) (ha : Abs C S) :
    ∃ r, FindR C S id r ∧ Calls Tryd.prog 22 #[.pointer (some ⟨p, 0, none⟩), .int .i64 id] w fun e w' => e = .returned (.int .i64 r) ∧ w = w' := by
  obtain ⟨c0, _⟩ := h.cells3
  obtain ⟨x, cap, hv, hcap, hmax⟩ := h.len
  rw [hv] at c0
  rcases ha.st with ⟨rfl, rfl⟩ | ⟨hg, hb⟩
  · exact ⟨-1, .inl ⟨rfl, rfl⟩, find_empty id w p x cap c0⟩
  · have hN := hg.hash.posN
    by_cases hid : id < 0 ∨ 2147483647 < id
    · exact ⟨-1, .inl ⟨rfl, getS_out ha.ris hid⟩, find_not id w p x _ cap c0 (by omega) hid⟩
    · obtain ⟨i, rfl⟩ := Int.eq_ofNat_of_zero_le (by omega : 0 ≤ id)
      obtain ⟨t0, h1, h2⟩ := hg.hash.search (by omega) i
      obtain ⟨s, hs3, hs, hp⟩ := hg.hash.pow
      rcases h2 with ⟨h2, n, h3, h4⟩ | ⟨h2, h3⟩
      · exact ⟨_, .inr ⟨_, n, rfl, h3, mem_getS ha.ris h4, by omega, by omega⟩, find_core i w p v C h s t0 hs hp (by omega) _ h1 (.inl ⟨h2, rfl⟩)⟩
      · exact ⟨-1, .inl ⟨rfl, (getS_none ha.ris).2 h3⟩, find_core i w p v C h s t0 hs hp (by omega) (-1) h1 (.inr ⟨h2, rfl⟩)⟩

/-- The table at block p holds S; it lies in ks. -/
def TbAt (w : World) (p : Nat) (S : List Cell) (ks : List Nat) : Prop := ∃ v C, TcIn w p v C ∧ Abs C S ∧ ks = fp p v

section
variable {w w' : World} {p : Nat} {S : List Cell} {ks js : List Nat}
theorem TbAt.ris (h : TbAt w p S ks) : Ris S := by obtain ⟨v, C, _, h2, _⟩ := h; exact h2.ris
theorem TbAt.lt (h : TbAt w p S ks) : ∀ k ∈ ks, k < w.heap.size := by obtain ⟨v, C, h1, _, rfl⟩ := h; exact h1.lt
theorem TbAt.tab (h : TbAt w p S ks) : Tab w := by obtain ⟨v, C, h1, _, rfl⟩ := h; exact h1.tab
theorem TbAt.one (h : TbAt w p S ks) : 1 ∉ ks := by obtain ⟨v, C, h1, _, rfl⟩ := h; exact h1.one
theorem TbAt.keep (h : TbAt w p S ks) (hk : Keep js w w') (ho : Off ks js) (h1 : 1 ∉ js) : TbAt w' p S ks := by
  obtain ⟨v, C, h2, h3, rfl⟩ := h
  exact ⟨v, C, h2.keep hk ho h1, h3, rfl⟩
theorem TbAt.below (h : TbAt w p S ks) (hb : Below w.heap.size w w') : TbAt w' p S ks := h.keep (Keep.ofBelow hb []) (fun _ _ => by simp) (by simp)
end

theorem tNew (w : World) (hT : Tab w) :
    Calls Tryd.prog 7 #[] w fun e w' => e = .returned (.pointer (some ⟨w.heap.size, 0, none⟩)) ∧ TbAt w' w.heap.size [] [w.heap.size] ∧ Below w.heap.size w w' ∧ w'.heap.size = w.heap.size + 1 := by
  refine (new_any w hT).mono ?_
  rintro e w' ⟨rfl, h1, h2, h3⟩
  exact ⟨rfl, ⟨_, _, h1, ⟨ris_nil, .inl ⟨rfl, rfl⟩⟩, by simp [fp, own, Value.ownBlock]⟩, h2, h3⟩
theorem tLen (w : World) (p : Nat) (S : List Cell) (ks : List Nat) (h : TbAt w p S ks) :
    Calls Tryd.prog 15 #[.pointer (some ⟨p, 0, none⟩)] w fun e w' => e = .returned (.int .i64 (S.length : Int)) ∧ w = w' := by
  obtain ⟨v, C, h1, h2, rfl⟩ := h
  rw [← h2.ids]
  exact len_any w p v C h1

set_option maxHeartbeats 400000 in
theorem get_nil (id : Int) (w : World) : Calls Tryd.prog 13 #[.pointer none, .int .i64 id] w fun e w' => e = .returned (.tuple #[.int .i64 0, .bool false]) ∧ w = w' := by
  go_enter Tryd.func13, Tryd.ntmps13
  go_wp2_with (go_at_call 22; refine (find_nil _ _).mono ?_; rintro e w' ⟨rfl, rfl⟩)
  refine bodyPost_ret (v := .tuple #[.int .i64 0, .bool false]) (by simp [results, Tryd.results13, go_sem]) rfl ⟨rfl, rfl⟩

set_option maxHeartbeats 800000 in
theorem tGet (w : World) (p : Nat) (S : List Cell) (ks : List Nat) (id : Int) (h : TbAt w p S ks) :
    Calls Tryd.prog 13 #[.pointer (some ⟨p, 0, none⟩), .int .i64 id] w fun e w' => e = .returned (.tuple #[.int .i64 ((getS S id).getD 0), .bool (getS S id).isSome]) ∧ w = w' := by
  obtain ⟨v, C, h1, h2, rfl⟩ := h
  obtain ⟨r, hr, hf⟩ := find_abs id w p v C S h1 h2
  have HF := hide hf
  rcases hr with ⟨rfl, hg⟩ | ⟨q, n, rfl, hq, hg, hid0, hid1⟩
  · rw [hg]
    clear hf
    go_enter Tryd.func13, Tryd.ntmps13
    go_wp2_with (go_at_call 22; refine (unhide HF).mono ?_; rintro e w' ⟨rfl, rfl⟩)
    refine bodyPost_ret (v := .tuple #[.int .i64 0, .bool false]) (by simp [results, Tryd.results13, go_sem]) rfl ⟨rfl, rfl⟩
  · rw [hg]
    obtain ⟨hql, hqe⟩ := List.getElem?_eq_some_iff.1 hq
    obtain ⟨c0, _⟩ := h1.cells3
    obtain ⟨g, cap, rfl, hm1, hm2, hg1, hg2, d0, d1, _⟩ := h1.at q hql
    rw [hqe] at d0 d1
    dsimp only at d0 d1
    clear hf h1 h2 hq hqe hg
    generalize C.cells.length = N at *
    unfold maxLen at hm2
    have e1 : (0 : Int) ≤ (q : Int) := by omega
    have e2 : (q : Int) < (N : Int) := by omega
    have e3 : ((q : Int) == -1) = false := by rw [beq_eq_false_iff_ne]; omega
    go_enter Tryd.func13, Tryd.ntmps13
    go_wp2_with (go_at_call 22; refine (unhide HF).mono ?_; rintro e w' ⟨rfl, rfl⟩)
    refine bodyPost_ret (v := .tuple #[.int .i64 n, .bool true]) (by simp [results, Tryd.results13, go_sem]) rfl ⟨rfl, rfl⟩

set_option maxHeartbeats 400000 in
theorem drop_nil (id : Int) (w : World) : Calls Tryd.prog 11 #[.pointer none, .int .i64 id] w fun e w' => e = .returned (.bool false) ∧ w = w' := by
  go_enter Tryd.func11, Tryd.ntmps11
  go_wp2_with (go_at_call 22; refine (find_nil _ _).mono ?_; rintro e w' ⟨rfl, rfl⟩)
  go_ret
  exact ⟨rfl, rfl⟩

theorem Abs.drop {C : Tc} {S : List Cell} (h : Abs C S) {q : Nat} {id n : Int} (hq : C.cells[q]? = some (id + 1, n)) (hg : getS S id = some n) (h0 : 0 ≤ id) : Abs ⟨C.cells.set q (-1, 0), C.ids - 1, C.used⟩ (dropS S id) := by
  rcases h.st with ⟨rfl, rfl⟩ | ⟨hG, hb⟩
  · simp at hq
  · obtain ⟨k1, k2⟩ := hG.hash.drop h0 hq (dropS_perm hg)
    refine ⟨h.ris.drop id, .inr ⟨⟨k1, ?_, ?_⟩, ?_⟩⟩
    · simp only; rw [hG.ids, dropS_len hg]; simp
    · simp only; rw [k2]; exact hG.used
    · simp only; rw [k2]; simpa using hb

set_option maxHeartbeats 800000 in
theorem tDrop (w : World) (p : Nat) (S : List Cell) (ks : List Nat) (id : Int) (h : TbAt w p S ks) :
    Calls Tryd.prog 11 #[.pointer (some ⟨p, 0, none⟩), .int .i64 id] w fun e w' => e = .returned (.bool (getS S id).isSome) ∧ TbAt w' p (dropS S id) ks ∧ Keep ks w w' := by
  obtain ⟨v, C, h1, h2, rfl⟩ := h
  obtain ⟨r, hr, hf⟩ := find_abs id w p v C S h1 h2
  have HF := hide hf
  rcases hr with ⟨rfl, hg⟩ | ⟨q, n, rfl, hq, hg, hid0, hid1⟩
  · rw [show dropS S id = S from by unfold dropS; rw [hg]]
    rw [hg]
    clear hf
    have HH := hide (And.intro h1 h2)
    clear h1 h2
    go_enter Tryd.func11, Tryd.ntmps11
    go_wp2_with (go_at_call 22; refine (unhide HF).mono ?_; rintro e w' ⟨rfl, rfl⟩)
    go_ret
    exact ⟨rfl, ⟨v, C, (unhide HH).1, (unhide HH).2, rfl⟩, Keep.refl _ _⟩
  · rw [hg]
    have ha := h2.drop hq hg hid0
    obtain ⟨hql, hqe⟩ := List.getElem?_eq_some_iff.1 hq
    obtain ⟨c0, c1, c2, f0, f1, f2⟩ := h1.cells3
    have hp := blk_lt h1.blk
    have hi0 := h2.ids
    have hi1 := h2.ris.len
    obtain ⟨g, cap, rfl, hm1, hm2, hg1, hg2, d0, d1, z0, z1⟩ := h1.at q hql
    have hR : TbAt (((w.setCell ⟨g, q * 2, none⟩ (.int .i64 (-1))).setCell ⟨g, q * 2 + 1, none⟩ (.int .i64 0)).setCell ⟨p, 1, none⟩ (.int .i64 (C.ids - 1))) p (dropS S id) (fp p (.slice (some ⟨g, 0, none⟩) C.cells.length cap)) ∧ Keep (fp p (.slice (some ⟨g, 0, none⟩) C.cells.length cap)) w (((w.setCell ⟨g, q * 2, none⟩ (.int .i64 (-1))).setCell ⟨g, q * 2 + 1, none⟩ (.int .i64 0)).setCell ⟨p, 1, none⟩ (.int .i64 (C.ids - 1))) :=
      ⟨⟨_, _, (h1.setCell2 rfl q hql (-1) 0).setIds (C.ids - 1), ha, rfl⟩, (((Keep.refl _ _).setCell (p := ⟨g, q * 2, none⟩) (by simp [fp, own, Value.ownBlock]) _).setCell (p := ⟨g, q * 2 + 1, none⟩) (by simp [fp, own, Value.ownBlock]) _).setCell (p := ⟨p, 1, none⟩) (by simp [fp]) _⟩
    have HR := hide hR
    clear hf h1 h2 hq hg ha hR hqe
    generalize C.cells[q] = cl at *
    generalize C.cells.length = N at *
    generalize C.ids = I at *
    unfold maxLen at hm2
    have e1 : (0 : Int) ≤ (q : Int) := by omega
    have e2 : (q : Int) < (N : Int) := by omega
    have e3 : ((q : Int) == -1) = false := by rw [beq_eq_false_iff_ne]; omega
    have e4 : 0 ≤ I := by omega
    have e5 : I ≤ 1048576 := by omega
    clear hi0
    go_enter Tryd.func11, Tryd.ntmps11
    go_wp2_with (go_at_call 22; refine (unhide HF).mono ?_; rintro e w' ⟨rfl, rfl⟩)
    go_ret
    exact ⟨rfl, unhide HR⟩
end Go.Proofs.YtakgacahaennoaaDoor
