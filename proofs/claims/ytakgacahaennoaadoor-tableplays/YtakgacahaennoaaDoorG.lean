/- The document's table holds what the plain list of ids is. -/
import Derived.Test.YtakgacahaennoaaDoorE5
namespace Go.Proofs.YtakgacahaennoaaDoor
open Go.RowKit Go.Arb

/-- The document's table at block q holds S; it lies in ks. -/
def RfAt (w : World) (q : Nat) (S : List Cell) (ks : List Nat) : Prop := ∃ vi va, RfIn w q vi va (idsS S) (numsS S) ∧ Ris S ∧ ks = rfp q vi va

section
variable {w w' : World} {q : Nat} {S : List Cell} {ks js : List Nat}
theorem RfAt.ris (h : RfAt w q S ks) : Ris S := by obtain ⟨_, _, _, h2, _⟩ := h; exact h2
theorem RfAt.lt (h : RfAt w q S ks) : ∀ k ∈ ks, k < w.heap.size := by obtain ⟨_, _, h1, _, rfl⟩ := h; exact h1.lt
theorem RfAt.keep (h : RfAt w q S ks) (hk : Keep js w w') (ho : Off ks js) : RfAt w' q S ks := by
  obtain ⟨vi, va, h1, h2, rfl⟩ := h
  exact ⟨vi, va, h1.keep hk ho, h2, rfl⟩
theorem RfAt.below (h : RfAt w q S ks) (hb : Below w.heap.size w w') : RfAt w' q S ks := h.keep (Keep.ofBelow hb []) (fun _ _ => by simp)
end

theorem rNew (w : World) :
    Calls Tryd.prog 8 #[] w fun e w' => e = .returned (.pointer (some ⟨w.heap.size, 0, none⟩)) ∧ RfAt w' w.heap.size [] [w.heap.size] ∧ Below w.heap.size w w' ∧ w'.heap.size = w.heap.size + 1 := by
  refine (rnew_any w).mono ?_
  rintro e w' ⟨rfl, h1, h2, h3⟩
  exact ⟨rfl, ⟨_, _, h1, ris_nil, by simp [rfp, own, Value.ownBlock]⟩, h2, h3⟩
theorem rLen (w : World) (q : Nat) (S : List Cell) (ks : List Nat) (h : RfAt w q S ks) :
    Calls Tryd.prog 16 #[.pointer (some ⟨q, 0, none⟩)] w fun e w' => e = .returned (.int .i64 (S.length : Int)) ∧ w = w' := by
  obtain ⟨vi, va, h1, h2, rfl⟩ := h
  rw [← idsS_len S]
  exact rlen_any w q vi va _ _ h1
theorem rGet (w : World) (q : Nat) (S : List Cell) (ks : List Nat) (id : Int) (h : RfAt w q S ks) :
    Calls Tryd.prog 14 #[.pointer (some ⟨q, 0, none⟩), .int .i64 id] w fun e w' => e = .returned (.tuple #[.int .i64 ((getS S id).getD 0), .bool (getS S id).isSome]) ∧ w = w' := by
  obtain ⟨vi, va, h1, h2, rfl⟩ := h
  exact rget_any w q vi va S id h1 h2.len
theorem rList (w : World) (q : Nat) (S : List Cell) (ks : List Nat) (h : RfAt w q S ks) :
    Calls Tryd.prog 19 #[.pointer (some ⟨q, 0, none⟩)] w fun e w' => (∃ u, e = .returned u ∧ IRow w.heap.size w' u (idsS S)) ∧ Below w.heap.size w w' := by
  obtain ⟨vi, va, h1, h2, rfl⟩ := h
  exact rlist_any w q vi va _ _ h1 (by rw [idsS_len]; exact h2.len)

set_option maxHeartbeats 400000 in
theorem rdrop_no (w : World) (q : Nat) (vi va : Value) (S : List Cell) (id : Int) (h : RfIn w q vi va (idsS S) (numsS S)) (hl : S.length ≤ 1048576) (hg : getS S id = none) :
    Calls Tryd.prog 12 #[.pointer (some ⟨q, 0, none⟩), .int .i64 id] w fun e w' => e = .returned (.bool false) ∧ w = w' := by
  have hget := rget_any w q vi va S id h hl
  rw [hg] at hget
  have HG := hide hget
  clear hget h
  go_enter Tryd.func12, Tryd.ntmps12
  go_wp2_with (go_at_call 14; refine (unhide HG).mono ?_; rintro e w' ⟨rfl, rfl⟩; dsimp only [Option.getD, Option.isSome])
  go_ret
  exact ⟨rfl, rfl⟩

theorem rDrop (w : World) (q : Nat) (S : List Cell) (ks : List Nat) (id : Int) (h : RfAt w q S ks) :
    Calls Tryd.prog 12 #[.pointer (some ⟨q, 0, none⟩), .int .i64 id] w fun e w' => e = .returned (.bool (getS S id).isSome) ∧ ∃ ks', RfAt w' q (dropS S id) ks' ∧ Keep ks w w' ∧ Grew w ks ks' := by
  obtain ⟨vi, va, h1, h2, rfl⟩ := h
  cases hg : getS S id with
  | none =>
    refine (rdrop_no w q vi va S id h1 h2.len hg).mono ?_
    rintro e w' ⟨rfl, rfl⟩
    rw [dropS_no hg]
    exact ⟨rfl, _, ⟨vi, va, h1, h2, rfl⟩, Keep.refl _ _, Grew.refl _ _⟩
  | some n =>
    refine (rdrop_yes w q vi va S id n h1 h2.len hg).mono ?_
    rintro e w' ⟨rfl, vi', va', a1, a2, a3⟩
    exact ⟨rfl, _, ⟨vi', va', a1, h2.drop id, rfl⟩, a2, a3⟩

/-- Put, where what it leaves is known for one that may come. -/
theorem rPut_of (hyes : ∀ (w : World) (q : Nat) (vi va : Value) (S : List Cell) (id n : Int), RfIn w q vi va (idsS S) (numsS S) → 0 ≤ id → id ≤ 2147483647 → S.length < 1048576 → getS S id = none →
      Calls Tryd.prog 10 #[.pointer (some ⟨q, 0, none⟩), .int .i64 id, .int .i64 n] w fun e w' => e = .returned (.bool true) ∧ ∃ vi' va', RfIn w' q vi' va' (idsS (putS S id n)) (numsS (putS S id n)) ∧ Keep (rfp q vi va) w w' ∧ Grew w (rfp q vi va) (rfp q vi' va'))
    (w : World) (q : Nat) (S : List Cell) (ks : List Nat) (id n : Int) (h : RfAt w q S ks) :
    Calls Tryd.prog 10 #[.pointer (some ⟨q, 0, none⟩), .int .i64 id, .int .i64 n] w fun e w' => e = .returned (.bool (putB S id)) ∧ ∃ ks', RfAt w' q (putZ S id n) ks' ∧ Keep ks w w' ∧ Grew w ks ks' := by
  obtain ⟨vi, va, h1, h2, rfl⟩ := h
  have hno : putB S id = false → (Calls Tryd.prog 10 #[.pointer (some ⟨q, 0, none⟩), .int .i64 id, .int .i64 n] w fun e w' => e = .returned (.bool false) ∧ w = w') →
      Calls Tryd.prog 10 #[.pointer (some ⟨q, 0, none⟩), .int .i64 id, .int .i64 n] w fun e w' => e = .returned (.bool (putB S id)) ∧ ∃ ks', RfAt w' q (putZ S id n) ks' ∧ Keep (rfp q vi va) w w' ∧ Grew w (rfp q vi va) ks' := by
    intro hb hc
    refine hc.mono ?_
    rintro e w' ⟨rfl, rfl⟩
    rw [hb, putZ_no _ hb]
    exact ⟨rfl, _, ⟨vi, va, h1, h2, rfl⟩, Keep.refl _ _, Grew.refl _ _⟩
  by_cases hx : id < 0 ∨ 2147483647 < id ∨ 1048576 ≤ S.length
  · refine hno ?_ (rput_no1 w q vi va _ _ id n h1 (by rw [idsS_len]; exact hx))
    unfold putB
    rcases hx with h | h | h <;> simp <;> omega
  · cases hg : getS S id with
    | some m => exact hno (putB_there hg) (rput_no2 w q vi va S id n m h1 (by omega) (by omega) (by omega) hg)
    | none =>
      have hb := putB_true (by omega) (by omega) (by omega) hg
      rw [hb, putZ_yes _ hb]
      refine (hyes w q vi va S id n h1 (by omega) (by omega) (by omega) hg).mono ?_
      rintro e w' ⟨rfl, vi', va', a1, a2, a3⟩
      exact ⟨rfl, _, ⟨vi', va', a1, h2.put n (by omega) (by omega) (by omega) hg, rfl⟩, a2, a3⟩
end Go.Proofs.YtakgacahaennoaaDoor
