/- The program's arena holds what the plain slots are. -/
import Derived.Test.YtnjnpcimnnmknaaC5
import Derived.Test.YtnjnpcimnnmknaaM
namespace Go.Proofs.Ytnjnpcimnnmknaa
open Go.RowKit Go.Arb

def slA (s : Sl) : Int × Bool := (s.gen, s.away)
def slN (s : Sl) : Int := s.next

structure Abs (C : Cs) (A : Ab) : Prop where
  sl : C.slots.map slA = A.sl
  ch : chain (C.slots.map slN) C.free A.fl
  room : C.room = A.room
  away : C.away = lenA A
  inv : Inv A

theorem Abs.len {C : Cs} {A : Ab} (h : Abs C A) : C.slots.length = A.sl.length := by rw [← h.sl]; simp
theorem Abs.get {C : Cs} {A : Ab} (h : Abs C A) (i : Nat) : A.sl[i]? = (C.slots[i]?).map slA := by rw [← h.sl]; simp
theorem Abs.live {C : Cs} {A : Ab} (h : Abs C A) (s g : Int) : liveC C s g = liveA A s g := by
  unfold liveC liveA
  rw [h.get]
  cases C.slots[s.toNat]? <;> simp [slA]

theorem set_map {α β : Type} (f : α → β) (l : List α) (i : Nat) (a : α) : (l.set i a).map f = (l.map f).set i (f a) := by
  simp

theorem Abs.pick {C : Cs} {A : Ab} (h : Abs C A) (hf : C.away ≠ C.room) : PickOk C ∧ ((pickC C).1 : Int) = (takeR A).1 ∧ genC C = (takeR A).2.1 ∧ (takeR A).2.2 = true ∧ Abs (takeC C) (takeA A) := by
  have hi := h.inv
  have hln := h.len
  have hrm := hi.lenr
  have hrb := hi.roomB
  have hnf : ¬ (A.fl = [] ∧ A.sl.length = A.room) := fun h1 => hf (by rw [h.away, h.room]; exact hi.full.2 h1)
  have hit := inv_take hi
  have hch := h.ch
  have haw := h.away
  cases hfl : A.fl with
  | nil =>
    rw [hfl] at hch hnf
    have hfr : C.free = -1 := hch
    have hne : A.sl.length ≠ A.room := fun e => hnf ⟨rfl, e⟩
    have hpk : pickC C = (C.slots.length, { C with slots := C.slots ++ [zeroSl] }) := by simp [pickC, hfr]
    have hlt : C.slots.length < A.room := by omega
    have hta : takeA A = { A with sl := A.sl ++ [(1, true)], t := A.t + 1 } := by simp [takeA, hfl, hne]
    have htr : takeR A = ((A.sl.length : Int), 1, true) := by simp [takeR, hfl, hne]
    have htc : takeC C = { C with slots := C.slots ++ [⟨1, 0, true⟩], away := C.away + 1 } := by simp [takeC, hpk, zeroSl]
    rw [htr]
    refine ⟨⟨by omega, .inl hfr⟩, by rw [hpk]; simp [hln], by simp [genC, hpk, zeroSl], rfl, ?_⟩
    rw [htc]
    refine ⟨?_, ?_, ?_, ?_, hit⟩
    · rw [hta, ← h.sl]; simp [slA]
    · rw [hta]; simp only [hfl]; exact hfr
    · rw [hta]; exact h.room
    · rw [hta]; simp only [lenA, hfl] at haw ⊢; simp at *; omega
  | cons i r =>
    rw [hfl] at hch
    obtain ⟨c1, c2, c3⟩ := hch
    have hic : i < C.slots.length := by simpa using c2
    have hfr : C.free ≠ -1 := by omega
    have hpk : pickC C = (i, { C with free := C.slots[i].next }) := by simp [pickC, c1, hic, show ¬ (i : Int) = -1 from by omega]
    have hgi : genA A i = C.slots[i].gen := by simp [genA, List.getD_eq_getElem?_getD, h.get, hic, slA]
    have hta : takeA A = { A with sl := A.sl.set i (genA A i + 1, true), fl := r, t := A.t + 1 } := by simp [takeA, hfl]
    have htr : takeR A = ((i : Int), genA A i + 1, true) := by simp [takeR, hfl]
    have htc : takeC C = { C with slots := C.slots.set i ⟨C.slots[i].gen + 1, C.slots[i].next, true⟩, free := C.slots[i].next, away := C.away + 1 } := by simp [takeC, hpk, hic]
    have hnd := hi.nodup
    rw [hfl, List.nodup_cons] at hnd
    rw [htr]
    refine ⟨⟨by omega, .inr ⟨by omega, by rw [c1]; simpa using hic⟩⟩, by rw [hpk], by simp [genC, hpk, hic, hgi], rfl, ?_⟩
    rw [htc]
    refine ⟨?_, ?_, ?_, ?_, hit⟩
    · rw [hta, ← h.sl, hgi]; simp [slA]
    · rw [hta]; simp only
      rw [set_map]
      refine chain_set hnd.1 ?_
      have e : (C.slots.map slN).getD i 0 = C.slots[i].next := by simp [List.getD_eq_getElem?_getD, hic, slN]
      rw [e] at c3
      exact c3
    · rw [hta]; exact h.room
    · rw [hta]; simp only [lenA, hfl] at haw ⊢; simp at *; omega

theorem Abs.give {C : Cs} {A : Ab} (h : Abs C A) {i : Nat} {g : Int} (hg : A.sl[i]? = some (g, true)) : ∃ sn, C.slots[i]? = some ⟨g, sn, true⟩ ∧ Abs { C with slots := C.slots.set i ⟨g, C.free, false⟩, free := i, away := C.away - 1 } (giveA A i) := by
  have hlt := lt_of_get hg
  have hic : i < C.slots.length := by rw [h.len]; exact hlt
  have hgg := hg
  rw [h.get, List.getElem?_eq_getElem hic] at hg
  simp [slA] at hg
  have haw := h.away
  refine ⟨C.slots[i].next, ?_, ?_, ?_, h.room, ?_, inv_give h.inv hgg⟩
  · rw [List.getElem?_eq_getElem hic]
    obtain ⟨h1, h2⟩ := hg
    rw [← h1, ← h2]
  · show _ = A.sl.set i (genA A i, false)
    rw [genA_of hgg, ← h.sl]; simp [slA]
  · refine ⟨rfl, by simpa using hic, ?_⟩
    have hn : i ∉ A.fl := fun hm => by
      obtain ⟨g', hg'⟩ := (h.inv.mem i).1 hm
      rw [hgg] at hg'; simp at hg'
    have e : ((C.slots.set i ⟨g, C.free, false⟩).map slN).getD i 0 = C.free := by simp [List.getD_eq_getElem?_getD, hic, slN]
    rw [e]
    simp only
    rw [set_map]
    exact chain_set hn h.ch
  · simp only [lenA, giveA] at haw ⊢; simp at *; omega

/-- The arena at block p holds A; it lies in ks. -/
def ArAt (w : World) (p : Nat) (A : Ab) (ks : List Nat) : Prop := ∃ v C, CsIn w p v C ∧ Abs C A ∧ ks = fp p v

theorem ArAt.inv {w : World} {p : Nat} {A : Ab} {ks : List Nat} (h : ArAt w p A ks) : Inv A := by obtain ⟨v, C, _, h2, _⟩ := h; exact h2.inv
theorem ArAt.lt {w : World} {p : Nat} {A : Ab} {ks : List Nat} (h : ArAt w p A ks) : ∀ k ∈ ks, k < w.heap.size := by obtain ⟨v, C, h1, _, rfl⟩ := h; exact h1.lt
theorem ArAt.keep {w w' : World} {p : Nat} {A : Ab} {ks js : List Nat} (h : ArAt w p A ks) (hk : Keep js w w') (ho : Off ks js) : ArAt w' p A ks := by
  obtain ⟨v, C, h1, h2, rfl⟩ := h
  exact ⟨v, C, h1.keep hk ho, h2, rfl⟩
theorem ArAt.below {w w' : World} {p : Nat} {A : Ab} {ks : List Nat} (h : ArAt w p A ks) (hb : Below w.heap.size w w') : ArAt w' p A ks := h.keep (Keep.ofBelow hb []) (fun _ _ => by simp)

theorem aNew (n : Nat) (w : World) (h1 : n ≤ 1048576) :
    Calls Try.prog 7 #[.int .i64 (n : Int)] w fun e w' => e = .returned (.pointer (some ⟨w.heap.size, 0, none⟩)) ∧ ArAt w' w.heap.size (newA n) [w.heap.size] ∧ Below w.heap.size w w' ∧ w'.heap.size = w.heap.size + 1 := by
  refine (new_any n w (by omega) (by omega)).mono ?_
  rintro e w' ⟨rfl, h2, h3, h4⟩
  exact ⟨rfl, ⟨_, _, h2, ⟨rfl, rfl, rfl, rfl, inv_new n h1⟩, by simp [fp, own, Value.ownBlock]⟩, h3, h4⟩

def takeV (A : Ab) : Value := .tuple #[.agg #[.int .i64 (takeR A).1, .int .i64 (takeR A).2.1], .bool (takeR A).2.2]

theorem aTake (w : World) (p : Nat) (A : Ab) (ks : List Nat) (h : ArAt w p A ks) (ht : A.t ≤ 1000000) :
    Calls Try.prog 9 #[.pointer (some ⟨p, 0, none⟩)] w fun e w' => e = .returned (.tuple #[.agg #[.int .i64 (takeR A).1, .int .i64 (takeR A).2.1], .bool (takeR A).2.2]) ∧ ∃ ks', ArAt w' p (takeA A) ks' ∧ Keep ks w w' ∧ Grew w ks ks' := by
  obtain ⟨v, C, h1, h2, rfl⟩ := h
  by_cases hf : C.away = C.room
  · have hfl : A.fl = [] ∧ A.sl.length = A.room := h2.inv.full.1 (by rw [← h2.away, ← h2.room]; exact hf)
    have htr : takeR A = (0, 0, false) := by simp [takeR, hfl]
    have hta : takeA A = A := by simp [takeA, hfl]
    rw [htr, hta]
    refine (take_full w p v C h1 hf).mono ?_
    rintro e w' ⟨rfl, hb⟩
    exact ⟨rfl, _, ⟨v, C, h1.keep (Keep.ofBelow hb []) (fun _ _ => by simp), h2, rfl⟩, Keep.ofBelow hb _, Grew.refl _ _⟩
  · obtain ⟨k1, k2, k3, k4, k5⟩ := h2.pick hf
    have hl := h2.inv.lenA_bd
    have hrb := h2.inv.roomB
    have hg : 1 ≤ (takeR A).2.1 ∧ (takeR A).2.1 ≤ A.t + 1 := by
      unfold takeR at k4 ⊢
      cases hfl : A.fl with
      | nil =>
        simp only [hfl] at k4 ⊢
        split at k4
        · cases k4
        · rename_i hne; rw [if_neg hne]; exact ⟨by simp, by simp; omega⟩
      | cons i r =>
        obtain ⟨g, hg⟩ := h2.inv.head hfl
        have := h2.inv.gen _ (List.mem_of_getElem? hg)
        simp only [genA_of hg]
        simp at this
        omega
    refine (take_any w p v C h1 k1 hf (by rw [h2.away]; omega) (by rw [h2.away]; omega) (by rw [k3]; omega) (by rw [k3]; omega)).mono ?_
    rintro e w' ⟨rfl, v', h3, h4, h5⟩
    rw [k2, k3, k4]
    exact ⟨rfl, _, ⟨v', _, h3, k5, rfl⟩, h4, h5⟩

theorem aLive (w : World) (p : Nat) (A : Ab) (ks : List Nat) (s g : Int) (h : ArAt w p A ks) :
    Calls Try.prog 13 #[.pointer (some ⟨p, 0, none⟩), .agg #[.int .i64 s, .int .i64 g]] w fun e w' => e = .returned (.bool (liveA A s g)) ∧ Below w.heap.size w w' := by
  obtain ⟨v, C, h1, h2, rfl⟩ := h
  rw [← h2.live]
  exact live_any s g w p v C h1

theorem aLen (w : World) (p : Nat) (A : Ab) (ks : List Nat) (h : ArAt w p A ks) :
    Calls Try.prog 15 #[.pointer (some ⟨p, 0, none⟩)] w fun e w' => e = .returned (.int .i64 (lenA A)) ∧ w = w' := by
  obtain ⟨v, C, h1, h2, rfl⟩ := h
  rw [← h2.away]
  exact len_any w p v C h1

theorem aGive_no (w : World) (p : Nat) (A : Ab) (ks : List Nat) (s g : Int) (h : ArAt w p A ks) (hl : liveA A s g = false) :
    Calls Try.prog 11 #[.pointer (some ⟨p, 0, none⟩), .agg #[.int .i64 s, .int .i64 g]] w fun e w' => e = .returned (.bool false) ∧ Below w.heap.size w w' := by
  obtain ⟨v, C, h1, h2, rfl⟩ := h
  exact give_no s g w p v C h1 (by rw [h2.live]; exact hl)

theorem aGive_yes (w : World) (p : Nat) (A : Ab) (ks : List Nat) (i : Nat) (g : Int) (h : ArAt w p A ks) (hl : A.sl[i]? = some (g, true)) :
    Calls Try.prog 11 #[.pointer (some ⟨p, 0, none⟩), .agg #[.int .i64 (i : Int), .int .i64 g]] w fun e w' => e = .returned (.bool true) ∧ ArAt w' p (giveA A i) ks ∧ Keep ks w w' := by
  obtain ⟨v, C, h1, h2, rfl⟩ := h
  obtain ⟨sn, h3, h4⟩ := h2.give hl
  have hb := h2.inv.lenA_bd
  have hrb := h2.inv.roomB
  refine (give_core i g w p v C sn h1 (by rw [h2.live, liveA_nat]; exact hl) h3 (by rw [h2.away]; omega) (by rw [h2.away]; omega)).mono ?_
  rintro e w' ⟨rfl, h5, h6⟩
  exact ⟨rfl, ⟨v, _, h5, h4, rfl⟩, h6⟩

/-- What Give leaves. -/
def giveZ (A : Ab) (s g : Int) : Ab := if liveA A s g = true then giveA A s.toNat else A

theorem aGive (w : World) (p : Nat) (A : Ab) (ks : List Nat) (s g : Int) (h : ArAt w p A ks) :
    Calls Try.prog 11 #[.pointer (some ⟨p, 0, none⟩), .agg #[.int .i64 s, .int .i64 g]] w fun e w' => e = .returned (.bool (liveA A s g)) ∧ ArAt w' p (giveZ A s g) ks ∧ Keep ks w w' := by
  cases hl : liveA A s g with
  | false =>
    refine (aGive_no w p A ks s g h hl).mono ?_
    rintro e w' ⟨rfl, hb⟩
    exact ⟨rfl, by simpa [giveZ, hl] using h.below hb, Keep.ofBelow hb _⟩
  | true =>
    obtain ⟨i, rfl, hi⟩ := liveA_true hl
    refine (aGive_yes w p A ks i g h hi).mono ?_
    rintro e w' ⟨rfl, h1, h2⟩
    exact ⟨rfl, by simpa [giveZ, hl] using h1, h2⟩
end Go.Proofs.Ytnjnpcimnnmknaa
