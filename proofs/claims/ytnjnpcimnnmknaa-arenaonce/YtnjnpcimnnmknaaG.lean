/- The document's arena holds what the plain slots are. -/
import Derived.Test.YtnjnpcimnnmknaaE4
import Derived.Test.YtnjnpcimnnmknaaD
namespace Go.Proofs.Ytnjnpcimnnmknaa
open Go.RowKit Go.Arb

def nat2 (l : List Nat) : List Int := l.map fun (i : Nat) => (i : Int)

structure RAbs (R : Rs) (A : Ab) : Prop where
  gen : R.gen = A.sl.map (·.1) ++ List.replicate (A.room - A.sl.length) 0
  busy : R.busy = A.sl.map (·.2) ++ List.replicate (A.room - A.sl.length) false
  free : R.free = nat2 A.fl.reverse
  next : R.next = A.sl.length
  inv : Inv A

theorem RAbs.glen {R : Rs} {A : Ab} (h : RAbs R A) : R.gen.length = A.room := by have := h.inv.lenr; rw [h.gen]; simp; omega
theorem RAbs.blen {R : Rs} {A : Ab} (h : RAbs R A) : R.busy.length = A.room := by have := h.inv.lenr; rw [h.busy]; simp; omega
theorem RAbs.flen {R : Rs} {A : Ab} (h : RAbs R A) : R.free.length = A.fl.length := by rw [h.free]; simp [nat2]
theorem RAbs.get {R : Rs} {A : Ab} (h : RAbs R A) {i : Nat} {g : Int} {b : Bool} (hi : A.sl[i]? = some (g, b)) : R.gen[i]? = some g ∧ R.busy[i]? = some b := by
  have hlt := lt_of_get hi
  rw [h.gen, h.busy, List.getElem?_append_left (by simpa using hlt), List.getElem?_append_left (by simpa using hlt)]
  simp [hi]
theorem RAbs.over {R : Rs} {A : Ab} (h : RAbs R A) {i : Nat} (h1 : A.sl.length ≤ i) (h2 : i < A.room) : R.gen[i]? = some 0 ∧ R.busy[i]? = some false := by
  rw [h.gen, h.busy, List.getElem?_append_right (by simpa using h1), List.getElem?_append_right (by simpa using h1)]
  simp [List.getElem?_replicate]; omega

/-- The arena at block q holds A; it lies in ks. -/
def RfAt (w : World) (q : Nat) (A : Ab) (ks : List Nat) : Prop := ∃ vg vb vf R, RsIn w q vg vb vf R ∧ RAbs R A ∧ ks = rfp q vg vb vf

theorem RfAt.inv {w : World} {q : Nat} {A : Ab} {ks : List Nat} (h : RfAt w q A ks) : Inv A := by obtain ⟨vg, vb, vf, R, _, h2, _⟩ := h; exact h2.inv
theorem RfAt.lt {w : World} {q : Nat} {A : Ab} {ks : List Nat} (h : RfAt w q A ks) : ∀ k ∈ ks, k < w.heap.size := by obtain ⟨vg, vb, vf, R, h1, _, rfl⟩ := h; exact h1.lt
theorem RfAt.keep {w w' : World} {q : Nat} {A : Ab} {ks js : List Nat} (h : RfAt w q A ks) (hk : Keep js w w') (ho : Off ks js) : RfAt w' q A ks := by
  obtain ⟨vg, vb, vf, R, h1, h2, rfl⟩ := h
  exact ⟨vg, vb, vf, R, h1.keep hk ho, h2, rfl⟩
theorem RfAt.below {w w' : World} {q : Nat} {A : Ab} {ks : List Nat} (h : RfAt w q A ks) (hb : Below w.heap.size w w') : RfAt w' q A ks := h.keep (Keep.ofBelow hb []) (fun _ _ => by simp)

theorem rNew (n : Nat) (w : World) (h1 : n ≤ 1048576) :
    Calls Try.prog 8 #[.int .i64 (n : Int)] w fun e w' => e = .returned (.pointer (some ⟨w.heap.size + 1 + 1, 0, none⟩)) ∧ (∃ ks, RfAt w' (w.heap.size + 1 + 1) (newA n) ks ∧ ∀ k ∈ ks, w.heap.size ≤ k) ∧ Below w.heap.size w w' := by
  refine (rnew_any n w h1).mono ?_
  rintro e w' ⟨rfl, ks, ⟨vg, vb, h2, rfl⟩, h3, h4⟩
  exact ⟨rfl, ⟨_, ⟨vg, vb, _, _, h2, ⟨by simp [newA], by simp [newA], by simp [newA, nat2], by simp [newA], inv_new n h1⟩, rfl⟩, h4⟩, h3⟩

theorem rLive (w : World) (q : Nat) (A : Ab) (ks : List Nat) (s g : Int) (h : RfAt w q A ks) :
    Calls Try.prog 14 #[.pointer (some ⟨q, 0, none⟩), .agg #[.int .i64 s, .int .i64 g]] w fun e w' => e = .returned (.bool (liveA A s g)) ∧ Below w.heap.size w w' := by
  obtain ⟨vg, vb, vf, R, h1, h2, rfl⟩ := h
  by_cases h0 : s < 0
  · rw [show liveA A s g = false from by simp [liveA]; omega]
    exact rlive_neg s g w q h0
  · obtain ⟨i, rfl⟩ := Int.eq_ofNat_of_zero_le (by omega : 0 ≤ s)
    cases hi : A.sl[i]? with
    | none =>
      have hl : liveA A i g = false := by simp [liveA, hi]
      have hge : A.sl.length ≤ i := List.getElem?_eq_none_iff.1 hi
      rw [hl]
      by_cases hr : i < A.room
      · exact rlive_off i g w q vg vb vf R h1 (by rw [h2.glen]; exact hr) (h2.over hge hr).2
      · exact rlive_over i g w q vg vb vf R h1 (by rw [h2.glen]; omega)
    | some x =>
      obtain ⟨a, b⟩ := x
      have hl : liveA A i g = (b && a == g) := by simp [liveA, hi]
      rw [hl]
      have hg := h2.get hi
      cases b with
      | true => exact rlive_on i g a w q vg vb vf R h1 hg.1 hg.2
      | false => exact rlive_off i g w q vg vb vf R h1 (lt_of_get hg.1) hg.2

theorem rLen (w : World) (q : Nat) (A : Ab) (ks : List Nat) (h : RfAt w q A ks) :
    Calls Try.prog 16 #[.pointer (some ⟨q, 0, none⟩)] w fun e w' => e = .returned (.int .i64 (lenA A)) ∧ ∃ n, w' = w.drewN n := by
  obtain ⟨vg, vb, vf, R, h1, h2, rfl⟩ := h
  have hi := h2.inv
  have := hi.cnt; have := hi.lenr; have := hi.roomB
  rw [show lenA A = R.next - (R.free.length : Int) from by rw [h2.next, h2.flen]; rfl]
  exact rlen_any w q vg vb vf R h1 (by rw [h2.next]; omega) (by rw [h2.next]; omega) (by rw [h2.flen]; omega)

theorem rGive (w : World) (q : Nat) (A : Ab) (ks : List Nat) (s g : Int) (h : RfAt w q A ks) :
    Calls Try.prog 12 #[.pointer (some ⟨q, 0, none⟩), .agg #[.int .i64 s, .int .i64 g]] w fun e w' => e = .returned (.bool (liveA A s g)) ∧ ∃ ks', RfAt w' q (giveZ A s g) ks' ∧ Keep ks w w' ∧ Grew w ks ks' := by
  cases hl : liveA A s g with
  | false =>
    refine (rgive_no s g w q (fun W hW => ?_)).mono ?_
    · rw [← hl]; exact rLive W q A ks s g (h.keep hW (fun _ _ => by simp))
    · rintro e w' ⟨rfl, hb⟩
      exact ⟨rfl, ks, by simpa [giveZ, hl] using h.below hb, Keep.ofBelow hb _, Grew.refl _ _⟩
  | true =>
    obtain ⟨i, rfl, hi⟩ := liveA_true hl
    obtain ⟨vg, vb, vf, R, h1, h2, rfl⟩ := h
    have hg := h2.get hi
    have hin := h2.inv
    have := hin.cnt; have := hin.lenr; have := hin.roomB
    refine (rgive_yes i g w q vg vb vf R h1 hg.1 hg.2 (by rw [h2.flen]; omega)).mono ?_
    rintro e w' ⟨rfl, vf', h3, h4, h5⟩
    refine ⟨rfl, _, ⟨vg, vb, vf', _, h3, ?_, rfl⟩, h4, h5⟩
    have hgz : giveZ A i g = giveA A i := by simp [giveZ, hl]
    have hlt := lt_of_get hi
    rw [hgz]
    refine ⟨?_, ?_, ?_, ?_, inv_give hin hi⟩
    · simp only [giveA, genA_of hi, List.length_set]
      rw [h2.gen, List.map_set]
      congr 1
      apply List.ext_getElem?
      intro j
      rw [List.getElem?_set]
      split
      · rename_i hij; subst hij; simp [hlt, (List.getElem?_eq_some_iff.1 hi).2]
      · rfl
    · simp only [giveA, genA_of hi, List.length_set]
      rw [h2.busy, List.map_set, List.set_append_left _ _ (by simpa using hlt)]
    · simp only [giveA]; rw [h2.free]; simp [nat2]
    · simp only [giveA, List.length_set]; exact h2.next

theorem rTake (w : World) (q : Nat) (A : Ab) (ks : List Nat) (h : RfAt w q A ks) (ht : A.t ≤ 1000000) :
    Calls Try.prog 10 #[.pointer (some ⟨q, 0, none⟩)] w fun e w' => e = .returned (.tuple #[.agg #[.int .i64 (takeR A).1, .int .i64 (takeR A).2.1], .bool (takeR A).2.2]) ∧ ∃ ks', RfAt w' q (takeA A) ks' ∧ Keep ks w w' ∧ Grew w ks ks' := by
  have h' := h
  obtain ⟨vg, vb, vf, R, h1, h2, rfl⟩ := h
  have hin := h2.inv
  have hit := inv_take hin
  have hc := hin.cnt; have hlr := hin.lenr; have hrb := hin.roomB
  cases hfl : A.fl with
  | nil =>
    have hfr : R.free = [] := by rw [h2.free, hfl]; rfl
    by_cases hfull : A.sl.length = A.room
    · have htr : takeR A = (0, 0, false) := by simp [takeR, hfl, hfull]
      have hta : takeA A = A := by simp [takeA, hfl, hfull]
      rw [htr, hta]
      refine (rtake_full w q vg vb vf R h1 hfr (by rw [h2.next, h2.glen, hfull])).mono ?_
      rintro e w' ⟨rfl, hb⟩
      exact ⟨rfl, _, h'.below hb, Keep.ofBelow hb _, Grew.refl _ _⟩
    · have htr : takeR A = ((A.sl.length : Int), 1, true) := by simp [takeR, hfl, hfull]
      have hta : takeA A = { A with sl := A.sl ++ [(1, true)], t := A.t + 1 } := by simp [takeA, hfl, hfull]
      have ho := h2.over (i := A.sl.length) (Nat.le_refl _) (by omega)
      rw [htr]
      refine (rtake_new w q vg vb vf R A.sl.length 0 false h1 hfr h2.next ho.1 ho.2 (by omega) (by omega) (by omega)).mono ?_
      rintro e w' ⟨rfl, h3, h4⟩
      refine ⟨rfl, _, ⟨vg, vb, vf, _, h3, ?_, rfl⟩, h4, Grew.refl _ _⟩
      have hrep : A.room - A.sl.length = (A.room - (A.sl.length + 1)) + 1 := by omega
      refine ⟨?_, ?_, ?_, ?_, hit⟩
      · rw [hta]; simp only [h2.gen]
        rw [hrep, List.replicate_succ, List.set_append_right _ _ (by simp)]
        simp
      · rw [hta]; simp only [h2.busy]
        rw [hrep, List.replicate_succ, List.set_append_right _ _ (by simp)]
        simp
      · rw [hta]; simpa using h2.free
      · rw [hta]; simp
  | cons i r =>
    obtain ⟨g, hg⟩ := hin.head hfl
    have hlt := lt_of_get hg
    have hgen := hin.gen _ (List.mem_of_getElem? hg)
    simp at hgen
    have htr : takeR A = ((i : Int), g + 1, true) := by simp [takeR, hfl, genA_of hg]
    have hta : takeA A = { A with sl := A.sl.set i (g + 1, true), fl := r, t := A.t + 1 } := by simp [takeA, hfl, genA_of hg]
    have hgg := h2.get hg
    rw [htr]
    refine (rtake_old w q vg vb vf R (nat2 r.reverse) i g false h1 (by rw [h2.free, hfl]; simp [nat2]) hgg.1 hgg.2 (by omega) (by omega) (by omega)).mono ?_
    rintro e w' ⟨rfl, vf', h3, h4, h5⟩
    refine ⟨rfl, _, ⟨vg, vb, vf', _, h3, ?_, rfl⟩, h5, ?_⟩
    · refine ⟨?_, ?_, ?_, ?_, hit⟩
      · rw [hta]; simp only [h2.gen, List.length_set]
        rw [List.map_set, List.set_append_left _ _ (by simpa using hlt)]
      · rw [hta]; simp only [h2.busy, List.length_set]
        rw [List.map_set, List.set_append_left _ _ (by simpa using hlt)]
      · rw [hta]
      · rw [hta]; simp only [List.length_set]; exact h2.next
    · intro k hk; left; simpa [rfp, h4] using hk
end Go.Proofs.Ytnjnpcimnnmknaa
