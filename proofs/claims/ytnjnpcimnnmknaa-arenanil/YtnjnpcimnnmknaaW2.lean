import Derived.Test.YtnjnpcimnnmknaaW
namespace Go.Proofs.Ytnjnpcimnnmknaa
open Go.RowKit Go.Arb

/-- Two handles of the call's own. -/
structure Nl (w W : World) (a b : Nat) (s g : Int) : Prop where
  bel : Below w.heap.size w W
  ha : HdAt W a s g
  hb : HdAt W b 0 0
theorem Nl.below {w W W' : World} {a b : Nat} {s g : Int} (h : Nl w W a b s g) (hb : Below W.heap.size W W') : Nl w W' a b s g :=
  ⟨h.bel.trans (hb.mono h.bel.size), h.ha.keep (Keep.ofBelow hb []) (by simp), h.hb.keep (Keep.ofBelow hb []) (by simp)⟩

def NewPost (n : Int) (e : Ending) (w w' : World) : Prop := (∃ v, e = .returned (.pointer v) ∧ (v = none ↔ (n < 0 ∨ 1048576 < n))) ∧ Below w.heap.size w w'

set_option maxHeartbeats 2000000 in
theorem arenaNil_walk (n s g : Int) (w : World) : Calls Try.prog 5 #[.int .i64 n, .agg #[.int .i64 s, .int .i64 g]] w fun e w' => e = .returned (.bool true) ∧ Below w.heap.size w w' := by
  go_enter Try.func5, Try.ntmps5
  go_wp2_with fail
  refine (take_nil _).mono ?_
  rintro e w1 ⟨rfl, b1⟩
  have ha1 : HdAt w1 w.heap.size s g := HdAt.keep (heap_alloc_new w _) (Keep.ofBelow b1 []) (by simp)
  have hb1 : Below w.heap.size w w1 := ((Below.refl _ _).alloc (Nat.le_refl _) _).trans (b1.mono (by simp))
  have H2 : Nl w (w1.alloc (.cells #[.int .i64 0, .int .i64 0] 29)) w.heap.size w1.heap.size s g := ⟨hb1.alloc hb1.size _, ha1.keep ((Keep.refl [] _).alloc _) (by simp), heap_alloc_new w1 _⟩
  have H2' := hide H2
  clear H2 ha1 hb1 b1
  rcases Int.lt_or_le n 0 with h0 | h0
  · have d1 : decide (0 ≤ n) = false := by simp; omega
    go_wp2_with fail
    generalize w1.alloc (.cells #[.int .i64 0, .int .i64 0] 29) = W2 at *
    generalize w1.heap.size = B at *
    refine (awake_any _).mono ?_
    rintro e w3 ⟨rfl, b3⟩
    have H3 := (unhide H2').below b3
    have H3' := hide H3
    obtain ⟨ca0, ca1⟩ := H3.ha.cells
    obtain ⟨cb0, cb1⟩ := H3.hb.cells
    clear H2' b3 H3
    go_wp2_with fail
    refine (live_nil _ _ _).mono ?_
    rintro e w4 ⟨rfl, b4⟩
    have H4 := (unhide H3').below b4
    have H4' := hide H4
    clear ca0 ca1 cb0 cb1
    obtain ⟨ca0, ca1⟩ := H4.ha.cells
    clear H3' b4 H4
    go_wp2_with fail
    refine (give_nil _ _ _).mono ?_
    rintro e w5 ⟨rfl, b5⟩
    have H5 := (unhide H4').below b5
    have H5' := hide H5
    clear H4' b5 H5 ca0 ca1
    go_wp2_with fail
    refine (len_nil _).mono ?_
    rintro e w6 ⟨rfl, hw⟩
    subst hw
    go_wp2_with fail
    refine (new_no n _ (.inl h0)).mono ?_
    rintro e w7 ⟨rfl, hw⟩
    subst hw
    go_wp2_with fail
    go_ret
    exact ⟨rfl, (unhide H5').bel⟩
  · rcases Int.lt_or_le 1000 n with h1 | h1
    · have d1 : decide (n ≤ 1000) = false := by simp; omega
      rcases Int.lt_or_le 1048576 n with h2 | h2
      · have d2 : decide (n ≤ 1048576) = false := by simp; omega
        go_wp2_with fail
        generalize w1.alloc (.cells #[.int .i64 0, .int .i64 0] 29) = W2 at *
        generalize w1.heap.size = B at *
        refine (awake_any _).mono ?_
        rintro e w3 ⟨rfl, b3⟩
        have H3 := (unhide H2').below b3
        have H3' := hide H3
        obtain ⟨ca0, ca1⟩ := H3.ha.cells
        obtain ⟨cb0, cb1⟩ := H3.hb.cells
        clear H2' b3 H3
        go_wp2_with fail
        refine (live_nil _ _ _).mono ?_
        rintro e w4 ⟨rfl, b4⟩
        have H4 := (unhide H3').below b4
        have H4' := hide H4
        clear ca0 ca1 cb0 cb1
        obtain ⟨ca0, ca1⟩ := H4.ha.cells
        clear H3' b4 H4
        go_wp2_with fail
        refine (give_nil _ _ _).mono ?_
        rintro e w5 ⟨rfl, b5⟩
        have H5 := (unhide H4').below b5
        have H5' := hide H5
        clear H4' b5 H5 ca0 ca1
        go_wp2_with fail
        refine (len_nil _).mono ?_
        rintro e w6 ⟨rfl, hw⟩
        subst hw
        go_wp2_with fail
        refine (new_no n _ (.inr h2)).mono ?_
        rintro e w7 ⟨rfl, hw⟩
        subst hw
        go_wp2_with fail
        go_ret
        exact ⟨rfl, (unhide H5').bel⟩
      · go_wp2_with fail
        generalize w1.alloc (.cells #[.int .i64 0, .int .i64 0] 29) = W2 at *
        generalize w1.heap.size = B at *
        refine (awake_any _).mono ?_
        rintro e w3 ⟨rfl, b3⟩
        have H3 := (unhide H2').below b3
        have H3' := hide H3
        obtain ⟨ca0, ca1⟩ := H3.ha.cells
        obtain ⟨cb0, cb1⟩ := H3.hb.cells
        clear H2' b3 H3
        go_wp2_with fail
        refine (live_nil _ _ _).mono ?_
        rintro e w4 ⟨rfl, b4⟩
        have H4 := (unhide H3').below b4
        have H4' := hide H4
        clear ca0 ca1 cb0 cb1
        obtain ⟨ca0, ca1⟩ := H4.ha.cells
        clear H3' b4 H4
        go_wp2_with fail
        refine (give_nil _ _ _).mono ?_
        rintro e w5 ⟨rfl, b5⟩
        have H5 := (unhide H4').below b5
        have H5' := hide H5
        clear H4' b5 H5 ca0 ca1
        go_wp2_with fail
        refine (len_nil _).mono ?_
        rintro e w6 ⟨rfl, hw⟩
        subst hw
        go_wp2
        go_ret
        exact ⟨rfl, (unhide H5').bel⟩
    · go_wp2_with fail
      generalize w1.alloc (.cells #[.int .i64 0, .int .i64 0] 29) = W2 at *
      generalize w1.heap.size = B at *
      refine (awake_any _).mono ?_
      rintro e w3 ⟨rfl, b3⟩
      have H3 := (unhide H2').below b3
      have H3' := hide H3
      obtain ⟨ca0, ca1⟩ := H3.ha.cells
      obtain ⟨cb0, cb1⟩ := H3.hb.cells
      clear H2' b3 H3
      go_wp2_with fail
      refine (live_nil _ _ _).mono ?_
      rintro e w4 ⟨rfl, b4⟩
      have H4 := (unhide H3').below b4
      have H4' := hide H4
      clear ca0 ca1 cb0 cb1
      obtain ⟨ca0, ca1⟩ := H4.ha.cells
      clear H3' b4 H4
      go_wp2_with fail
      refine (give_nil _ _ _).mono ?_
      rintro e w5 ⟨rfl, b5⟩
      have H5 := (unhide H4').below b5
      have H5' := hide H5
      clear H4' b5 H5 ca0 ca1
      go_wp2_with fail
      refine (len_nil _).mono ?_
      rintro e w6 ⟨rfl, hw⟩
      subst hw
      go_wp2_with fail
      refine (new_any n _ h0 (by omega)).mono ?_
      rintro e w7 ⟨rfl, _, b7, _⟩
      have h2 : n ≤ 1048576 := by omega
      go_wp2
      go_ret
      exact ⟨rfl, (unhide H5').bel.trans (b7.mono (unhide H5').bel.size)⟩
end Go.Proofs.Ytnjnpcimnnmknaa
