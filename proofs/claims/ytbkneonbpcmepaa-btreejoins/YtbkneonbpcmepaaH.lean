/- One pool of a law's own, beside blocks that it does not touch; the document's examples. -/
import Derived.Test.YtbkneonbpcmepaaG2
namespace Go.Proofs.Ytbkneonbpcmepaa
open Go.RowKit Go.Arb
set_option linter.unusedVariables false
set_option linter.unusedSimpArgs false

structure Ob (w W : World) (p : Nat) (T : Se) (js : List Nat) : Prop where
  bel : Below w.heap.size w W
  ex : ∃ ks, At W p T ks ∧ (∀ k ∈ ks, w.heap.size ≤ k) ∧ ∀ j ∈ js, j ∉ ks
  jl : ∀ j ∈ js, j < W.heap.size
def Kept (js : List Nat) (W W' : World) : Prop := ∀ j ∈ js, W'.heap[j]? = W.heap[j]?

section
variable {w W W' : World} {p : Nat} {T T' : Se} {js : List Nat}
theorem Kept.refl (js : List Nat) (W : World) : Kept js W W := fun _ _ => rfl
theorem Kept.trans {W'' : World} (h : Kept js W W') (k : Kept js W' W'') : Kept js W W'' := fun j hj => (k j hj).trans (h j hj)
theorem Ob.nd (h : Ob w W p T js) : T.L.flatten.Nodup := by obtain ⟨ks, h1, _⟩ := h.ex; exact h1.nd
theorem Ob.fit (h : Ob w W p T js) : ∀ v ∈ T.L.flatten, -1099511627776 ≤ T.W v ∧ T.W v ≤ 1099511627776 := by obtain ⟨ks, h1, _⟩ := h.ex; exact h1.fit
theorem Ob.call {f : Nat} {args : Array Value} {r : Value} (h : Ob w W p T js)
    (hc : ∀ ks, At W p T ks → Calls Try.prog f args W fun e W' => e = .returned r ∧ ∃ ks', At W' p T' ks' ∧ Keep ks W W' ∧ Grew W ks ks') :
    Calls Try.prog f args W fun e W' => e = .returned r ∧ Ob w W' p T' js ∧ Kept js W W' := by
  obtain ⟨ks, h1, h2, h3⟩ := h.ex
  refine (hc ks h1).mono ?_
  rintro e W' ⟨rfl, ks', q1, q2, q3⟩
  refine ⟨rfl, ⟨q2.below h.bel h.bel.size h2, ⟨ks', q1, ge_grew h2 h.bel.size q3, fun j hj hm => ?_⟩, fun j hj => Nat.lt_of_lt_of_le (h.jl j hj) q2.size⟩, fun j hj => q2.block j (h.jl j hj) (h3 j hj)⟩
  rcases q3 j hm with h4 | h4
  · exact h3 j hj h4
  · have := h.jl j hj; omega
theorem Ob.below (h : Ob w W p T js) (hb : Below W.heap.size W W') : Ob w W' p T js ∧ Kept js W W' := by
  obtain ⟨ks, h1, h2, h3⟩ := h.ex
  exact ⟨⟨h.bel.trans (hb.mono h.bel.size), ⟨ks, h1.below hb, h2, h3⟩, fun j hj => Nat.lt_of_lt_of_le (h.jl j hj) hb.size⟩, fun j hj => hb.block j (h.jl j hj)⟩
theorem Ob.alloc (h : Ob w W p T js) (o : Obj) : Ob w (W.alloc o) p T js := (h.below ((Below.refl _ _).alloc (Nat.le_refl _) o)).1
theorem kept_alloc (h : Ob w W p T js) (o : Obj) : Kept js W (W.alloc o) := (h.below ((Below.refl _ _).alloc (Nat.le_refl _) o)).2
theorem Ob.drewN (h : Ob w W p T js) (m : Nat) : Ob w (W.drewN m) p T js := (h.below (below_drewN (Below.refl _ _) m)).1
theorem Ob.drew (h : Ob w W p T js) : Ob w W.drew p T js := (h.below (Below.refl _ _).drew).1
/-- A block that is laid now stands beside. -/
theorem Ob.push (h : Ob w W p T js) (o : Obj) : Ob w (W.alloc o) p T (W.heap.size :: js) := by
  have h' := h.alloc o
  obtain ⟨ks, h1, h2, h3⟩ := h.ex
  have hb := (Below.refl W.heap.size W).alloc (Nat.le_refl _) o
  refine ⟨h'.bel, ⟨ks, h1.below hb, h2, fun j hj => ?_⟩, fun j hj => ?_⟩
  · rcases List.mem_cons.1 hj with rfl | hj
    · exact fun hm => by have := h1.lt _ hm; omega
    · exact h3 j hj
  · rcases List.mem_cons.1 hj with rfl | hj
    · simp
    · exact h'.jl j hj
theorem Ob.less {is : List Nat} (h : Ob w W p T js) (hs : ∀ j ∈ is, j ∈ js) : Ob w W p T is := by
  obtain ⟨ks, h1, h2, h3⟩ := h.ex
  exact ⟨h.bel, ⟨ks, h1, h2, fun j hj => h3 j (hs j hj)⟩, fun j hj => h.jl j (hs j hj)⟩
/-- A store into one that stands beside. -/
theorem Ob.store (h : Ob w W p T js) {b : Nat} (hb : b ∈ js) (hw : w.heap.size ≤ b) (o : Nat) (u : Value) : Ob w (W.setCell ⟨b, o, none⟩ u) p T js := by
  obtain ⟨ks, h1, h2, h3⟩ := h.ex
  exact ⟨h.bel.setCell (p := ⟨b, o, none⟩) hw u, ⟨ks, h1.keep (keep_cell _ _ _ _) (off_one (h3 b hb)), h2, h3⟩, fun j hj => by simpa [World.setCell] using h.jl j hj⟩
theorem oNew (n : Nat) (W : World) (hb : Below w.heap.size w W) (hj : ∀ j ∈ js, j < W.heap.size) (h1 : n ≤ 4194304) :
    Calls Try.prog 11 #[.int .i64 (n : Int)] W fun e W' => ∃ p, e = .returned (.pointer (some ⟨p, 0, none⟩)) ∧ Ob w W' p (Se.new n) js ∧ Kept js W W' := by
  refine (aNew n W h1).mono ?_
  rintro e W' ⟨p, ks, rfl, q1, q2, q3⟩
  refine ⟨p, rfl, ⟨hb.trans (q2.mono hb.size), ⟨ks, q1, fun k hk => Nat.le_trans hb.size (q3 k hk), fun j h1 h2 => ?_⟩, fun j h1 => Nat.lt_of_lt_of_le (hj j h1) q2.size⟩, fun j h1 => q2.block j (hj j h1)⟩
  have := hj j h1
  have := q3 j h2
  omega
theorem SumAt.kept {b : Nat} {x : Sm} (h : SumAt W b x) (hk : Kept js W W') (hb : b ∈ js) : SumAt W' b x := by
  have e := hk b hb
  have c : ∀ o, W'.cell? ⟨b, o, none⟩ = W.cell? ⟨b, o, none⟩ := fun o => World.cell?_of_block (w := W) (a := ⟨b, o, none⟩) e
  have f : ∀ o, W'.frozen? ⟨b, o, none⟩ = W.frozen? ⟨b, o, none⟩ := fun o => World.frozen?_of_block (w := W) (a := ⟨b, o, none⟩) e
  simpa only [SumAt, c, f] using h
theorem SumAt.new (W : World) (t : TypeId) (c s a b : Int) : SumAt (W.alloc (.cells #[.int .i64 c, .int .i64 s, .int .i64 a, .int .i64 b] t)) W.heap.size ⟨c, s, a, b⟩ := by simp [SumAt, go_sem]
end

/-- A block that stands beside, whole. -/
def BoxAt (W : World) (b : Nat) (cs : Array Value) (t : TypeId) : Prop := W.heap[b]? = some (.cells cs t)
theorem BoxAt.kept {W W' : World} {js : List Nat} {b : Nat} {cs : Array Value} {t : TypeId} (h : BoxAt W b cs t) (hk : Kept js W W') (hb : b ∈ js) : BoxAt W' b cs t := (hk b hb).trans h
theorem BoxAt.cell {W : World} {b : Nat} {cs : Array Value} {t : TypeId} (h : BoxAt W b cs t) {o : Nat} {v : Value} (hv : cs[o]? = some v) : W.cell? ⟨b, o, none⟩ = some v ∧ W.frozen? ⟨b, o, none⟩ = false := by
  unfold BoxAt at h
  simp [World.cell?, World.frozen?, h, hv]
theorem BoxAt.new (W : World) (cs : Array Value) (t : TypeId) : BoxAt (W.alloc (.cells cs t)) W.heap.size cs t := heap_alloc_new W _

section
variable (c s a b : Int)
theorem fl0 : ∀ w : World, (Instr.field 33 (.agg #[.int .i64 c, .int .i64 s, .int .i64 a, .int .i64 b]) 0).run Try.prog w = .ok (.int .i64 c) w := fun _ => by kernel_rfl
theorem fl1 : ∀ w : World, (Instr.field 33 (.agg #[.int .i64 c, .int .i64 s, .int .i64 a, .int .i64 b]) 1).run Try.prog w = .ok (.int .i64 s) w := fun _ => by kernel_rfl
theorem fl2 : ∀ w : World, (Instr.field 33 (.agg #[.int .i64 c, .int .i64 s, .int .i64 a, .int .i64 b]) 2).run Try.prog w = .ok (.int .i64 a) w := fun _ => by kernel_rfl
theorem fl3 : ∀ w : World, (Instr.field 33 (.agg #[.int .i64 c, .int .i64 s, .int .i64 a, .int .i64 b]) 3).run Try.prog w = .ok (.int .i64 b) w := fun _ => by kernel_rfl
end
abbrev aw1 : Se := (Se.new 3).addA 0 5
abbrev aw2 : Se := aw1.addA 1 7
abbrev aw3 : Se := aw2.addA 2 (-1)
abbrev aw4 : Se := aw3.joinA 0 1
abbrev aw5 : Se := aw4.joinA 0 2
abbrev aw6 : Se := aw5.liftA 1 2 10
abbrev aw7 : Se := aw6.beforeA 1
theorem aw_range : aw5.rangeI 0 2 = ⟨3, 11, -1, 7⟩ := Sm.same (by decide) (by decide) (by decide) (by decide)
theorem aw_no : aw5.joinA 1 2 = aw5 := by rw [Se.joinA, show aw5.joinB 1 2 = false by decide]; rfl

set_option maxRecDepth 100000 in
set_option maxHeartbeats 4000000 in
theorem awake_any (w : World) : Calls Try.prog 42 #[] w fun e w' => e = .returned (.bool true) ∧ Below w.heap.size w w' := by
  have f1 : (Se.new 3).addOk 0 5 = true := by decide
  have f2 : aw1.addOk 1 7 = true := by decide
  have f3 : aw2.addOk 2 (-1) = true := by decide
  have f4 : aw3.joinB 0 1 = true := by decide
  have f5 : aw4.joinB 0 2 = true := by decide
  have f6 : aw5.joinB 1 2 = false := by decide
  have f7 : aw5.okR 0 2 = true := by decide
  have f8 : aw5.liftB 1 2 10 = true := by decide
  have f9 : aw6.beforeB 1 = true := by decide
  have f10 : aw7.sameI 0 1 = false := by decide
  have f11 : aw7.rankI 2 = 1 := by decide
  have f12 : aw7.atI 1 1 = 2 := by decide
  have f13 : aw7.getI 2 = 9 := by decide
  have f14 : aw7.hasI 2 = true := by decide
  have f15 : aw7.lenI 1 = 2 := by decide
  obtain ⟨xa, xb, f16⟩ : ∃ x y, aw7.allI 1 = ⟨2, 26, x, y⟩ := ⟨(aw7.allI 1).a, (aw7.allI 1).b, Sm.same (by decide) (by decide) rfl rfl⟩
  go_enter Try.func42, Try.ntmps42
  go_wp2_with fail
  refine (oNew (js := []) 3 w (Below.refl _ _) (by simp) (by decide)).mono ?_
  rintro e W0 ⟨p, rfl, h, _⟩
  have H0 := hide h
  clear h
  go_wp2_with fail
  refine ((unhide H0).call fun _ ha => aAdd _ _ ha).mono ?_
  rw [f1]
  rintro e W1 ⟨rfl, h, k⟩
  have H1 := hide h
  clear h k H0
  go_wp2_with fail
  refine ((unhide H1).call fun _ ha => aAdd _ _ ha).mono ?_
  rw [f2]
  rintro e W2 ⟨rfl, h, k⟩
  have H2 := hide h
  clear h k H1
  go_wp2_with fail
  refine ((unhide H2).call fun _ ha => aAdd _ _ ha).mono ?_
  rw [f3]
  rintro e W3 ⟨rfl, h, k⟩
  have H3 := hide h
  clear h k H2
  go_wp2_with fail
  refine ((unhide H3).call fun _ ha => aJoin _ _ ha).mono ?_
  rw [f4]
  rintro e W4 ⟨rfl, h, k⟩
  have H4 := hide h
  clear h k H3
  go_wp2_with fail
  refine ((unhide H4).call fun _ ha => aJoin _ _ ha).mono ?_
  rw [f5]
  rintro e W5 ⟨rfl, h, k⟩
  have H5 := hide h
  clear h k H4
  go_wp2_with fail
  refine ((unhide H5).call fun _ ha => aJoin _ _ ha).mono ?_
  rw [f6]
  rintro e W6 ⟨rfl, h, k⟩
  have H6 := hide h
  clear h k H5
  go_wp2_with fail
  refine ((unhide H6).call fun _ ha => aRange _ _ ha).mono ?_
  rw [aw_no, aw_range, f7]
  unfold smV
  dsimp only
  rintro e W7 ⟨rfl, h, k⟩
  have H7 := hide h
  clear h k H6
  have S1 := hide (SumAt.new W7 33 3 11 (-1) 7)
  replace H7 := hide ((unhide H7).push (.cells #[.int .i64 3, .int .i64 11, .int .i64 (-1), .int .i64 7] 33))
  go_wp2_with fail
  generalize W7.alloc (.cells #[.int .i64 3, .int .i64 11, .int .i64 (-1), .int .i64 7] 33) = WW7 at *
  generalize W7.heap.size = b at *
  refine ((unhide H7).call fun _ ha => aLift _ _ _ ha).mono ?_
  rw [f8]
  rintro e W8 ⟨rfl, h, k⟩
  have H8 := hide h
  replace S1 := hide ((unhide S1).kept k (by simp))
  clear h k H7
  go_wp2_with fail
  refine ((unhide H8).call fun _ ha => aBefore _ ha).mono ?_
  rw [f9]
  rintro e W9 ⟨rfl, h, k⟩
  have H9 := hide h
  replace S1 := hide ((unhide S1).kept k (by simp))
  clear h k H8
  go_wp2_with fail
  refine ((unhide H9).call fun _ ha => aSame _ _ ha).mono ?_
  rw [f10]
  rintro e W10 ⟨rfl, h, k⟩
  have H10 := hide h
  replace S1 := hide ((unhide S1).kept k (by simp))
  clear h k H9
  go_wp2_with fail
  refine ((unhide H10).call fun _ ha => aRank _ ha).mono ?_
  rw [f11]
  rintro e W11 ⟨rfl, h, k⟩
  have H11 := hide h
  replace S1 := hide ((unhide S1).kept k (by simp))
  clear h k H10
  go_wp2_with fail
  refine ((unhide H11).call fun _ ha => aAt _ _ ha).mono ?_
  rw [f12]
  rintro e W12 ⟨rfl, h, k⟩
  have H12 := hide h
  replace S1 := hide ((unhide S1).kept k (by simp))
  clear h k H11
  go_wp2_with fail
  refine ((unhide H12).call fun _ ha => aGet _ ha).mono ?_
  rw [f13, f14]
  rintro e W13 ⟨rfl, h, k⟩
  have H13 := hide h
  replace S1 := hide ((unhide S1).kept k (by simp))
  clear h k H12
  obtain ⟨⟨q0, q1, q2, q3⟩, _⟩ := unhide S1
  dsimp only at q0 q1 q2 q3
  clear S1
  go_wp2_with fail
  refine ((unhide H13).call fun _ ha => aLen _ ha).mono ?_
  rw [f15]
  rintro e W14 ⟨rfl, h, k⟩
  have H14 := hide h
  clear h k H13
  clear q0 q1 q2 q3
  go_wp2_with fail
  refine ((unhide H14).call fun _ ha => aAll _ ha).mono ?_
  rw [f16]
  unfold smV
  dsimp only
  rintro e W15 ⟨rfl, h, k⟩
  have H15 := hide h
  clear h k H14
  have FL := fl1 2 26 xa xb
  go_wp2_with fail
  refine ((unhide H15).call fun _ ha => aCheck ha).mono ?_
  rintro e W16 ⟨rfl, h, k⟩
  have H16 := hide h
  clear h k H15
  go_wp2
  go_ret
  exact ⟨rfl, (unhide H16).bel⟩
end Go.Proofs.Ytbkneonbpcmepaa
