/- One forest of a law's own, beside blocks that it does not touch. -/
import Derived.Test.YtbcibdofcjehcaaG
namespace Go.Proofs.Ytbcibdofcjehcaa
open Go.RowKit Go.Arb
set_option linter.unusedVariables false
set_option linter.unusedSimpArgs false

structure Ob (w W : World) (p : Nat) (T : Tr) (js : List Nat) : Prop where
  bel : Below w.heap.size w W
  ex : ∃ ks, At W p T ks ∧ (∀ k ∈ ks, w.heap.size ≤ k) ∧ ∀ j ∈ js, j ∉ ks
  jl : ∀ j ∈ js, j < W.heap.size
def Kept (js : List Nat) (W W' : World) : Prop := ∀ j ∈ js, W'.heap[j]? = W.heap[j]?

section
variable {w W W' : World} {p : Nat} {T T' : Tr} {js : List Nat}
theorem Kept.refl (js : List Nat) (W : World) : Kept js W W := fun _ _ => rfl
theorem Kept.trans {W'' : World} (h : Kept js W W') (k : Kept js W' W'') : Kept js W W'' := fun j hj => (k j hj).trans (h j hj)
theorem Ob.wf (h : Ob w W p T js) : T.Wf := by obtain ⟨ks, h1, _⟩ := h.ex; exact h1.wf
theorem Ob.fit (h : Ob w W p T js) : T.Fit := by obtain ⟨ks, h1, _⟩ := h.ex; exact h1.fit
theorem Ob.call {f : Nat} {args : Array Value} {r : Value} (h : Ob w W p T js)
    (hc : ∀ ks, At W p T ks → Calls Try.prog f args W fun e W' => e = .returned r ∧ ∃ ks', At W' p T' ks' ∧ Keep ks W W' ∧ Grew W ks ks') :
    Calls Try.prog f args W fun e W' => e = .returned r ∧ Ob w W' p T' js ∧ Kept js W W' := by
  obtain ⟨ks, h1, h2, h3⟩ := h.ex
  refine (hc ks h1).mono ?_
  rintro e W' ⟨rfl, ks', q1, q2, q3⟩
  refine ⟨rfl, ⟨q2.below h.bel h.bel.size h2, ⟨ks', q1, ge_grew h2 h.bel.size q3, fun j hj hm => ?_⟩, fun j hj => Nat.lt_of_lt_of_le (h.jl j hj) q2.size⟩, fun j hj => q2.block j (h.jl j hj) (h3 j hj)⟩
  rcases q3 j hm with h4 | h4
  · exact h3 j hj h4
  · have := h.jl j hj; omega
theorem Ob.below (h : Ob w W p T js) (hb : Below W.heap.size W W') : Ob w W' p T js ∧ Kept js W W' := by
  obtain ⟨ks, h1, h2, h3⟩ := h.ex
  exact ⟨⟨h.bel.trans (hb.mono h.bel.size), ⟨ks, h1.below hb, h2, h3⟩, fun j hj => Nat.lt_of_lt_of_le (h.jl j hj) hb.size⟩, fun j hj => hb.block j (h.jl j hj)⟩
theorem Ob.alloc (h : Ob w W p T js) (o : Obj) : Ob w (W.alloc o) p T js := (h.below ((Below.refl _ _).alloc (Nat.le_refl _) o)).1
theorem kept_alloc (h : Ob w W p T js) (o : Obj) : Kept js W (W.alloc o) := (h.below ((Below.refl _ _).alloc (Nat.le_refl _) o)).2
theorem Ob.drewN (h : Ob w W p T js) (m : Nat) : Ob w (W.drewN m) p T js := (h.below (below_drewN (Below.refl _ _) m)).1
theorem Ob.drew (h : Ob w W p T js) : Ob w W.drew p T js := (h.below (Below.refl _ _).drew).1
/-- A block that is laid now stands beside. -/
theorem Ob.push (h : Ob w W p T js) (o : Obj) : Ob w (W.alloc o) p T (W.heap.size :: js) := by
  have h' := h.alloc o
  obtain ⟨ks, h1, h2, h3⟩ := h.ex
  have hb := (Below.refl W.heap.size W).alloc (Nat.le_refl _) o
  refine ⟨h'.bel, ⟨ks, h1.below hb, h2, fun j hj => ?_⟩, fun j hj => ?_⟩
  · rcases List.mem_cons.1 hj with rfl | hj
    · exact fun hm => by have := h1.lt _ hm; omega
    · exact h3 j hj
  · rcases List.mem_cons.1 hj with rfl | hj
    · simp
    · exact h'.jl j hj
theorem Ob.less {is : List Nat} (h : Ob w W p T js) (hs : ∀ j ∈ is, j ∈ js) : Ob w W p T is := by
  obtain ⟨ks, h1, h2, h3⟩ := h.ex
  exact ⟨h.bel, ⟨ks, h1, h2, fun j hj => h3 j (hs j hj)⟩, fun j hj => h.jl j (hs j hj)⟩
/-- A store into one that stands beside. -/
theorem Ob.store (h : Ob w W p T js) {b : Nat} (hb : b ∈ js) (hw : w.heap.size ≤ b) (o : Nat) (u : Value) : Ob w (W.setCell ⟨b, o, none⟩ u) p T js := by
  obtain ⟨ks, h1, h2, h3⟩ := h.ex
  exact ⟨h.bel.setCell (p := ⟨b, o, none⟩) hw u, ⟨ks, h1.keep (keep_cell _ _ _ _) (off_one (h3 b hb)), h2, h3⟩, fun j hj => by simpa [World.setCell] using h.jl j hj⟩
theorem oNew (n : Nat) (W : World) (hb : Below w.heap.size w W) (hj : ∀ j ∈ js, j < W.heap.size) (h1 : n ≤ 1048576) :
    Calls Try.prog 14 #[.int .i64 (n : Int)] W fun e W' => ∃ p, e = .returned (.pointer (some ⟨p, 0, none⟩)) ∧ Ob w W' p (Tr.new n) js ∧ Kept js W W' := by
  refine (aNew n W h1).mono ?_
  rintro e W' ⟨p, ks, rfl, q1, q2, q3⟩
  refine ⟨p, rfl, ⟨hb.trans (q2.mono hb.size), ⟨ks, q1, fun k hk => Nat.le_trans hb.size (q3 k hk), fun j h1 h2 => ?_⟩, fun j h1 => Nat.lt_of_lt_of_le (hj j h1) q2.size⟩, fun j h1 => q2.block j (hj j h1)⟩
  have := hj j h1
  have := q3 j h2
  omega
theorem SumAt.kept {b : Nat} {x : Sm} (h : SumAt W b x) (hk : Kept js W W') (hb : b ∈ js) : SumAt W' b x := by
  have e := hk b hb
  have c : ∀ o, W'.cell? ⟨b, o, none⟩ = W.cell? ⟨b, o, none⟩ := fun o => World.cell?_of_block (w := W) (a := ⟨b, o, none⟩) e
  have f : ∀ o, W'.frozen? ⟨b, o, none⟩ = W.frozen? ⟨b, o, none⟩ := fun o => World.frozen?_of_block (w := W) (a := ⟨b, o, none⟩) e
  simpa only [SumAt, c, f] using h
theorem SumAt.new (W : World) (t : TypeId) (c s a b : Int) : SumAt (W.alloc (.cells #[.int .i64 c, .int .i64 s, .int .i64 a, .int .i64 b] t)) W.heap.size ⟨c, s, a, b⟩ := by simp [SumAt, go_sem]
end

/-- A block that stands beside, whole. -/
def BoxAt (W : World) (b : Nat) (cs : Array Value) (t : TypeId) : Prop := W.heap[b]? = some (.cells cs t)
theorem BoxAt.kept {W W' : World} {js : List Nat} {b : Nat} {cs : Array Value} {t : TypeId} (h : BoxAt W b cs t) (hk : Kept js W W') (hb : b ∈ js) : BoxAt W' b cs t := (hk b hb).trans h
theorem BoxAt.cell {W : World} {b : Nat} {cs : Array Value} {t : TypeId} (h : BoxAt W b cs t) {o : Nat} {v : Value} (hv : cs[o]? = some v) : W.cell? ⟨b, o, none⟩ = some v ∧ W.frozen? ⟨b, o, none⟩ = false := by
  unfold BoxAt at h
  simp [World.cell?, World.frozen?, h, hv]
theorem BoxAt.new (W : World) (cs : Array Value) (t : TypeId) : BoxAt (W.alloc (.cells cs t)) W.heap.size cs t := heap_alloc_new W _

abbrev aw1 : Tr := (Tr.new 4).addI 0 5
abbrev aw2 : Tr := aw1.addI 1 7
abbrev aw3 : Tr := aw2.addI 2 (-1)
abbrev aw4 : Tr := aw3.linkI 1 0
abbrev aw5 : Tr := aw4.linkI 2 1
abbrev aw6 : Tr := aw5.pathAdd 1 2 10
abbrev aw7 : Tr := aw6.evertI 2
theorem aw_path : aw5.pathI 0 2 = ⟨3, 11, -1, 7⟩ := Sm.same (by decide) (by decide) (by decide) (by decide)

set_option maxRecDepth 100000 in
set_option maxHeartbeats 4000000 in
theorem awake_any (w : World) : Calls Try.prog 50 #[] w fun e w' => e = .returned (.bool true) ∧ Below w.heap.size w w' := by
  have f1 : (Tr.new 4).addB 0 5 = true := by decide
  have f2 : aw1.addB 1 7 = true := by decide
  have f3 : aw2.addB 2 (-1) = true := by decide
  have f4 : aw3.linkB 1 0 = true := by decide
  have f5 : aw4.linkB 2 1 = true := by decide
  have f6 : aw5.sameI 0 2 = true := by decide
  have f7 : aw5.raiseB 1 2 10 = true := by decide
  have f8 : aw6.hasI 2 = true := by decide
  have f9 : aw7.rootI 0 = 2 := by decide
  have f10 : aw7.parI 0 = 1 := by decide
  have f11 : aw7.subI 1 = ⟨2, 22, (aw7.subI 1).a, (aw7.subI 1).b⟩ := Sm.same (by decide) (by decide) rfl rfl
  have f12 : aw7.hasI 1 = true := by decide
  have f13 : aw7.lcaI 0 1 = 1 := by decide
  have f14 : aw7.sizeI 0 = 3 := by decide
  have f15 : aw7.linkB 0 2 = false := by decide
  go_enter Try.func50, Try.ntmps50
  go_wp2_with fail
  refine (oNew (js := []) 4 w (Below.refl _ _) (by simp) (by decide)).mono ?_
  rintro e w1 ⟨p, rfl, h, _⟩
  have H1 := hide h
  clear h
  go_wp2_with fail
  refine ((unhide H1).call fun _ ha => aAdd _ _ ha).mono ?_
  rintro e w2 ⟨rfl, h, _⟩
  have H2 := hide h
  rw [f1]
  clear h H1 f1
  go_wp2_with fail
  refine ((unhide H2).call fun _ ha => aAdd _ _ ha).mono ?_
  rintro e w3 ⟨rfl, h, _⟩
  have H3 := hide h
  rw [f2]
  clear h H2 f2
  go_wp2_with fail
  refine ((unhide H3).call fun _ ha => aAdd _ _ ha).mono ?_
  rintro e w4 ⟨rfl, h, _⟩
  have H4 := hide h
  rw [f3]
  clear h H3 f3
  go_wp2_with fail
  refine ((unhide H4).call fun _ ha => aLink _ _ ha).mono ?_
  rintro e w5 ⟨rfl, h, _⟩
  have H5 := hide h
  rw [f4]
  clear h H4 f4
  go_wp2_with fail
  refine ((unhide H5).call fun _ ha => aLink _ _ ha).mono ?_
  rintro e w6 ⟨rfl, h, _⟩
  have H6 := hide h
  rw [f5]
  clear h H5 f5
  go_wp2_with fail
  refine ((unhide H6).call fun _ ha => aPath _ _ ha).mono ?_
  rw [aw_path, f6]
  unfold smV
  dsimp only
  rintro e w7 ⟨rfl, h, _⟩
  have H7 := hide (And.intro (h.push (.cells #[.int .i64 3, .int .i64 11, .int .i64 (-1), .int .i64 7] 34)) (SumAt.new w7 34 3 11 (-1) 7))
  clear h H6 f6
  go_wp2_with fail
  generalize w7.alloc (.cells #[.int .i64 3, .int .i64 11, .int .i64 (-1), .int .i64 7] 34) = W7 at *
  generalize w7.heap.size = b at *
  refine ((unhide H7).1.call fun _ ha => aPathAdd _ _ _ ha).mono ?_
  rintro e w8 ⟨rfl, h, k⟩
  have H8 := hide (And.intro h ((unhide H7).2.kept k (by simp)))
  rw [f7]
  clear h k H7 f7
  go_wp2_with fail
  refine ((unhide H8).1.call fun _ ha => aEvert _ ha).mono ?_
  rintro e w9 ⟨rfl, h, k⟩
  have H9 := hide (And.intro h ((unhide H8).2.kept k (by simp)))
  rw [f8]
  clear h k H8 f8
  go_wp2_with fail
  refine ((unhide H9).1.call fun _ ha => aRoot _ ha).mono ?_
  rintro e w10 ⟨rfl, h, k⟩
  have H10 := hide (And.intro h ((unhide H9).2.kept k (by simp)))
  rw [f9]
  clear h k H9 f9
  go_wp2_with fail
  refine ((unhide H10).1.call fun _ ha => aParent _ ha).mono ?_
  rintro e w11 ⟨rfl, h, k⟩
  have H11 := hide (And.intro h ((unhide H10).2.kept k (by simp)))
  rw [f10]
  clear h k H10 f10
  go_wp2_with fail
  refine ((unhide H11).1.call fun _ ha => aSub _ ha).mono ?_
  rw [f11, f12]
  dsimp only
  rintro e w12 ⟨rfl, h, k⟩
  have s12 := (unhide H11).2.kept k (by simp)
  have H12 := hide (And.intro h s12)
  obtain ⟨⟨q0, q1, q2, q3⟩, _⟩ := s12
  clear h k H11 f11 f12
  go_wp2_with fail
  refine ((unhide H12).1.call fun _ ha => aLca _ _ ha).mono ?_
  rintro e w13 ⟨rfl, h, k⟩
  have H13 := hide h
  rw [f13]
  clear h k H12 f13 q0 q1 q2 q3
  go_wp2_with fail
  refine ((unhide H13).call fun _ ha => aSize _ ha).mono ?_
  rintro e w14 ⟨rfl, h, k⟩
  have H14 := hide h
  rw [f14]
  clear h k H13 f14
  go_wp2_with fail
  refine ((unhide H14).call fun _ ha => aLink _ _ ha).mono ?_
  rintro e w15 ⟨rfl, h, k⟩
  have H15 := hide h
  rw [f15]
  clear h k H14 f15
  go_wp2_with fail
  refine ((unhide H15).call fun _ ha => aCheck ha).mono ?_
  rintro e w16 ⟨rfl, h, k⟩
  have H16 := hide h
  clear h k H15
  go_wp2
  go_ret
  exact ⟨rfl, (unhide H16).bel⟩
end Go.Proofs.Ytbcibdofcjehcaa
