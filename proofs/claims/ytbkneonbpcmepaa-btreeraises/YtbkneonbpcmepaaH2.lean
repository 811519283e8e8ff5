/- Two objects of a law's own: the program's pool, and another one, beside blocks that neither touches. -/
import Derived.Test.YtbkneonbpcmepaaH
namespace Go.Proofs.Ytbkneonbpcmepaa
open Go.RowKit Go.Arb
set_option linter.unusedVariables false
set_option linter.unusedSimpArgs false

structure Lies (R : World → Nat → Se → List Nat → Prop) : Prop where
  lt : ∀ {W : World} {q : Nat} {T : Se} {ks : List Nat}, R W q T ks → ∀ k ∈ ks, k < W.heap.size
  keep : ∀ {W W' : World} {q : Nat} {T : Se} {ks js : List Nat}, R W q T ks → Keep js W W' → Off ks js → R W' q T ks
theorem At.lies : Lies At := ⟨fun h => h.lt, fun h hk ho => h.keep hk ho⟩

structure Ob2 (R : World → Nat → Se → List Nat → Prop) (w W : World) (p q : Nat) (T T' : Se) (js : List Nat) : Prop where
  bel : Below w.heap.size w W
  ex : ∃ ks ls, At W p T ks ∧ R W q T' ls ∧ (∀ k ∈ ks, w.heap.size ≤ k) ∧ (∀ k ∈ ls, w.heap.size ≤ k) ∧ Off ks ls ∧ ∀ j ∈ js, j ∉ ks ∧ j ∉ ls
  jl : ∀ j ∈ js, j < W.heap.size

section
variable {R : World → Nat → Se → List Nat → Prop} {w W W' : World} {p q : Nat} {T T' T2 : Se} {js : List Nat}
theorem Ob2.fst (hR : Lies R) {f : Nat} {args : Array Value} {r : Value} (h : Ob2 R w W p q T T' js)
    (hc : ∀ ks, At W p T ks → Calls Try.prog f args W fun e W' => e = .returned r ∧ ∃ ks', At W' p T2 ks' ∧ Keep ks W W' ∧ Grew W ks ks') :
    Calls Try.prog f args W fun e W' => e = .returned r ∧ Ob2 R w W' p q T2 T' js ∧ Kept js W W' := by
  obtain ⟨ks, ls, h1, h2, h3, h4, h5, h6⟩ := h.ex
  refine (hc ks h1).mono ?_
  rintro e W' ⟨rfl, ks', q1, q2, q3⟩
  refine ⟨rfl, ⟨q2.below h.bel h.bel.size h3, ⟨ks', ls, q1, hR.keep h2 q2 h5.symm, ge_grew h3 h.bel.size q3, h4, ((h5.symm).grew (fun k hk => hR.lt h2 k hk) q3).symm, fun j hj => ⟨fun hm => ?_, (h6 j hj).2⟩⟩, fun j hj => Nat.lt_of_lt_of_le (h.jl j hj) q2.size⟩, fun j hj => q2.block j (h.jl j hj) (h6 j hj).1⟩
  rcases q3 j hm with h7 | h7
  · exact (h6 j hj).1 h7
  · have := h.jl j hj; omega
theorem Ob2.snd (hR : Lies R) {f : Nat} {args : Array Value} {r : Value} (h : Ob2 R w W p q T T' js)
    (hc : ∀ ks, R W q T' ks → Calls Try.prog f args W fun e W' => e = .returned r ∧ ∃ ks', R W' q T2 ks' ∧ Keep ks W W' ∧ Grew W ks ks') :
    Calls Try.prog f args W fun e W' => e = .returned r ∧ Ob2 R w W' p q T T2 js ∧ Kept js W W' := by
  obtain ⟨ks, ls, h1, h2, h3, h4, h5, h6⟩ := h.ex
  refine (hc ls h2).mono ?_
  rintro e W' ⟨rfl, ls', q1, q2, q3⟩
  refine ⟨rfl, ⟨q2.below h.bel h.bel.size h4, ⟨ks, ls', h1.keep q2 h5, q1, h3, ge_grew h4 h.bel.size q3, h5.grew (fun k hk => h1.lt k hk) q3, fun j hj => ⟨(h6 j hj).1, fun hm => ?_⟩⟩, fun j hj => Nat.lt_of_lt_of_le (h.jl j hj) q2.size⟩, fun j hj => q2.block j (h.jl j hj) (h6 j hj).2⟩
  rcases q3 j hm with h7 | h7
  · exact (h6 j hj).2 h7
  · have := h.jl j hj; omega
theorem Ob2.below (hR : Lies R) (h : Ob2 R w W p q T T' js) (hb : Below W.heap.size W W') : Ob2 R w W' p q T T' js ∧ Kept js W W' := by
  obtain ⟨ks, ls, h1, h2, h3, h4, h5, h6⟩ := h.ex
  exact ⟨⟨h.bel.trans (hb.mono h.bel.size), ⟨ks, ls, h1.below hb, hR.keep h2 (Keep.ofBelow hb []) (fun _ _ => by simp), h3, h4, h5, h6⟩, fun j hj => Nat.lt_of_lt_of_le (h.jl j hj) hb.size⟩, fun j hj => hb.block j (h.jl j hj)⟩
theorem Ob2.drewN (hR : Lies R) (h : Ob2 R w W p q T T' js) (m : Nat) : Ob2 R w (W.drewN m) p q T T' js := (h.below hR (below_drewN (Below.refl _ _) m)).1
theorem Ob2.alloc (hR : Lies R) (h : Ob2 R w W p q T T' js) (o : Obj) : Ob2 R w (W.alloc o) p q T T' js ∧ Kept js W (W.alloc o) := h.below hR ((Below.refl _ _).alloc (Nat.le_refl _) o)
theorem Ob2.push (hR : Lies R) (h : Ob2 R w W p q T T' js) (o : Obj) : Ob2 R w (W.alloc o) p q T T' (W.heap.size :: js) := by
  have h' := (h.alloc hR o).1
  obtain ⟨ks, ls, h1, h2, h3, h4, h5, h6⟩ := h.ex
  have hb := (Below.refl W.heap.size W).alloc (Nat.le_refl _) o
  refine ⟨h'.bel, ⟨ks, ls, h1.below hb, hR.keep h2 (Keep.ofBelow hb []) (fun _ _ => by simp), h3, h4, h5, fun j hj => ?_⟩, fun j hj => ?_⟩
  · rcases List.mem_cons.1 hj with rfl | hj
    · exact ⟨fun hm => by have := h1.lt _ hm; omega, fun hm => by have := hR.lt h2 _ hm; omega⟩
    · exact h6 j hj
  · rcases List.mem_cons.1 hj with rfl | hj
    · simp
    · exact h'.jl j hj
theorem Ob2.less {is : List Nat} (h : Ob2 R w W p q T T' js) (hs : ∀ j ∈ is, j ∈ js) : Ob2 R w W p q T T' is := by
  obtain ⟨ks, ls, h1, h2, h3, h4, h5, h6⟩ := h.ex
  exact ⟨h.bel, ⟨ks, ls, h1, h2, h3, h4, h5, fun j hj => h6 j (hs j hj)⟩, fun j hj => h.jl j (hs j hj)⟩
/-- A second object is made. -/
theorem Ob.pair (h : Ob w W p T js) {ls : List Nat} (hb : Below W.heap.size W W') (hr : R W' q T' ls) (hl : ∀ k ∈ ls, W.heap.size ≤ k) : Ob2 R w W' p q T T' js ∧ Kept js W W' := by
  obtain ⟨h', hk⟩ := h.below hb
  obtain ⟨ks, h1, h2, h3⟩ := h.ex
  refine ⟨⟨h'.bel, ⟨ks, ls, h1.below hb, hr, h2, fun k hk => Nat.le_trans h.bel.size (hl k hk), fun k hk hm => ?_, fun j hj => ⟨h3 j hj, fun hm => ?_⟩⟩, h'.jl⟩, hk⟩
  · have := h1.lt k hk
    have := hl k hm
    omega
  · have := h.jl j hj
    have := hl j hm
    omega
theorem o2New (h : Ob w W p T js) (n : Nat) (h1 : n ≤ 4194304) :
    Calls Try.prog 11 #[.int .i64 (n : Int)] W fun e W' => ∃ q, e = .returned (.pointer (some ⟨q, 0, none⟩)) ∧ Ob2 At w W' p q T (Se.new n) js ∧ Kept js W W' := by
  refine (aNew n W h1).mono ?_
  rintro e W' ⟨q, ls, rfl, q1, q2, q3⟩
  exact ⟨q, rfl, h.pair q2 q1 q3⟩
end
end Go.Proofs.Ytbkneonbpcmepaa
