/- Check: a knot; the top of a tree that begins with an item. -/
import Derived.Test.YtbkneonbpcmepaaQE
namespace Go.Proofs.Ytbkneonbpcmepaa
open Go.RowKit Go.Arb
set_option linter.unusedVariables false
set_option linter.unusedSimpArgs false

set_option maxRecDepth 100000 in
theorem knotFits_zero (p : Nat) : FitR p 0 := by
  intro t u k w m nd wf hu hl h9 hf
  have hs : sm 0 t = one (Lf.w t) := smL_one _
  have kn : Kn w (Lf.a t) u nilS 0 (Lf.v t : Nat) 0 (one (Lf.w t)) := by
    have := m.root
    unfold Root at this
    rw [hs] at this
    exact this
  have fb := wf.fit ((Lf.v t, Lf.a t), Lf.w t) (List.mem_singleton.2 rfl)
  have hy : fitB (Lf.w t) = true := by simp only [fitB, decide_eq_true_eq]; exact fb
  have C := hide (itemFits_any (p := p) kn (fun q => by
    have := hf (Lf.v t, Lf.a t) (List.mem_singleton.2 rfl) (w.drewN q) (below_drewN (Below.refl _ _) q)
    exact this) hy)
  obtain ⟨_, _, q2, _⟩ := kn.cells
  rw [show adr 0 t = Lf.a t from rfl]
  clear kn m hf wf fb hs hy
  generalize Lf.a t = a at *
  unfold ptr at *
  go_enter Try.func65, Try.ntmps65
  go_wp2_with fail
  refine (unhide C).mono ?_
  rintro e w1 ⟨rfl, hb⟩
  have B := hide hb
  clear hb C
  go_wp2
  go_ret
  exact ⟨rfl, unhide B⟩
set_option maxRecDepth 100000 in
theorem knotFits_step (p h : Nat) (ih : FitR p h) : FitR p (h + 1) := by
  intro t u k w m nd wf hu hl h9 hf
  obtain ⟨x, cap, e, c1, c2, c3, c4⟩ := (show Row w (Nd.r t) _ from m.2.1).form
  rw [List.length_map] at e
  have hk2 : 2 ≤ k := by rcases hu with ⟨_, h⟩ | ⟨_, _, h⟩ <;> omega
  have kn : Kn w (Nd.a t) u (.slice x (Nd.ps t).length cap) ((h + 1 : Nat) : Int) (-1) (Nd.m t) (sm (h + 1) t) := by rw [← e]; exact m.root
  have w8 := wf.1
  have C1 := hide (sizeFits_any kn w8.2 (by
    rcases hu with ⟨h1, h2⟩ | ⟨b, h1, h2⟩
    · exact .inl ⟨h1, by omega⟩
    · exact .inr ⟨b, h1, by omega⟩))
  have C2 := hide (partsFit_any ih t u w m nd wf hl h9 hf)
  have C3 := hide (fun w1 (hb : Below w.heap.size w w1) => sumFits_any t u w1 (m.keep (Keep.ofBelow hb []) (fun _ _ => by simp)) hk2 wf hl)
  obtain ⟨_, _, q2, _⟩ := kn.cells
  have hz : (((h + 1 : Nat) : Int) == 0) = false := by rw [beq_eq_false_iff_ne]; omega
  rw [show adr (h + 1) t = Nd.a t from rfl]
  clear kn m hf wf nd hl hu w8 e c3 c4 ih
  generalize Nd.a t = a at *
  generalize ((h + 1 : Nat) : Int) = H1 at *
  unfold ptr at *
  go_enter Try.func65, Try.ntmps65
  go_wp2_with fail
  refine (unhide C1).mono ?_
  rintro e w1 ⟨rfl, rfl⟩
  clear C1
  go_wp2_with fail
  refine (unhide C2).mono ?_
  rintro e w2 ⟨rfl, hb⟩
  have B := hide hb
  clear hb C2
  go_wp2_with fail
  refine (unhide C3 _ (unhide B)).mono ?_
  rintro e w3 ⟨rfl, hb⟩
  have B2 := hide ((unhide B).trans (hb.mono (unhide B).size))
  clear hb C3 B
  go_wp2
  go_ret
  exact ⟨rfl, unhide B2⟩
theorem knotFits_any (p : Nat) : ∀ h, FitR p h
  | 0 => knotFits_zero p
  | h + 1 => knotFits_step p h (knotFits_any p h)
end Go.Proofs.Ytbkneonbpcmepaa
