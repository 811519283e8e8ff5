/- The document's examples. -/
import Derived.Test.YtakgacahaennoaaDoorC8
namespace Go.Proofs.YtakgacahaennoaaDoor
open Go.RowKit Go.Arb

/-- A table of the call's own. -/
structure Aw (w W : World) (p : Nat) (S : List Cell) (ks : List Nat) : Prop where
  bel : Below w.heap.size w W
  tb : TbAt W p S ks
  ge : ∀ k ∈ ks, w.heap.size ≤ k
section
variable {w W W' : World} {p : Nat} {S S' : List Cell} {ks ks' : List Nat}
theorem Aw.put (h : Aw w W p S ks) (hk : Keep ks W W') (ha : TbAt W' p S' ks') (hg : Grew W ks ks') : Aw w W' p S' ks' :=
  ⟨hk.below h.bel h.bel.size h.ge, ha, ge_grew h.ge h.bel.size hg⟩
theorem Aw.below (h : Aw w W p S ks) (hb : Below W.heap.size W W') : Aw w W' p S ks := ⟨h.bel.trans (hb.mono h.bel.size), h.tb.below hb, h.ge⟩
end

theorem IRow.at {B : Nat} {W : World} {u : Value} {l : List Int} (h : IRow B W u l) (i : Nat) (hi : i < l.length) :
    ∃ g cap, u = .slice (some ⟨g, 0, none⟩) l.length cap ∧ l.length ≤ cap ∧ cap ≤ maxLen ∧ g < W.heap.size ∧ B ≤ g ∧ W.cell? ⟨g, i, none⟩ = some (.int .i64 l[i]) := by
  obtain ⟨x, cap, hv, h1, h2, h3⟩ := row_form h
  obtain ⟨g, rfl, hg, how, hc⟩ := h3 (by omega)
  have := hc i (by omega)
  exact ⟨g, cap, hv, h1, h2, hg, row_ge h g (by rw [how]; simp), by rw [this.1]; simp [hi]⟩

set_option maxRecDepth 100000 in
set_option maxHeartbeats 2000000 in
theorem awake_any (w : World) (hT : Tab w) : Calls Tryd.prog 20 #[] w fun e w' => e = .returned (.bool true) ∧ Below w.heap.size w w' := by
  have HT := hide hT
  clear hT
  go_enter Tryd.func20, Tryd.ntmps20
  go_wp2_with fail
  refine (tNew _ (unhide HT)).mono ?_
  rintro e w1 ⟨rfl, a1, b1, z1⟩
  have H1 : Hid (Aw w w1 w.heap.size [] [w.heap.size]) := ⟨b1, a1, by simp⟩
  clear a1 b1 z1
  go_wp2_with fail
  refine (tPut _ _ _ _ 7 1 (unhide H1).tb).mono ?_
  rw [show putB [] 7 = true from rfl, show putZ [] 7 1 = [(7, 1)] from rfl]
  rintro e w2 ⟨rfl, ks2, a2, k2, g2⟩
  have H2 := hide ((unhide H1).put k2 a2 g2)
  clear H1 a2 k2 g2
  go_wp2_with fail
  refine (tPut _ _ _ _ 3 2 (unhide H2).tb).mono ?_
  rw [show putB [(7, 1)] 3 = true from rfl, show putZ [(7, 1)] 3 2 = [(3, 2), (7, 1)] from rfl]
  rintro e w3 ⟨rfl, ks3, a3, k3, g3⟩
  have H3 := hide ((unhide H2).put k3 a3 g3)
  clear H2 a3 k3 g3
  go_wp2_with fail
  refine (tPut _ _ _ _ 7 5 (unhide H3).tb).mono ?_
  rw [show putB [(3, 2), (7, 1)] 7 = false from rfl, show putZ [(3, 2), (7, 1)] 7 5 = [(3, 2), (7, 1)] from rfl]
  rintro e w4 ⟨rfl, ks4, a4, k4, g4⟩
  have H4 := hide ((unhide H3).put k4 a4 g4)
  clear H3 a4 k4 g4
  go_wp2_with fail
  refine (tPut _ _ _ _ (-1) 0 (unhide H4).tb).mono ?_
  rw [show putB [(3, 2), (7, 1)] (-1) = false from rfl, show putZ [(3, 2), (7, 1)] (-1) 0 = [(3, 2), (7, 1)] from rfl]
  rintro e w5 ⟨rfl, ks5, a5, k5, g5⟩
  have H5 := hide ((unhide H4).put k5 a5 g5)
  clear H4 a5 k5 g5
  go_wp2_with fail
  refine (tGet _ _ _ _ 7 (unhide H5).tb).mono ?_
  rw [show (getS [(3, 2), (7, 1)] 7) = some 1 from rfl]
  rintro e w6 ⟨rfl, hw⟩
  subst hw
  dsimp only [Option.getD, Option.isSome]
  go_wp2_with fail
  refine (tList _ _ _ _ (unhide H5).tb).mono ?_
  rw [show idsS [(3, 2), (7, 1)] = [3, 7] from rfl]
  rintro e w7 ⟨⟨u, rfl, r7⟩, b7⟩
  have H7 := hide ((unhide H5).below b7)
  obtain ⟨g, cap, hu, hc1, hc2, hg1, hg2, d0⟩ := r7.at 0 (by simp)
  subst hu
  simp only [List.length_cons, List.length_nil, Nat.zero_add, Nat.reduceAdd, List.getElem_cons_zero] at *
  clear H5 b7 r7 hg2
  go_wp2_with fail
  refine (tDrop _ _ _ _ 3 (unhide H7).tb).mono ?_
  rw [show (getS [(3, 2), (7, 1)] 3) = some 2 from rfl, show dropS [(3, 2), (7, 1)] 3 = [(7, 1)] from rfl]
  rintro e w8 ⟨rfl, a8, k8⟩
  have H8 := hide ((unhide H7).put k8 a8 (Grew.refl _ _))
  dsimp only [Option.isSome]
  clear H7 a8 k8 d0
  go_wp2_with fail
  refine (tDrop _ _ _ _ 3 (unhide H8).tb).mono ?_
  rw [show (getS [(7, 1)] 3) = none from rfl, show dropS [(7, 1)] 3 = [(7, 1)] from rfl]
  rintro e w9 ⟨rfl, a9, k9⟩
  have H9 := hide ((unhide H8).put k9 a9 (Grew.refl _ _))
  dsimp only [Option.isSome]
  clear H8 a9 k9
  go_wp2_with fail
  refine (tLen _ _ _ _ (unhide H9).tb).mono ?_
  rintro e w10 ⟨rfl, hw⟩
  subst hw
  go_wp2
  go_ret
  exact ⟨rfl, (unhide H9).bel⟩
end Go.Proofs.YtakgacahaennoaaDoor
