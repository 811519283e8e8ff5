/- Parts are given to a knot. -/
import Derived.Test.YtbkneonbpcmepaaP2
namespace Go.Proofs.Ytbkneonbpcmepaa
open Go.RowKit Go.Arb
set_option linter.unusedVariables false
set_option linter.unusedSimpArgs false

theorem root_up {w : World} {h : Nat} {u : Value} {t : Tr h} (v : Value) (m : Root w h u t) : Root (w.setCell ⟨adr h t, 0, none⟩ v) h v t := Kn.putU m v

set_option maxRecDepth 100000 in
theorem hold_any {hh : Nat} (ps : List (Tr hh)) (a : Nat) (u r rv : Value) (h i : Int) (s : Sm) (w : World) (k : Kn w a u r h i 0 s) (hr : Row w rv (ps.map (adr hh)))
    (hp : ∀ j (hj : j < ps.length), ∃ u, Root w hh u ps[j]) (hd : (ps.map (adr hh)).Nodup) (ha : a ∉ ps.map (adr hh)) (ho : Off (own rv) (a :: ps.map (adr hh)))
    (hl : (ps.flatMap (its hh)).length ≤ 4194304) (hf : FitL (ps.flatMap (its hh))) :
    Calls Try.prog 91 #[ptr a, rv] w fun e w' => e = .returned (.tuple #[]) ∧ Kn w' a u rv h i 0 (smL (ps.flatMap (its hh))) ∧ (∀ j (hj : j < ps.length), Root w' hh (ptr a) ps[j]) ∧ Keep (a :: ps.map (adr hh)) w w' := by
  obtain ⟨x, cap, rfl, c1, c2, c3, c4⟩ := hr.form
  rw [List.length_map] at *
  obtain ⟨q0, q1, q2, q3, q4, q5, q6, q7, q8⟩ := k.cells
  have F1 := k.soft 1
  have K1 := k.putR (.slice x ps.length cap)
  have hx : a ∉ own (.slice x ps.length cap) := fun hc => ho a hc (by simp)
  have kk := keep_cell w a 1 (.slice x ps.length cap)
  have P1 : ∀ j (hj : j < ps.length), ∃ u, Root (w.setCell ⟨a, 1, none⟩ (.slice x ps.length cap)) hh u ps[j] := fun j hj => by
    obtain ⟨u, hu⟩ := hp j hj
    exact ⟨u, hu.keep kk (by simp only [List.mem_singleton]; exact fun e => ha (e ▸ getD_map _ _ _ hj))⟩
  have R1 : Row (w.setCell ⟨a, 1, none⟩ (.slice x ps.length cap)) (.slice x ps.length cap) (ps.map (adr hh)) := hr.keep kk (fun g hg => by simp only [List.mem_singleton]; exact fun e => hx (e ▸ hg))
  have c5 : ∀ g, x = some ⟨g, 0, none⟩ → ∀ j, j < ps.length → (w.setCell ⟨a, 1, none⟩ (.slice x ps.length cap)).cell? ⟨g, j, none⟩ = some (ptr ((ps.map (adr hh)).getD j 0)) := fun g hg j hj => by
    have hlt := c3 (by omega)
    obtain ⟨g', e', hl', ho'⟩ := hlt
    rw [hg] at e'
    simp only [Option.some.injEq, Addr.mk.injEq, and_true] at e'
    rw [kk.cell (p := ⟨g, j, none⟩) (by dsimp only; omega) (by simp only [List.mem_singleton]; exact fun e => hx (by rw [ho']; simp [← e', e]))]
    exact c4 g hg j hj
  have K := hide K1
  have HP := hide P1
  have HR := hide R1
  have HD := hide (And.intro hd (And.intro ha ho))
  have HF := hide (And.intro hl hf)
  have HK := hide kk
  have hsz : (w.setCell ⟨a, 1, none⟩ (.slice x ps.length cap)).heap.size = w.heap.size := by simp [World.setCell]
  have C3 : Hid (0 < ps.length → ∃ g, x = some ⟨g, 0, none⟩ ∧ g < (w.setCell ⟨a, 1, none⟩ (.slice x ps.length cap)).heap.size ∧ own (.slice x ps.length cap) = [g]) := hide (by rw [hsz]; exact c3)
  have C4 := hide c5
  clear k hr hp hd ha ho hl hf c3 c4 c5 K1 P1 R1 kk hx hsz q0 q2 q3 q4 q5 q6 q7 q8
  unfold ptr
  go_enter Try.func91, Try.ntmps91
  go_wp2_with fail
  clear q1 F1
  generalize w.setCell ⟨a, 1, none⟩ (.slice x ps.length cap) = W at *
  go_loopg [12] ps.length (fun gk i w' => ∃ k : Nat, k + gk = ps.length ∧ i = .int .i64 (k : Int) ∧ (∀ j (hj : j < ps.length), j < k → Root w' hh (ptr a) ps[j]) ∧ (∀ j (hj : j < ps.length), ∃ u, Root w' hh u ps[j]) ∧ Keep (ps.map (adr hh)) W w')
  case atStart => exact ⟨0, by omega, rfl, fun j hj h0 => by omega, unhide HP, Keep.refl _ _⟩
  case round =>
    obtain ⟨k, hk, rfl, h0, h1, h2⟩ := hrel
    by_cases h8 : k < ps.length
    · obtain ⟨g, rfl, hg, hgo⟩ := unhide C3 (by omega)
      have e1 := unhide C4 g rfl k h8
      have e2 : wr.cell? ⟨g, k, none⟩ = some (ptr (adr hh ps[k])) := by
        rw [h2.cell (p := ⟨g, k, none⟩) hg (fun hc => (unhide HD).2.2 g (by rw [hgo]; simp) (by simp [hc])), e1, mapD _ _ h8]
      obtain ⟨u', hs⟩ := h1 k h8
      have F0 := Kn.soft hs 0
      obtain ⟨q0, _, _, _, _, _, _, _, _⟩ := Kn.cells hs
      have hs2 := root_up (ptr a) hs
      have kc := keep_cell wr (adr hh ps[k]) 0 (ptr a)
      have N0 : Hid (∀ j (hj : j < ps.length), j < k + 1 → Root (wr.setCell ⟨adr hh ps[k], 0, none⟩ (ptr a)) hh (ptr a) ps[j]) := hide (fun j hj hjk => by
        by_cases e : j = k
        · subst e; exact hs2
        · exact (h0 j hj (by omega)).keep kc (by simpa using adr_at (unhide HD).1 hj h8 e))
      have N1 : Hid (∀ j (hj : j < ps.length), ∃ u, Root (wr.setCell ⟨adr hh ps[k], 0, none⟩ (ptr a)) hh u ps[j]) := hide (fun j hj => by
        by_cases e : j = k
        · subst e; exact ⟨_, hs2⟩
        · obtain ⟨u, hu⟩ := h1 j hj
          exact ⟨u, hu.keep kc (by simpa using adr_at (unhide HD).1 hj h8 e)⟩)
      have N2 := hide (h2.setCell (p := ⟨adr hh ps[k], 0, none⟩) (.inl (getD_map _ _ _ h8)) (ptr a))
      clear h0 h1 h2 e1 hs hs2 kc
      unfold ptr at e2 N0 N1 N2 
      generalize hbb : adr hh ps[k] = b at *
      have HB := hide hbb
      clear hbb
      go_wp2
      clear q0 F0
      generalize wr.setCell ⟨b, 0, none⟩ (.pointer (some ⟨a, 0, none⟩)) = w3 at *
      go_roundg (gk - 1)
      case rel => exact ⟨k + 1, by omega, rfl, unhide N0, unhide N1, unhide N2⟩
      all_goals omega
    · have hkn : k = ps.length := by omega
      subst hkn
      have h3 : ∀ j (hj : j < ps.length), Root wr hh (ptr a) ps[j] := fun j hj => h0 j hj hj
      have Kr := (unhide K).keep h2 (unhide HD).2.1
      have hoff : Off (own (.slice x ps.length cap)) (ps.map (adr hh)) := fun g hg hc => (unhide HD).2.2 g hg (by simp [hc])
      have Rr := (unhide HR).keep h2 hoff
      have A1 := hide (gather_any ps a u _ h i 0 s wr Kr Rr (fun t ht => by obtain ⟨j, hj, rfl⟩ := List.mem_iff_getElem.1 ht; exact ⟨_, h3 j hj⟩) (unhide HF).1 (unhide HF).2)
      have H2 := hide (And.intro h3 h2)
      clear h0 h1 h2 h3 Kr Rr hoff
      unfold ptr at A1
      go_wp2_with fail
      refine (unhide A1).mono ?_
      rintro e w2 ⟨rfl, k1, k2⟩
      have K4 : Hid (∀ j (hj : j < ps.length), Root w2 hh (ptr a) ps[j]) := hide (fun j hj => ((unhide H2).1 j hj).keep k2 (by simp only [List.mem_singleton]; exact fun e => (unhide HD).2.1 (e ▸ getD_map _ _ _ hj)))
      have K5 : Hid (Keep (a :: ps.map (adr hh)) w w2) := hide ((((unhide HK).mono (js := a :: ps.map (adr hh)) (fun k hk => .inl (by simp at hk; simp [hk]))).tr ((unhide H2).2.mono (fun k hk => .inl (by simp [hk])))).tr (k2.mono (fun k hk => .inl (by simp at hk; simp [hk]))))
      have K6 := hide k1
      clear k1 k2
      go_wp2
      go_end0
      exact ⟨rfl, unhide K6, unhide K4, unhide K5⟩
end Go.Proofs.Ytbkneonbpcmepaa
