/- A new knot over parts; rows cut and put together. -/
import Derived.Test.YtbkneonbpcmepaaP3
import Derived.Test.YtbkneonbpcmepaaAp
import Derived.Test.YtbkneonbpcmepaaApp
namespace Go.Proofs.Ytbkneonbpcmepaa
open Go.RowKit Go.Arb
set_option linter.unusedVariables false
set_option linter.unusedSimpArgs false

set_option maxRecDepth 100000 in
theorem over_any {hh : Nat} (ps : List (Tr hh)) (rv : Value) (w : World) (hh9 : hh ≤ 1000) (hr : Row w rv (ps.map (adr hh)))
    (hp : ∀ j (hj : j < ps.length), ∃ u, Root w hh u ps[j]) (hne : 0 < ps.length) (hd : (ps.map (adr hh)).Nodup) (ho : Off (own rv) (ps.map (adr hh)))
    (hl : (ps.flatMap (its hh)).length ≤ 4194304) (hf : FitL (ps.flatMap (its hh))) :
    Calls Try.prog 86 #[rv] w fun e w' => ∃ b, e = .returned (ptr b) ∧ w.heap.size ≤ b ∧ b < w'.heap.size ∧ Kn w' b (.pointer none) rv ((hh : Int) + 1) (-1) 0 (smL (ps.flatMap (its hh))) ∧ (∀ j (hj : j < ps.length), Root w' hh (ptr b) ps[j]) ∧ Keep (ps.map (adr hh)) w w' := by
  have rl := row_lt hr
  obtain ⟨x, cap, rfl, c1, c2, c3, c4⟩ := hr.form
  rw [List.length_map] at *
  obtain ⟨g, rfl, hg, hgo⟩ := c3 hne
  have e1 := c4 g rfl 0 hne
  rw [mapD _ _ hne] at e1
  obtain ⟨u0, h0⟩ := hp 0 hne
  obtain ⟨_, _, q2, _, _, _, _, _, _⟩ := Kn.cells h0
  have kal : ∀ o, Keep [] w (w.alloc o) := fun o => (Keep.refl [] w).alloc o
  have K1 : Kn (w.alloc (.cells #[.pointer none, .slice none 0 0, .int .i64 ((hh : Int) + 1), .int .i64 (-1), .int .i64 0, .int .i64 0, .int .i64 0, .int .i64 0, .int .i64 0] 68)) w.heap.size (.pointer none) (.slice none 0 0) ((hh : Int) + 1) (-1) 0 zero := heap_alloc_new w _
  have A1 := hide (hold_any ps w.heap.size (.pointer none) _ (.slice (some ⟨g, 0, none⟩) ps.length cap) ((hh : Int) + 1) (-1) zero _ K1 (hr.keep (kal _) (fun _ _ => by simp))
    (fun j hj => by obtain ⟨u, hu⟩ := hp j hj; exact ⟨u, hu.keep (kal _) (by simp)⟩) hd
    (fun hc => by obtain ⟨t, ht, e⟩ := List.mem_map.1 hc; obtain ⟨j, hj, rfl⟩ := List.mem_iff_getElem.1 ht; obtain ⟨u, hu⟩ := hp j hj; have := Kn.lt hu; omega)
    (fun k hk => by
      have h1 := ho k hk
      have h2 := rl k hk
      simp only [List.mem_cons, not_or]
      exact ⟨by omega, h1⟩) hl hf)
  have KA := hide (kal (.cells #[.pointer none, .slice none 0 0, .int .i64 ((hh : Int) + 1), .int .i64 (-1), .int .i64 0, .int .i64 0, .int .i64 0, .int .i64 0, .int .i64 0] 68))
  have K1' := hide K1.lt
  clear hr hp hd ho hl hf c3 c4 h0 kal rl K1
  unfold ptr at e1 A1
  go_enter Try.func86, Try.ntmps86
  go_wp2_with fail
  refine (unhide A1).mono ?_
  rintro e w1 ⟨rfl, k1, k2, k3⟩
  have B1 := hide k1
  have B2 := hide k2
  have B4 := hide (Nat.lt_of_lt_of_le (unhide K1') k3.size)
  have B3 := hide (((unhide KA).mono (js := ps.map (adr hh)) (by simp)).trans k3 (fun i hi => by
    rcases List.mem_cons.1 hi with rfl | hi
    · exact .inr (Nat.le_refl _)
    · exact .inl hi))
  clear k1 k2 k3 A1
  go_wp2
  go_ret
  exact ⟨w.heap.size, rfl, Nat.le_refl _, unhide B4, unhide B1, unhide B2, unhide B3⟩

theorem Try.info66 : (Try.prog.info? 66).map (fun i => (i.zero, i.size, i.bytes)) = some (some (.pointer none), 1, 8) := by kernel_rfl
theorem info66 : ∃ i0, Try.prog.info? 66 = some i0 ∧ i0.zero = some (.pointer none) ∧ i0.size = 1 ∧ i0.bytes = 8 := by
  obtain ⟨i0, a, b⟩ := Option.map_eq_some_iff.1 Try.info66
  simp only [Prod.mk.injEq] at b
  exact ⟨i0, a, b⟩
/-- A slice of pointers to knots, whatever it lies in. -/
def Vw (w : World) (s : Value) (ls : List Nat) : Prop := Src w s ls.length (ls.map ptr)
theorem one_ptr (ls : List Nat) : ∀ u ∈ ls.map ptr, u.oneCell' = true := fun u hu => by
  obtain ⟨a, _, rfl⟩ := List.mem_map.1 hu
  rfl

set_option maxRecDepth 100000 in
theorem clone_any (ls : List Nat) (s : Value) (w : World) (hv : Vw w s ls) (h9 : ls.length ≤ 1000) :
    Calls Try.prog 70 #[s] w fun e w' => ∃ r, e = .returned r ∧ Row w' r ls ∧ Below w.heap.size w w' ∧ ∀ g ∈ own r, w.heap.size ≤ g := by
  have qT : ∀ (w : World) (a : Option Addr) (n c n' c' : Nat), (binOp .eql 58 (.slice a n c) (.slice none n' c')).run Try.prog w = .ok (.bool a.isNone) w := fun w a n c n' c' => Lib.run_eql_slice_nil w _ _ a n c n' c' Try.underlying58
  rcases hv with ⟨rfl, h0, _⟩ | ⟨ad, cap, rfl, hl, hc⟩
  · have h1 : ls = [] := List.length_eq_zero_iff.1 h0
    subst h1
    go_enter Try.func70, Try.ntmps70
    go_wp2
    go_ret
    exact ⟨_, rfl, ⟨rfl, .inl ⟨rfl, rfl⟩⟩, Below.refl _ _, fun g hg => by simp [own, Value.ownBlock] at hg⟩
  · obtain ⟨i0, hi0, hz0, hz1, hz2⟩ := info66
    have ha := (Keep.refl [] w).alloc (.cells #[] 66)
    have H0 : Hid ((w.alloc (.cells #[] 66)).ownsRow 0 66 1 (.slice (some ⟨w.heap.size, 0, none⟩) 0 0) 0 []) := hide ⟨rfl, .inr ⟨w.heap.size, 0, #[], rfl, Nat.zero_le _, heap_alloc_new w _, Nat.le_refl _, Nat.zero_le _, rfl, rfl⟩⟩
    have HS : Hid (Src (w.alloc (.cells #[] 66)) (.slice (some ad) ls.length cap) ls.length (ls.map ptr)) := hide (.inr ⟨ad, cap, rfl, by simp, fun j x hj => by
      have h1 := hc j x hj
      rw [ha.cell (p := ad.add j) (World.block_lt_of_cell? w _ h1) (by simp)]
      exact h1⟩)
    have HB := hide (((Below.refl w.heap.size w).alloc (Nat.le_refl _) (.cells #[] 66)))
    clear hl hc ha
    go_enter Try.func70, Try.ntmps70
    go_wp2_with (at_builtin; refine wpList_append_src _ rfl _ _ 58 rfl 0 66 i0 (.pointer none) 8 Try.underlying58 hi0 hz0 hz1 hz2 rfl (.slice (some ⟨w.heap.size, 0, none⟩) 0 0) 0 [] rfl (unhide H0) (.slice (some ad) ls.length cap) ls.length (ls.map ptr) rfl (unhide HS) (one_ptr ls) (by unfold maxLen; omega) (by omega) (Nat.zero_le _) ?_)
    intro v' w2 hown hgrow hat
    have R2 : Hid (Row w2 v' ls) := hide hown
    have hge : Hid (∀ g ∈ own v', w.heap.size ≤ g) := hide (fun g hg => by
      rw [mem_own] at hg
      rcases hat with h | h
      · rw [h] at hg; simp [Value.ownBlock] at hg; omega
      · rw [h] at hg; simp at hg; omega)
    have HB2 := hide ((unhide HB).grown hgrow (by simp) (fun k hk => by simp [Value.ownBlock] at hk; omega))
    clear hown hgrow hat HS H0
    go_wp2
    go_ret
    exact ⟨v', rfl, unhide R2, unhide HB2, unhide hge⟩

theorem row_vw {w : World} {r : Value} {ls : List Nat} (h : Row w r ls) : Vw w r ls := by
  obtain ⟨x, cap, rfl, c1, c2, c3, c4⟩ := h.form
  cases x with
  | none =>
    have h0 : ls.length = 0 := by
      by_cases h0 : 0 < ls.length
      · obtain ⟨g, e, _⟩ := c3 h0; cases e
      · omega
    rcases h.2 with ⟨e, _⟩ | ⟨g, cap', cur, e, _⟩
    · refine .inl ⟨?_, h0, by rw [List.map_eq_nil_iff]; exact List.length_eq_zero_iff.1 h0⟩
      rw [e]
    · cases e
  | some ad =>
    refine .inr ⟨ad, cap, rfl, by simp, fun j y hj => ?_⟩
    have hjl : j < ls.length := by
      have := (List.getElem?_eq_some_iff.1 hj).1
      simpa using this
    obtain ⟨g, e, _⟩ := c3 (by omega)
    cases e
    have h1 := c4 g rfl j hjl
    have ha : (⟨g, 0, none⟩ : Addr).add j = ⟨g, j, none⟩ := by simp [Addr.add]; intro h; exact h.symm
    rw [ha, h1]
    rw [List.getElem?_map, List.getElem?_eq_getElem hjl] at hj
    rw [List.getD_eq_getElem?_getD, List.getElem?_eq_getElem hjl]
    exact hj
end Go.Proofs.Ytbkneonbpcmepaa
