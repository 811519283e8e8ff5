/- Trees in memory. -/
import Derived.Test.YtbkneonbpcmepaaC
namespace Go.Proofs.Ytbkneonbpcmepaa
open Go.RowKit Go.Arb
set_option linter.unusedVariables false
set_option linter.unusedSimpArgs false

/-- A row of pointers to knots. -/
def Row (w : World) (r : Value) (ls : List Nat) : Prop := w.ownsRow 0 66 1 r ls.length (ls.map ptr)
def Root (w : World) (h : Nat) (u : Value) (t : Tr h) : Prop := Kn w (adr h t) u (rowOf h t) h (itm h t) (wt h t) (sm h t)
def Mem (w : World) : (h : Nat) → Value → Tr h → Prop
  | 0, u, t => Root w 0 u t
  | h + 1, u, t => Root w (h + 1) u t ∧ Row w (Nd.r t) ((Nd.ps t).map (adr h)) ∧ ∀ s ∈ Nd.ps t, Mem w h (ptr (Nd.a t)) s
/-- The blocks of a tree. -/
def fp : (h : Nat) → Tr h → List Nat
  | 0, t => [Lf.a t]
  | h + 1, t => Nd.a t :: (own (Nd.r t) ++ (Nd.ps t).flatMap (fp h))
theorem Mem.root : ∀ {w : World} {h : Nat} {u : Value} {t : Tr h}, Mem w h u t → Root w h u t
  | _, 0, _, _, m => m
  | _, _ + 1, _, _, m => m.1
theorem adr_fp : ∀ (h : Nat) (t : Tr h), adr h t ∈ fp h t
  | 0, t => by simp [fp, adr]
  | h + 1, t => by simp [fp, adr]
theorem Row.keep {w w' : World} {r : Value} {ls ks : List Nat} (h : Row w r ls) (hk : Keep ks w w') (ho : Off (own r) ks) : Row w' r ls := row_keep h hk ho
theorem Root.keep {w w' : World} {h : Nat} {u : Value} {t : Tr h} {ks : List Nat} (m : Root w h u t) (hk : Keep ks w w') (ho : adr h t ∉ ks) : Root w' h u t := Kn.keep m hk ho
theorem Mem.keep {ks : List Nat} {w w' : World} (hk : Keep ks w w') : ∀ {h : Nat} {u : Value} {t : Tr h}, Mem w h u t → Off (fp h t) ks → Mem w' h u t
  | 0, _, t, m, ho => Root.keep (h := 0) (t := t) m hk (ho _ (adr_fp 0 t))
  | h + 1, _, t, m, ho => ⟨Root.keep m.1 hk (ho _ (adr_fp _ t)), m.2.1.keep hk (fun k h1 => ho k (by simp [fp, h1])), fun s hs => Mem.keep hk (m.2.2 s hs) (fun k h1 => ho k (by simp only [fp, List.mem_cons, List.mem_append, List.mem_flatMap]; exact .inr (.inr ⟨s, hs, h1⟩)))⟩
theorem Mem.lt : ∀ {w : World} {h : Nat} {u : Value} {t : Tr h}, Mem w h u t → ∀ k ∈ fp h t, k < w.heap.size
  | _, 0, _, t, m, k, hk => by
    simp only [fp, List.mem_singleton] at hk
    subst hk
    exact Kn.lt (show Kn _ _ _ _ _ _ _ _ from m)
  | _, h + 1, _, t, m, k, hk => by
    simp only [fp, List.mem_cons, List.mem_append, List.mem_flatMap] at hk
    rcases hk with rfl | hk | ⟨s, hs, hk⟩
    · exact Kn.lt (show Kn _ _ _ _ _ _ _ _ from m.1)
    · exact row_lt m.2.1 k hk
    · exact Mem.lt (m.2.2 s hs) k hk
/-- A row, as the walk reads it. -/
theorem Row.form {w : World} {r : Value} {ls : List Nat} (h : Row w r ls) : ∃ x cap, r = .slice x ls.length cap ∧ ls.length ≤ cap ∧ cap ≤ 9223372036854775807 ∧
    (0 < ls.length → ∃ g, x = some ⟨g, 0, none⟩ ∧ g < w.heap.size ∧ own r = [g]) ∧ ∀ g, x = some ⟨g, 0, none⟩ → ∀ j, j < ls.length → w.cell? ⟨g, j, none⟩ = some (ptr (ls.getD j 0)) := by
  obtain ⟨x, cap, hv, q1, q2, q3⟩ := row_form h
  refine ⟨x, cap, hv, q1, q2, fun h0 => ?_, fun g hg j hj => ?_⟩
  · obtain ⟨g, e, hl, ho, _⟩ := q3 h0
    exact ⟨g, e, hl, ho⟩
  · obtain ⟨g', e, _, _, hc⟩ := q3 (by omega)
    rw [hg] at e
    simp only [Option.some.injEq, Addr.mk.injEq, and_true] at e
    subst e
    rw [(hc j (by omega)).1, List.getElem?_map, List.getElem?_eq_getElem hj, List.getD_eq_getElem?_getD, List.getElem?_eq_getElem hj]
    rfl

theorem mapD {X : Type} (f : X → Nat) (l : List X) {j : Nat} (hj : j < l.length) : (l.map f).getD j 0 = f l[j] := by
  rw [List.getD_eq_getElem?_getD, List.getElem?_map, List.getElem?_eq_getElem hj]
  rfl
theorem take_step {X : Type} (l : List X) {j : Nat} (hj : j < l.length) : l.take (j + 1) = l.take j ++ [l[j]] := List.take_succ_eq_append_getElem hj
theorem FitL.sub {xs ys : List It} (h : FitL xs) (hs : ∀ x ∈ ys, x ∈ xs) : FitL ys := fun x hx => h x (hs x hx)
theorem flat_take {h : Nat} (ps : List (Tr h)) (j : Nat) : ∀ x ∈ (ps.take j).flatMap (its h), x ∈ ps.flatMap (its h) := by
  intro x hx
  obtain ⟨s, hs, hx⟩ := List.mem_flatMap.1 hx
  exact List.mem_flatMap.2 ⟨s, List.mem_of_mem_take hs, hx⟩
theorem flat_len {h : Nat} (ps : List (Tr h)) (j : Nat) : ((ps.take j).flatMap (its h)).length ≤ (ps.flatMap (its h)).length := by
  conv => rhs; rw [← List.take_append_drop j ps, List.flatMap_append, List.length_append]
  omega

theorem jnf_any (xs ys : List It) (w : World) (h1 : (xs ++ ys).length ≤ 4194304) (f : FitL (xs ++ ys)) :
    Calls Try.prog 76 #[smV (smL xs), smV (smL ys)] w fun r w' => r = .returned (smV (smL (xs ++ ys))) ∧ Below w.heap.size w w' := by
  have c1 := smL_c xs
  have c2 := smL_c ys
  have b0 := smL_bd f h1
  rw [List.length_append] at h1
  have b1 := smL_bd (FitL.append.1 f).1 (by omega)
  have b2 := smL_bd (FitL.append.1 f).2 (by omega)
  rw [smL_append] at b0 ⊢
  have o1 := (smL_ok xs).2
  have o2 := (smL_ok ys).2
  have hs : -4611686018427387904 ≤ (smL xs).s + (smL ys).s ∧ (smL xs).s + (smL ys).s ≤ 4611686018427387904 := by
    by_cases e1 : (smL xs).c = 0
    · rw [o1 e1] at *; simp [zero]; omega
    · by_cases e2 : (smL ys).c = 0
      · rw [o2 e2] at *; simp [zero]; omega
      · simp only [jn, e1, e2, if_false] at b0; exact b0
  exact join_any _ _ _ _ _ _ _ _ w (by omega) (by omega) hs.1 hs.2
theorem SumAt.drew {w : World} {b : Nat} {x : Sm} (h : SumAt w b x) : SumAt w.drew b x := h
theorem SumAt.lt {w : World} {b : Nat} {x : Sm} (h : SumAt w b x) : b < w.heap.size := World.block_lt_of_cell? w _ h.1.1

set_option maxRecDepth 100000 in
theorem below_any {hh : Nat} (ps : List (Tr hh)) (a : Nat) (u r : Value) (h i m : Int) (s : Sm) (w : World) (k : Kn w a u r h i m s) (hr : Row w r (ps.map (adr hh))) (hp : ∀ s ∈ ps, ∃ u, Root w hh u s)
    (hl : (ps.flatMap (its hh)).length ≤ 4194304) (hf : FitL (ps.flatMap (its hh))) :
    Calls Try.prog 90 #[ptr a] w fun e w' => e = .returned (smV (smL (ps.flatMap (its hh)))) ∧ Below w.heap.size w w' := by
  obtain ⟨q0, q1, q2, q3, q4, q5, q6, q7, q8⟩ := k.cells
  have ka := k.lt
  obtain ⟨x, cap, rfl, c1, c2, c3, c4⟩ := hr.form
  rw [List.length_map] at *
  unfold ptr
  go_enter Try.func90, Try.ntmps90
  go_wp2_with fail
  have s0 : SumAt ((w.alloc (.cells #[.int .i64 0, .int .i64 0, .int .i64 0, .int .i64 0] 33)).alloc (.cells #[.int .i64 0, .int .i64 0, .int .i64 0, .int .i64 0] 33)) w.heap.size zero := by simp [SumAt, go_sem, zero]
  have s1 : SumAt ((w.alloc (.cells #[.int .i64 0, .int .i64 0, .int .i64 0, .int .i64 0] 33)).alloc (.cells #[.int .i64 0, .int .i64 0, .int .i64 0, .int .i64 0] 33)) (w.heap.size + 1) zero := by simp [SumAt, go_sem, zero]
  have hb : Below w.heap.size w ((w.alloc (.cells #[.int .i64 0, .int .i64 0, .int .i64 0, .int .i64 0] 33)).alloc (.cells #[.int .i64 0, .int .i64 0, .int .i64 0, .int .i64 0] 33)) := b2 w _ _
  have S0 := hide (And.intro s0 (And.intro s1 hb))
  clear s0 s1 hb q0 q1 q2 q3 q4 q5 q6 q7 q8
  have HP := hide hp
  have HF := hide hf
  have HL := hide hl
  have C3 := hide c3
  have C4 := hide c4
  clear hp hf hl c3 c4 hr k
  generalize (w.alloc (.cells #[.int .i64 0, .int .i64 0, .int .i64 0, .int .i64 0] 33)).alloc (.cells #[.int .i64 0, .int .i64 0, .int .i64 0, .int .i64 0] 33) = W at *
  generalize hB : w.heap.size = B at *
  have HB := hide hB
  clear hB
  go_loopg [11] ps.length (fun gk i w' => ∃ k : Nat, k + gk = ps.length ∧ i = .int .i64 (k : Int) ∧ SumAt w' B zero ∧ SumAt w' (B + 1) (smL ((ps.take k).flatMap (its hh))) ∧ Below B w w')
  case atStart => exact ⟨0, by omega, rfl, (unhide S0).1, (unhide S0).2.1, (unhide S0).2.2⟩
  case round =>
    obtain ⟨k, hk, rfl, h1, h2, h3⟩ := hrel
    by_cases h8 : k < ps.length
    · obtain ⟨g, rfl, hg, _⟩ := unhide C3 (by omega)
      have e1 := unhide C4 g rfl k h8
      obtain ⟨u', hs⟩ := unhide HP ps[k] (List.getElem_mem h8)
      have hs2 : Kn wr _ _ _ _ _ _ _ := Kn.below hs (by rw [unhide HB]; exact h3)
      have hsb : smL (its hh ps[k]) = sm hh ps[k] := rfl
      have zz : (ps.take (k + 1)).flatMap (its hh) = (ps.take k).flatMap (its hh) ++ its hh ps[k] := by
        rw [take_step _ h8, List.flatMap_append, List.flatMap_cons, List.flatMap_nil, List.append_nil]
      have J1 := hide (fun W => jnf_any ((ps.take k).flatMap (its hh)) (its hh ps[k]) W (by rw [← zz]; exact Nat.le_trans (flat_len ps (k + 1)) (unhide HL)) (by rw [← zz]; exact (unhide HF).sub (flat_take ps _)))
      rw [← zz, hsb] at J1
      clear hsb zz hs
      have e2 : wr.cell? ⟨g, k, none⟩ = some (ptr (adr hh ps[k])) := by
        rw [h3.cell (p := ⟨g, k, none⟩) hg, e1, mapD _ _ h8]
      unfold ptr at e2
      obtain ⟨q0, q1, q2, q3, q4, q5, q6, q7, q8⟩ := hs2.cells
      clear e1 hs2 q0 q1 q2 q3 q4
      generalize adr hh ps[k] = b at *
      generalize sm hh ps[k] = Y at *
      generalize smL ((ps.take k).flatMap (its hh)) = X at *
      generalize hZ : smL ((ps.take (k + 1)).flatMap (its hh)) = Z at *
      have HZ := hide hZ
      clear hZ
      obtain ⟨⟨p0, p1, p2, p3⟩, f0, f1, f2, f3⟩ := id h2
      have HZ2 : Hid (B ≤ wr.heap.size) := hide (by have := h3.size; rw [unhide HB] at this; exact this)
      have H1 := hide h1
      have H2 := hide h2
      have H3 := hide h3
      clear h1 h2 h3
      unfold smV at J1
      go_wp2_with fail
      go_region_with (go_at_call 76; refine (unhide J1 _).mono ?_; rintro e w2 ⟨rfl, hb2⟩; have t2 := SumAt.below (x := X) (b := B + 1) (unhide H2).drew hb2 (unhide H2).lt; have T2 := hide t2; have T1 := hide (SumAt.below (x := zero) (b := B) (unhide H1).drew hb2 (unhide H1).lt); have T3 := hide ((unhide H3).drew.trans (hb2.mono (unhide HZ2))); obtain ⟨⟨_, _, _, _⟩, _, _, _, _⟩ := t2; clear hb2 H1 H2 H3)
      all_goals
        have t1 : SumAt (putSum w2 (B + 1) Z) (B + 1) Z := SumAt.put (unhide T2)
        have t0 : SumAt (putSum w2 (B + 1) Z) B zero := SumAt.put_other (unhide T1) (by omega)
        have t3 : Below B w (putSum w2 (B + 1) Z) := below_put (unhide T3) (by omega)
        have T0 := hide (And.intro t0 (And.intro t1 t3))
        clear t0 t1 t3 T1 T2 T3
        unfold putSum at T0
        generalize (((w2.setCell ⟨B + 1, 0, none⟩ (.int .i64 Z.c)).setCell ⟨B + 1, 1, none⟩ (.int .i64 Z.s)).setCell ⟨B + 1, 2, none⟩ (.int .i64 Z.a)).setCell ⟨B + 1, 3, none⟩ (.int .i64 Z.b) = w3 at *
        go_wp2
        go_roundg (gk - 1)
        case rel => exact ⟨k + 1, by omega, rfl, (unhide T0).1, by rw [unhide HZ]; exact (unhide T0).2.1, (unhide T0).2.2⟩
        all_goals omega
    · have : k = ps.length := by omega
      subst this
      rw [List.take_length] at h2
      generalize hX : smL (ps.flatMap (its hh)) = X at *
      have HX := hide hX
      clear hX
      obtain ⟨⟨p0, p1, p2, p3⟩, f0, f1, f2, f3⟩ := id h2
      obtain ⟨⟨q0, q1, q2, q3⟩, g0, g1, g2, g3⟩ := id h1
      have H3 := hide (below_put (x := X) h3 (Nat.le_refl B))
      obtain ⟨⟨z0, z1, z2, z3⟩, _⟩ := SumAt.put (x := X) h1
      have Z4 := hide (And.intro z0 (And.intro z1 (And.intro z2 z3)))
      clear h1 h2 h3 z0 z1 z2 z3
      go_wp2
      obtain ⟨z0, z1, z2, z3⟩ := unhide Z4
      simp only [putSum] at z0 z1 z2 z3 H3
      refine bodyPost_ret (v := smV X) ?_ rfl ⟨by rw [unhide HX], by rw [unhide HB]; exact unhide H3⟩
      simp [results, Try.results90, go_sem, z0, z1, z2, z3, smV]
end Go.Proofs.Ytbkneonbpcmepaa
