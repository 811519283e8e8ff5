/- blend, crown and join of any two trees. -/
import Derived.Test.YtbkneonbpcmepaaP11
namespace Go.Proofs.Ytbkneonbpcmepaa
open Go.RowKit Go.Arb
set_option linter.unusedVariables false
set_option linter.unusedSimpArgs false

theorem Bl.mono {w w' : World} {h k l : Nat} {J : List Nat} {rv : Value} {res : List (Tr h)} {xs : List It} (b : Bl w w' h J rv res xs k) (hl : l ≤ k) : Bl w w' h J rv res xs l :=
  ⟨b.row, b.new, b.off, b.tr, b.kp, b.gr, b.its, b.wf.imp (fun ⟨t, e, q⟩ => ⟨t, e, q.mono hl⟩) id⟩
theorem blend_eq : ∀ (h : Nat) {k l : Nat} (a b : Tr h), h ≤ 1000 → 2 ≤ k → 2 ≤ l → Wf h k a → Wf h l b → (fp h a ++ fp h b).Nodup → FitL (its h a ++ its h b) → (its h a ++ its h b).length ≤ 4194304 → BlT h h h 4 a b
  | 0, _, _, a, b, _, _, _, wa, wb, nd, _, _ => fun w ua ub ma mb => blend_items a b ua ub w ma mb nd wa wb
  | h + 1, k, l, a, b, h9, hk, hl, wa, wb, nd, hf, hl9 => fun w ua ub ma mb => by
    by_cases c : 4 ≤ (Nd.ps a).length ∧ 4 ≤ (Nd.ps b).length
    · exact blend_both a b ua ub w (by omega) ma mb nd ⟨⟨c.1, wa.1.2⟩, wa.2⟩ ⟨⟨c.2, wb.1.2⟩, wb.2⟩
    · exact blend_few a b ua ub w (by omega) hk hl ma mb nd wa wb hf hl9 c
theorem blend_up (j : Nat) (b : Tr j) (l : Nat) (hl : 2 ≤ l) (wb : Wf j l b) : ∀ (d k : Nat) (a : Tr (j + d)), j + d ≤ 1000 → 2 ≤ k → k ≤ 4 → Wf (j + d) k a → (fp (j + d) a ++ fp j b).Nodup → FitL (its (j + d) a ++ its j b) → (its (j + d) a ++ its j b).length ≤ 4194304 → BlT (j + d) j (j + d) k a b
  | 0, k, a, h9, hk, hk4, wa, nd, hf, hl9 => fun w ua ub ma mb => (blend_eq j a b h9 hk hl wa wb nd hf hl9 w ua ub ma mb).mono (fun e w' ⟨rv, res, h1, h2⟩ => ⟨rv, res, h1, h2.mono hk4⟩)
  | d + 1, k, a, h9, hk, hk4, wa, nd, hf, hl9 => fun w ua ub ma mb =>
    blend_hi (h := j + d) a b ua ub w (by omega) (by omega) hk ma mb nd wa hf hl9 (fun p wp n f l9 => blend_up j b l hl wb d 4 p (by omega) (by omega) (Nat.le_refl _) wp n f l9)
theorem blend_dn (i : Nat) (a : Tr i) (l : Nat) (hl : 2 ≤ l) (wa : Wf i l a) : ∀ (d k : Nat) (b : Tr (i + d)), i + d ≤ 1000 → 2 ≤ k → k ≤ 4 → Wf (i + d) k b → (fp i a ++ fp (i + d) b).Nodup → FitL (its i a ++ its (i + d) b) → (its i a ++ its (i + d) b).length ≤ 4194304 → BlT i (i + d) (i + d) k a b
  | 0, k, b, h9, hk, hk4, wb, nd, hf, hl9 => fun w ua ub ma mb => (blend_eq i a b h9 hl hk wa wb nd hf hl9 w ua ub ma mb).mono (fun e w' ⟨rv, res, h1, h2⟩ => ⟨rv, res, h1, h2.mono hk4⟩)
  | d + 1, k, b, h9, hk, hk4, wb, nd, hf, hl9 => fun w ua ub ma mb =>
    blend_lo (h := i + d) a b ua ub w (by omega) (by omega) hk ma mb nd wb hf hl9 (fun p wp n f l9 => blend_dn i a l hl wa d 4 p (by omega) (by omega) (Nat.le_refl _) wp n f l9)

/-- A tree by itself, or none. -/
structure Tp where
  h : Nat
  t : Tr h
def tits : Option Tp → List It
  | none => []
  | some T => its T.h T.t
def tfp : Option Tp → List Nat
  | none => []
  | some T => fp T.h T.t
def tval : Option Tp → Value
  | none => .pointer none
  | some T => ptr (adr T.h T.t)
/-- It hangs nowhere, and is as a tree must be. -/
structure At1 (w : World) (o : Option Tp) : Prop where
  mem : ∀ T, o = some T → Mem w T.h (.pointer none) T.t ∧ Wf T.h 2 T.t ∧ T.h ≤ 22
  nd : (tfp o).Nodup
/-- What is made of some trees: o, of the blocks J, spelling xs. -/
structure Mk (w w' : World) (J : List Nat) (o : Option Tp) (xs : List It) : Prop where
  at_ : At1 w' o
  its : tits o = xs
  kp : Keep J w w'
  gr : Grew w J (tfp o)
theorem height_le {h k : Nat} {t : Tr h} (wf : Wf h k t) (hk : 2 ≤ k) (hl : (its h t).length ≤ 4194304) : h ≤ 22 := by
  have h1 := its_height hk wf
  refine Classical.byContradiction fun hn => ?_
  have h2 : 2 ^ 23 ≤ 2 ^ h := Nat.pow_le_pow_right (by decide) (by omega)
  have h3 : (2 : Nat) ^ 23 = 8388608 := by decide
  omega
theorem At1.of {w : World} {h : Nat} {t : Tr h} (m : Mem w h (.pointer none) t) (nd : (fp h t).Nodup) (wf : Wf h 2 t) (hl : (its h t).length ≤ 4194304) : At1 w (some ⟨h, t⟩) :=
  ⟨fun T e => by cases e; exact ⟨m, wf, height_le wf (Nat.le_refl _) hl⟩, nd⟩

set_option maxRecDepth 100000 in
theorem crown_nil (w : World) (rv : Value) (hr : Row w rv []) : Calls Try.prog 69 #[rv] w fun e w' => e = .returned (.pointer none) ∧ w' = w := by
  obtain ⟨x, cap, rfl, _⟩ := hr.form
  clear hr
  go_enter Try.func69, Try.ntmps69
  go_wp2
  go_ret
  exact ⟨rfl, rfl⟩
set_option maxRecDepth 100000 in
theorem crown_one {h : Nat} (t : Tr h) (w : World) (rv : Value) (hr : Row w rv [adr h t]) (m : ∃ u, Mem w h u t) (nd : (fp h t).Nodup) (ho : Off (own rv) (fp h t)) :
    Calls Try.prog 69 #[rv] w fun e w' => e = .returned (ptr (adr h t)) ∧ Mem w' h (.pointer none) t ∧ Keep [adr h t] w w' := by
  obtain ⟨u, hu⟩ := m
  obtain ⟨x, cap, rfl, c1, c2, c3, c4⟩ := hr.form
  obtain ⟨g, rfl, hg, hgo⟩ := c3 (by simp)
  have e1 := c4 g rfl 0 (by simp)
  have F0 := Kn.soft hu.root 0
  obtain ⟨q0, _, _, _, _, _, _, _, _⟩ := Kn.cells hu.root
  have kc := keep_cell w (adr h t) 0 (.pointer none)
  have hga : g ∉ [adr h t] := fun hc => ho g (by rw [hgo]; simp) (by simp only [List.mem_singleton] at hc; rw [hc]; exact adr_fp h t)
  have e2 : (w.setCell ⟨adr h t, 0, none⟩ (.pointer none)).cell? ⟨g, 0, none⟩ = some (ptr (adr h t)) := by
    rw [kc.cell (p := ⟨g, 0, none⟩) hg hga]
    exact e1
  have M := hide (And.intro (mem_up hu nd kc (fun k h1 h2 h3 => h2 (by simpa using h3)) (root_up (.pointer none) hu.root)) kc)
  have hne : g ≠ adr h t := fun e => hga (by simp [e])
  simp only [List.getD_cons_zero] at e1
  clear hr c3 c4 hu nd ho kc hga e2
  generalize adr h t = b at *
  unfold ptr at *
  go_enter Try.func69, Try.ntmps69
  go_wp2
  go_ret
  exact ⟨rfl, unhide M⟩
set_option maxRecDepth 100000 in
theorem crown_many {h : Nat} (ts : List (Tr h)) (w : World) (rv : Value) (h9 : h ≤ 1000) (hr : Row w rv (ts.map (adr h))) (h2 : 2 ≤ ts.length) (m : Ts w h ts) (ho : Off (own rv) (fps h ts)) (hl : (ts.flatMap (its h)).length ≤ 4194304) (hf : FitL (ts.flatMap (its h))) :
    Calls Try.prog 69 #[rv] w fun e w' => ∃ b, e = .returned (ptr b) ∧ w.heap.size ≤ b ∧ Mem w' (h + 1) (.pointer none) (nod h b rv 0 ts) ∧ Keep (ts.map (adr h)) w w' := by
  have A1 := hide (over_tr ts rv w h9 hr (by omega) m ho hl hf)
  obtain ⟨x, cap, e, c1, c2, _⟩ := hr.form
  rw [List.length_map] at e c1
  have n0 : ((ts.length : Int) == 0) = false := by rw [beq_eq_false_iff_ne]; omega
  have n1 : ((ts.length : Int) == 1) = false := by rw [beq_eq_false_iff_ne]; omega
  clear hr m ho hl hf
  subst e
  go_enter Try.func69, Try.ntmps69
  go_wp2_with fail
  refine (unhide A1).mono ?_
  rintro e w1 ⟨b, rfl, h1, h2, h3⟩
  have M := hide (And.intro h1 (And.intro h2 h3))
  clear h1 h2 h3 A1
  go_wp2
  go_ret
  exact ⟨b, rfl, unhide M⟩
/-- Parts that were side by side become a tree by themselves. -/
theorem crown_any {h : Nat} (ts : List (Tr h)) (w : World) (rv : Value) (h9 : h ≤ 1000) (hr : Row w rv (ts.map (adr h))) (m : Ts w h ts) (ho : Off (own rv) (fps h ts)) (h8 : ts.length ≤ 8) (hl : (ts.flatMap (its h)).length ≤ 4194304) (hf : FitL (ts.flatMap (its h)))
    (hw : (∃ t, ts = [t] ∧ Wf h 2 t) ∨ ∀ t ∈ ts, Wf h 4 t) :
    Calls Try.prog 69 #[rv] w fun e w' => ∃ o, e = .returned (tval o) ∧ Mk w w' (own rv ++ fps h ts) o (ts.flatMap (its h)) := by
  match ts, m, hr, ho, h8, hl, hf, hw with
  | [], m, hr, ho, h8, hl, hf, hw =>
    refine (crown_nil w rv hr).mono ?_
    rintro e w' ⟨rfl, rfl⟩
    exact ⟨none, rfl, ⟨⟨fun T e => (by cases e), (by simp [tfp])⟩, rfl, Keep.refl _ _, fun k hk => (by simp [tfp] at hk)⟩⟩
  | [t], m, hr, ho, h8, hl, hf, hw =>
    have e1 : fps h [t] = fp h t := by rw [fps_cons, fps_nil, List.append_nil]
    have nd := m.nd
    rw [e1] at nd ho ⊢
    have e2 : [t].flatMap (its h) = its h t := by simp
    rw [e2] at hl ⊢
    have wt : Wf h 2 t := by
      rcases hw with ⟨s, e, q⟩ | q
      · cases e; exact q
      · exact (q t (by simp)).mono (by omega)
    refine (crown_one t w rv hr (m.mem t (by simp)) nd ho).mono ?_
    rintro e w' ⟨rfl, h1, h2⟩
    exact ⟨some ⟨h, t⟩, rfl, ⟨At1.of h1 nd wt hl, rfl, h2.mono (fun k hk => .inl (by simp only [List.mem_singleton] at hk; subst hk; simp [adr_fp])), fun k hk => .inl (by rw [List.mem_append]; exact .inr hk)⟩⟩
  | t :: s :: r, m, hr, ho, h8, hl, hf, hw =>
    have hlen : 2 ≤ (t :: s :: r).length := by simp
    have hw4 : ∀ x ∈ t :: s :: r, Wf h 4 x := by
      rcases hw with ⟨x, e, _⟩ | q
      · cases e
      · exact q
    generalize t :: s :: r = ts at *
    have rl := row_lt hr
    refine (crown_many ts w rv h9 hr hlen m ho hl hf).mono ?_
    rintro e w' ⟨b, rfl, h1, h2, h3⟩
    have wn : Wf (h + 1) 2 (nod h b rv 0 ts) := wf_nod hlen h8 hf hw4
    have nd := nod_nodup (m := 0) (rv := rv) (a := b) (fun hc => by have := m.lt b hc; omega) m.nd (fun x y1 y2 => by
      rcases List.mem_cons.1 y2 with e | y2
      · have := rl x y1; omega
      · exact ho x y1 y2)
    refine ⟨some ⟨h + 1, nod h b rv 0 ts⟩, rfl, ⟨At1.of h2 nd wn (by rw [its_nod]; exact hl), its_nod _ _ _ _, h3.mono (fun k hk => .inl (by simp [adrs_fps k hk])), fun k hk => ?_⟩⟩
    have hk2 : k ∈ fp (h + 1) (nod h b rv 0 ts) := hk
    rw [fp_nod] at hk2
    rcases List.mem_cons.1 hk2 with rfl | hk2
    · exact .inr h1
    · exact .inl hk2

theorem At1.adr {w : World} {T : Tp} (a : At1 w (some T)) : ∃ u, Mem w T.h u T.t := ⟨_, (a.mem T rfl).1⟩
theorem Mk.same {w : World} {J : List Nat} {o : Option Tp} {xs : List It} (a : At1 w o) (h : tits o = xs) (hj : ∀ k ∈ tfp o, k ∈ J) : Mk w w J o xs := ⟨a, h, Keep.refl _ _, fun k hk => .inl (hj k hk)⟩
/-- What is crowned of what was blended. -/
theorem Mk.after {w w1 w2 : World} {h k : Nat} {J : List Nat} {rv : Value} {res : List (Tr h)} {xs : List It} {o : Option Tp} (b : Bl w w1 h J rv res xs k) (m : Mk w1 w2 (own rv ++ fps h res) o (res.flatMap (Go.Proofs.Ytbkneonbpcmepaa.its h))) : Mk w w2 J o xs := by
  refine ⟨m.at_, m.its.trans b.its, b.kp.trans m.kp (fun x hx => ?_), fun x hx => ?_⟩
  · rcases List.mem_append.1 hx with hx | hx
    · exact .inr (b.new x hx)
    · exact b.gr x hx
  · rcases m.gr x hx with h1 | h1
    · rcases List.mem_append.1 h1 with h1 | h1
      · exact .inr (b.new x h1)
      · exact b.gr x h1
    · exact .inr (Nat.le_trans b.kp.size h1)
theorem crown_bl {w w1 : World} {h : Nat} {J : List Nat} {rv : Value} {res : List (Tr h)} {xs : List It} (b : Bl w w1 h J rv res xs 2) (h9 : h ≤ 1000) (hl : xs.length ≤ 4194304) (hf : FitL xs) :
    Calls Try.prog 69 #[rv] w1 fun e w' => ∃ o, e = .returned (tval o) ∧ Mk w w' J o xs := by
  refine (crown_any res w1 rv h9 b.row b.tr b.off (by rcases b.wf with ⟨t, rfl, _⟩ | ⟨t, s, rfl, _⟩ <;> simp) (by rw [b.its]; exact hl) (by rw [b.its]; exact hf) ?_).mono ?_
  · rcases b.wf with ⟨t, rfl, q⟩ | ⟨t, s, rfl, q, q'⟩
    · exact .inl ⟨t, rfl, q⟩
    · refine .inr (fun x hx => ?_)
      simp only [List.mem_cons, List.not_mem_nil, or_false] at hx
      rcases hx with rfl | rfl
      · exact q
      · exact q'
  · rintro e w' ⟨o, rfl, m⟩
    exact ⟨o, rfl, m.after b⟩

set_option maxRecDepth 100000 in
theorem join_two {i j : Nat} (a : Tr i) (b : Tr j) (w : World) (ma : At1 w (some ⟨i, a⟩)) (mb : At1 w (some ⟨j, b⟩)) (ho : Off (fp i a) (fp j b)) (hf : FitL (its i a ++ its j b)) (hl : (its i a ++ its j b).length ≤ 4194304) :
    Calls Try.prog 51 #[ptr (adr i a), ptr (adr j b)] w fun e w' => ∃ o, e = .returned (tval o) ∧ Mk w w' (fp i a ++ fp j b) o (its i a ++ its j b) := by
  obtain ⟨m1, wa, ha⟩ := ma.mem _ rfl
  obtain ⟨m2, wb, hb⟩ := mb.mem _ rfl
  dsimp only at m1 wa ha m2 wb hb
  have nd : (fp i a ++ fp j b).Nodup := by
    rw [List.nodup_append]
    exact ⟨ma.nd, mb.nd, fun x hx y hy e => ho x hx (e ▸ hy)⟩
  have B : ∃ h, h ≤ 1000 ∧ BlT i j h 2 a b := by
    rcases Nat.le_total j i with c | c
    · obtain ⟨d, rfl⟩ := Nat.le.dest c
      exact ⟨j + d, by omega, blend_up j b 2 (Nat.le_refl _) wb d 2 a (by omega) (Nat.le_refl _) (by omega) wa nd hf hl⟩
    · obtain ⟨d, rfl⟩ := Nat.le.dest c
      exact ⟨i + d, by omega, blend_dn i a 2 (Nat.le_refl _) wa d 2 b (by omega) (Nat.le_refl _) (by omega) wb nd hf hl⟩
  obtain ⟨h, h9, B⟩ := B
  have A1 := hide (B w _ _ m1 m2)
  have A2 := hide (fun w1 rv res (q : Bl w w1 h (fp i a ++ fp j b) rv res (its i a ++ its j b) 2) => crown_bl q h9 hl hf)
  clear B ma mb m1 m2 ho hf hl nd wa wb ha hb
  generalize fp i a ++ fp j b = J at *
  generalize its i a ++ its j b = xs at *
  unfold ptr at *
  go_enter Try.func51, Try.ntmps51
  go_wp2_with fail
  refine (unhide A1).mono ?_
  rintro e w1 ⟨rv, res, rfl, h1⟩
  have A3 := hide (unhide A2 w1 rv res h1)
  clear h1 A1 A2
  go_wp2_with fail
  refine (unhide A3).mono ?_
  rintro e w2 ⟨o, rfl, h1⟩
  have M := hide h1
  clear h1 A3
  go_wp2
  go_ret
  exact ⟨o, rfl, unhide M⟩
set_option maxRecDepth 100000 in
theorem join_left (b : Value) (w : World) : Calls Try.prog 51 #[.pointer none, b] w fun e w' => e = .returned b ∧ w' = w := by
  go_enter Try.func51, Try.ntmps51
  go_wp2
  go_ret
  exact ⟨rfl, rfl⟩
set_option maxRecDepth 100000 in
theorem join_right (a : Nat) (w : World) : Calls Try.prog 51 #[ptr a, .pointer none] w fun e w' => e = .returned (ptr a) ∧ w' = w := by
  unfold ptr
  go_enter Try.func51, Try.ntmps51
  go_wp2
  go_ret
  exact ⟨rfl, rfl⟩
/-- Two trees, either of which may be none, one behind the other. -/
theorem join_tr (o1 o2 : Option Tp) (w : World) (m1 : At1 w o1) (m2 : At1 w o2) (ho : Off (tfp o1) (tfp o2)) (hf : FitL (tits o1 ++ tits o2)) (hl : (tits o1 ++ tits o2).length ≤ 4194304) :
    Calls Try.prog 51 #[tval o1, tval o2] w fun e w' => ∃ o, e = .returned (tval o) ∧ Mk w w' (tfp o1 ++ tfp o2) o (tits o1 ++ tits o2) := by
  match o1, o2, m1, m2, ho, hf, hl with
  | none, o2, m1, m2, ho, hf, hl =>
    refine (join_left (tval o2) w).mono ?_
    rintro e w' ⟨rfl, rfl⟩
    exact ⟨o2, rfl, Mk.same m2 (by simp [tits]) (fun k hk => by simp [hk])⟩
  | some T, none, m1, m2, ho, hf, hl =>
    refine (join_right _ w).mono ?_
    rintro e w' ⟨rfl, rfl⟩
    exact ⟨some T, rfl, Mk.same m1 (by simp [tits]) (fun k hk => by simp [hk])⟩
  | some T, some S, m1, m2, ho, hf, hl => exact join_two T.t S.t w m1 m2 ho hf hl
end Go.Proofs.Ytbkneonbpcmepaa
