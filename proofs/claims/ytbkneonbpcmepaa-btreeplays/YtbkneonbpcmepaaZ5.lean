/- cut: what holds while it goes up, apart from the walk. -/
import Derived.Test.YtbkneonbpcmepaaZ4
namespace Go.Proofs.Ytbkneonbpcmepaa
open Go.RowKit Go.Arb
set_option linter.unusedVariables false
set_option linter.unusedSimpArgs false

theorem At1.keep {w w' : World} {o : Option Tp} {ks : List Nat} (a : At1 w o) (hk : Keep ks w w') (ho : Off (tfp o) ks) : At1 w' o :=
  ⟨fun T e => by
    obtain ⟨m, q⟩ := a.mem T e
    subst e
    exact ⟨m.keep hk ho, q⟩, a.nd⟩
theorem At1.lt {w : World} {o : Option Tp} (a : At1 w o) : ∀ k ∈ tfp o, k < w.heap.size := fun k hk => by
  cases o with
  | none => simp [tfp] at hk
  | some T => exact (a.mem T rfl).1.lt k hk
theorem Mk.size {w w' : World} {J : List Nat} {o : Option Tp} {xs : List It} (m : Mk w w' J o xs) : w.heap.size ≤ w'.heap.size := m.kp.size

theorem clone_crown {h : Nat} (ts : List (Tr h)) (w w' : World) (r : Value) (h9 : h ≤ 1000) (hr : Row w' r (ts.map (adr h))) (bel : Below w.heap.size w w') (new : ∀ g ∈ own r, w.heap.size ≤ g) (m : Ts w h ts) (h8 : ts.length ≤ 8)
    (hl : (ts.flatMap (its h)).length ≤ 4194304) (hf : FitL (ts.flatMap (its h))) (hw : ∀ t ∈ ts, Wf h 4 t) :
    Calls Try.prog 69 #[r] w' fun e w'' => ∃ o, e = .returned (tval o) ∧ Mk w w'' (fps h ts) o (ts.flatMap (its h)) := by
  refine (crown_any ts w' r h9 hr (m.below bel) (fun k h1 h2 => ?_) h8 hl hf (.inr hw)).mono ?_
  · have := new k h1
    have := m.lt k h2
    omega
  · rintro e w'' ⟨o, rfl, q⟩
    refine ⟨o, rfl, ⟨q.at_, q.its, (Keep.ofBelow bel (fps h ts)).trans q.kp (fun x hx => ?_), fun x hx => ?_⟩⟩
    · rcases List.mem_append.1 hx with hx | hx
      · exact .inr (new x hx)
      · exact .inl hx
    · rcases q.gr x hx with h1 | h1
      · rcases List.mem_append.1 h1 with h1 | h1
        · exact .inr (new x h1)
        · exact .inl h1
      · exact .inr (Nat.le_trans bel.size h1)
theorem join_l {w w' : World} {J : List Nat} {o o1 : Option Tp} {xs : List It} (m : Mk w w' J o xs) (a : At1 w o1) (ho : Off (tfp o1) J) (hf : FitL (xs ++ tits o1)) (hl : (xs ++ tits o1).length ≤ 4194304) :
    Calls Try.prog 51 #[tval o, tval o1] w' fun e w'' => ∃ o', e = .returned (tval o') ∧ Mk w w'' (J ++ tfp o1) o' (xs ++ tits o1) := by
  have a' := a.keep m.kp ho
  have off : Off (tfp o) (tfp o1) := fun k h1 h2 => by
    rcases m.gr k h1 with h3 | h3
    · exact ho k h2 h3
    · have := a.lt k h2; omega
  refine (join_tr o o1 w' m.at_ a' off (by rw [m.its]; exact hf) (by rw [m.its]; exact hl)).mono ?_
  rintro e w'' ⟨o', rfl, q⟩
  refine ⟨o', rfl, ⟨q.at_, by rw [q.its, m.its], (m.kp.mono (fun x hx => .inl (by simp [hx]))).trans q.kp (fun x hx => ?_), fun x hx => ?_⟩⟩
  · rcases List.mem_append.1 hx with hx | hx
    · rcases m.gr x hx with h1 | h1
      · exact .inl (by simp [h1])
      · exact .inr h1
    · exact .inl (by simp [hx])
  · rcases q.gr x hx with h1 | h1
    · rcases List.mem_append.1 h1 with h1 | h1
      · rcases m.gr x h1 with h1 | h1
        · exact .inl (by simp [h1])
        · exact .inr h1
      · exact .inl (by simp [h1])
    · exact .inr (Nat.le_trans m.size h1)
theorem join_r {w w' : World} {J : List Nat} {o o1 : Option Tp} {xs : List It} (m : Mk w w' J o xs) (a : At1 w o1) (ho : Off (tfp o1) J) (hf : FitL (tits o1 ++ xs)) (hl : (tits o1 ++ xs).length ≤ 4194304) :
    Calls Try.prog 51 #[tval o1, tval o] w' fun e w'' => ∃ o', e = .returned (tval o') ∧ Mk w w'' (J ++ tfp o1) o' (tits o1 ++ xs) := by
  have a' := a.keep m.kp ho
  have off : Off (tfp o1) (tfp o) := fun k h2 h1 => by
    rcases m.gr k h1 with h3 | h3
    · exact ho k h2 h3
    · have := a.lt k h2; omega
  refine (join_tr o1 o w' a' m.at_ off (by rw [m.its]; exact hf) (by rw [m.its]; exact hl)).mono ?_
  rintro e w'' ⟨o', rfl, q⟩
  refine ⟨o', rfl, ⟨q.at_, by rw [q.its, m.its], (m.kp.mono (fun x hx => .inl (by simp [hx]))).trans q.kp (fun x hx => ?_), fun x hx => ?_⟩⟩
  · rcases List.mem_append.1 hx with hx | hx
    · exact .inl (by simp [hx])
    · rcases m.gr x hx with h1 | h1
      · exact .inl (by simp [h1])
      · exact .inr h1
  · rcases q.gr x hx with h1 | h1
    · rcases List.mem_append.1 h1 with h1 | h1
      · exact .inl (by simp [h1])
      · rcases m.gr x h1 with h1 | h1
        · exact .inl (by simp [h1])
        · exact .inr h1
    · exact .inr (Nat.le_trans m.size h1)

/-- Nothing waits above. -/
def Zr : (d h : Nat) → Cx d h → Prop
  | 0, _, _ => True
  | d + 1, h, c => cw (d + 1) h c = 0 ∧ Zr d (h + 1) (tl c)
theorem zr_zc : ∀ (d h : Nat) (c : Cx d h), Zr d h (zc d h c)
  | 0, _, _ => trivial
  | d + 1, h, c => ⟨cw_zc _ _ _, zr_zc d (h + 1) (tl c)⟩
/-- What is beside is as it must be. -/
def WfC : (d h : Nat) → Cx d h → Prop
  | 0, _, _ => True
  | d + 1, h, c => ((hd c).L.length + (hd c).R.length ≤ 7 ∧ (∀ s ∈ (hd c).L, Wf h 4 s) ∧ ∀ s ∈ (hd c).R, Wf h 4 s) ∧ WfC d (h + 1) (tl c)
theorem wfC_of : ∀ (d h : Nat) (c : Cx d h) (t : Tr h), Wf (plug d h c t).h 2 (plug d h c t).t → WfC d h c
  | 0, _, _, _, _ => trivial
  | d + 1, h, c, t, w => by
    have h1 := (wf_plug d (h + 1) 2 (tl c) (fill (hd c) t) (by omega) w).1
    have h2 : ((hd c).L ++ t :: (hd c).R).length ≤ 8 := h1.1.2
    have h3 : ∀ s ∈ (hd c).L ++ t :: (hd c).R, Wf h 4 s := h1.2.2
    rw [mem_at] at h2
    exact ⟨⟨by omega, fun s hs => h3 s (by simp [hs]), fun s hs => h3 s (by simp [hs])⟩, wfC_of d (h + 1) (tl c) (fill (hd c) t) w⟩
theorem wf_raised {h : Nat} {x : Int} {ts : List (Tr h)} (w : ∀ s ∈ ts, Wf h 4 s) (f : FitL (rz x (ts.flatMap (its h)))) : ∀ s ∈ ts.map (rais x h), Wf h 4 s := fun s hs => by
  obtain ⟨t, ht, rfl⟩ := List.mem_map.1 hs
  refine (w t ht).rais (f.sub (fun y hy => ?_))
  rw [rz_flatMap]
  exact List.mem_flatMap.2 ⟨t, ht, hy⟩
theorem wfC_zc : ∀ (d h : Nat) (c : Cx d h), WfC d h c → FitL (pre d h c) → FitL (post d h c) → WfC d h (zc d h c)
  | 0, _, _, _, _, _ => trivial
  | d + 1, h, c, ⟨⟨w1, w2, w3⟩, w4⟩, f1, f2 => by
    rw [pre] at f1
    rw [post] at f2
    refine ⟨⟨?_, wf_raised w2 (FitL.append.1 f1).2, wf_raised w3 (FitL.append.1 f2).1⟩, wfC_zc d (h + 1) (tl c) w4 (FitL.append.1 f1).1 (FitL.append.1 f2).2⟩
    show ((hd c).L.map _).length + ((hd c).R.map _).length ≤ 7
    rw [List.length_map, List.length_map]
    exact w1

/-- On the way up: what was put ahead, what behind, and what is still above. -/
structure Cut (w0 w : World) (J : List Nat) (d h : Nat) (c : Cx d h) (t : Tr h) (o1 o2 : Option Tp) (P Q : List It) : Prop where
  memc : MemC w d h c t
  a1 : At1 w o1
  a2 : At1 w o2
  nd : (fpC d h c).Nodup
  o12 : Off (tfp o1) (tfp o2)
  f1 : Off (tfp o1) (fpC d h c)
  f2 : Off (tfp o2) (fpC d h c)
  at_ : adr h t ∉ fpC d h c
  lv : Lv w (adr h t)
  p : pre d h c ++ tits o1 = P
  q : tits o2 ++ post d h c = Q
  z : Zr d h c
  wf : WfC d h c
  fp_ : FitL P
  fq : FitL Q
  lp : P.length ≤ 4194304
  lq : Q.length ≤ 4194304
  h9 : h + d ≤ 1000
  kp : Keep J w0 w
  gr : Grew w0 J (tfp o1 ++ tfp o2)
  sub : ∀ k ∈ fpC d h c, k ∈ J

theorem Lv.keep {w w' : World} {ks : List Nat} {a : Nat} (l : Lv w a) (hk : Keep ks w w') (ho : a ∉ ks) : Lv w' a := by
  obtain ⟨c, hc⟩ := l
  exact ⟨c, by rw [hk.block a ((Array.getElem?_eq_some_iff.1 hc).1) ho]; exact hc⟩
theorem mem_fpC {d h : Nat} (c : Cx (d + 1) h) (x : Nat) : x ∈ fpC (d + 1) h c ↔ x = (hd c).a ∨ x ∈ own (hd c).r ∨ x ∈ fps h (hd c).L ∨ x ∈ fps h (hd c).R ∨ x ∈ fpC d (h + 1) (tl c) := by
  simp only [fpC, List.mem_cons, List.mem_append]
theorem fpC_nd {d h : Nat} {c : Cx (d + 1) h} (n : (fpC (d + 1) h c).Nodup) :
    (hd c).a ∉ own (hd c).r ∧ (hd c).a ∉ fps h (hd c).L ∧ (hd c).a ∉ fps h (hd c).R ∧ (hd c).a ∉ fpC d (h + 1) (tl c) ∧ Off (own (hd c).r) (fps h (hd c).L) ∧ Off (own (hd c).r) (fps h (hd c).R) ∧ Off (fps h (hd c).L) (fps h (hd c).R) ∧ Off (fps h (hd c).L) (fpC d (h + 1) (tl c)) ∧ Off (fps h (hd c).R) (fpC d (h + 1) (tl c)) ∧
      (fps h (hd c).L).Nodup ∧ (fps h (hd c).R).Nodup ∧ (fpC d (h + 1) (tl c)).Nodup := by
  rw [fpC, List.nodup_cons] at n
  obtain ⟨n0, n⟩ := n
  simp only [List.mem_append, not_or] at n0
  obtain ⟨a1, a2, a3, a4⟩ := n0
  rw [List.nodup_append] at n
  obtain ⟨_, n, k1⟩ := n
  rw [List.nodup_append] at n
  obtain ⟨b1, n, k2⟩ := n
  rw [List.nodup_append] at n
  obtain ⟨b2, b3, k3⟩ := n
  exact ⟨a1, a2, a3, a4, fun x h1 h2 => k1 x h1 x (by simp [h2]) rfl, fun x h1 h2 => k1 x h1 x (by simp [h2]) rfl, fun x h1 h2 => k2 x h1 x (by simp [h2]) rfl, fun x h1 h2 => k2 x h1 x (by simp [h2]) rfl, fun x h1 h2 => k3 x h1 x h2 rfl, b1, b2, b3⟩

theorem memC_lt {w : World} : ∀ {d h : Nat} {c : Cx d h} {t : Tr h}, MemC w d h c t → ∀ k ∈ fpC d h c, k < w.heap.size
  | 0, _, _, _, _, k, hk => by simp [fpC] at hk
  | d + 1, h, c, t, ⟨k1, k2, k3, k4⟩, k, hk => by
    simp only [fpC, List.mem_cons, List.mem_append] at hk
    rcases hk with rfl | hk | hk | hk | hk
    · exact Kn.lt (show Kn _ _ _ _ _ _ _ _ from k1)
    · exact row_lt k2 k hk
    · obtain ⟨s, hs, hk⟩ := List.mem_flatMap.1 hk
      exact (k3 s (by simp [hs])).lt k hk
    · obtain ⟨s, hs, hk⟩ := List.mem_flatMap.1 hk
      exact (k3 s (by simp [hs])).lt k hk
    · exact memC_lt k4 k hk
variable {w0 w : World} {J : List Nat} {d h : Nat} {c : Cx (d + 1) h} {t : Tr h} {o1 o2 : Option Tp} {P Q : List It}
theorem Cut.zero (C : Cut w0 w J (d + 1) h c t o1 o2 P Q) : pre d (h + 1) (tl c) ++ ((hd c).L.flatMap (its h) ++ tits o1) = P ∧ (tits o2 ++ (hd c).R.flatMap (its h)) ++ post d (h + 1) (tl c) = Q := by
  have h1 := C.p
  have h2 := C.q
  rw [pre, C.z.1, rz_zero, List.append_assoc] at h1
  rw [post, C.z.1, rz_zero, ← List.append_assoc] at h2
  exact ⟨h1, h2⟩
theorem Cut.left (C : Cut w0 w J (d + 1) h c t o1 o2 P Q) : FitL ((hd c).L.flatMap (its h) ++ tits o1) ∧ ((hd c).L.flatMap (its h) ++ tits o1).length ≤ 4194304 := by
  have h1 := C.zero.1
  refine ⟨(FitL.append.1 (show FitL (pre d (h + 1) (tl c) ++ _) from by rw [h1]; exact C.fp_)).2, ?_⟩
  have h2 := C.lp
  rw [← h1, List.length_append] at h2
  omega
theorem Cut.right (C : Cut w0 w J (d + 1) h c t o1 o2 P Q) : FitL (tits o2 ++ (hd c).R.flatMap (its h)) ∧ (tits o2 ++ (hd c).R.flatMap (its h)).length ≤ 4194304 := by
  have h1 := C.zero.2
  refine ⟨(FitL.append.1 (show FitL ((tits o2 ++ (hd c).R.flatMap (its h)) ++ _) from by rw [h1]; exact C.fq)).1, ?_⟩
  have h2 := C.lq
  rw [← h1, List.length_append] at h2
  omega
theorem Cut.tsL (C : Cut w0 w J (d + 1) h c t o1 o2 P Q) : Ts w h (hd c).L := ⟨fun s hs => ⟨_, C.memc.2.2.1 s (by simp [hs])⟩, (fpC_nd C.nd).2.2.2.2.2.2.2.2.2.1⟩
theorem Cut.tsR (C : Cut w0 w J (d + 1) h c t o1 o2 P Q) : Ts w h (hd c).R := ⟨fun s hs => ⟨_, C.memc.2.2.1 s (by simp [hs])⟩, (fpC_nd C.nd).2.2.2.2.2.2.2.2.2.2.1⟩
/-- The parts on the left are put ahead. -/
theorem Cut.step1 (C : Cut w0 w J (d + 1) h c t o1 o2 P Q) {w1 : World} {r : Value} (hr : Row w1 r ((hd c).L.map (adr h))) (bel : Below w.heap.size w w1) (new : ∀ g ∈ own r, w.heap.size ≤ g) :
    Calls Try.prog 69 #[r] w1 fun e w' => ∃ o, e = .returned (tval o) ∧ Mk w w' (fps h (hd c).L) o ((hd c).L.flatMap (its h)) := by
  have h1 := C.left
  refine clone_crown _ w w1 r (by have := C.h9; omega) hr bel new C.tsL (by have := C.wf.1.1; omega) ?_ (FitL.append.1 h1.1).1 C.wf.1.2.1
  have := h1.2
  rw [List.length_append] at this
  omega
theorem Cut.step2 (C : Cut w0 w J (d + 1) h c t o1 o2 P Q) {w1 : World} {o : Option Tp} (m : Mk w w1 (fps h (hd c).L) o ((hd c).L.flatMap (its h))) :
    Calls Try.prog 51 #[tval o, tval o1] w1 fun e w' => ∃ o', e = .returned (tval o') ∧ Mk w w' (fps h (hd c).L ++ tfp o1) o' ((hd c).L.flatMap (its h) ++ tits o1) :=
  join_l m C.a1 (fun k h1 h2 => C.f1 k h1 ((mem_fpC c k).2 (.inr (.inr (.inl h2))))) C.left.1 C.left.2
theorem Cut.offR (C : Cut w0 w J (d + 1) h c t o1 o2 P Q) : Off (fps h (hd c).R) (fps h (hd c).L ++ tfp o1) := fun k h1 h2 => by
  rcases List.mem_append.1 h2 with h2 | h2
  · exact (fpC_nd C.nd).2.2.2.2.2.2.1 k h2 h1
  · exact C.f1 k h2 ((mem_fpC c k).2 (.inr (.inr (.inr (.inl h1)))))
theorem Cut.step3 (C : Cut w0 w J (d + 1) h c t o1 o2 P Q) {w1 w2 : World} {o1' : Option Tp} (m : Mk w w1 (fps h (hd c).L ++ tfp o1) o1' ((hd c).L.flatMap (its h) ++ tits o1)) {r : Value} (hr : Row w2 r ((hd c).R.map (adr h))) (bel : Below w1.heap.size w1 w2) (new : ∀ g ∈ own r, w1.heap.size ≤ g) :
    Calls Try.prog 69 #[r] w2 fun e w' => ∃ o, e = .returned (tval o) ∧ Mk w1 w' (fps h (hd c).R) o ((hd c).R.flatMap (its h)) := by
  have h1 := C.right
  refine clone_crown _ w1 w2 r (by have := C.h9; omega) hr bel new (C.tsR.keep m.kp C.offR) (by have := C.wf.1.1; omega) ?_ (FitL.append.1 h1.1).2 C.wf.1.2.2
  have := h1.2
  rw [List.length_append] at this
  omega
theorem Cut.step4 (C : Cut w0 w J (d + 1) h c t o1 o2 P Q) {w1 w2 : World} {o o1' : Option Tp} (m : Mk w w1 (fps h (hd c).L ++ tfp o1) o1' ((hd c).L.flatMap (its h) ++ tits o1)) (m' : Mk w1 w2 (fps h (hd c).R) o ((hd c).R.flatMap (its h))) :
    Calls Try.prog 51 #[tval o2, tval o] w2 fun e w' => ∃ o', e = .returned (tval o') ∧ Mk w1 w' (fps h (hd c).R ++ tfp o2) o' (tits o2 ++ (hd c).R.flatMap (its h)) :=
  join_r m' (C.a2.keep m.kp (fun k h1 h2 => by
    rcases List.mem_append.1 h2 with h2 | h2
    · exact C.f2 k h1 ((mem_fpC c k).2 (.inr (.inr (.inl h2))))
    · exact C.o12 k h2 h1)) (fun k h1 h2 => C.f2 k h1 ((mem_fpC c k).2 (.inr (.inr (.inr (.inl h2)))))) C.right.1 C.right.2
theorem Cut.up (C : Cut w0 w J (d + 1) h c t o1 o2 P Q) {w1 w2 : World} {o1' o2' : Option Tp} (m : Mk w w1 (fps h (hd c).L ++ tfp o1) o1' ((hd c).L.flatMap (its h) ++ tits o1)) (m' : Mk w1 w2 (fps h (hd c).R ++ tfp o2) o2' (tits o2 ++ (hd c).R.flatMap (its h))) :
    Cut w0 w2 J d (h + 1) (tl c) (fill (hd c) t) o1' o2' P Q ∧ w2.cell? ⟨(hd c).a, 0, none⟩ = some (upC d (h + 1) (tl c)) := by
  obtain ⟨n1, n2, n3, n4, n5, n6, n7, n8, n9, _, _, nt⟩ := fpC_nd C.nd
  have kk : Keep ((fps h (hd c).L ++ tfp o1) ++ (fps h (hd c).R ++ tfp o2)) w w2 := (m.kp.mono (fun x hx => .inl (List.mem_append.2 (.inl hx)))).tr (m'.kp.mono (fun x hx => .inl (List.mem_append.2 (.inr hx))))
  have lt1 := C.a1.lt
  have lt2 := C.a2.lt
  have ltL := C.tsL.lt
  have ltR := C.tsR.lt
  have sz := m.kp.size
  have offA : (hd c).a ∉ (fps h (hd c).L ++ tfp o1) ++ (fps h (hd c).R ++ tfp o2) := fun hc => by
    simp only [List.mem_append] at hc
    have hA : (hd c).a ∈ fpC (d + 1) h c := (mem_fpC c _).2 (.inl rfl)
    rcases hc with (hc | hc) | (hc | hc)
    · exact n2 hc
    · exact C.f1 _ hc hA
    · exact n3 hc
    · exact C.f2 _ hc hA
  have offC : Off (fpC d (h + 1) (tl c)) ((fps h (hd c).L ++ tfp o1) ++ (fps h (hd c).R ++ tfp o2)) := fun k hk hc => by
    simp only [List.mem_append] at hc
    have hA : k ∈ fpC (d + 1) h c := (mem_fpC c _).2 (.inr (.inr (.inr (.inr hk))))
    rcases hc with (hc | hc) | (hc | hc)
    · exact n8 k hc hk
    · exact C.f1 _ hc hA
    · exact n9 k hc hk
    · exact C.f2 _ hc hA
  have lt_A : (hd c).a < w.heap.size := Kn.lt (show Kn _ _ _ _ _ _ _ _ from C.memc.1)
  have ltC : ∀ k ∈ fpC d (h + 1) (tl c), k < w.heap.size := fun k hk => by
    refine Classical.byContradiction fun hn => ?_
    have := memC_lt C.memc.2.2.2 k hk
    exact hn this
  have sub1 : ∀ k ∈ (fps h (hd c).L ++ tfp o1) ++ (fps h (hd c).R ++ tfp o2), k ∈ J ∨ w0.heap.size ≤ k := fun k hk => by
    simp only [List.mem_append] at hk
    rcases hk with (hk | hk) | (hk | hk)
    · exact .inl (C.sub k ((mem_fpC c _).2 (.inr (.inr (.inl hk)))))
    · exact C.gr k (by simp [hk])
    · exact .inl (C.sub k ((mem_fpC c _).2 (.inr (.inr (.inr (.inl hk))))))
    · exact C.gr k (by simp [hk])
  have sz0 := C.kp.size
  have g1 : ∀ k ∈ tfp o1', (k ∈ fps h (hd c).L ∨ k ∈ tfp o1) ∨ w.heap.size ≤ k := fun k hk => by
    rcases m.gr k hk with h1 | h1
    · exact .inl (List.mem_append.1 h1)
    · exact .inr h1
  have g2 : ∀ k ∈ tfp o2', (k ∈ fps h (hd c).R ∨ k ∈ tfp o2) ∨ w1.heap.size ≤ k := fun k hk => by
    rcases m'.gr k hk with h1 | h1
    · exact .inl (List.mem_append.1 h1)
    · exact .inr h1
  have o1far : Off (tfp o1') (fps h (hd c).R ++ tfp o2) := fun k h1 h2 => by
    rcases List.mem_append.1 h2 with h2 | h2
    · rcases g1 k h1 with (h3 | h3) | h3
      · exact n7 k h3 h2
      · exact C.f1 k h3 ((mem_fpC c _).2 (.inr (.inr (.inr (.inl h2)))))
      · have := ltR k h2; omega
    · rcases g1 k h1 with (h3 | h3) | h3
      · exact C.f2 k h2 ((mem_fpC c _).2 (.inr (.inr (.inl h3))))
      · exact C.o12 k h3 h2
      · have := lt2 k h2; omega
  have a1' := m.at_.keep m'.kp o1far
  have lt1' := m.at_.lt
  refine ⟨⟨memC_keep kk C.memc.2.2.2 offC, a1', m'.at_, nt, fun k h1 h2 => ?_, fun k h1 h2 => ?_, fun k h1 h2 => ?_, n4, ?_, ?_, ?_, C.z.2, C.wf.2, C.fp_, C.fq, C.lp, C.lq, by have := C.h9; omega, C.kp.trans kk sub1, fun k hk => ?_, fun k hk => C.sub k ((mem_fpC c _).2 (.inr (.inr (.inr (.inr hk)))))⟩, ?_⟩
  · rcases g2 k h2 with h3 | h3
    · exact o1far k h1 (List.mem_append.2 h3)
    · have := lt1' k h1; omega
  · rcases g1 k h1 with (h3 | h3) | h3
    · exact n8 k h3 h2
    · exact C.f1 k h3 ((mem_fpC c _).2 (.inr (.inr (.inr (.inr h2)))))
    · have := ltC k h2; omega
  · rcases g2 k h1 with (h3 | h3) | h3
    · exact n9 k h3 h2
    · exact C.f2 k h3 ((mem_fpC c _).2 (.inr (.inr (.inr (.inr h2)))))
    · have := ltC k h2; omega
  · exact Lv.keep (Kn.lv (show Kn _ _ _ _ _ _ _ _ from C.memc.1)) kk offA
  · rw [m.its]; exact C.zero.1
  · rw [m'.its]; exact C.zero.2
  · rcases List.mem_append.1 hk with hk | hk
    · rcases g1 k hk with h3 | h3
      · exact sub1 k (by rw [List.mem_append]; exact .inl (List.mem_append.2 h3))
      · exact .inr (by omega)
    · rcases g2 k hk with h3 | h3
      · exact sub1 k (by rw [List.mem_append]; exact .inr (List.mem_append.2 h3))
      · exact .inr (by omega)
  · rw [kk.cell (p := ⟨(hd c).a, 0, none⟩) lt_A offA]
    exact (Kn.cells (show Kn _ _ _ _ _ _ _ _ from C.memc.1)).1
end Go.Proofs.Ytbkneonbpcmepaa
