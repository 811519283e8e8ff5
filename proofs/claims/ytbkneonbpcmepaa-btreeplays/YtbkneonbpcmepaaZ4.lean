/- settleAbove. -/
import Derived.Test.YtbkneonbpcmepaaZ3
namespace Go.Proofs.Ytbkneonbpcmepaa
open Go.RowKit Go.Arb
set_option linter.unusedVariables false
set_option linter.unusedSimpArgs false

theorem its_fill_same {h : Nat} (f : Fr (Tr h)) {t t' : Tr h} (e : its h t' = its h t) : its (h + 1) (fill f t') = its (h + 1) (fill f t) := by rw [its_fill, its_fill, e]
theorem memC_same {w : World} : ∀ {d h : Nat} {c : Cx d h} {t t' : Tr h}, MemC w d h c t → its h t' = its h t → adr h t' = adr h t → MemC w d h c t'
  | 0, _, _, _, _, _, _, _ => trivial
  | d + 1, h, c, t, t', ⟨k1, k2, k3, k4⟩, e1, e2 => by
    refine ⟨?_, ?_, k3, memC_same k4 (its_fill_same _ e1) rfl⟩
    · have e3 : sm (h + 1) (fill (hd c) t') = sm (h + 1) (fill (hd c) t) := by unfold sm; rw [its_fill_same _ e1]
      unfold Root at *
      rw [e3]
      exact k1
    · rw [List.map_append, List.map_cons, e2, ← List.map_cons, ← List.map_append]
      exact k2
theorem memC_keep {w w' : World} {ks : List Nat} (hk : Keep ks w w') : ∀ {d h : Nat} {c : Cx d h} {t : Tr h}, MemC w d h c t → Off (fpC d h c) ks → MemC w' d h c t
  | 0, _, _, _, _, _ => trivial
  | d + 1, h, c, t, ⟨k1, k2, k3, k4⟩, ho => by
    refine ⟨Root.keep k1 hk (ho _ ?_), k2.keep hk (fun x hx => ho x ?_), fun s hs => (k3 s hs).keep hk (fun x hx => ho x ?_), memC_keep hk k4 (fun x hx => ho x ?_)⟩
    · show (hd c).a ∈ _
      simp [fpC]
    · simp [fpC, hx]
    · simp only [fpC, List.mem_cons, List.mem_append]
      rcases List.mem_append.1 hs with h1 | h1
      · exact .inr (.inr (.inl (fps_mem h1 hx)))
      · exact .inr (.inr (.inr (.inl (fps_mem h1 hx))))
    · simp only [fpC, List.mem_cons, List.mem_append]
      exact .inr (.inr (.inr (.inr hx)))
theorem settl_rais_fill {h : Nat} (x : Int) (f : Fr (Tr h)) (t : Tr h) : settl h (rais x (h + 1) (fill f t)) = fill ⟨f.a, f.r, 0, f.L.map (rais (f.m + x) h), f.R.map (rais (f.m + x) h)⟩ (rais (f.m + x) h t) := by
  show nod h f.a f.r 0 ((f.L ++ t :: f.R).map (rais (f.m + x) h)) = nod h f.a f.r 0 (f.L.map (rais (f.m + x) h) ++ rais (f.m + x) h t :: f.R.map (rais (f.m + x) h))
  rw [List.map_append, List.map_cons]

/-- A tree by itself, in memory and as it must be. -/
structure Own1 (w : World) (T : Tp) : Prop where
  mem : Mem w T.h (.pointer none) T.t
  nd : (fp T.h T.t).Nodup
  wf : Wf T.h 2 T.t
  len : (its T.h T.t).length ≤ 4194304
theorem zc_its (d h : Nat) (c : Cx d h) (t : Tr h) : its (plug d h (zc d h c) (rais (cw d h c) h t)).h (plug d h (zc d h c) (rais (cw d h c) h t)).t = its (plug d h c t).h (plug d h c t).t := by
  rw [plug_its, plug_its, pre_zc, post_zc, cw_zc, rz_zero, its_rais]
theorem zc_fp (d h : Nat) (c : Cx d h) (t : Tr h) : (fp (plug d h (zc d h c) (rais (cw d h c) h t)).h (plug d h (zc d h c) (rais (cw d h c) h t)).t).Perm (fp (plug d h c t).h (plug d h c t).t) := by
  refine (fp_plug _ _ _ _).trans ?_
  rw [fp_rais, fpC_zc]
  exact (fp_plug _ _ _ _).symm

set_option maxRecDepth 100000 in
theorem settleAbove_any : ∀ (d h : Nat) (c : Cx d h) (t : Tr h) (w : World), Own1 w (plug d h c t) →
    Calls Try.prog 67 #[ptr (adr h t)] w fun e w' => e = .returned (.tuple #[]) ∧ Mem w' (plug d h (zc d h c) (rais (cw d h c) h t)).h (.pointer none) (plug d h (zc d h c) (rais (cw d h c) h t)).t ∧ Keep (fp (plug d h c t).h (plug d h c t).t) w w'
  | 0, h, c, t, w, o => by
    obtain ⟨q0, _⟩ := Kn.cells (Mem.root ((mem_plug 0 h c t).1 o.mem).1)
    simp only [upC] at q0
    have M : Hid (Mem w (plug 0 h (zc 0 h c) (rais (cw 0 h c) h t)).h (.pointer none) (plug 0 h (zc 0 h c) (rais (cw 0 h c) h t)).t) := hide (by
      show Mem w h (.pointer none) (rais 0 h t)
      rw [rais_zero]
      exact o.mem)
    clear o
    unfold ptr
    go_enter Try.func67, Try.ntmps67
    go_wp2
    go_end0
    exact ⟨rfl, unhide M, Keep.refl _ _⟩
  | d + 1, h, c, t, w, o => by
    have ih := settleAbove_any d (h + 1) (tl c) (fill (hd c) t) w o
    obtain ⟨mt, mc⟩ := (mem_plug (d + 1) h c t).1 o.mem
    obtain ⟨q0, _⟩ := Kn.cells mt.root
    simp only [upC] at q0
    have hw2 := (wf_plug d (h + 1) 2 (tl c) (fill (hd c) t) (by omega) o.wf).1
    have hfit : FitL (its (plug (d + 1) h c t).h (plug (d + 1) h c t).t) := o.wf.fit
    have eT : plug (d + 1) h c t = plug d (h + 1) (tl c) (fill (hd c) t) := rfl
    have hx : FitL (rz (cw d (h + 1) (tl c)) (its (h + 1) (fill (hd c) t))) ∧ (its (h + 1) (fill (hd c) t)).length ≤ 4194304 := by
      have e1 := plug_its d (h + 1) (tl c) (fill (hd c) t)
      rw [← eT] at e1
      rw [e1] at hfit
      have hl := o.len
      rw [e1] at hl
      refine ⟨(FitL.append.1 (FitL.append.1 hfit).2).1, ?_⟩
      simp only [List.length_append, rz_length] at hl
      omega
    have wT := hw2.rais hx.1
    have nT : (fp (h + 1) (fill (hd c) t)).Nodup ∧ Off (fpC d (h + 1) (tl c)) (fp (h + 1) (fill (hd c) t)) := by
      have h1 := (fp_plug d (h + 1) (tl c) (fill (hd c) t)).nodup o.nd
      rw [List.nodup_append] at h1
      exact ⟨h1.1, fun x hx hy => h1.2.2 x hy x hx rfl⟩
    have hJ : ∀ x ∈ fp (h + 1) (fill (hd c) t), x ∈ fp (plug (d + 1) h c t).h (plug (d + 1) h c t).t := fun x hx => by
      rw [eT]
      exact (fp_plug d (h + 1) (tl c) (fill (hd c) t)).mem_iff.2 (by simp [hx])
    have IH := hide ih
    have H := hide (And.intro wT (And.intro nT (And.intro hx hJ)))
    clear ih mt mc hw2 hfit o hx wT nT hJ
    rw [show adr (h + 1) (fill (hd c) t) = (hd c).a from rfl] at IH
    unfold ptr at *
    go_enter Try.func67, Try.ntmps67
    go_wp2_with fail
    refine (unhide IH).mono ?_
    rintro e w1 ⟨rfl, h1, h2⟩
    obtain ⟨m1, mc1⟩ := (mem_plug d (h + 1) _ _).1 h1
    rw [upC_zc] at m1
    have mt1 : Mem w1 h (ptr (hd c).a) t := m1.2.2 t (show t ∈ (hd c).L ++ t :: (hd c).R by simp)
    obtain ⟨q0', _⟩ := Kn.cells mt1.root
    have nd1 : (fp (h + 1) (rais (cw d (h + 1) (tl c)) (h + 1) (fill (hd c) t))).Nodup := by rw [fp_rais]; exact (unhide H).2.1.1
    have S1 := hide (settle_nod (rais (cw d (h + 1) (tl c)) (h + 1) (fill (hd c) t)) (upC d (h + 1) (tl c)) w1 m1 nd1 (unhide H).1 (by rw [its_rais, rz_length]; exact (unhide H).2.2.1.2))
    have G := hide (And.intro mc1 h2)
    clear h1 h2 m1 mc1 mt1 nd1 IH q0
    rw [show Nd.a (rais (cw d (h + 1) (tl c)) (h + 1) (fill (hd c) t)) = (hd c).a from rfl] at S1
    unfold ptr at S1 q0'
    go_wp2_with fail
    refine (unhide S1).mono ?_
    rintro e w2 ⟨rfl, h1, h2⟩
    rw [fp_settl, fp_rais] at h2
    have e1 := settl_rais_fill (cw d (h + 1) (tl c)) (hd c) t
    have mc2 := memC_keep h2 (unhide G).1 (by rw [fpC_zc]; exact (unhide H).2.1.2)
    have mc3 := memC_same (t' := settl h (rais (cw d (h + 1) (tl c)) (h + 1) (fill (hd c) t))) mc2 (its_settl _ _) rfl
    rw [← upC_zc] at h1
    have M := hide (And.intro ((mem_plug d (h + 1) (zc d (h + 1) (tl c)) (settl h (rais (cw d (h + 1) (tl c)) (h + 1) (fill (hd c) t)))).2 ⟨h1, mc3⟩) ((unhide G).2.tr (h2.mono (fun x hx => .inl ((unhide H).2.2.2 x hx)))))
    rw [e1] at M
    clear h1 h2 mc2 mc3 S1 G H e1
    go_wp2
    go_end0
    exact ⟨rfl, (unhide M).1, (unhide M).2⟩
end Go.Proofs.Ytbkneonbpcmepaa
