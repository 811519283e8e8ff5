/- A forest whose links are made from the last one on: plain mathematics. -/
import Derived.Test.YtbcibdofcjehcaaA3
namespace Go.Proofs.Ytbcibdofcjehcaa
set_option linter.unusedVariables false
set_option linter.unusedSimpArgs false

/-- The links of those behind i alone. -/
def hiF (f : Nat → Int) (i : Nat) : Nat → Int := fun j => if i < j then f j else -1
theorem hiF_low {f : Nat → Int} (hf : Low f) (i : Nat) : Low (hiF f i) := fun j => by
  unfold hiF
  split
  · exact hf j
  · exact .inl rfl
theorem hiF_zero {f : Nat → Int} (h0 : f 0 = -1) : hiF f 0 = f := by
  funext j
  unfold hiF
  split
  · rfl
  · rw [show j = 0 by omega, h0]
theorem hiF_top {n : Nat} (f g : Nat → Int) : gr n n (fun _ => -1) g = gr n n (hiF f (n - 1)) g := by
  simp only [gr]
  congr 1
  funext j
  by_cases h : j < n
  · simp only [h, if_true, hiF]; rw [if_neg (by omega)]
  · simp [h]
theorem gr_getI {n i : Nat} {f g : Nat → Int} (hf : Low f) (h : i < n) : (gr n n f g).getI i = g i := by
  rw [Tr.getI, if_pos (Tr.hasI_there (gr_there hf h)), Int.toNat_natCast, gr_wt h]
theorem hi_linkB {n i j : Nat} {f g : Nat → Int} (hf : Low f) (hi : i < n) (hj : j < i) : (gr n n (hiF f i) g).linkB i j = true := by
  have hl := hiF_low hf i
  have hw := gr_wf (g := g) hl (Nat.le_refl n)
  have hip : (gr n n (hiF f i) g).par i = -1 := by rw [gr_par hi]; simp [hiF]
  have hjp : (gr n n (hiF f i) g).par j = -1 := by rw [gr_par (by omega)]; simp [hiF]; omega
  rw [hw.linkB_iff hip (by omega), (hw.same_root hip (by omega)).2 (by rw [hw.up_root hjp]; simp; omega)]
  rfl
theorem hi_link {n i j : Nat} {f g : Nat → Int} (hi : 0 < i) (hin : i < n) (h : f i = (j : Int)) : (gr n n (hiF f i) g).link i j = gr n n (hiF f (i - 1)) g := by
  simp only [gr, Tr.link]
  congr 1
  funext u
  by_cases e : u = i
  · subst e; simp only [updF, if_true, hin]; rw [hiF, if_pos (by omega), h]
  · simp only [updF, e, if_false, hiF]
    by_cases hu : u < n
    · simp only [hu, if_true]; congr 1; rw [eq_iff_iff]; omega
    · simp [hu]
theorem hi_root {n i : Nat} {f g : Nat → Int} (hi : 0 < i) (h : f i = -1) : gr n n (hiF f i) g = gr n n (hiF f (i - 1)) g := by
  have : hiF f i = hiF f (i - 1) := by
    funext u
    unfold hiF
    by_cases e : u = i
    · subst e; rw [if_neg (by omega), if_pos (by omega), h]
    · congr 1; rw [eq_iff_iff]; omega
  rw [this]
theorem all_root {n m : Nat} {g : Nat → Int} : gr n (m + 1) (updF (fun _ => -1) m (-1)) g = gr n (m + 1) (fun _ => -1) g := gr_root rfl
theorem all_low : Low (fun _ => -1) := fun _ => .inl rfl
end Go.Proofs.Ytbcibdofcjehcaa
