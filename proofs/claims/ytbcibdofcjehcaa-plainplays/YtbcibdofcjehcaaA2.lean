/- Forests that grow node by node, each below one ahead of it: plain mathematics. -/
import Derived.Test.YtbcibdofcjehcaaA1
import Derived.Test.YtbcibdofcjehcaaT4
namespace Go.Proofs.Ytbcibdofcjehcaa
set_option linter.unusedVariables false
set_option linter.unusedSimpArgs false

/-- The first m of n nodes are there; f: their parents, g: their weights. -/
def gr (n m : Nat) (f g : Nat → Int) : Tr := ⟨n, fun i => if i < m then f i else -2, fun i => if i < m then g i else 0⟩
/-- Each is a root, or below one ahead of it. -/
def Low (f : Nat → Int) : Prop := ∀ i, f i = -1 ∨ ∃ j : Nat, j < i ∧ f i = (j : Int)
def Fits16 (g : Nat → Int) : Prop := ∀ i, -32768 ≤ g i ∧ g i ≤ 32767

section
variable {n m i j : Nat} {f g : Nat → Int}
theorem gr_par (h : i < m) : (gr n m f g).par i = f i := by simp [gr, h]
theorem gr_gone (h : m ≤ i) : (gr n m f g).par i = -2 := by simp [gr]; omega
theorem gr_wt (h : i < m) : (gr n m f g).wt i = g i := by simp [gr, h]
theorem gr_there (hf : Low f) (h : i < m) : (gr n m f g).par i ≠ -2 := by
  rw [gr_par h]
  rcases hf i with e | ⟨j, _, e⟩ <;> omega
theorem gr_lt (h : (gr n m f g).par i ≠ -2) : i < m := Classical.byContradiction fun hn => h (gr_gone (by omega))
theorem gr_up (hf : Low f) : ∀ k i, i < k → i < m → ∃ l, Up (gr n m f g).par i l
  | 0, _, h, _ => by omega
  | k + 1, i, h, hm => by
    rcases hf i with e | ⟨j, hj, e⟩
    · exact ⟨_, .root (by rw [gr_par hm]; exact e)⟩
    · obtain ⟨l, hl⟩ := gr_up hf k j (by omega) (by omega)
      exact ⟨_, .step (by rw [gr_par hm]; exact e) hl⟩
theorem gr_wf (hf : Low f) (hm : m ≤ n) : (gr n m f g).Wf :=
  ⟨fun v hv => Nat.lt_of_lt_of_le (gr_lt hv) hm, fun v hv => gr_up hf (v + 1) v (by omega) (gr_lt hv)⟩
theorem gr_le (hf : Low f) {l : List Nat} (h : Up (gr n m f g).par i l) : ∀ x ∈ l, x ≤ i := by
  induction h using Up.ind with
  | root h => intro x hx; simp at hx; omega
  | @step v p l h hu ih =>
    intro x hx
    rcases List.mem_cons.1 hx with rfl | hx
    · exact Nat.le_refl _
    · have h1 := ih x hx
      have hv : v < m := gr_lt (g := g) (n := n) (f := f) (by omega)
      rw [gr_par hv] at h
      rcases hf v with e | ⟨j, hj, e⟩ <;> omega
theorem gr_new : gr n 0 f g = Tr.new n := by simp [gr, Tr.new]
theorem gr_addB (hf : Low f) (hm : m < n) (hg : fitB (g m) = true) : (gr n m f g).addB m (g m) = true := by
  simp [Tr.addB, hg, Tr.hasI_nat, gr_gone (Nat.le_refl m)]
  exact hm
/-- The next node, by itself. -/
theorem gr_add : (gr n m f g).add m (g m) = gr n (m + 1) (updF f m (-1)) g := by
  simp only [gr, Tr.add]
  congr 1
  · funext u
    by_cases e : u = m
    · subst e; simp [updF]
    · simp only [updF, e, if_false]; congr 1; rw [eq_iff_iff]; omega
  · funext u
    by_cases e : u = m
    · subst e; simp [updF]
    · simp only [updF, e, if_false]; congr 1; rw [eq_iff_iff]; omega
theorem low_upd (hf : Low f) (m : Nat) : Low (updF f m (-1)) := fun i => by
  by_cases e : i = m
  · subst e; left; simp [updF]
  · rw [updF_other _ _ e]; exact hf i
theorem gr_root (h : f m = -1) : gr n (m + 1) (updF f m (-1)) g = gr n (m + 1) f g := by
  have : updF f m (-1) = f := by
    funext u
    by_cases e : u = m
    · subst e; rw [updF_same, h]
    · rw [updF_other _ _ e]
  rw [this]
theorem gr_linkB (hf : Low f) (hm : m < n) (hj : j < m) : (gr n (m + 1) (updF f m (-1)) g).linkB m j = true := by
  have hw := gr_wf (g := g) (low_upd hf m) (show m + 1 ≤ n by omega)
  have hjt : (gr n (m + 1) (updF f m (-1)) g).par j ≠ -2 := gr_there (low_upd hf m) (by omega)
  have hmp : (gr n (m + 1) (updF f m (-1)) g).par m = -1 := by rw [gr_par (by omega)]; simp [updF]
  obtain ⟨r, e, _, hr⟩ := hw.rootN hjt
  have := gr_le (low_upd hf m) (hw.spec hjt) r hr
  simp only [Tr.linkB, Tr.hasI_nat, Int.toNat_natCast, hmp, e]
  rw [show ((gr n (m + 1) (updF f m (-1)) g).par j != -2) = true from by simpa using hjt]
  simp
  omega
theorem gr_link (h : f m = (j : Int)) : (gr n (m + 1) (updF f m (-1)) g).link m j = gr n (m + 1) f g := by
  simp only [gr, Tr.link]
  congr 1
  funext u
  by_cases e : u = m
  · subst e; simp [updF, h]
  · simp [updF, e]
theorem gr_fit (hf : Low f) (hg : Fits16 g) (hn : n ≤ 1048576) : (gr n m f g).Fit := by
  refine ⟨hn, fun v => ?_, fun v hv => ?_⟩
  · have := hg v
    simp only [gr]; split <;> omega
  · by_cases h : v < m
    · exact absurd hv (gr_there hf h)
    · simp [gr, h]
end
/-- The parents that bytes say. -/
def upF (us : List Int) : Nat → Int := fun i => if 0 < i ∧ us.getD i 0 % 8 ≠ 0 then us.getD i 0 % (i : Int) else -1
theorem upF_low {us : List Int} (h : ∀ n ∈ us, 0 ≤ n) : Low (upF us) := fun i => by
  unfold upF
  split
  · rename_i hc
    right
    have hb : 0 ≤ us.getD i 0 := by
      rw [List.getD_eq_getElem?_getD]
      cases hx : us[i]? with
      | none => simp
      | some x => exact h x (List.mem_of_getElem? hx)
    have h1 := Int.emod_nonneg (us.getD i 0) (show (i : Int) ≠ 0 by omega)
    have h2 := Int.emod_lt_of_pos (us.getD i 0) (show (0 : Int) < (i : Int) by omega)
    exact ⟨(us.getD i 0 % (i : Int)).toNat, by omega, by omega⟩
  · exact .inl rfl
def wF (ws : List Int) : Nat → Int := fun i => ws.getD i 0
theorem wF_fit {ws : List Int} (h : ∀ n ∈ ws, -32768 ≤ n ∧ n ≤ 32767) : Fits16 (wF ws) := fun i => by
  unfold wF
  rw [List.getD_eq_getElem?_getD]
  cases hx : ws[i]? with
  | none => simp
  | some x => exact h x (List.mem_of_getElem? hx)
end Go.Proofs.Ytbcibdofcjehcaa
