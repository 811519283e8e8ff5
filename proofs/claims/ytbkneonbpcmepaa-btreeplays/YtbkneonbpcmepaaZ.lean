/- A tree seen from one of its parts: the knots above it, from the nearest one on. -/
import Derived.Test.YtbkneonbpcmepaaP12
namespace Go.Proofs.Ytbkneonbpcmepaa
open Go.RowKit Go.Arb
set_option linter.unusedVariables false
set_option linter.unusedSimpArgs false

structure Fr (X : Type) where
  a : Nat
  r : Value
  m : Int
  L : List X
  R : List X
def Cx : Nat → Nat → Type
  | 0, _ => Unit
  | d + 1, h => Fr (Tr h) × Cx d (h + 1)
def fill {h : Nat} (f : Fr (Tr h)) (t : Tr h) : Tr (h + 1) := nod h f.a f.r f.m (f.L ++ t :: f.R)
def hd {d h : Nat} (c : Cx (d + 1) h) : Fr (Tr h) := Prod.fst c
def tl {d h : Nat} (c : Cx (d + 1) h) : Cx d (h + 1) := Prod.snd c
def cx {d h : Nat} (f : Fr (Tr h)) (c : Cx d (h + 1)) : Cx (d + 1) h := (f, c)
def plug : (d h : Nat) → Cx d h → Tr h → Tp
  | 0, h, _, t => ⟨h, t⟩
  | d + 1, h, c, t => plug d (h + 1) (tl c) (fill (hd c) t)
def upC : (d h : Nat) → Cx d h → Value
  | 0, _, _ => .pointer none
  | _ + 1, _, c => ptr (hd c).a
/-- What waits above a part, in all. -/
def cw : (d h : Nat) → Cx d h → Int
  | 0, _, _ => 0
  | d + 1, h, c => (hd c).m + cw d (h + 1) (tl c)
def pre : (d h : Nat) → Cx d h → List It
  | 0, _, _ => []
  | d + 1, h, c => pre d (h + 1) (tl c) ++ rz (cw (d + 1) h c) ((hd c).L.flatMap (its h))
def post : (d h : Nat) → Cx d h → List It
  | 0, _, _ => []
  | d + 1, h, c => rz (cw (d + 1) h c) ((hd c).R.flatMap (its h)) ++ post d (h + 1) (tl c)
theorem its_fill {h : Nat} (f : Fr (Tr h)) (t : Tr h) : its (h + 1) (fill f t) = rz f.m (f.L.flatMap (its h) ++ (its h t ++ f.R.flatMap (its h))) := by
  show rz f.m ((f.L ++ t :: f.R).flatMap (its h)) = _
  rw [List.flatMap_append, List.flatMap_cons]
theorem plug_its : ∀ (d h : Nat) (c : Cx d h) (t : Tr h), its (plug d h c t).h (plug d h c t).t = pre d h c ++ (rz (cw d h c) (its h t) ++ post d h c)
  | 0, h, c, t => by simp [plug, pre, post, cw, rz_zero]
  | d + 1, h, c, t => by
    rw [plug, plug_its d (h + 1) (tl c) (fill (hd c) t), its_fill]
    simp only [pre, post, cw, rz_append, rz_rz, List.append_assoc]
/-- Every item can be seen so. -/
theorem seek : ∀ (h : Nat) (t : Tr h) (v : Nat × Nat), v ∈ ids (its h t) → ∀ (d : Nat) (c : Cx d h), ∃ d' c' x, plug d' 0 c' x = plug d h c t ∧ (Lf.v x, Lf.a x) = v
  | 0, t, v, hv, d, c => ⟨d, c, t, rfl, by
    have : v ∈ [(Lf.v t, Lf.a t)] := hv
    simp only [List.mem_singleton] at this
    exact this.symm⟩
  | h + 1, t, v, hv, d, c => by
    have e : its (h + 1) t = rz (Nd.m t) ((Nd.ps t).flatMap (its h)) := rfl
    rw [e, ids_rz] at hv
    obtain ⟨x, hx, rfl⟩ := List.mem_map.1 hv
    obtain ⟨s, hs, hx⟩ := List.mem_flatMap.1 hx
    obtain ⟨L, R, hps⟩ := List.append_of_mem hs
    obtain ⟨d', c', y, h1, h2⟩ := seek h s x.1 (List.mem_map.2 ⟨x, hx, rfl⟩) (d + 1) (cx ⟨Nd.a t, Nd.r t, Nd.m t, L, R⟩ c)
    refine ⟨d', c', y, h1.trans ?_, h2⟩
    have ef : fill ⟨Nd.a t, Nd.r t, Nd.m t, L, R⟩ s = t := by
      show nod h (Nd.a t) (Nd.r t) (Nd.m t) (L ++ s :: R) = t
      rw [← hps]
      rfl
    show plug d (h + 1) c (fill ⟨Nd.a t, Nd.r t, Nd.m t, L, R⟩ s) = plug d (h + 1) c t
    rw [ef]

def MemC (w : World) : (d h : Nat) → Cx d h → Tr h → Prop
  | 0, _, _, _ => True
  | d + 1, h, c, t => Root w (h + 1) (upC d (h + 1) (tl c)) (fill (hd c) t) ∧ Row w (hd c).r (((hd c).L ++ t :: (hd c).R).map (adr h)) ∧ (∀ s ∈ (hd c).L ++ (hd c).R, Mem w h (ptr (hd c).a) s) ∧ MemC w d (h + 1) (tl c) (fill (hd c) t)
theorem mem_plug {w : World} : ∀ (d h : Nat) (c : Cx d h) (t : Tr h), Mem w (plug d h c t).h (.pointer none) (plug d h c t).t ↔ Mem w h (upC d h c) t ∧ MemC w d h c t
  | 0, h, c, t => ⟨fun m => ⟨m, trivial⟩, fun m => m.1⟩
  | d + 1, h, c, t => by
    rw [plug, mem_plug d (h + 1) (tl c) (fill (hd c) t)]
    constructor
    · rintro ⟨m, k⟩
      refine ⟨m.2.2 t (show t ∈ (hd c).L ++ t :: (hd c).R by simp), m.1, m.2.1, fun s hs => m.2.2 s ?_, k⟩
      show s ∈ (hd c).L ++ t :: (hd c).R
      rcases List.mem_append.1 hs with h1 | h1 <;> simp [h1]
    · rintro ⟨m, k1, k2, k3, k4⟩
      refine ⟨⟨k1, k2, fun s hs => ?_⟩, k4⟩
      have hs2 : s ∈ (hd c).L ++ t :: (hd c).R := hs
      simp only [List.mem_append, List.mem_cons] at hs2
      rcases hs2 with h1 | rfl | h1
      · exact k3 s (by simp [h1])
      · exact m
      · exact k3 s (by simp [h1])
/-- What is below and beside is as it must be. -/
theorem wf_plug : ∀ (d h k : Nat) (c : Cx d h) (t : Tr h), k ≤ 4 → Wf (plug d h c t).h k (plug d h c t).t → Wf h k t ∧ (∀ (e : Cx d h), True)
  | 0, h, k, c, t, _, w => ⟨w, fun _ => trivial⟩
  | d + 1, h, k, c, t, hk, w => by
    have h1 := (wf_plug d (h + 1) k (tl c) (fill (hd c) t) hk w).1
    exact ⟨(h1.2.2 t (show t ∈ (hd c).L ++ t :: (hd c).R by simp)).mono hk, fun _ => trivial⟩
def fpC : (d h : Nat) → Cx d h → List Nat
  | 0, _, _ => []
  | d + 1, h, c => (hd c).a :: (own (hd c).r ++ (fps h (hd c).L ++ (fps h (hd c).R ++ fpC d (h + 1) (tl c))))
theorem fp_plug : ∀ (d h : Nat) (c : Cx d h) (t : Tr h), (fp (plug d h c t).h (plug d h c t).t).Perm (fp h t ++ fpC d h c)
  | 0, h, c, t => by simp [plug, fpC]
  | d + 1, h, c, t => by
    rw [plug]
    refine (fp_plug d (h + 1) (tl c) (fill (hd c) t)).trans ?_
    rw [fill, fp_nod, fps_append, fps_cons]
    refine List.perm_iff_count.2 fun x => ?_
    simp only [fpC, List.count_append, List.count_cons]
    omega
/-- What waits above is handed down. -/
def zc : (d h : Nat) → Cx d h → Cx d h
  | 0, _, c => c
  | d + 1, h, c => cx ⟨(hd c).a, (hd c).r, 0, (hd c).L.map (rais (cw (d + 1) h c) h), (hd c).R.map (rais (cw (d + 1) h c) h)⟩ (zc d (h + 1) (tl c))
theorem upC_zc : ∀ (d h : Nat) (c : Cx d h), upC d h (zc d h c) = upC d h c
  | 0, _, _ => rfl
  | _ + 1, _, _ => rfl
theorem cw_zc : ∀ (d h : Nat) (c : Cx d h), cw d h (zc d h c) = 0
  | 0, _, _ => rfl
  | d + 1, h, c => by
    show 0 + cw d (h + 1) (zc d (h + 1) (tl c)) = 0
    rw [cw_zc, Int.add_zero]
theorem flat_rais (x : Int) (h : Nat) (ts : List (Tr h)) : (ts.map (rais x h)).flatMap (its h) = rz x (ts.flatMap (its h)) := by
  rw [List.flatMap_map, rz_flatMap]
  congr 1
  funext t
  exact its_rais x h t
theorem pre_zc : ∀ (d h : Nat) (c : Cx d h), pre d h (zc d h c) = pre d h c
  | 0, _, _ => rfl
  | d + 1, h, c => by
    have e1 : cw (d + 1) h (zc (d + 1) h c) = 0 := cw_zc _ _ _
    rw [pre, e1, pre, rz_zero]
    show pre d (h + 1) (zc d (h + 1) (tl c)) ++ ((hd c).L.map (rais (cw (d + 1) h c) h)).flatMap (its h) = _
    rw [pre_zc, flat_rais]
theorem post_zc : ∀ (d h : Nat) (c : Cx d h), post d h (zc d h c) = post d h c
  | 0, _, _ => rfl
  | d + 1, h, c => by
    have e1 : cw (d + 1) h (zc (d + 1) h c) = 0 := cw_zc _ _ _
    rw [post, e1, post, rz_zero]
    show ((hd c).R.map (rais (cw (d + 1) h c) h)).flatMap (its h) ++ post d (h + 1) (zc d (h + 1) (tl c)) = _
    rw [post_zc, flat_rais]
theorem fpC_zc : ∀ (d h : Nat) (c : Cx d h), fpC d h (zc d h c) = fpC d h c
  | 0, _, _ => rfl
  | d + 1, h, c => by
    show (hd c).a :: (own (hd c).r ++ (fps h ((hd c).L.map (rais (cw (d + 1) h c) h)) ++ (fps h ((hd c).R.map (rais (cw (d + 1) h c) h)) ++ fpC d (h + 1) (zc d (h + 1) (tl c))))) = _
    rw [fps_map_rais, fps_map_rais, fpC_zc]
    rfl
end Go.Proofs.Ytbkneonbpcmepaa
