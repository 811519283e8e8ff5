/- Part 8 of the texts. -/
import Derived.Test.YtjnkgakajenoaaaS4
import Derived.Test.YtjnkgakajenoaaaS7
namespace Go.Proofs.Ytjnkgakajenoaaa
set_option linter.unusedVariables false
set_option linter.unusedSimpArgs false
section
variable {T : Tr} {t x y z u v c p m : Nat} {w : Int} {a b l : List Nat}
theorem U_cmq (h : T.Wf) : ∀ (n : Nat) {t a b : Nat}, dp T t <= n -> a ∈ U T t -> b ∈ U T t -> a ∈ U T b ∨ b ∈ U T a
 | 0, t, a, b, hn, ha, _ => by
  have := dp_pos h (U_mem_th' h ha); omega
 | n + 1, t, a, b, hn, ha, hb => by
  have ht := U_mem_th' h ha
  rcases (U_up h ht).1 ha with rfl | ha'
  ·exact .inr hb
  ·rcases (U_up h ht).1 hb with rfl | hb'
   ·exact .inl ha
   ·have := dp_th h ht
    exact U_cmq h n (by omega) ha' hb'
theorem mem_U' {T : Tr} {x t : Nat} (hx : 1 <= x) (h1 : 1 <= t) : x ∈ U T t ↔ (x - 1) ∈ T.up (t - 1) := by
 unfold U
 rw [if_neg (by omega)]
 constructor
 ·intro h
  obtain ⟨v, hv, rfl⟩ := List.mem_map.1 h
  simpa using hv
 ·intro h
  exact List.mem_map.2 ⟨x - 1, h, by omega⟩
theorem th_add (hv : T.par v = -2) : Th (T.add v w) x ↔ x = v + 1 ∨ Th T x := by
 unfold Th
 by_cases e : x = v + 1
 ·subst e; simp [Tr.add, updF]
 ·by_cases h1 : 1 <= x
  ·have : x - 1 ≠ v := by omega
   simp [Tr.add, updF, this, e, h1]
  ·simp [h1]; omega
theorem ps_add (hx : x ≠ v + 1) (hx1 : 1 <= x) : ps (T.add v w) x = ps T x := by
 unfold ps
 have : x - 1 ≠ v := by omega
 simp [Tr.add, updF, this]
theorem U_add (h : T.Wf) (hv : T.par v = -2) (hn : v < T.n) (hx : Th T x) : U (T.add v w) x = U T x := by
 have h' := h.add (w := w) hv hn
 unfold U
 rw [h'.eq (h.add_up hv hx.2)]
theorem U_add_new (h : T.Wf) (hv : T.par v = -2) (hn : v < T.n) : U (T.add v w) (v + 1) = [v + 1] := by
 have h' := h.add (w := w) hv hn
 have : (T.add v w).up v = [v] := h'.up_root (by simp [Tr.add, updF])
 simp [U, this]
theorem mem_add (h : T.Wf) (hv : T.par v = -2) (hn : v < T.n) (hx : x ≠ v + 1) (u : Nat) : x ∈ U (T.add v w) (u + 1) ↔ x ∈ U T (u + 1) := by
 by_cases e : u = v
 ·subst e
  rw [U_add_new h hv hn, U_gone h (fun q => q.2 (by simpa using hv))]
  simp [hx]
 ·by_cases hu : Th T (u + 1)
  ·rw [U_add h hv hn hu]
  ·rw [U_gone h hu, U_gone (h.add hv hn) (fun q => (th_add hv).1 q |>.elim (by omega) hu)]
theorem D_add (h : T.Wf) (hv : T.par v = -2) (hn : v < T.n) (hx : x ≠ v + 1) : Dc (T.add v w) x = Dc T x /\ Dw (T.add v w) x = Dw T x := by
 refine ⟨sumF_congr fun u _ => ?_, sumF_congr fun u _ => ?_⟩
 ·simp only [mem_add h hv hn hx]
 ·simp only [mem_add h hv hn hx]
  by_cases e : u = v
  ·subst e
   rw [U_gone h (fun q => q.2 (by simpa using hv))]; simp
  ·simp [Tr.add, updF, e]
theorem D_add_new (h : T.Wf) (hv : T.par v = -2) (hn : v < T.n) : Dc (T.add v w) (v + 1) = 1 /\ Dw (T.add v w) (v + 1) = w := by
 have k : ∀ u, v + 1 ∈ U (T.add v w) (u + 1) ↔ u = v := fun u => by
  constructor
  ·intro hm
   refine Classical.byContradiction fun e => ?_
   by_cases hu : Th T (u + 1)
   ·rw [U_add h hv hn hu] at hm
    exact (U_mem_th h hm).2 (by simpa using hv)
   ·rw [U_gone (h.add hv hn) (fun q => (th_add hv).1 q |>.elim (by omega) hu)] at hm
    simp at hm
  ·rintro rfl
   rw [U_add_new h hv hn]; simp
 refine ⟨?_, ?_⟩
 ·unfold Dc; simp only [k]; exact sumF_one v 1 hn
 ·unfold Dw; simp only [k]
  rw [sumF_congr (g := fun u => if u = v then w else 0) (fun u _ => by
   by_cases e : u = v
   ·subst e; simp [Tr.add, updF]
   ·simp [e])]
  exact sumF_one v w hn
theorem th_drop : Th (T.drop v) x ↔ x ≠ v + 1 /\ Th T x := by
 unfold Th
 by_cases e : x = v + 1
 ·subst e; simp [Tr.drop, updF]
 ·by_cases h1 : 1 <= x
  ·have : x - 1 ≠ v := by omega
   simp [Tr.drop, updF, this, e, h1]
  ·simp [h1]
theorem ps_drop (hx : x ≠ v + 1) (hx1 : 1 <= x) : ps (T.drop v) x = ps T x := by
 unfold ps
 have : x - 1 ≠ v := by omega
 simp [Tr.drop, updF, this]
theorem mem_drop (h : T.Wf) (hk : ∀ y, T.par y ≠ (v : Int)) (hx : x ≠ v + 1) (hr : T.par v = -1) (u : Nat) : x ∈ U (T.drop v) (u + 1) ↔ x ∈ U T (u + 1) := by
 have h' := h.drop hk
 by_cases e : u = v
 ·subst e
  have : U T (u + 1) = [u + 1] := by
   have := h.up_root hr
   simp [U, this]
  rw [U_gone h' (fun q => (th_drop.1 q).1 rfl), this]; simp [hx]
 ·by_cases hu : Th T (u + 1)
  ·have : (T.drop v).up u = T.up u := h'.eq (h.drop_up hk hu.2 e)
   simp [U, this]
  ·rw [U_gone h hu, U_gone h' (fun q => hu (th_drop.1 q).2)]
theorem D_drop (h : T.Wf) (hk : ∀ y, T.par y ≠ (v : Int)) (hx : x ≠ v + 1) (hr : T.par v = -1) : Dc (T.drop v) x = Dc T x /\ Dw (T.drop v) x = Dw T x := by
 refine ⟨sumF_congr fun u _ => ?_, sumF_congr fun u _ => ?_⟩
 ·simp only [mem_drop h hk hx hr]
 ·simp only [mem_drop h hk hx hr]
  by_cases e : u = v
  ·subst e
   have : U T (u + 1) = [u + 1] := by
    have := h.up_root hr
    simp [U, this]
   rw [this]; simp [hx]
  ·simp [Tr.drop, updF, e]
theorem th_link (hc : T.par c ≠ -2) : Th (T.link c p) x ↔ Th T x := by
 unfold Th
 by_cases e : x = c + 1
 ·subst e; simp [Tr.link, updF, hc]
 ·by_cases h1 : 1 <= x
  ·have : x - 1 ≠ c := by omega
   simp [Tr.link, updF, this]
  ·simp [h1]
theorem ps_link (hx : x ≠ c + 1) (hx1 : 1 <= x) : ps (T.link c p) x = ps T x := by
 unfold ps
 have : x - 1 ≠ c := by omega
 simp [Tr.link, updF, this]
theorem ps_link_c : ps (T.link c p) (c + 1) = p + 1 := by
 unfold ps; simp [Tr.link, updF]
theorem mem_link (h : T.Wf) (hc : T.par c = -1) (hp : T.par p ≠ -2) (hr : c ∉ T.up p) (u : Nat) : x ∈ U (T.link c p) (u + 1) ↔ x ∈ U T (u + 1) ∨ (c + 1 ∈ U T (u + 1) /\ x ∈ U T (p + 1)) := by
 have h' := h.link hc hp hr
 by_cases hu : Th T (u + 1)
 ·have hu2 : T.par u ≠ -2 := hu.2
  by_cases hm : c ∈ T.up u
  ·have e : (T.link c p).up u = T.up u ++ T.up p := h'.eq (h.link_in hc hp hr hm)
   have hm' : c + 1 ∈ U T (u + 1) := (mem_U' (by omega) (by omega)).2 (by simpa using hm)
   simp [U, e] at hm' ⊢
   simp [hm']
  ·have e : (T.link c p).up u = T.up u := h'.eq (h.link_out hu2 hm)
   have hm' : c + 1 ∉ U T (u + 1) := fun q => hm (by simpa using (mem_U' (by omega) (by omega)).1 q)
   simp [hm']
   simp [U, e]
 ·rw [U_gone h hu, U_gone h' (fun q => hu ((th_link (by omega)).1 q))]; simp
theorem D_link (h : T.Wf) (hc : T.par c = -1) (hp : T.par p ≠ -2) (hr : c ∉ T.up p) :
  Dc (T.link c p) x = Dc T x + (if x ∈ U T (p + 1) then Dc T (c + 1) else 0) /\ Dw (T.link c p) x = Dw T x + (if x ∈ U T (p + 1) then Dw T (c + 1) else 0) := by
 have dis : ∀ u, c + 1 ∈ U T (u + 1) -> x ∈ U T (p + 1) -> x ∉ U T (u + 1) := fun u h1 h2 h3 => by
  have hx1 : 1 <= x := (U_mem_th h h2).1
  have q1 : c ∈ T.up u := by simpa using (mem_U' (by omega) (by omega)).1 h1
  have q2 : (x - 1) ∈ T.up p := by simpa using (mem_U' hx1 (by omega)).1 h2
  have q3 : (x - 1) ∈ T.up u := by simpa using (mem_U' hx1 (by omega)).1 h3
  have l1 := (h.spec (Tr.there q1)).root_last q1 hc
  obtain ⟨a, b, e⟩ := List.append_of_mem q3
  obtain ⟨a', b', e'⟩ := List.append_of_mem q2
  have t1 := h.tail e
  have t2 := h.tail e'
  have e3 : b = b' := by rw [t1] at t2; simpa using t2
  have l2 : lastI (T.up p) = (c : Int) := by
   rw [e', ← e3, lastI_append _ (by simp), ← lastI_append a (by simp), ← e]; exact l1
  obtain ⟨r, hr1, hr2⟩ := lastI_mem (l := T.up p) (by rw [e']; simp)
  have : r = c := by omega
  exact hr (this ▸ hr1)
 refine ⟨?_, ?_⟩
 ·unfold Dc
  by_cases hx : x ∈ U T (p + 1)
  ·rw [if_pos hx, ← sumF_add]
   refine sumF_congr fun u _ => ?_
   simp only [mem_link h hc hp hr, hx, and_true]
   by_cases h1 : c + 1 ∈ U T (u + 1)
   ·simp [h1, dis u h1 hx]
   ·simp [h1]
  ·rw [if_neg hx]
   simp only [Int.add_zero]
   refine sumF_congr fun u _ => ?_
   simp [mem_link h hc hp hr, hx]
 ·unfold Dw
  by_cases hx : x ∈ U T (p + 1)
  ·rw [if_pos hx, ← sumF_add]
   refine sumF_congr fun u _ => ?_
   simp only [mem_link h hc hp hr, hx, and_true]
   show (if _ then T.wt u else 0) = _
   by_cases h1 : c + 1 ∈ U T (u + 1)
   ·simp [h1, dis u h1 hx]
   ·simp [h1]
  ·rw [if_neg hx]
   simp only [Int.add_zero]
   refine sumF_congr fun u _ => ?_
   simp [mem_link h hc hp hr, hx]
   rfl
theorem th_cut (hc : T.par c ≠ -2) : Th (T.cut c) x ↔ Th T x := by
 unfold Th
 by_cases e : x = c + 1
 ·subst e; simp [Tr.cut, updF, hc]
 ·by_cases h1 : 1 <= x
  ·have : x - 1 ≠ c := by omega
   simp [Tr.cut, updF, this]
  ·simp [h1]
theorem ps_cut (hx : x ≠ c + 1) (hx1 : 1 <= x) : ps (T.cut c) x = ps T x := by
 unfold ps
 have : x - 1 ≠ c := by omega
 simp [Tr.cut, updF, this]
theorem ps_cut_c : ps (T.cut c) (c + 1) = 0 := by
 unfold ps; simp [Tr.cut, updF]
theorem mem_cut (h : T.Wf) (hc : T.par c ≠ -2) (u : Nat) : x ∈ U (T.cut c) (u + 1) ↔ x ∈ U T (u + 1) /\ (c + 1 ∈ U T (u + 1) -> c + 1 ∈ U T x) := by
 have h' := h.cut hc
 by_cases hu : Th T (u + 1)
 ·by_cases hm : c + 1 ∈ U T (u + 1)
  ·have hm' : c ∈ T.up u := by simpa using (mem_U' (by omega) (by omega)).1 hm
   obtain ⟨a, b, e⟩ := List.append_of_mem hm'
   have e2 : (T.cut c).up u = a ++ [c] := h'.eq (h.cut_in e)
   have hU : U T (u + 1) = a.map (· + 1) ++ (c + 1) :: b.map (· + 1) := by simp [U, e]
   have hUc : U T (c + 1) = (c + 1) :: b.map (· + 1) := by simp [U, h.tail e]
   have hU' : U (T.cut c) (u + 1) = a.map (· + 1) ++ [c + 1] := by simp [U, e2]
   rw [hU']
   constructor
   ·intro hx
    have hx' : x ∈ U T (u + 1) := by
     rw [hU]; simp only [List.mem_append, List.mem_cons, List.not_mem_nil, or_false] at hx ⊢
     rcases hx with q | q
     ·exact .inl q
     ·exact .inr (.inl q)
    refine ⟨hx', fun _ => ?_⟩
    rcases U_cmq h _ (Nat.le_refl _) hm hx' with q | q
    ·exact q
    .
     rcases List.mem_append.1 hx with k | k
     ·rw [hUc] at q
      have nd : (U T (u + 1)).Nodup := by
       unfold U; rw [if_neg (by omega)]
       exact List.Pairwise.map _ (fun a b hab => by omega) (h.spec hu.2).nodup
      rw [hU, List.nodup_append] at nd
      exact absurd rfl (nd.2.2 x k x q)
     ·simp at k; rw [k]; exact U_self h ⟨by omega, by simpa using hc⟩
   ·rintro ⟨h1, h2⟩
    have h2 := h2 hm
    rw [hU] at h1
    rcases List.mem_append.1 h1 with k | k
    ·simp only [List.mem_append]; exact .inl k
    ·rw [← hUc] at k
     have := U_anti h k h2
     simp [this]
  ·have hm' : c ∉ T.up u := fun q => hm ((mem_U' (by omega) (by omega)).2 (by simpa using q))
   have e2 : (T.cut c).up u = T.up u := h'.eq (h.cut_out hu.2 hm')
   have : U (T.cut c) (u + 1) = U T (u + 1) := by simp [U, e2]
   rw [this]; simp [hm]
 ·rw [U_gone h hu, U_gone h' (fun q => hu ((th_cut hc).1 q))]; simp
theorem D_cut (h : T.Wf) (hc : T.par c ≠ -2) :
  Dc (T.cut c) x = Dc T x - (if x ∈ U T (ps T (c + 1)) then Dc T (c + 1) else 0) /\ Dw (T.cut c) x = Dw T x - (if x ∈ U T (ps T (c + 1)) then Dw T (c + 1) else 0) := by
 have hT : Th T (c + 1) := ⟨by omega, by simpa using hc⟩
 have key : ∀ u, (x ∈ U (T.cut c) (u + 1) ↔ x ∈ U T (u + 1) /\ ¬ (c + 1 ∈ U T (u + 1) /\ x ∈ U T (ps T (c + 1)))) /\ (c + 1 ∈ U T (u + 1) /\ x ∈ U T (ps T (c + 1)) -> x ∈ U T (u + 1)) := fun u => by
  constructor
  ·rw [mem_cut h hc]
   constructor
   ·rintro ⟨h1, h2⟩
    refine ⟨h1, fun ⟨h3, h4⟩ => ?_⟩
    have h5 := h2 h3
    exact ps_notin h hT (U_trans h h4 h5)
   ·rintro ⟨h1, h2⟩
    refine ⟨h1, fun h3 => ?_⟩
    rcases U_cmq h _ (Nat.le_refl _) h3 h1 with q | q
    ·exact q
    ·rcases (U_up h hT).1 q with e | e
     ·rw [e]; exact U_self h hT
     ·exact absurd ⟨h3, e⟩ h2
  ·rintro ⟨h1, h2⟩
   exact U_trans h h1 ((U_up h hT).2 (.inr h2))
 refine ⟨?_, ?_⟩
 ·unfold Dc
  by_cases hx : x ∈ U T (ps T (c + 1))
  ·rw [if_pos hx, ← sumF_sub]
   refine sumF_congr fun u _ => ?_
   obtain ⟨k1, k2⟩ := key u
   simp only [hx, and_true] at k1 k2
   by_cases q1 : c + 1 ∈ U T (u + 1)
   ·simp [k1, q1, k2 q1]
   ·simp [k1, q1]
  ·rw [if_neg hx]
   simp only [Int.sub_zero]
   refine sumF_congr fun u _ => ?_
   obtain ⟨k1, k2⟩ := key u
   simp [k1, hx]
 ·unfold Dw
  by_cases hx : x ∈ U T (ps T (c + 1))
  ·rw [if_pos hx, ← sumF_sub]
   refine sumF_congr fun u _ => ?_
   obtain ⟨k1, k2⟩ := key u
   simp only [hx, and_true] at k1 k2
   show (if _ then T.wt u else 0) = _
   by_cases q1 : c + 1 ∈ U T (u + 1)
   ·simp [k1, q1, k2 q1]
   ·simp [k1, q1]
  ·rw [if_neg hx]
   simp only [Int.sub_zero]
   refine sumF_congr fun u _ => ?_
   obtain ⟨k1, k2⟩ := key u
   simp [k1, hx]
   rfl
theorem D_set (hv : T.par v ≠ -2) (h : T.Wf) : Dc (T.set v w) x = Dc T x /\ Dw (T.set v w) x = Dw T x + (if x ∈ U T (v + 1) then w - T.wt v else 0) := by
 refine ⟨rfl, ?_⟩
 have hn : v < T.n := h.lt v hv
 unfold Dw
 by_cases hx : x ∈ U T (v + 1)
 ·rw [if_pos hx, ← sumF_one v (w - T.wt v) hn, ← sumF_add]
  refine sumF_congr fun u _ => ?_
  show (if x ∈ U T (u + 1) then updF T.wt v w u else 0) = _
  by_cases e : u = v
  ·subst e; simp [hx, updF]; omega
  ·simp [updF, e]
 ·rw [if_neg hx]
  simp only [Int.add_zero]
  refine sumF_congr fun u _ => ?_
  show (if x ∈ U T (u + 1) then updF T.wt v w u else 0) = _
  by_cases e : u = v
  ·subst e; simp [hx]
  ·simp [updF, e]
end
section
variable {T : Tr} {t x y z u v c p m r : Nat} {w : Int} {a b l : List Nat}
theorem th_evert (h : T.Wf) (hv : T.par v ≠ -2) : Th (T.evert v) x ↔ Th T x := by
 unfold Th
 rw [Ne, h.evert_there hv]
theorem U_list (T : Tr) (v : Nat) : U T (v + 1) = (T.up v).map (· + 1) := by simp [U]
theorem mem_U1 {T : Tr} {x v : Nat} : x + 1 ∈ U T (v + 1) ↔ x ∈ T.up v := by
 rw [U_list]; simp
theorem ps_evert_on (h : T.Wf) (hv : T.par v ≠ -2) (hy : y ∈ U T (v + 1)) (hp : ps T y ≠ 0) : ps (T.evert v) (ps T y) = y := by
 have hy' := U_mem_th h hy
 have hx := ps_th h hy' hp
 generalize hxx : ps T y = x at *
 obtain ⟨y, rfl⟩ : ∃ k, y = k + 1 := ⟨y - 1, by have := hy'.1; omega⟩
 obtain ⟨x, rfl⟩ : ∃ k, x = k + 1 := ⟨x - 1, by have := hx.1; omega⟩
 rw [mem_U1] at hy
 obtain ⟨a, b, e⟩ := List.append_of_mem hy
 have e2 := h.tail e
 have hpar : T.par y = (x : Int) := by
  have := ps_par hy' h
  rw [hxx] at this; simp at this; omega
 have e3 := h.up_step hpar
 have hbx : b = T.up x := by rw [e2] at e3; simpa using e3
 have hx2 : T.par x ≠ -2 := by simpa using hx.2
 obtain ⟨cx, ex⟩ := (h.spec hx2).head
 have nd := (h.spec hv).nodup
 have full : T.up v = (a ++ [y]) ++ x :: cx := by rw [e, hbx, ex]; simp
 have k : turn T.par (-1) (T.up v) x = lastI (a ++ [y]) := by
  rw [full] at nd ⊢
  rw [turn_at nd, if_neg (by simp)]
 rw [lastI_snoc] at k
 show (turn T.par (-1) (T.up v) (x + 1 - 1) + 1).toNat = y + 1
 simp only [Nat.add_sub_cancel]
 rw [k]; omega
theorem ps_evert_t (h : T.Wf) (hv : T.par v ≠ -2) : ps (T.evert v) (v + 1) = 0 := by
 obtain ⟨c, e⟩ := (h.spec hv).head
 have nd := (h.spec hv).nodup
 have k : turn T.par (-1) (T.up v) v = -1 := by
  rw [e] at nd ⊢
  have := turn_at (par := T.par) (b := -1) (a := []) (x := v) (c := c) (by simpa using nd)
  simpa using this
 show (turn T.par (-1) (T.up v) (v + 1 - 1) + 1).toNat = 0
 simp only [Nat.add_sub_cancel]
 rw [k]; rfl
theorem ps_evert_out (hx : x ∉ U T (v + 1)) (hx1 : 1 <= x) : ps (T.evert v) x = ps T x := by
 obtain ⟨x, rfl⟩ : ∃ k, x = k + 1 := ⟨x - 1, by omega⟩
 rw [mem_U1] at hx
 show (turn T.par (-1) (T.up v) (x + 1 - 1) + 1).toNat = _
 simp only [Nat.add_sub_cancel]
 rw [turn_out hx]; simp [ps]
theorem mem_evert_out (h : T.Wf) (hv : T.par v ≠ -2) (hx : x ∉ U T (v + 1)) (u : Nat) : x ∈ U (T.evert v) (u + 1) ↔ x ∈ U T (u + 1) := by
 have h' := h.evert hv
 by_cases hu : Th T (u + 1)
 ·by_cases hx1 : 1 <= x
  ·obtain ⟨x, rfl⟩ : ∃ k, x = k + 1 := ⟨x - 1, by omega⟩
   rw [mem_U1] at hx
   rw [mem_U1, mem_U1]
   rcases h.meets hu.2 hv with ⟨m, a, b, cc, hm⟩ | hn
   ·have e : (T.evert v).up u = a ++ m :: b.reverse := h'.eq (h.evert_in hm)
    have e1 : T.up u = a ++ m :: cc := hm.el
    have e2 : T.up v = b ++ m :: cc := hm.em
    rw [e, e1]
    rw [e2] at hx
    simp only [List.mem_append, List.mem_cons, List.mem_reverse, not_or] at hx ⊢
    constructor
    ·rintro (q | q | q)
     ·exact .inl q
     ·exact absurd q hx.2.1
     ·exact absurd q hx.1
    ·rintro (q | q | q)
     ·exact .inl q
     ·exact absurd q hx.2.1
     ·exact absurd q hx.2.2
   ·have e : (T.evert v).up u = T.up u := h'.eq (h.evert_out hu.2 hn)
    rw [e]
  ·have : x = 0 := by omega
   subst this
   exact ⟨fun q => absurd q (zero_U h'), fun q => absurd q (zero_U h)⟩
 ·rw [U_gone h hu, U_gone h' (fun q => hu ((th_evert h hv).1 q))]
theorem mem_evert_on (h : T.Wf) (hv : T.par v ≠ -2) (hx : x ∈ U T (v + 1)) (hr : r ∈ U T (v + 1)) (hr0 : ps T r = 0) (hy : (x = v + 1 /\ y = 0) ∨ (y ∈ U T (v + 1) /\ ps T y = x)) (u : Nat) :
  x ∈ U (T.evert v) (u + 1) ↔ r ∈ U T (u + 1) /\ y ∉ U T (u + 1) := by
 have h' := h.evert hv
 have hx' := U_mem_th h hx
 have hrt := U_mem_th h hr
 have hUr : U T r = [r] := by rw [U_th h hrt, hr0, U_zero]
 by_cases hu : Th T (u + 1)
 ·have rt : ∀ z, z ∈ U T (v + 1) -> r ∈ U T z := fun z hz => by
   rcases U_cmq h _ (Nat.le_refl _) hr hz with q | q
   ·exact q
   ·rw [hUr] at q; simp at q; rw [q]; exact U_self h hrt
  rcases h.meets hu.2 hv with ⟨m, a, b, cc, hm⟩ | hn
  ·have e : (T.evert v).up u = a ++ m :: b.reverse := h'.eq (h.evert_in hm)
   have e1 : T.up u = a ++ m :: cc := hm.el
   have e2 : T.up v = b ++ m :: cc := hm.em
   have mu : m + 1 ∈ U T (u + 1) := by rw [mem_U1, e1]; simp
   have mv : m + 1 ∈ U T (v + 1) := by rw [mem_U1, e2]; simp
   have hrm : r ∈ U T (u + 1) := U_trans h mu (rt _ mv)
   have common : ∀ z, z ∈ U T (v + 1) -> z ∈ U T (u + 1) -> z ∈ U T (m + 1) := fun z z1 z2 => by
    have hz1 := (U_mem_th h z1).1
    obtain ⟨z, rfl⟩ : ∃ k, z = k + 1 := ⟨z - 1, by omega⟩
    rw [mem_U1] at z1 z2 ⊢
    rw [h.tail e2]
    rw [e1] at z2
    simp only [List.mem_append, List.mem_cons] at z2 ⊢
    rcases z2 with q | q | q
    ·exact absurd z1 (hm.ha z q)
    ·exact .inl q
    ·exact .inr q
   have ch : x ∈ U (T.evert v) (u + 1) ↔ m + 1 ∈ U T x := by
    obtain ⟨x, rfl⟩ : ∃ k, x = k + 1 := ⟨x - 1, by have := hx'.1; omega⟩
    rw [mem_U1] at hx
    rw [mem_U1, mem_U1, e]
    rw [e2] at hx
    simp only [List.mem_append, List.mem_cons, List.mem_reverse] at hx ⊢
    constructor
    ·rintro (q | q | q)
     ·have := hm.ha x q
      rw [e2] at this
      simp only [List.mem_append, List.mem_cons, not_or] at this
      rcases hx with k | k | k
      ·exact absurd k this.1
      ·exact absurd k this.2.1
      ·exact absurd k this.2.2
     ·subst q; exact h.self (h.there' (v := v) (by rw [e2]; simp))
     ·obtain ⟨b1, b2, eb⟩ := List.append_of_mem q
      have : T.up v = b1 ++ x :: (b2 ++ m :: cc) := by rw [e2, eb]; simp
      rw [h.tail this]; simp
    ·intro q
     rcases hx with k | k | k
     ·exact .inr (.inr k)
     ·exact .inr (.inl k)
     .
      have hxm : x + 1 ∈ U T (m + 1) := by rw [mem_U1, h.tail e2]; simp [k]
      have hmx : m + 1 ∈ U T (x + 1) := mem_U1.2 q
      have := U_anti h hxm hmx
      exact .inr (.inl (by omega))
   rw [ch]
   constructor
   ·intro q
    refine ⟨hrm, fun hy2 => ?_⟩
    rcases hy with ⟨_, rfl⟩ | ⟨hy1, hy3⟩
    ·exact zero_U h hy2
    ·have hyt := U_mem_th h hy1
     have k := common y hy1 hy2
     have hx0 : ps T y ≠ 0 := by rw [hy3]; have := hx'.1; omega
     have k2 : y ∈ U T x := U_trans h q k
     rw [← hy3] at k2
     exact ps_notin h hyt k2
   ·rintro ⟨_, hy2⟩
    rcases U_cmq h _ (Nat.le_refl _) mv hx with q | q
    ·exact q
    ·rcases hy with ⟨rfl, _⟩ | ⟨hy1, hy3⟩
     ·exact mv
     ·have hyt := U_mem_th h hy1
      rcases U_cmq h _ (Nat.le_refl _) mv hy1 with k | k
      ·rcases (U_up h hyt).1 k with e9 | e9
       ·rw [← e9] at hy2; exact absurd mu hy2
       ·rw [hy3] at e9; exact e9
      ·exact absurd (U_trans h mu k) hy2
  ·have e : (T.evert v).up u = T.up u := h'.eq (h.evert_out hu.2 hn)
   have nn : ∀ z, z ∈ U T (v + 1) -> z ∉ U T (u + 1) := fun z z1 z2 => by
    have hz1 := (U_mem_th h z1).1
    obtain ⟨z, rfl⟩ : ∃ k, z = k + 1 := ⟨z - 1, by omega⟩
    rw [mem_U1] at z1 z2
    exact hn z z2 z1
   constructor
   ·intro q
    have : x ∈ U T (u + 1) := by rw [U_list] at q ⊢; rw [e] at q; exact q
    exact absurd this (nn x hx)
   ·rintro ⟨q, _⟩
    exact absurd q (nn r hr)
 ·rw [U_gone h hu, U_gone h' (fun q => hu ((th_evert h hv).1 q))]; simp
theorem D_evert_out (h : T.Wf) (hv : T.par v ≠ -2) (hx : x ∉ U T (v + 1)) : Dc (T.evert v) x = Dc T x /\ Dw (T.evert v) x = Dw T x :=
 ⟨sumF_congr fun u _ => by simp only [mem_evert_out h hv hx], sumF_congr fun u _ => by simp only [mem_evert_out h hv hx]; rfl⟩
theorem D_evert_on (h : T.Wf) (hv : T.par v ≠ -2) (hx : x ∈ U T (v + 1)) (hr : r ∈ U T (v + 1)) (hr0 : ps T r = 0) (hy : (x = v + 1 /\ y = 0) ∨ (y ∈ U T (v + 1) /\ ps T y = x)) :
  Dc (T.evert v) x = Dc T r - Dc T y /\ Dw (T.evert v) x = Dw T r - Dw T y := by
 have hrt := U_mem_th h hr
 have hUr : U T r = [r] := by rw [U_th h hrt, hr0, U_zero]
 have sub : ∀ u, y ∈ U T (u + 1) -> r ∈ U T (u + 1) := fun u hu => by
  rcases hy with ⟨_, rfl⟩ | ⟨hy1, _⟩
  ·exact absurd hu (zero_U h)
  ·rcases U_cmq h _ (Nat.le_refl _) hr hy1 with q | q
   ·exact U_trans h hu q
   ·rw [hUr] at q; simp at q; rw [← q]; exact hu
 refine ⟨?_, ?_⟩
 ·unfold Dc
  rw [← sumF_sub]
  refine sumF_congr fun u _ => ?_
  simp only [mem_evert_on h hv hx hr hr0 hy]
  by_cases q1 : y ∈ U T (u + 1)
  ·simp [q1, sub u q1]
  ·simp [q1]
 ·unfold Dw
  rw [← sumF_sub]
  refine sumF_congr fun u _ => ?_
  simp only [mem_evert_on h hv hx hr hr0 hy]
  show (if _ then T.wt u else 0) = _
  by_cases q1 : y ∈ U T (u + 1)
  ·simp [q1, sub u q1]
  ·simp [q1]
def cntF (T : Tr) (l : List Nat) (x : Nat) : Int := sumF T.n (fun u => if x ∈ U T (u + 1) /\ u ∈ l then 1 else 0)
theorem D_raise : Dc (T.raise l w) x = Dc T x /\ Dw (T.raise l w) x = Dw T x + w * cntF T l x := by
 refine ⟨rfl, ?_⟩
 unfold Dw cntF
 rw [← sumF_mul, ← sumF_add]
 refine sumF_congr fun u _ => ?_
 show (if x ∈ U T (u + 1) then raiseF T.wt l w u else 0) = _
 unfold raiseF
 by_cases q1 : x ∈ U T (u + 1) <;> by_cases q2 : u ∈ l <;> simp [q1, q2]
theorem cnt_out (h : T.Wf) (hl : ∀ u ∈ l, u + 1 ∈ U T (v + 1)) (hx : x ∉ U T (v + 1)) : cntF T l x = 0 :=
 sumF_zero fun u _ => if_neg fun ⟨h1, h2⟩ => hx (U_trans h (hl u h2) h1)
theorem cnt_on (h : T.Wf) (hl : ∀ u, u ∈ l ↔ u + 1 ∈ U T (v + 1)) (hx : x ∈ U T (v + 1)) (hy : (x = v + 1 /\ y = 0) ∨ (y ∈ U T (v + 1) /\ ps T y = x)) : cntF T l x - cntF T l y = 1 := by
 have hx' := U_mem_th h hx
 unfold cntF
 rw [← sumF_sub]
 refine (sumF_congr fun u _ => ?_).trans (sumF_one (x - 1) 1 (th_lt h hx'))
 by_cases q : u ∈ l
 ·have hu := (hl u).1 q
  simp only [q, and_true]
  by_cases e : u = x - 1
  ·have e' : u + 1 = x := by have := hx'.1; omega
   rw [if_pos e, e', if_pos (U_self h hx')]
   have : y ∉ U T x := fun k => by
    rcases hy with ⟨_, rfl⟩ | ⟨h1, h2⟩
    ·exact zero_U h k
    ·have := U_mem_th h h1
     rw [← h2] at k; exact ps_notin h this k
   rw [if_neg this]; rfl
  ·have e' : u + 1 ≠ x := by omega
   rw [if_neg e]
   rcases hy with ⟨rfl, rfl⟩ | ⟨h1, h2⟩
   ·have : v + 1 ∉ U T (u + 1) := fun k => e' (U_anti h hu k)
    rw [if_neg this, if_neg (zero_U h)]; rfl
   ·have hyt := U_mem_th h h1
    by_cases k : y ∈ U T (u + 1)
    ·have : x ∈ U T (u + 1) := U_trans h k (by rw [← h2]; exact U_ps h hyt (by rw [h2]; have := hx'.1; omega))
     rw [if_pos k, if_pos this]; rfl
    ·have : x ∉ U T (u + 1) := fun k2 => by
      rcases U_cmq h _ (Nat.le_refl _) hu h1 with k3 | k3
      ·rcases (U_up h hyt).1 k3 with k4 | k4
       ·exact k (by rw [k4]; exact U_self h hyt)
       ·rw [h2] at k4; exact e' (U_anti h k4 k2)
      ·exact k k3
     rw [if_neg k, if_neg this]; rfl
 ·simp only [q, and_false, if_false]
  rw [if_neg]
  ·rfl
  ·intro e
   refine q ((hl u).2 ?_)
   rw [e, Nat.sub_add_cancel hx'.1]; exact hx
end
section
variable {S S1 : Ss} {n : Nat} {T T1 : Tr} {G G1 : Gh} {t u x y z k c p q met : Nat} {w d : Int} {l : List Nat}
theorem Loc.move (h : Lc S n T G) (hx : Th T x) (e0 : S1 x = S x)
  (ek : ∀ j, j = (S x).l ∨ j = (S x).r -> (S1 j).sm = (S j).sm /\ (S1 j).hu = (S j).hu)
  (kk : ∀ j, j ≠ 0 -> j = (S x).l ∨ j = (S x).r -> Ki S1 T1 G1 x j)
  (en : En G1 (G1.b x) (S x).l (S x).r x) (nx : G1.pn x ≠ 0 -> Th T1 (G1.pn x) /\ ps T1 (G1.pn x) = x) (wt : (S x).wt + G1.a x = T1.wt (x - 1))
  (hc : Dc T1 x - Dc T1 (G1.pn x) = Dc T x - Dc T (G.pn x)) (hw : Dw T1 x - T1.wt (x - 1) - Dw T1 (G1.pn x) = Dw T x - T.wt (x - 1) - Dw T (G.pn x))
  (tp : Top S1 x -> Tp S1 T1 G1 x) : Loc S1 T1 G1 x := by
 have L := h.loc x hx
 refine ⟨fun e => ?_, fun e => ?_, by rw [e0]; exact L.lr, by rw [e0]; exact en, nx, by rw [e0]; exact wt, ?_, by rw [e0]; exact L.fit, ?_, by rw [e0, L.hgc]; omega, by rw [e0, L.hgw]; omega, by rw [e0]; exact L.id, tp⟩
 ·rw [e0] at e ⊢; exact kk _ e (.inl rfl)
 ·rw [e0] at e ⊢; exact kk _ e (.inr rfl)
 ·rw [e0, (ek _ (.inl rfl)).1, (ek _ (.inr rfl)).1]; exact L.sm
 ·rw [e0, (ek _ (.inl rfl)).2, (ek _ (.inr rfl)).2]; exact L.hu
theorem En.agree {β : Bool} {l r : Nat} (h : En G β l r x) (fx : G1.fi x = G.fi x /\ G1.la x = G.la x) (fk : ∀ j, j ≠ 0 -> j = l ∨ j = r -> G1.fi j = G.fi j /\ G1.la j = G.la j)
  (p1 : ∀ j, j ≠ 0 -> j = l ∨ j = r -> G.pn (G.la j) = x -> G1.pn (G.la j) = x) (p2 : ∀ j, j ≠ 0 -> j = l ∨ j = r -> G.pn x = G.fi j -> G1.pn x = G.fi j) : En G1 β l r x := by
 obtain ⟨h1, h2, h3, h4⟩ := h
 cases β
 ·refine ⟨fun e => ?_, fun e => ?_, fun e => ?_, fun e => ?_⟩
  ·show G1.fi x = x; rw [fx.1]; exact h1 e
  ·obtain ⟨a, b⟩ := h2 e
   exact ⟨by show G1.fi x = G1.fi l; rw [fx.1, (fk l e (.inl rfl)).1]; exact a, by show G1.pn (G1.la l) = x; rw [(fk l e (.inl rfl)).2]; exact p1 l e (.inl rfl) b⟩
  ·show G1.la x = x; rw [fx.2]; exact h3 e
  ·obtain ⟨a, b⟩ := h4 e
   exact ⟨by show G1.la x = G1.la r; rw [fx.2, (fk r e (.inr rfl)).2]; exact a, by show G1.pn x = G1.fi r; rw [(fk r e (.inr rfl)).1]; exact p2 r e (.inr rfl) b⟩
 ·refine ⟨fun e => ?_, fun e => ?_, fun e => ?_, fun e => ?_⟩
  ·show G1.la x = x; rw [fx.2]; exact h1 e
  ·obtain ⟨a, b⟩ := h2 e
   exact ⟨by show G1.la x = G1.la l; rw [fx.2, (fk l e (.inl rfl)).2]; exact a, by show G1.pn x = G1.fi l; rw [(fk l e (.inl rfl)).1]; exact p2 l e (.inl rfl) b⟩
  ·show G1.fi x = x; rw [fx.1]; exact h3 e
  ·obtain ⟨a, b⟩ := h4 e
   exact ⟨by show G1.fi x = G1.fi r; rw [fx.1, (fk r e (.inr rfl)).1]; exact a, by show G1.pn (G1.la r) = x; rw [(fk r e (.inr rfl)).2]; exact p1 r e (.inr rfl) b⟩
theorem Lc.la_th (h : Lc S n T G) (hx : Th T x) : Th T (G.la x) := U_mem_th' h.wf (h.la_in hx)
theorem Lc.top_nk (h : Lc S n T G) (hx : Th T x) (hT : Top S t) (t0 : t ≠ 0) : t ≠ (S x).l /\ t ≠ (S x).r := by
 refine ⟨fun e => ?_, fun e => ?_⟩
 ·exact (h.up_kid hx (.inl e) t0).nt (.inl e.symm) hT
 ·exact (h.up_kid hx (.inr e) t0).nt (.inr e.symm) hT
theorem Lc.constk (h : Lc S n T G) (P : Nat -> Prop) (hP : ∀ y, Th T y -> G.pn y ≠ 0 -> (P y ↔ P (G.pn y))) : ∀ (k : Nat) (x : Nat), Th T x -> (S x).sm.c <= k -> (P x ↔ P (G.fi x)) /\ (P x ↔ P (G.la x)) /\ ∀ j, j ≠ 0 -> j = (S x).l ∨ j = (S x).r -> (P x ↔ P j)
 | 0, x, hx, hc => by have := (h.loc x hx).fit.c1; omega
 | k + 1, x, hx, hc => by
  have L := h.loc x hx
  have x0 : x ≠ 0 := by have := hx.1; omega
  have A : (S x).l ≠ 0 -> _ := fun e => And.intro (L.kl e).th (Lc.constk h P hP k _ (L.kl e).th (by have := h.cl hx; omega))
  have B : (S x).r ≠ 0 -> _ := fun e => And.intro (L.kr e).th (Lc.constk h P hP k _ (L.kr e).th (by have := h.cr hx; omega))
  have en := L.en
  have main : ∀ M Q : Nat, (M ≠ 0 -> Th T M /\ (P M ↔ P (G.fi M)) /\ (P M ↔ P (G.la M)) /\ ∀ j, j ≠ 0 -> j = (S M).l ∨ j = (S M).r -> (P M ↔ P j)) →
    (Q ≠ 0 -> Th T Q /\ (P Q ↔ P (G.fi Q)) /\ (P Q ↔ P (G.la Q)) /\ ∀ j, j ≠ 0 -> j = (S Q).l ∨ j = (S Q).r -> (P Q ↔ P j)) →
    (M = 0 -> G.fi x = x) -> (M ≠ 0 -> G.fi x = G.fi M /\ G.pn (G.la M) = x) -> (Q = 0 -> G.la x = x) -> (Q ≠ 0 -> G.la x = G.la Q /\ G.pn x = G.fi Q) →
    (P x ↔ P (G.fi x)) /\ (P x ↔ P (G.la x)) /\ ∀ j, j ≠ 0 -> j = M ∨ j = Q -> (P x ↔ P j) := by
   intro M Q hM hQ e1 e2 e3 e4
   have m : M ≠ 0 -> (P x ↔ P M) := fun e => by
    obtain ⟨m1, m2, m3, m4⟩ := hM e
    have := hP (G.la M) (h.la_th m1) (by rw [(e2 e).2]; exact x0)
    rw [(e2 e).2] at this
    rw [m3, this]
   have q : Q ≠ 0 -> (P x ↔ P Q) := fun e => by
    obtain ⟨m1, m2, m3, m4⟩ := hQ e
    have f0 := (h.fi_th m1).1
    have := hP x hx (by rw [(e4 e).2]; omega)
    rw [(e4 e).2] at this
    rw [this, m2]
   refine ⟨?_, ?_, fun j j0 hj => ?_⟩
   ·by_cases e : M = 0
    ·rw [e1 e]
    ·rw [(e2 e).1, m e]; exact (hM e).2.1
   ·by_cases e : Q = 0
    ·rw [e3 e]
    ·rw [(e4 e).1, q e]; exact (hQ e).2.2.1
   ·rcases hj with rfl | rfl
    ·exact m j0
    ·exact q j0
  cases hb : G.b x
  ·rw [hb] at en
   exact main _ _ A B (fun e => en.l0 e) (fun e => en.l1 e) (fun e => en.r0 e) (fun e => en.r1 e)
  ·rw [hb] at en
   obtain ⟨a, b, c⟩ := main _ _ B A (fun e => en.r0 e) (fun e => en.r1 e) (fun e => en.l0 e) (fun e => en.l1 e)
   exact ⟨a, b, fun j j0 hj => c j j0 hj.symm⟩
theorem Lc.const (h : Lc S n T G) (P : Nat -> Prop) (hP : ∀ y, Th T y -> G.pn y ≠ 0 -> (P y ↔ P (G.pn y))) (hx : Th T x) : (P x ↔ P (G.fi x)) /\ (P x ↔ P (G.la x)) /\ ∀ j, j ≠ 0 -> j = (S x).l ∨ j = (S x).r -> (P x ↔ P j) :=
 h.constk P hP (S x).sm.c.toNat x hx (by have := h.cn x; omega)
structure Pth (S : Ss) (n : Nat) (T : Tr) (G : Gh) (t : Nat) : Prop where
 lc : Lc S n T G
 th : Th T t
 top : Top S t
 idle : Idle S t
 up0 : (S t).up = 0
 r0 : (S t).r = 0
 pn0 : G.pn t = 0
 la : G.la t = t
 root : ps T (G.fi t) = 0
 chain : ∀ z, z ∈ U T t -> ps T z ≠ 0 -> G.pn (ps T z) = z
theorem Exd.pth {S0 : Ss} {G0 : Gh} (E : Exd n T t S0 G0 met S G) (h : Lc S n T G) (ht : Th T t) : Pth S n T G t :=
 ⟨h, ht, E.top, E.idle, E.up0, E.r0, E.pn0, E.la, E.root, E.chain⟩
theorem Pth.pn_iff (E : Pth S n T G t) (hy : Th T y) (hp : G.pn y ≠ 0) : y ∈ U T t ↔ G.pn y ∈ U T t := by
 have W := E.lc.wf
 obtain ⟨h1, h2⟩ := (E.lc.loc y hy).nx hp
 constructor
 ·intro hm
  have hyt : y ≠ t := fun e => hp (by rw [e]; exact E.pn0)
  have : ∃ z, z ∈ U T t /\ ps T z = y := by
   have key : ∀ (k : Nat) (s : Nat), dp T s <= k -> s ∈ U T t -> y ∈ U T s -> y ≠ s -> ∃ z, z ∈ U T t /\ ps T z = y := by
    intro k
    induction k with
    | zero => intro s hs hs1 hs2 _; have := dp_pos W (U_mem_th' W hs2); omega
    | succ k ih =>
     intro s hs hs1 hs2 hs3
     have hst := U_mem_th W hs1
     have hd := dp_th W hst
     rcases (U_up W hst).1 hs2 with e | e
     ·exact absurd e hs3
     ·by_cases e2 : y = ps T s
      ·exact ⟨s, hs1, e2.symm⟩
      ·have p0 : ps T s ≠ 0 := fun e3 => by rw [e3, U_zero] at e; simp at e
       exact ih (ps T s) (by omega) (U_trans W hs1 (U_ps W hst p0)) e e2
   exact key _ t (Nat.le_refl _) (U_self W E.th) hm hyt
  obtain ⟨z, hz, hzy⟩ := this
  have := E.chain z hz (by rw [hzy]; have := hy.1; omega)
  rw [hzy] at this
  rw [this]; exact hz
 ·intro hm
  rw [← h2]
  exact U_trans W hm (U_ps W h1 (by rw [h2]; have := hy.1; omega))
theorem Pth.pn_ne (E : Pth S n T G t) (hm : y ∈ U T t) (hne : y ≠ t) : G.pn y ≠ 0 := by
 have W := E.lc.wf
 have hy := U_mem_th W hm
 have key : ∀ (k : Nat) (s : Nat), dp T s <= k -> s ∈ U T t -> y ∈ U T s -> y ≠ s -> ∃ z, z ∈ U T t /\ ps T z = y := by
  intro k
  induction k with
  | zero => intro s hs hs1 hs2 _; have := dp_pos W (U_mem_th' W hs2); omega
  | succ k ih =>
   intro s hs hs1 hs2 hs3
   have hst := U_mem_th W hs1
   have hd := dp_th W hst
   rcases (U_up W hst).1 hs2 with e | e
   ·exact absurd e hs3
   ·by_cases e2 : y = ps T s
    ·exact ⟨s, hs1, e2.symm⟩
    ·have p0 : ps T s ≠ 0 := fun e3 => by rw [e3, U_zero] at e; simp at e
     exact ih (ps T s) (by omega) (U_trans W hs1 (U_ps W hst p0)) e e2
 obtain ⟨z, hz, hzy⟩ := key _ t (Nat.le_refl _) (U_self W E.th) hm hne
 have := E.chain z hz (by rw [hzy]; have := hy.1; omega)
 rw [hzy] at this
 rw [this]; have := (U_mem_th W hz).1; omega
theorem Pth.const (E : Pth S n T G t) (hx : Th T x) : (x ∈ U T t ↔ G.fi x ∈ U T t) /\ (x ∈ U T t ↔ G.la x ∈ U T t) /\ ∀ j, j ≠ 0 -> j = (S x).l ∨ j = (S x).r -> (x ∈ U T t ↔ j ∈ U T t) :=
 E.lc.const (fun y => y ∈ U T t) (fun y hy hp => E.pn_iff hy hp) hx
theorem Pth.below (E : Pth S n T G t) (hx : x ∈ U T t) : (x = t /\ G.pn x = 0) ∨ (G.pn x ∈ U T t /\ ps T (G.pn x) = x /\ G.pn x ≠ 0) := by
 by_cases e : x = t
 ·exact .inl ⟨e, by rw [e]; exact E.pn0⟩
 ·have hp := E.pn_ne hx e
  have hx' := U_mem_th E.lc.wf hx
  exact .inr ⟨(E.pn_iff hx' hp).1 hx, ((E.lc.loc x hx').nx hp).2, hp⟩
theorem Pth.top_t (E : Pth S n T G t) (hx : x ∈ U T t) (hT : Top S x) : x = t := by
 have W := E.lc.wf
 have hx' := U_mem_th W hx
 have hl := (E.const hx').2.1.1 hx
 have P := (E.lc.loc x hx').tp hT
 have e : G.la x = t := Classical.byContradiction fun e => E.pn_ne hl e P.pn
 exact Classical.byContradiction fun e2 => (E.lc.ends_nt hx' E.top (fun e3 => e2 e3.symm)).1 e
theorem Pth.fi_mem (E : Pth S n T G t) : G.fi t ∈ U T t := E.lc.fi_in E.th
end
def setS (S : Ss) (t : Nat) (w : Int) : Ss := gatherS (upd S t { S t with wt := w }) t
section
variable {S S1 : Ss} {n : Nat} {T T1 : Tr} {G G1 : Gh} {t u x y z k c p q met : Nat} {w d : Int} {l : List Nat}
theorem setS_at (S : Ss) (w : Int) (hl : (S t).l ≠ t) (hr : (S t).r ≠ t) (x : Nat) : setS S t w x = if x = t then { S t with wt := w, sm := jn (jn (S (S t).l).sm (one w)) (S (S t).r).sm, hu := ⟨(S (S t).l).hu.c + (S t).hg.c + (S (S t).r).hu.c, (S (S t).l).hu.w + (S t).hg.w + (S (S t).r).hu.w⟩ } else S x := by
 unfold setS gatherS
 by_cases e : x = t
 ·subst e
  rw [upd_same, if_pos rfl]
  unfold gSm gHu
  rw [upd_same]
  dsimp only
  rw [upd_ne _ _ hl, upd_ne _ _ hr]
 ·rw [upd_ne _ _ e, upd_ne _ _ e, if_neg e]
theorem Pth.set (E : Pth S n T G t) (hw : -1099511627776 <= w /\ w <= 1099511627776) : Lc (setS S t w) n (T.set (t - 1) w) G := by
 have h := E.lc
 have W := h.wf
 have ht := E.th
 have t0 := ht.1
 have hl := h.kid_ne ht (.inl rfl)
 have hr := h.kid_ne ht (.inr rfl)
 have at1 := setS_at S w hl hr
 generalize setS S t w = S1 at at1 ⊢
 have nx := fun x (hx : x ≠ t) => show S1 x = S x by rw [at1, if_neg hx]
 have f : ∀ x, (S1 x).up = (S x).up /\ (S1 x).l = (S x).l /\ (S1 x).r = (S x).r /\ (S1 x).tn = (S x).tn /\ (S1 x).wa = (S x).wa /\ (S1 x).hg = (S x).hg := fun x => by
  rw [at1]; split
  ·rename_i e; subst e; simp
  ·simp
 have tp : ∀ x, Top S1 x ↔ Top S x := fun x => by unfold Top; rw [(f x).1, (f _).2.1, (f _).2.2.1]
 have D := fun x => D_set (v := t - 1) (w := w) (x := x) ht.2 W
 rw [Nat.sub_add_cancel t0] at D
 have wtx : ∀ x, 1 <= x -> x ≠ t -> (T.set (t - 1) w).wt (x - 1) = T.wt (x - 1) := fun x h1 h2 => updF_other _ _ (by omega)
 refine ⟨W.set, h.ft.set ht.2 hw, h.lt, h.n0, h.nn, fun x hx => by rw [nx x (fun e => hx (by rw [e]; exact ht))]; exact h.out x hx, h.p0, fun x hx => ?_⟩
 have L := h.loc x hx
 have kk : ∀ j, j ≠ 0 -> j = (S x).l ∨ j = (S x).r -> Ki S1 (T.set (t - 1) w) G x j := fun j j0 hj => by
  have K := h.up_kid hx hj j0
  exact ⟨K.th, by rw [(f j).1]; exact K.up, by rw [(f x).2.2.2.1]; exact K.b, by rw [(f x).2.2.2.2.1]; exact K.a⟩
 have tpx : Top S1 x -> Tp S1 (T.set (t - 1) w) G x := fun hT => by
  have P := L.tp ((tp x).1 hT)
  exact ⟨P.b, P.a, by rw [(f x).1]; exact P.fi, P.pn, by rw [(f x).1]; exact P.nv⟩
 by_cases e : x = t
 ·subst e
  have P := L.tp E.top
  have d1 := (D x).2
  rw [if_pos (U_self W ht)] at d1
  have wt1 : (T.set (x - 1) w).wt (x - 1) = w := updF_same _ _ _
  refine ⟨fun e => by rw [(f x).2.1] at e ⊢; exact kk _ e (.inl rfl), fun e => by rw [(f x).2.2.1] at e ⊢; exact kk _ e (.inr rfl), by rw [(f x).2.1, (f x).2.2.1]; exact L.lr, by rw [(f x).2.1, (f x).2.2.1]; exact L.en, L.nx, ?_, ?_, ?_, ?_, ?_, ?_, by rw [(f x).2.1, (f x).2.2.1, (f x).2.2.2.1, (f x).2.2.2.2.1]; exact L.id, tpx⟩
  ·rw [at1, if_pos rfl, P.a, wt1]; simp
  ·rw [(f x).2.1, (f x).2.2.1, nx _ hl, nx _ hr, at1, if_pos rfl]
   dsimp only
   rw [E.idle.2, lf_zero, lf_zero]
  ·rw [at1, if_pos rfl]; exact Fitm.mid (h.fit0 _) (h.fit0 _) hw
  ·rw [(f x).2.1, (f x).2.2.1, nx _ hl, nx _ hr, at1, if_pos rfl]
  ·rw [(f x).2.2.2.2.2, L.hgc, (D x).1, (D _).1]
  ·rw [(f x).2.2.2.2.2, L.hgw, d1, (D _).2, E.pn0, if_neg (zero_U W), wt1]; omega
 ·have nk : ∀ j, j = (S x).l ∨ j = (S x).r -> S1 j = S j := fun j hj => nx j fun e2 => by
   obtain ⟨k1, k2⟩ := h.top_nk hx E.top (by omega)
   rcases hj with q | q
   ·exact k1 (by rw [← e2]; exact q)
   ·exact k2 (by rw [← e2]; exact q)
  refine Loc.move h hx (nx x e) (fun j hj => by rw [nk j hj]; exact ⟨rfl, rfl⟩) kk L.en L.nx ?_ ?_ ?_ tpx
  ·rw [wtx x hx.1 e]; exact L.wt
  ·rw [(D x).1, (D _).1]
  ·rw [(D x).2, (D _).2, wtx x hx.1 e]
   by_cases hm : x ∈ U T t
   ·rcases E.below hm with ⟨e2, _⟩ | ⟨b1, _, _⟩
    ·exact absurd e2 e
    ·rw [if_pos hm, if_pos b1]; omega
   ·have : G.pn x ∉ U T t := fun q => by
     by_cases p0 : G.pn x = 0
     ·rw [p0] at q; exact zero_U W q
     ·exact hm ((E.pn_iff hx p0).2 q)
    rw [if_neg hm, if_neg this]; omega
theorem ofR_ab : ∀ {l : List Int} {m : Int}, m ∈ l -> (ofR l).a <= m /\ m <= (ofR l).b
 | k :: l, m, hm => by
  have h1 := jn_a (x := one k) (y := ofR l) (by simp [one])
  rcases List.mem_cons.1 hm with rfl | hm
  ·exact h1
  ·have ne : (ofR l).c ≠ 0 := by
    rw [ofR_c]
    have := List.length_pos_iff.2 (List.ne_nil_of_mem hm)
    omega
   have h2 := jn_a' (x := one k) ne
   have h3 := ofR_ab hm
   show (jn (one k) (ofR l)).a <= m /\ m <= (jn (one k) (ofR l)).b
   omega
theorem sp_mem (h : Lc S n T G) {l : List Nat} (sp : Sp S T G x l) (hy : y ∈ l) : (lf (S x).sm (G.a x)).a <= T.wt (y - 1) /\ T.wt (y - 1) <= (lf (S x).sm (G.a x)).b := by
 rw [sp.s, ofL_eq]
 exact ofR_ab (List.mem_map.2 ⟨y, hy, rfl⟩)
theorem sp_list (h : Lc S n T G) : ∀ (l : List Nat) (z : Nat), Pc G.pn (z :: l) -> (∀ y ∈ z :: l, Th T y) -> ∀ a e, z :: l = a ++ [e] -> U T e = (z :: l).reverse ++ U T (ps T z)
 | [], z, _, hth, a, e, he => by
  have : a = [] := by
   cases a with
   | nil => rfl
   | cons y a => simp at he
  subst this
  simp at he; subst he
  rw [U_th h.wf (hth z (by simp))]; simp
 | y :: l, z, hp, hth, a, e, he => by
  cases a with
  | nil => simp at he
  | cons z' a =>
   simp at he
   obtain ⟨rfl, he⟩ := he
   have ih := sp_list h l y hp.2 (fun x hx => hth x (by simp [hx])) a e he
   have hy := (hth y (by simp)).1
   obtain ⟨_, h2⟩ := h.ps_pn (hth z (by simp)) hp.1 (by omega)
   rw [ih, h2, U_th h.wf (hth z (by simp))]
   simp
theorem Pth.spell (E : Pth S n T G t) {l : List Nat} (sp : Sp S T G t l) : l = (U T t).reverse := by
 obtain ⟨m, hm⟩ := sp.hd
 obtain ⟨a, ha⟩ := sp.ls
 have := sp_list E.lc m (G.fi t) (by rw [← hm]; exact sp.pc) (by rw [← hm]; exact sp.th) a (G.la t) (by rw [← hm]; exact ha)
 rw [E.la, E.root, U_zero, List.append_nil, ← hm] at this
 rw [this, List.reverse_reverse]
theorem Pth.sum (E : Pth S n T G t) : (S t).sm = ofL ((T.up (t - 1)).map T.wt) := by
 obtain ⟨l, sp⟩ := E.lc.spell E.th
 have e := E.spell sp
 have P := (E.lc.loc t E.th).tp E.top
 have s := sp.s
 rw [P.a, lf_zero, e] at s
 rw [s, List.map_reverse]
 have t0 := E.th.1
 have hU : (U T t).map (fun y => T.wt (y - 1)) = (T.up (t - 1)).map T.wt := by
  unfold U
  rw [if_neg (by omega), List.map_map]
  rfl
 rw [hU]
 generalize (T.up (t - 1)).map T.wt = m
 rw [ofL_eq, ofL_eq]
 induction m with
 | nil => rfl
 | cons a m ih =>
  rw [List.reverse_cons, ofR_append, ih]
  show jn (ofR m) (jn (one a) zero) = jn (one a) (ofR m)
  rw [jn_zero_right (ok_one a), jn_comm (ok_ofR m) (ok_one a)]
theorem Pth.way_bd (E : Pth S n T G t) (hy : y ∈ U T t) : (S t).sm.a <= T.wt (y - 1) /\ T.wt (y - 1) <= (S t).sm.b := by
 obtain ⟨l, sp⟩ := E.lc.spell E.th
 have e := E.spell sp
 have P := (E.lc.loc t E.th).tp E.top
 have := sp_mem E.lc sp (y := y) (by rw [e]; simpa using hy)
 rw [P.a, lf_zero] at this; exact this
theorem raiseS_t (S : Ss) (t0 : t ≠ 0) (d : Int) (x : Nat) : raiseS S t d x = if x = t then rzS (S t) d else S x := by
 by_cases e : x = t
 ·subst e; rw [if_pos rfl, raiseS_at, if_neg t0]
 ·rw [if_neg e, raiseS_ne _ _ e]
theorem Pth.raise (E : Pth S n T G t) (hl : ∀ u, u ∈ l ↔ u + 1 ∈ U T t) (h1 : -1099511627776 <= (S t).sm.a + d) (h2 : (S t).sm.b + d <= 1099511627776) :
  Lc (raiseS S t d) n (T.raise l d) { G with a := fun x => if x ∈ U T t /\ x ≠ t then G.a x + d else G.a x } /\ Rbd (S t) d := by
 have h := E.lc
 have W := h.wf
 have ht := E.th
 have t0 : t ≠ 0 := by have := ht.1; omega
 have at1 := raiseS_t S t0 d
 generalize raiseS S t d = S1 at at1 ⊢
 have Lt := h.loc t ht
 have Pt := Lt.tp E.top
 have nx := fun x (hx : x ≠ t) => show S1 x = S x by rw [at1, if_neg hx]
 have f : ∀ x, (S1 x).up = (S x).up /\ (S1 x).l = (S x).l /\ (S1 x).r = (S x).r /\ (S1 x).tn = (S x).tn /\ (S1 x).hg = (S x).hg /\ (S1 x).hu = (S x).hu := fun x => by
  rw [at1]; split
  ·rename_i e; subst e; have := rzS_f (S x) d; simp [this]
  ·simp
 have tp : ∀ x, Top S1 x ↔ Top S x := fun x => by unfold Top; rw [(f x).1, (f _).2.1, (f _).2.2.1]
 have l' : ∀ u, u ∈ l ↔ u + 1 ∈ U T (t - 1 + 1) := fun u => by rw [Nat.sub_add_cancel ht.1]; exact hl u
 have fits := fun y hy => E.way_bd (y := y) hy
 have Ft := Lt.fit
 have fit1 := Ft.lf h1 h2
 have ab := h.ab ht
 have addt : addV (S t).wt d = (S t).wt + d := by
  have := Ft.lo; have := Ft.hi; have := Ft.ab
  unfold addV addB fitB inB
  rw [if_pos (by simp; omega)]
 have bd : Rbd (S t) d := rbd_of Ft (h.c_le t).2 h1 h2 (h.wa_bd t)
 have D := fun x => D_raise (T := T) (l := l) (w := d) (x := x)
 have wt1 : ∀ x, 1 <= x -> (T.raise l d).wt (x - 1) = if x ∈ U T t then T.wt (x - 1) + d else T.wt (x - 1) := fun x hx => by
  show raiseF T.wt l d (x - 1) = _
  unfold raiseF
  have := hl (x - 1)
  rw [Nat.sub_add_cancel hx] at this
  by_cases q : x ∈ U T t
  ·rw [if_pos (this.2 q), if_pos q]
  ·rw [if_neg (fun k => q (this.1 k)), if_neg q]
 refine ⟨⟨W.raise, h.ft.raise (fun x hx => ?_), h.lt, h.n0, h.nn, fun x hx => by rw [nx x (fun e => hx (by rw [e]; exact ht))]; exact h.out x hx, h.p0, fun x hx => ?_⟩, bd⟩
 ·have hm := (hl x).1 hx
  have hth := U_mem_th W hm
  have := fits _ hm
  rw [Nat.add_sub_cancel] at this
  exact ⟨by simpa using hth.2, by omega, by omega⟩
 have L := h.loc x hx
 have x1 := hx.1
 have cs := E.const hx
 have kk : ∀ j, j ≠ 0 -> j = (S x).l ∨ j = (S x).r -> Ki S1 (T.raise l d) { G with a := fun x => if x ∈ U T t /\ x ≠ t then G.a x + d else G.a x } x j := fun j j0 hj => by
  have K := h.up_kid hx hj j0
  have jt : j ≠ t := fun e => by
   obtain ⟨k1, k2⟩ := h.top_nk hx E.top t0
   rcases hj with q | q
   ·exact k1 (by rw [← e]; exact q)
   ·exact k2 (by rw [← e]; exact q)
  refine ⟨K.th, by rw [(f j).1]; exact K.up, by rw [(f x).2.2.2.1]; exact K.b, ?_⟩
  show (if j ∈ U T t /\ j ≠ t then G.a j + d else G.a j) = (if x ∈ U T t /\ x ≠ t then G.a x + d else G.a x) + (S1 x).wa
  have hjx := cs.2.2 j j0 hj
  by_cases hm : x ∈ U T t
  ·rw [if_pos ⟨hjx.1 hm, jt⟩, K.a]
   by_cases e : x = t
   ·subst e
    rw [if_neg (fun q => q.2 rfl), at1, if_pos rfl]
    have hc : 1 < (S x).sm.c := Classical.byContradiction fun hc => by
     have := h.alone hx hc
     rcases hj with rfl | rfl <;> omega
    rw [rzS, if_pos hc]; dsimp only; omega
   ·rw [if_pos ⟨hm, e⟩, nx x e]; omega
  ·rw [if_neg (fun q => hm (hjx.2 q.1)), if_neg (fun q => hm q.1), K.a, nx x (fun e => hm (by rw [e]; exact U_self W ht))]
 have tpx : Top S1 x -> Tp S1 (T.raise l d) { G with a := fun x => if x ∈ U T t /\ x ≠ t then G.a x + d else G.a x } x := fun hT => by
  have hT' := (tp x).1 hT
  have P := L.tp hT'
  refine ⟨P.b, ?_, by rw [(f x).1]; exact P.fi, P.pn, by rw [(f x).1]; exact P.nv⟩
  show (if x ∈ U T t /\ x ≠ t then G.a x + d else G.a x) = 0
  rw [if_neg (fun q => q.2 (E.top_t q.1 hT'))]; exact P.a
 have dif : Dw T x - T.wt (x - 1) - Dw T (G.pn x) = Dw (T.raise l d) x - (T.raise l d).wt (x - 1) - Dw (T.raise l d) (G.pn x) := by
  rw [(D x).2, (D _).2, wt1 x x1]
  by_cases hm : x ∈ U T t
  ·have := cnt_on (l := l) (v := t - 1) (x := x) (y := G.pn x) W l' (by rw [Nat.sub_add_cancel ht.1]; exact hm) (by
    rw [Nat.sub_add_cancel ht.1]
    rcases E.below hm with q | q
    ·exact .inl q
    ·exact .inr ⟨q.1, q.2.1⟩)
   rw [if_pos hm]
   have e : d * cntF T l x = d * cntF T l (G.pn x) + d := by
    have : cntF T l x = cntF T l (G.pn x) + 1 := by omega
    rw [this, Int.mul_add]; omega
   omega
  ·rw [if_neg hm]
   have c1 := cnt_out (l := l) (v := t - 1) (x := x) W (fun u hu => (l' u).1 hu) (by rw [Nat.sub_add_cancel ht.1]; exact hm)
   have : G.pn x ∉ U T t := fun q => by
    by_cases p0 : G.pn x = 0
    ·rw [p0] at q; exact zero_U W q
    ·exact hm ((E.pn_iff hx p0).2 q)
   have c2 := cnt_out (l := l) (v := t - 1) (x := G.pn x) W (fun u hu => (l' u).1 hu) (by rw [Nat.sub_add_cancel ht.1]; exact this)
   rw [c1, c2]; omega
 by_cases e : x = t
 ·subst e
  have hm := U_self W hx
  have smx : (S1 x).sm = lf (S x).sm d /\ (S1 x).wt = (S x).wt + d := by
   have := rzS_f (S x) d
   rw [at1, if_pos rfl]; exact ⟨this.2.2.2.2.2.2.1, by rw [this.2.2.2.2.2.2.2, addt]⟩
  refine ⟨fun e => by rw [(f x).2.1] at e ⊢; exact kk _ e (.inl rfl), fun e => by rw [(f x).2.2.1] at e ⊢; exact kk _ e (.inr rfl), by rw [(f x).2.1, (f x).2.2.1]; exact L.lr, by rw [(f x).2.1, (f x).2.2.1]; exact L.en.gh rfl rfl rfl, L.nx, ?_, ?_, by rw [smx.1]; exact fit1, ?_, by rw [(f x).2.2.2.2.1]; exact L.hgc, by rw [(f x).2.2.2.2.1, L.hgw, dif], ?_, tpx⟩
  ·show (S1 x).wt + (if x ∈ U T x /\ x ≠ x then G.a x + d else G.a x) = _
   rw [if_neg (fun q => q.2 rfl), smx.2, wt1 x x1, if_pos hm, ← L.wt]; omega
  ·have kne : ∀ j, j = (S x).l ∨ j = (S x).r -> S1 j = S j := fun j hj => nx j (h.kid_ne hx hj)
   rw [(f x).2.1, (f x).2.2.1, kne _ (.inl rfl), kne _ (.inr rfl), smx.1, smx.2]
   have ol := ok_lf (h.ok (S x).l) (S x).wa
   have or' := ok_lf (h.ok (S x).r) (S x).wa
   rw [L.sm, lf_jn (ok_jn ol (ok_one _)) or', lf_jn ol (ok_one _), lf_lf, lf_lf, lf_one]
   rw [at1, if_pos rfl, rzS]
   by_cases hc : 1 < (S x).sm.c
   ·rw [if_pos hc]
   ·rw [if_neg hc]
    obtain ⟨z1, z2⟩ := h.alone hx hc
    dsimp only
    rw [z1, z2, h.s0]
    show jn (jn (lf zero _) _) (lf zero _) = jn (jn (lf zero _) _) (lf zero _)
    simp only [lf_nil]
  ·rw [(f x).2.1, (f x).2.2.1, (f x).2.2.2.2.1, (f x).2.2.2.2.2, (f _).2.2.2.2.2, (f _).2.2.2.2.2]; exact L.hu
  ·rw [(f x).2.1, (f x).2.2.1, (f x).2.2.2.1]
   intro a b
   refine ⟨(L.id a b).1, ?_⟩
   have : ¬ 1 < (S x).sm.c := by
    have := h.cc hx
    rw [a, b, h.s0] at this
    have : (S x).sm.c = 0 + 1 + 0 := this
    omega
   rw [at1, if_pos rfl, rzS, if_neg this]; exact (L.id a b).2
 ·have nk : ∀ j, j = (S x).l ∨ j = (S x).r -> S1 j = S j := fun j hj => nx j fun e2 => by
   obtain ⟨k1, k2⟩ := h.top_nk hx E.top t0
   rcases hj with q | q
   ·exact k1 (by rw [← e2]; exact q)
   ·exact k2 (by rw [← e2]; exact q)
  refine Loc.move h hx (nx x e) (fun j hj => by rw [nk j hj]; exact ⟨rfl, rfl⟩) kk (L.en.gh rfl rfl rfl) L.nx ?_ rfl dif.symm tpx
  show (S x).wt + (if x ∈ U T t /\ x ≠ t then G.a x + d else G.a x) = _
  rw [wt1 x x1]
  by_cases hm : x ∈ U T t
  ·rw [if_pos ⟨hm, e⟩, if_pos hm, ← L.wt]; omega
  ·rw [if_neg (fun q => hm q.1), if_neg hm]; exact L.wt
end
def turnG (T : Tr) (G : Gh) (t : Nat) : Gh where
 b := fun x => if x ∈ U T t /\ x ≠ t then !(G.b x) else G.b x
 a := G.a
 fi := fun x => if x ∈ U T t then G.la x else G.fi x
 la := fun x => if x ∈ U T t then G.fi x else G.la x
 pn := fun x => if x ∈ U T t then ps T x else G.pn x
section
variable {S S1 : Ss} {n : Nat} {T T1 : Tr} {G G1 : Gh} {t u x y z k c p q met : Nat} {w d : Int} {l : List Nat}
theorem En.rev {β : Bool} {l r : Nat} (h : En G β l r x) (fx : G1.fi x = G.la x /\ G1.la x = G.fi x) (fk : ∀ j, j ≠ 0 -> j = l ∨ j = r -> G1.fi j = G.la j /\ G1.la j = G.fi j)
  (p1 : ∀ j, j ≠ 0 -> j = l ∨ j = r -> G.pn (G.la j) = x -> G1.pn x = G.la j) (p2 : ∀ j, j ≠ 0 -> j = l ∨ j = r -> G.pn x = G.fi j -> G1.pn (G.fi j) = x) : En G1 β r l x := by
 obtain ⟨h1, h2, h3, h4⟩ := h
 cases β
 ·refine ⟨fun e => ?_, fun e => ?_, fun e => ?_, fun e => ?_⟩
  ·show G1.fi x = x; rw [fx.1]; exact h3 e
  ·obtain ⟨a, b⟩ := h4 e
   exact ⟨by show G1.fi x = G1.fi r; rw [fx.1, (fk r e (.inr rfl)).1]; exact a, by show G1.pn (G1.la r) = x; rw [(fk r e (.inr rfl)).2]; exact p2 r e (.inr rfl) b⟩
  ·show G1.la x = x; rw [fx.2]; exact h1 e
  ·obtain ⟨a, b⟩ := h2 e
   exact ⟨by show G1.la x = G1.la l; rw [fx.2, (fk l e (.inl rfl)).2]; exact a, by show G1.pn x = G1.fi l; rw [(fk l e (.inl rfl)).1]; exact p1 l e (.inl rfl) b⟩
 ·refine ⟨fun e => ?_, fun e => ?_, fun e => ?_, fun e => ?_⟩
  ·show G1.la x = x; rw [fx.2]; exact h3 e
  ·obtain ⟨a, b⟩ := h4 e
   exact ⟨by show G1.la x = G1.la r; rw [fx.2, (fk r e (.inr rfl)).2]; exact a, by show G1.pn x = G1.fi r; rw [(fk r e (.inr rfl)).1]; exact p1 r e (.inr rfl) b⟩
  ·show G1.fi x = x; rw [fx.1]; exact h1 e
  ·obtain ⟨a, b⟩ := h2 e
   exact ⟨by show G1.fi x = G1.fi l; rw [fx.1, (fk l e (.inl rfl)).1]; exact a, by show G1.pn (G1.la l) = x; rw [(fk l e (.inl rfl)).2]; exact p2 l e (.inl rfl) b⟩
theorem turnS_t (S : Ss) (t x : Nat) : turnS S t x = if x = t then flipS (S t) else S x := by
 by_cases e : x = t
 ·subst e; rw [if_pos rfl, turnS_at]
 ·rw [if_neg e, turnS_ne _ e]
theorem Pth.turn (E : Pth S n T G t) : Lc (turnS S t) n (T.evert (t - 1)) (turnG T G t) := by
 have h := E.lc
 have W := h.wf
 have ht := E.th
 have t0 := ht.1
 have hv : T.par (t - 1) ≠ -2 := ht.2
 have tt : t - 1 + 1 = t := Nat.sub_add_cancel t0
 have at1 := turnS_t S t
 generalize turnS S t = S1 at at1 ⊢
 have nx := fun x (hx : x ≠ t) => show S1 x = S x by rw [at1, if_neg hx]
 have f : ∀ x, (S1 x).up = (S x).up /\ (S1 x).sm = (S x).sm /\ (S1 x).hu = (S x).hu /\ (S1 x).hg = (S x).hg /\ (S1 x).wt = (S x).wt /\ (S1 x).wa = (S x).wa := fun x => by
  rw [at1]; split
  ·rename_i e; subst e; have := flipS_sm (S x); simp [this]
  ·simp
 have lr : ∀ x, ((S1 x).l = (S x).l /\ (S1 x).r = (S x).r) ∨ ((S1 x).l = (S x).r /\ (S1 x).r = (S x).l) := fun x => by
  rw [at1]; split
  ·rename_i e; subst e; exact flipS_lr _
  ·exact .inl ⟨rfl, rfl⟩
 have tp : ∀ x, Top S1 x ↔ Top S x := fun x => by
  unfold Top; rw [(f x).1]
  rcases lr (S x).up with ⟨h1, h2⟩ | ⟨h1, h2⟩ <;> rw [h1, h2]
  exact And.comm
 have Gon : ∀ x, x ∈ U T t -> (turnG T G t).fi x = G.la x /\ (turnG T G t).la x = G.fi x /\ (turnG T G t).pn x = ps T x := fun x hx => by
  simp [turnG, hx]
 have Gout : ∀ x, x ∉ U T t -> (turnG T G t).fi x = G.fi x /\ (turnG T G t).la x = G.la x /\ (turnG T G t).pn x = G.pn x /\ (turnG T G t).b x = G.b x := fun x hx => by
  simp [turnG, hx]
 have Gb : ∀ x, x ∈ U T t -> x ≠ t -> (turnG T G t).b x = !(G.b x) := fun x hx e => by simp [turnG, hx, e]
 have Gbt : (turnG T G t).b t = G.b t := by simp [turnG]
 have hfi := E.fi_mem
 have Pt := (h.loc t ht).tp E.top
 refine ⟨W.evert hv, h.ft.evert W hv, fun x hx => h.lt x ((th_evert W hv).1 hx), h.n0, h.nn, fun x hx => ?_, by rw [(Gout 0 (zero_U W)).2.2.1]; exact h.p0, fun x hx' => ?_⟩
 ·have hx2 : ¬ Th T x := fun q => hx ((th_evert W hv).2 q)
  rw [nx x (fun e => hx2 (by rw [e]; exact ht))]; exact h.out x hx2
 have hx := (th_evert W hv).1 hx'
 have L := h.loc x hx
 have x1 := hx.1
 have cs := E.const hx
 have Kb : ∀ j, j ≠ 0 -> j = (S x).l ∨ j = (S x).r -> Ki S1 (T.evert (t - 1)) (turnG T G t) x j := fun j j0 hj => by
  have K := h.up_kid hx hj j0
  have jt : j ≠ t := fun e => by
   obtain ⟨k1, k2⟩ := h.top_nk hx E.top (by omega)
   rcases hj with q | q
   ·exact k1 (by rw [← e]; exact q)
   ·exact k2 (by rw [← e]; exact q)
  have hjx := cs.2.2 j j0 hj
  refine ⟨(th_evert W hv).2 K.th, by rw [(f j).1]; exact K.up, ?_, by show G.a j = G.a x + _; rw [(f x).2.2.2.2.2]; exact K.a⟩
  by_cases hm : x ∈ U T t
  ·rw [Gb j (hjx.1 hm) jt, K.b]
   by_cases e : x = t
   ·subst e
    have hc : 1 < (S x).sm.c := Classical.byContradiction fun hc => by
     have := h.alone hx hc
     rcases hj with rfl | rfl <;> omega
    rw [Gbt, at1, if_pos rfl, flipS, if_pos hc]
    dsimp only
    cases G.b x <;> cases (S x).tn <;> rfl
   ·rw [Gb x hm e, nx x e]
    cases G.b x <;> cases (S x).tn <;> rfl
  ·rw [(Gout j (fun q => hm (hjx.2 q))).2.2.2, (Gout x hm).2.2.2, K.b, nx x (fun e => hm (by rw [e]; exact U_self W ht))]
 have hg : ((S1 x).hg.c = Dc (T.evert (t - 1)) x - 1 - Dc (T.evert (t - 1)) ((turnG T G t).pn x)) /\ ((S1 x).hg.w = Dw (T.evert (t - 1)) x - (T.evert (t - 1)).wt (x - 1) - Dw (T.evert (t - 1)) ((turnG T G t).pn x)) := by
  rw [(f x).2.2.2.1, L.hgc, L.hgw]
  show _ /\ _ = _ - T.wt (x - 1) - _
  by_cases hm : x ∈ U T t
  ·rw [(Gon x hm).2.2]
   have ev := fun (y z : Nat) (h1 : y ∈ U T t) (h2 : (y = t /\ z = 0) ∨ (z ∈ U T t /\ ps T z = y)) => D_evert_on (v := t - 1) (x := y) (r := G.fi t) (y := z) W hv (by rw [tt]; exact h1) (by rw [tt]; exact hfi) E.root (by rw [tt]; exact h2)
   have e1 := ev x (G.pn x) hm (by
    rcases E.below hm with q | q
    ·exact .inl q
    ·exact .inr ⟨q.1, q.2.1⟩)
   by_cases p0 : ps T x = 0
   ·have hr : x = G.fi t := by
     rcases U_cmp' W hm hfi with q | q
     ·rw [U_th W (h.fi_th ht), E.root, U_zero] at q; simpa using q
     ·rw [U_th W hx, p0, U_zero] at q; simp at q; exact q.symm
    rw [p0, Dc_zero (W.evert hv), Dw_zero (W.evert hv), e1.1, e1.2, ← hr]; omega
   ·have e2 := ev (ps T x) x (U_trans W hm (U_ps W hx p0)) (.inr ⟨hm, rfl⟩)
    rw [e1.1, e1.2, e2.1, e2.2]; omega
  ·have hp : G.pn x ∉ U T t := fun q => by
    by_cases p0 : G.pn x = 0
    ·rw [p0] at q; exact zero_U W q
    ·exact hm ((E.pn_iff hx p0).2 q)
   have e1 := D_evert_out (v := t - 1) (x := x) W hv (by rw [tt]; exact hm)
   have e2 := D_evert_out (v := t - 1) (x := G.pn x) W hv (by rw [tt]; exact hp)
   rw [(Gout x hm).2.2.1, e1.1, e1.2, e2.1, e2.2]; omega
 have hnx : (turnG T G t).pn x ≠ 0 -> Th (T.evert (t - 1)) ((turnG T G t).pn x) /\ ps (T.evert (t - 1)) ((turnG T G t).pn x) = x := by
  by_cases hm : x ∈ U T t
  ·rw [(Gon x hm).2.2]
   intro p0
   exact ⟨(th_evert W hv).2 (ps_th W hx p0), ps_evert_on W hv (by rw [tt]; exact hm) p0⟩
  ·rw [(Gout x hm).2.2.1]
   intro p0
   obtain ⟨k1, k2⟩ := L.nx p0
   have hp : G.pn x ∉ U T t := fun q => hm ((E.pn_iff hx p0).2 q)
   exact ⟨(th_evert W hv).2 k1, by rw [ps_evert_out (by rw [tt]; exact hp) k1.1]; exact k2⟩
 have hen : En (turnG T G t) ((turnG T G t).b x) (S1 x).l (S1 x).r x := by
  by_cases hm : x ∈ U T t
  ·have rev := L.en.rev (G1 := turnG T G t) ⟨(Gon x hm).1, (Gon x hm).2.1⟩ (fun j j0 hj => by
     have hj' : j = (S x).l ∨ j = (S x).r := hj
     have q := (cs.2.2 j j0 hj').1 hm
     exact ⟨(Gon j q).1, (Gon j q).2.1⟩)
    (fun j j0 hj e => by
     have hjm := (cs.2.2 j j0 hj).1 hm
     have K := h.up_kid hx hj j0
     rw [(Gon x hm).2.2]
     exact (h.ps_pn (h.la_th K.th) e (by omega)).2)
    (fun j j0 hj e => by
     have hjm := (cs.2.2 j j0 hj).1 hm
     have K := h.up_kid hx hj j0
     have f0 := (h.fi_th K.th).1
     rw [(Gon (G.fi j) ((E.const K.th).1.1 hjm)).2.2]
     exact (h.ps_pn hx e (by omega)).2)
   by_cases e : x = t
   ·subst e
    rw [Gbt, at1, if_pos rfl, flipS]
    split
    ·exact rev
    ·rename_i hc
     obtain ⟨z1, z2⟩ := h.alone hx hc
     rw [z1, z2] at rev ⊢; exact rev
   ·rw [Gb x hm e, nx x e]; exact rev.flip
  ·have xt : x ≠ t := fun e => hm (by rw [e]; exact U_self W ht)
   rw [(Gout x hm).2.2.2, nx x xt]
   refine L.en.agree ⟨(Gout x hm).1, (Gout x hm).2.1⟩ (fun j j0 hj => ?_) (fun j j0 hj e => ?_) (fun j j0 hj e => ?_)
   ·have q : j ∉ U T t := fun q => hm ((cs.2.2 j j0 hj).2 q)
    exact ⟨(Gout j q).1, (Gout j q).2.1⟩
   ·have K := h.up_kid hx hj j0
    have q : G.la j ∉ U T t := fun q => hm ((cs.2.2 j j0 hj).2 ((E.const K.th).2.1.2 q))
    rw [(Gout _ q).2.2.1]; exact e
   ·rw [(Gout x hm).2.2.1]; exact e
 have htp : Top S1 x -> Tp S1 (T.evert (t - 1)) (turnG T G t) x := fun hT => by
  have hT' := (tp x).1 hT
  have P := L.tp hT'
  by_cases hm : x ∈ U T t
  ·have e := E.top_t hm hT'
   subst e
   refine ⟨by rw [Gbt]; exact P.b, P.a, ?_, ?_, ?_⟩
   ·rw [(Gon x hm).1, E.la, (f x).1, E.up0]
    have := ps_evert_t W hv
    rwa [tt] at this
   ·rw [(Gon x hm).2.1, (Gon _ hfi).2.2]; exact E.root
   ·rw [(f x).1, E.up0, (Gout 0 (zero_U W)).2.2.1, h.p0, (Gon x hm).1, E.la]; omega
  ·have hf : G.fi x ∉ U T t := fun q => hm (cs.1.2 q)
   have hl : G.la x ∉ U T t := fun q => hm (cs.2.1.2 q)
   have fth := h.fi_th hx
   refine ⟨by rw [(Gout x hm).2.2.2]; exact P.b, P.a, ?_, ?_, ?_⟩
   ·rw [(Gout x hm).1, ps_evert_out (by rw [tt]; exact hf) fth.1, (f x).1]; exact P.fi
   ·rw [(Gout x hm).2.1, (Gout _ hl).2.2.1]; exact P.pn
   ·rw [(f x).1, (Gout x hm).1]
    by_cases hu : (S x).up ∈ U T t
    ·rw [(Gon _ hu).2.2]
     intro e
     have d1 := dp_th W fth
     rw [P.fi] at d1
     have d2 := dp_th W (U_mem_th W hu)
     rw [e] at d2; omega
    ·rw [(Gout _ hu).2.2.1]; exact P.nv
 have hlr : (S1 x).l = (S1 x).r -> (S1 x).l = 0 := by
  rcases lr x with ⟨h1, h2⟩ | ⟨h1, h2⟩ <;> rw [h1, h2]
  ·exact L.lr
  ·intro e; rw [e]; exact L.lr e.symm
 refine ⟨fun e => Kb _ e ?_, fun e => Kb _ e ?_, hlr, hen, hnx, by rw [(f x).2.2.2.2.1]; exact L.wt, ?_, by rw [(f x).2.1]; exact L.fit, ?_, hg.1, hg.2, ?_, htp⟩
 ·rcases lr x with ⟨h1, h2⟩ | ⟨h1, h2⟩ <;> simp [h1]
 ·rcases lr x with ⟨h1, h2⟩ | ⟨h1, h2⟩ <;> simp [h2]
 ·rw [(f _).2.1, (f _).2.1, (f _).2.1, (f x).2.2.2.2.1, (f x).2.2.2.2.2]
  rcases lr x with ⟨h1, h2⟩ | ⟨h1, h2⟩ <;> rw [h1, h2]
  ·exact L.sm
  ·have hl := (ok_lf (h.ok (S x).l) (S x).wa)
   have hr := (ok_lf (h.ok (S x).r) (S x).wa)
   have o := ok_one (S x).wt
   rw [L.sm, jn_comm (ok_jn hl o) hr, jn_comm hl o, jn_assoc hr o hl]
 ·rw [(f _).2.2.1, (f _).2.2.1, (f _).2.2.1, (f x).2.2.2.1]
  rcases lr x with ⟨h1, h2⟩ | ⟨h1, h2⟩ <;> rw [h1, h2, L.hu]
  congr 1 <;> omega
 ·intro a b
  have hc : ¬ 1 < (S x).sm.c := by
   have := h.cc hx
   have e : (S x).l = 0 /\ (S x).r = 0 := by rcases lr x with ⟨h1, h2⟩ | ⟨h1, h2⟩ <;> constructor <;> omega
   rw [e.1, e.2, h.s0] at this
   have : (S x).sm.c = 0 + 1 + 0 := this
   omega
  have e : S1 x = S x := by
   rw [at1]; split
   ·rename_i e; subst e; rw [flipS, if_neg hc]
   ·rfl
  rw [e] at a b ⊢; exact L.id a b
end
end Go.Proofs.Ytjnkgakajenoaaa
