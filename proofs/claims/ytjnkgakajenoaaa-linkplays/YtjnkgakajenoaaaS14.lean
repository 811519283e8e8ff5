/- Part 14 of the texts. -/
import Derived.Test.YtjnkgakajenoaaaS6
import Derived.Test.YtjnkgakajenoaaaS1
import Derived.Test.YtjnkgakajenoaaaS13
import Derived.Test.YtjnkgakajenoaaaS9
import Derived.Deep.QuietTactic
import Derived.Deep.RegionWith
import Derived.WalkSmall
import Derived.BigQuiet
namespace Go.Proofs.Ytjnkgakajenoaaa
set_option linter.unusedVariables false
set_option linter.unusedSimpArgs false
section
variable {S : Ss} {n : Nat} {T : Tr} {G : Gh} {t u x y z k : Nat}
theorem sumF_swap (m : Nat) (f : Nat -> Nat -> Int) : ∀ n, sumF n (fun x => sumF m (fun u => f x u)) = sumF m (fun u => sumF n (fun x => f x u))
 | 0 => (sumF_zero fun i _ => rfl).symm
 | n + 1 => by
  have := sumF_swap m f n
  simp only [sumF]
  rw [this, ← sumF_add]
theorem sumF_ind (P : Nat -> Prop) [DecidablePred P] (n : Nat) (hu : ∀ x y, P x -> P y -> x = y) :
  (∃ x, x < n /\ P x /\ sumF n (fun i => if P i then 1 else 0) = 1) ∨ ((∀ x, x < n -> ¬ P x) /\ sumF n (fun i => if P i then 1 else 0) = 0) := by
 by_cases h : ∃ x, x < n /\ P x
 ·obtain ⟨x, hx, hp⟩ := h
  refine .inl ⟨x, hx, hp, ?_⟩
  refine (sumF_congr fun i _ => ?_).trans (sumF_one (n := n) x 1 hx)
  by_cases e : i = x
  ·subst e; simp [hp]
  ·rw [if_neg e, if_neg fun hi => e (hu _ _ hi hp)]
 ·exact .inr ⟨fun x hx hp => h ⟨x, hx, hp⟩, sumF_zero fun i hi => if_neg fun hp => h ⟨i, hi, hp⟩⟩
def Hq (S : Ss) (T : Tr) (G : Gh) (t u x : Nat) : Prop := (Th T x /\ Top S x /\ (S x).up = t) /\ G.fi x ∈ U T (u + 1)
def decHq (S : Ss) (T : Tr) (G : Gh) (t u x : Nat) : Decidable (Hq S T G t u x) := by unfold Hq Th Top; infer_instance
def hqI (S : Ss) (T : Tr) (G : Gh) (t u x : Nat) : Int := @ite _ (Hq S T G t u x) (decHq S T G t u x) 1 0
theorem hqI_pos (h : Hq S T G t u x) : hqI S T G t u x = 1 := if_pos h
theorem hqI_neg (h : ¬ Hq S T G t u x) : hqI S T G t u x = 0 := if_neg h
theorem kid_uniq (W : T.Wf) {a b : Nat} (ha : a ∈ U T z) (hb : b ∈ U T z) (e : ps T a = ps T b) : a = b := by
 have key : ∀ a b, a ∈ U T z -> b ∈ U T z -> ps T a = ps T b -> a ∈ U T b -> a = b := fun a b ha hb e hm => by
  rcases (U_up W (U_mem_th W hb)).1 hm with r | r
  ·exact r
  ·rw [← e] at r
   exact absurd r (ps_notin W (U_mem_th W ha))
 rcases U_cmp' W ha hb with r | r
 ·exact key a b ha hb e r
 ·exact (key b a hb ha e.symm r).symm
theorem Lc.hq_uniq (h : Lc S n T G) (hx : Hq S T G t u x) (hy : Hq S T G t u y) : x = y := by
 obtain ⟨⟨x1, x2, x3⟩, x4⟩ := hx
 obtain ⟨⟨y1, y2, y3⟩, y4⟩ := hy
 have ex := ((h.loc x x1).tp x2).fi
 have ey := ((h.loc y y1).tp y2).fi
 exact h.uniq x1 y1 x2 y2 (kid_uniq h.wf x4 y4 (by rw [ex, ey, x3, y3]))
theorem Lc.in_top (h : Lc S n T G) : ∀ (k : Nat) (x : Nat), Th T x -> 1048576 - (S x).sm.c < k -> G.fi x ∈ U T z -> z ∈ U T (G.la x) -> ∃ y, Th T y /\ Top S y /\ G.fi y ∈ U T z /\ z ∈ U T (G.la y)
 | 0, x, hx, hk, h1, h2 => by have := (h.c_le x).2; omega
 | k + 1, x, hx, hk, h1, h2 => by
  by_cases ht : Top S x
  ·exact ⟨x, hx, ht, h1, h2⟩
  ·obtain ⟨u1, u2, u3⟩ := h.nt_up hx ht
   have hb := (h.c_le (S x).up).2
   have W := h.wf
   have L := h.loc _ u1
   have en := L.en
   have x0 := hx.1
   have key : ∀ P Q : Nat, (P ≠ 0 -> G.fi (S x).up = G.fi P /\ G.pn (G.la P) = (S x).up) -> (Q ≠ 0 -> G.la (S x).up = G.la Q /\ G.pn (S x).up = G.fi Q) -> (x = P ∨ x = Q) →
     G.fi (S x).up ∈ U T z /\ z ∈ U T (G.la (S x).up) := fun P Q e1 e2 e3 => by
    rcases e3 with rfl | rfl
    ·obtain ⟨q1, q2⟩ := e1 (by omega)
     refine ⟨by rw [q1]; exact h1, ?_⟩
     obtain ⟨q3, q4⟩ := h.ps_pn (U_mem_th' W (h.la_in hx)) q2 (by have := u1.1; omega)
     have q5 : G.la x ∈ U T (S x).up := by
      rw [← q4]; refine U_ps W u1 ?_
      rw [q4]; have := (U_mem_th' W (h.la_in hx)).1; omega
     exact U_trans W (U_trans W (h.la_in u1) q5) h2
    ·obtain ⟨q1, q2⟩ := e2 (by omega)
     refine ⟨?_, by rw [q1]; exact h2⟩
     obtain ⟨q3, q4⟩ := h.ps_pn u1 q2 (by have := (h.fi_th hx).1; omega)
     have q5 : (S x).up ∈ U T (G.fi x) := by
      have := U_ps W q3 (by rw [q4]; have := u1.1; omega)
      rwa [q4] at this
     exact U_trans W (U_trans W h1 q5) (h.fi_in u1)
   have fin : G.fi (S x).up ∈ U T z /\ z ∈ U T (G.la (S x).up) := by
    cases hb : G.b (S x).up with
    | false =>
     rw [hb] at en
     refine key (S (S x).up).l (S (S x).up).r (fun e => ?_) (fun e => ?_) u2
     ·have := en.l1 e; simpa [Gh.f, Gh.g, Gh.nx] using this
     ·have := en.r1 e; simpa [Gh.f, Gh.g, Gh.nx] using this
    | true =>
     rw [hb] at en
     refine key (S (S x).up).r (S (S x).up).l (fun e => ?_) (fun e => ?_) u2.symm
     ·have := en.r1 e; simpa [Gh.f, Gh.g, Gh.nx] using this
     ·have := en.l1 e; simpa [Gh.f, Gh.g, Gh.nx] using this
   exact Lc.in_top h k _ u1 (by omega) fin.1 fin.2
theorem Lc.hd_top (h : Lc S n T G) (hz : Th T z) (hp : ps T z ≠ 0) (hn : G.pn (ps T z) ≠ z) : ∃ y, Th T y /\ Top S y /\ G.fi y = z := by
 obtain ⟨y, y1, y2, y3, y4⟩ := h.in_top (z := z) (1048577 - (S z).sm.c).toNat z hz (by omega) (h.fi_in hz) (h.la_in hz)
 refine ⟨y, y1, y2, Classical.byContradiction fun e => ?_⟩
 have c := h.chain y1
 rcases U_cmp' h.wf y4 (h.la_in y1) with r | r
 ·exact hn (c.1 z r y3 (Ne.symm e))
 ·by_cases e2 : z = y
  ·subst e2; exact hn (c.1 z (U_self h.wf hz) y3 (Ne.symm e))
  ·exact hn (c.2 z y4 r e2)
theorem kid_on (W : T.Wf) : ∀ (k : Nat) {z : Nat}, dp T z <= k -> t ∈ U T z -> z ≠ t -> ∃ c, c ∈ U T z /\ ps T c = t
 | 0, z, hk, hm, _ => by have := dp_pos W (U_mem_th' W hm); omega
 | k + 1, z, hk, hm, hne => by
  have hz := U_mem_th' W hm
  rcases (U_up W hz).1 hm with e | r
  ·exact absurd e.symm hne
  ·by_cases e : ps T z = t
   ·exact ⟨z, U_self W hz, e⟩
   ·have := dp_th W hz
    obtain ⟨c, c1, c2⟩ := kid_on W k (by omega) r e
    exact ⟨c, (U_up W hz).2 (.inr c1), c2⟩
theorem Lc.hq_ex (h : Lc S n T G) (ht : Th T t) (h1 : t ∈ U T (u + 1)) (h2 : u + 1 ≠ t) (h3 : G.pn t ∉ U T (u + 1)) : ∃ x, x < n /\ Hq S T G t u x := by
 obtain ⟨c, c1, c2⟩ := kid_on h.wf _ (Nat.le_refl _) h1 h2
 have t0 := ht.1
 obtain ⟨y, y1, y2, y3⟩ := h.hd_top (U_mem_th h.wf c1) (by omega) (by rw [c2]; intro e; exact h3 (e ▸ c1))
 refine ⟨y, h.lt y y1, ⟨y1, y2, ?_⟩, by rw [y3]; exact c1⟩
 rw [← ((h.loc y y1).tp y2).fi, y3, c2]
theorem Lc.hq_of (h : Lc S n T G) (ht : Th T t) (hx : Hq S T G t u x) : t ∈ U T (u + 1) /\ u + 1 ≠ t /\ G.pn t ∉ U T (u + 1) := by
 obtain ⟨⟨x1, x2, x3⟩, x4⟩ := hx
 have W := h.wf
 have P := (h.loc x x1).tp x2
 have e := P.fi
 rw [x3] at e
 have f := h.fi_th x1
 have t0 := ht.1
 have m := U_ps W f (by omega)
 rw [e] at m
 refine ⟨U_trans W x4 m, fun e2 => ?_, fun hm => ?_⟩
 ·rw [e2] at x4
  have := U_dp W x4
  have := U_dp W m
  have := dp_th W f
  rw [e] at this
  rcases U_dp W x4 with r | r
  ·rw [r] at this; omega
  ·omega
 ·have p0 : G.pn t ≠ 0 := fun e => zero_U W (e ▸ hm)
  obtain ⟨q1, q2⟩ := (h.loc t ht).nx p0
  have := kid_uniq W hm x4 (by rw [q2, e])
  exact P.nv (by rw [x3]; exact this)
theorem Lc.hq_sum (h : Lc S n T G) (k : Nat) : 0 <= sumF k (hqI S T G t u) /\ sumF k (hqI S T G t u) <= 1 := by
 have := @sumF_ind (Hq S T G t u) (decHq S T G t u) k (fun x y hx hy => h.hq_uniq hx hy)
 unfold hqI
 rcases this with ⟨_, _, _, e⟩ | ⟨_, e⟩ <;> rw [e] <;> omega
theorem Lc.hq_all (h : Lc S n T G) (ht : Th T t) : sumF n (hqI S T G t u) = hgI T t (G.pn t) u := by
 have := @sumF_ind (Hq S T G t u) (decHq S T G t u) n (fun x y hx hy => h.hq_uniq hx hy)
 unfold hqI hgI
 rcases this with ⟨x, hx, hp, e⟩ | ⟨hn, e⟩
 ·rw [e, if_pos (h.hq_of ht hp)]
 ·rw [e, if_neg]
  rintro ⟨h1, h2, h3⟩
  obtain ⟨x, hx, hp⟩ := h.hq_ex ht h1 h2 h3
  exact hn x hx hp
def HA (S : Ss) (k t : Nat) : Ms :=
 ⟨sumF k (fun x => if isTopB S x = true /\ (S x).up = t then (wh (S x)).c else 0), sumF k (fun x => if isTopB S x = true /\ (S x).up = t then (wh (S x)).w else 0)⟩
theorem Lc.ha_c (h : Lc S n T G) (k t : Nat) : (HA S k t).c = sumF T.n (fun u => sumF k (hqI S T G t u)) := by
 rw [← sumF_swap T.n (fun x u => hqI S T G t u x) k]
 refine sumF_congr fun x _ => ?_
 by_cases hx : Th T x
 ·by_cases hT : Top S x /\ (S x).up = t
  ·rw [if_pos ⟨(isTopB_iff S x).2 hT.1, hT.2⟩]
   show (S x).hu.c + (S x).sm.c = _
   rw [(h.top_whole hx hT.1).1]
   refine sumF_congr fun u _ => ?_
   by_cases q : G.fi x ∈ U T (u + 1)
   ·rw [if_pos q, hqI_pos ⟨⟨hx, hT⟩, q⟩]
   ·rw [if_neg q, hqI_neg fun r => q r.2]
  ·rw [if_neg (by rw [isTopB_iff]; exact hT)]
   refine (sumF_zero fun u _ => ?_).symm
   exact hqI_neg fun q => hT q.1.2
 ·have e : (if isTopB S x = true /\ (S x).up = t then (wh (S x)).c else 0) = 0 := by rw [h.out x hx]; split <;> rfl
  rw [e]
  refine (sumF_zero fun u _ => ?_).symm
  exact hqI_neg fun q => hx q.1.1
theorem Lc.ha_w (h : Lc S n T G) (k t : Nat) : (HA S k t).w = sumF T.n (fun u => sumF k (hqI S T G t u) * T.wt u) := by
 have e : ∀ u, u < T.n -> sumF k (hqI S T G t u) * T.wt u = sumF k (fun x => hqI S T G t u x * T.wt u) := fun u _ => by
  rw [Int.mul_comm, ← sumF_mul]
  exact sumF_congr fun x _ => Int.mul_comm _ _
 rw [sumF_congr e, ← sumF_swap T.n (fun x u => hqI S T G t u x * T.wt u) k]
 refine sumF_congr fun x _ => ?_
 by_cases hx : Th T x
 ·by_cases hT : Top S x /\ (S x).up = t
  ·rw [if_pos ⟨(isTopB_iff S x).2 hT.1, hT.2⟩]
   show (S x).hu.w + (S x).sm.s = _
   rw [(h.top_whole hx hT.1).2]
   refine sumF_congr fun u _ => ?_
   by_cases q : G.fi x ∈ U T (u + 1)
   ·rw [if_pos q, hqI_pos ⟨⟨hx, hT⟩, q⟩, Int.one_mul]
   ·rw [if_neg q, hqI_neg fun r => q r.2, Int.zero_mul]
  ·rw [if_neg (by rw [isTopB_iff]; exact hT)]
   refine (sumF_zero fun u _ => ?_).symm
   rw [hqI_neg fun q => hT q.1.2, Int.zero_mul]
 ·have e : (if isTopB S x = true /\ (S x).up = t then (wh (S x)).w else 0) = 0 := by rw [h.out x hx]; split <;> rfl
  rw [e]
  refine (sumF_zero fun u _ => ?_).symm
  rw [hqI_neg fun q => hx q.1.1, Int.zero_mul]
theorem Lc.ha_all (h : Lc S n T G) (ht : Th T t) : HA S n t = (S t).hg := by
 have L := h.loc t ht
 have e1 : (HA S n t).c = (S t).hg.c := by
  rw [h.ha_c, L.hgc, Dc_hg h.wf ht L.nx]
  exact sumF_congr fun u _ => h.hq_all ht
 have e2 : (HA S n t).w = (S t).hg.w := by
  rw [h.ha_w, L.hgw, Dw_hg h.wf ht L.nx]
  exact sumF_congr fun u _ => by rw [h.hq_all ht]
 generalize HA S n t = a at *
 generalize (S t).hg = b at *
 cases a; cases b; simp_all
theorem Lc.ha_bd (h : Lc S n T G) (k t : Nat) : 0 <= (HA S k t).c /\ (HA S k t).c <= 1048576 /\ -1152921504606846976 <= (HA S k t).w /\ (HA S k t).w <= 1152921504606846976 := by
 have f := h.ft
 have fn := f.n
 have c1 : 0 <= (HA S k t).c := by rw [h.ha_c]; exact sumF_nn fun u _ => (h.hq_sum k).1
 have c2 : (HA S k t).c <= 1048576 := by
  rw [h.ha_c]
  have := sumF_le (n := T.n) (f := fun u => sumF k (hqI S T G t u)) (g := fun _ => 1) (fun u _ => (h.hq_sum k).2)
  rw [sumF_const] at this
  omega
 refine ⟨c1, c2, ?_⟩
 have b : ∀ u, -1099511627776 <= sumF k (hqI S T G t u) * T.wt u /\ sumF k (hqI S T G t u) * T.wt u <= 1099511627776 := fun u => by
  have q := h.hq_sum (t := t) (u := u) k
  have w := f.wt u
  have : sumF k (hqI S T G t u) = 0 ∨ sumF k (hqI S T G t u) = 1 := by omega
  rcases this with e | e <;> rw [e] <;> simp <;> omega
 rw [h.ha_w]
 have b1 := sumF_le (n := T.n) (f := fun _ => (-1099511627776 : Int)) (g := fun u => sumF k (hqI S T G t u) * T.wt u) (fun u _ => (b u).1)
 have b2 := sumF_le (n := T.n) (f := fun u => sumF k (hqI S T G t u) * T.wt u) (g := fun _ => (1099511627776 : Int)) (fun u _ => (b u).2)
 rw [sumF_const] at b1 b2
 omega
theorem HA_step (S : Ss) (k t : Nat) : HA S (k + 1) t = if isTopB S k = true /\ (S k).up = t then ⟨(HA S k t).c + (wh (S k)).c, (HA S k t).w + (wh (S k)).w⟩ else HA S k t := by
 unfold HA
 simp only [sumF]
 split <;> simp
end
end Go.Proofs.Ytjnkgakajenoaaa
namespace Go.Proofs.Ytjnkgakajenoaaa
open Go.RowKit Go.Arb
set_option linter.unusedVariables false
set_option linter.unusedSimpArgs false
def putF (W : World) (b : Nat) : Nat -> List Value -> World
 | _, [] => W
 | k, v :: r => putF (W.setCell ⟨b, k, none⟩ v) b (k + 1) r
def setAll (c : Array Value) : Nat -> List Value -> Array Value
 | _, [] => c
 | k, v :: r => setAll (c.setIfInBounds k v) (k + 1) r
theorem putF_heap {b T : Nat} : ∀ (r : List Value) (k : Nat) (W : World) (c : Array Value), W.heap[b]? = some (.cells c T (0, 0)) -> (putF W b k r).heap[b]? = some (.cells (setAll c k r) T (0, 0))
 | [], _, _, _, h => h
 | v :: r, k, W, c, h => putF_heap r (k + 1) _ _ (heap_setCell_same W b k _ _ v h)
theorem putF_keep {b : Nat} : ∀ (r : List Value) (k : Nat) (W : World), Keep [b] W (putF W b k r)
 | [], _, W => Keep.refl _ _
 | v :: r, k, W => (keep_cell W b k v).tr (putF_keep r (k + 1) _)
structure Fr (w W : World) (p g n cap room : Nat) (S : Ss) (Bs : List (Nat × Obj)) : Prop where
 po : Pool W p g n cap room S
 keep : Keep [g] w W
 bs : ∀ x ∈ Bs, W.heap[x.1]? = some x.2 /\ w.heap.size <= x.1 /\ x.1 ≠ g /\ x.1 ≠ p
 nd : (Bs.map Prod.fst).Nodup
section
variable {w W W' : World} {p g n cap room b c T t : Nat} {S : Ss} {Bs Cs : List (Nat × Obj)} {o o' : Obj} {x y : Nat × Obj} {cs : Array Value}
theorem Fr.start (h : Pool w p g n cap room S) : Fr w w p g n cap room S [] := ⟨h, Keep.refl _ _, by simp, by simp⟩
theorem Fr.call (h : Fr w W p g n cap room S Bs) (hk : Keep [g] W W') (hp : Pool W' p g n cap room S) : Fr w W' p g n cap room S Bs :=
 ⟨hp, h.keep.tr hk, fun x hx => by
  obtain ⟨h1, h2, h3, h4⟩ := h.bs x hx
  exact ⟨by rw [hk.block x.1 (blk_lt h1) (by simpa using h3)]; exact h1, h2, h3, h4⟩, h.nd⟩
theorem Fr.below (h : Fr w W p g n cap room S Bs) (hb : Below W.heap.size W W') : Fr w W' p g n cap room S Bs := h.call (Keep.ofBelow hb _) (h.po.below hb)
theorem Fr.drew (h : Fr w W p g n cap room S Bs) : Fr w W.drew p g n cap room S Bs := h.below (Below.refl _ _).drew
theorem Fr.alloc (h : Fr w W p g n cap room S Bs) (o : Obj) : Fr w (W.alloc o) p g n cap room S ((W.heap.size, o) :: Bs) := by
 have hb := (Below.refl W.heap.size W).alloc (Nat.le_refl _) o
 have k := h.below hb
 have l := h.po.lt
 refine ⟨k.po, k.keep, fun x hx => ?_, ?_⟩
 ·rcases List.mem_cons.1 hx with rfl | hx
  ·exact ⟨heap_alloc_new W o, h.keep.size, by simp; omega, by simp; omega⟩
  ·exact k.bs x hx
 ·rw [List.map_cons, List.nodup_cons]
  refine ⟨fun hm => ?_, h.nd⟩
  obtain ⟨y, hy, e⟩ := List.mem_map.1 hm
  have := blk_lt (h.bs y hy).1
  simp only at e
  omega
theorem Fr.sub (h : Fr w W p g n cap room S Bs) (hs : ∀ x ∈ Cs, x ∈ Bs) (hn : (Cs.map Prod.fst).Nodup) : Fr w W p g n cap room S Cs := ⟨h.po, h.keep, fun x hx => h.bs x (hs x hx), hn⟩
theorem Fr.perm (h : Fr w W p g n cap room S Bs) (hp : Bs.Perm Cs) : Fr w W p g n cap room S Cs := h.sub (fun x hx => hp.symm.subset hx) ((hp.map _).nodup_iff.1 h.nd)
theorem Fr.tail (h : Fr w W p g n cap room S (x :: Bs)) : Fr w W p g n cap room S Bs := h.sub (fun y hy => by simp [hy]) (by have := h.nd; rw [List.map_cons, List.nodup_cons] at this; exact this.2)
theorem Fr.put (h : Fr w W p g n cap room S ((b, o) :: Bs)) (hk : Keep [b] W W') (ho : W'.heap[b]? = some o') : Fr w W' p g n cap room S ((b, o') :: Bs) := by
 obtain ⟨h1, h2, h3, h4⟩ := h.bs (b, o) (by simp)
 have nd := h.nd
 rw [List.map_cons, List.nodup_cons] at nd
 refine ⟨h.po.keep hk (by simpa using Ne.symm h4) (by simpa using Ne.symm h3), h.keep.trans hk (fun i hi => by simp at hi; subst hi; exact .inr h2), fun x hx => ?_, by rw [List.map_cons, List.nodup_cons]; exact nd⟩
 rcases List.mem_cons.1 hx with rfl | hx
 ·exact ⟨ho, h2, h3, h4⟩
 ·obtain ⟨k1, k2, k3, k4⟩ := h.bs x (by simp [hx])
  refine ⟨?_, k2, k3, k4⟩
  rw [hk.block x.1 (blk_lt k1) (fun hm => nd.1 (by simp only [List.mem_singleton] at hm; have hq := List.mem_map_of_mem (f := Prod.fst) hx; rw [hm] at hq; exact hq))]
  exact k1
theorem Fr.putF (h : Fr w W p g n cap room S ((b, .cells cs T (0, 0)) :: Bs)) (k : Nat) (r : List Value) : Fr w (Go.Proofs.Ytjnkgakajenoaaa.putF W b k r) p g n cap room S ((b, .cells (setAll cs k r) T (0, 0)) :: Bs) :=
 h.put (putF_keep r k W) (putF_heap r k W cs (h.bs (b, .cells cs T (0, 0)) (by simp)).1)
theorem Fr.box (h : Fr w W p g n cap room S Bs) (hm : (b, Obj.cells cs T (0, 0)) ∈ Bs) (k : Nat) : W.cell? ⟨b, k, none⟩ = cs[k]? /\ (k < cs.size -> W.frozen? ⟨b, k, none⟩ = false) := by
 have := (h.bs _ hm).1
 exact ⟨by simp [World.cell?, this], fun _ => by simp [World.frozen?, this]⟩
end
def msL (x : Ms) : List Value := [zi x.c, zi x.w]
theorem msL_len (x : Ms) : (msL x).length = 2 := rfl
def hs (h : Nat -> Ms) (n : Nat) : List Ms := (List.range n).map h
theorem hs_len (h : Nat -> Ms) (n : Nat) : (hs h n).length = n := by simp [hs]
theorem hs_get (h : Nat -> Ms) {n t : Nat} (ht : t < n) : (hs h n)[t]? = some (h t) := by simp [hs, ht]
theorem hs_set (h : Nat -> Ms) (n t : Nat) (x : Ms) : (hs h n).set t x = hs (fun j => if j = t then x else h j) n := by
 apply List.ext_getElem (by simp [hs])
 intro i h1 h2
 simp only [hs, List.length_map, List.length_range, List.length_set] at h1
 by_cases e : i = t
 ·subst e; simp [hs]
 ·have e' : ¬ t = i := fun c => e c.symm
  simp [hs, e, e', List.getElem_set]
def hsA (h : Nat -> Ms) (n : Nat) : Array Value := (flat msL (hs h n)).toArray
theorem hsA_size (h : Nat -> Ms) (n : Nat) : (hsA h n).size = n * 2 := by simp [hsA, flat_length msL_len, hs_len]
theorem hsA_get (h : Nat -> Ms) {n t : Nat} (ht : t < n) : (hsA h n)[t * 2]? = some (zi (h t).c) /\ (hsA h n)[t * 2 + 1]? = some (zi (h t).w) := by
 have e := List.getElem?_eq_getElem (l := hs h n) (i := t) (by simpa [hs_len] using ht)
 have e2 := hs_get h ht
 rw [e] at e2
 simp only [Option.some.injEq] at e2
 have k := fun k hk => flat_get msL_len (hs h n) t k hk
 refine ⟨?_, ?_⟩
 ·have := k 0 (by omega)
  rw [hsA, List.getElem?_toArray]
  rw [Nat.add_zero] at this
  rw [this, e, e2]; rfl
 ·have := k 1 (by omega)
  rw [hsA, List.getElem?_toArray, this, e, e2]; rfl
theorem hsA_put (h : Nat -> Ms) {n t : Nat} (ht : t < n) (x : Ms) : setAll (hsA h n) (t * 2) (msL x) = hsA (fun j => if j = t then x else h j) n := by
 have q := hs_set h n t x
 have hl := hs_len h n
 have e1 := flat_set msL_len (hs h n) t 0 (by omega) (by omega) ⟨x.c, (h t).w⟩ (zi x.c) (by rw [show (hs h n)[t]'(by omega) = h t from by simp [hs]]; rfl)
 have e2 := flat_set msL_len ((hs h n).set t ⟨x.c, (h t).w⟩) t 1 (by simp; omega) (by omega) x (zi x.w) (by simp [msL])
 rw [List.set_set] at e2
 unfold hsA
 rw [← q]
 simp only [msL, setAll, List.setIfInBounds_toArray]
 rw [Nat.add_zero] at e1
 rw [e2, e1]
end Go.Proofs.Ytjnkgakajenoaaa
namespace Go.Proofs.Ytjnkgakajenoaaa
open Go.RowKit Go.Arb
set_option linter.unusedVariables false
set_option linter.unusedSimpArgs false
set_option maxRecDepth 100000
section
variable {p g n cap room : Nat} {T : Tr} {S : Ss} {G : Gh} {w : World} {t u : Nat}
set_option maxHeartbeats 4000000 in
theorem isUpL (h : Pool w p g n cap room S) (L : Lc S n T G) (ht : t ≠ 0 -> Th T t) :
  Calls Try.prog 90 #[zp p 0, zi t] w fun e w' => e = .returned (.bool true) /\ Keep [g] w w' /\ Pool w' p g n cap room S := by
 by_cases e : t = 0
 ·subst e
  go_enter Try.func90, Try.ntmps90
  go_wp2
  go_ret
  exact ⟨rfl, Keep.refl _ _, h⟩
 ·have e1 : ¬ (t : Int) = 0 := by omega
  have e2 : ((t : Int) == 0) = false := by simp; omega
  have lt := L.lt t (ht e)
  have w1 : IntKind.i64.wrap ((t : Int) - 1) = ((t - 1 : Nat) : Int) := by have := L.nn; have := L.ft.n; rw [IntWalk.i64_in _ (by omega)]; omega
  go_enter Try.func90, Try.ntmps90
  go_wp2_with fail
  refine (findY h L (ht e) (i := t - 1) (by omega)).mono ?_
  rintro e w' ⟨rfl, q1, q2⟩
  go_wp2
  go_ret
  exact ⟨rfl, q1, q2⟩
set_option maxHeartbeats 4000000 in
theorem isBesideL (h : Pool w p g n cap room S) (L : Lc S n T G) (ht : t ≠ 0 -> Th T t /\ (S t).up = u) :
  Calls Try.prog 91 #[zp p 0, zi t, zi u] w fun e w' => e = .returned (.bool true) /\ Keep [g] w w' /\ Pool w' p g n cap room S := by
 by_cases e : t = 0
 ·subst e
  go_enter Try.func91, Try.ntmps91
  go_wp2
  go_ret
  exact ⟨rfl, Keep.refl _ _, h⟩
 ·have e1 : ¬ (t : Int) = 0 := by omega
  have e2 : ((t : Int) == 0) = false := by simp; omega
  obtain ⟨hth, hup⟩ := ht e
  have lt := L.lt t hth
  have e3 : (0 : Int) <= (t : Int) := by omega
  have e4 : (t : Int) < (n : Int) := by omega
  have w1 : IntKind.i64.wrap ((t : Int) - 1) = ((t - 1 : Nat) : Int) := by have := L.nn; have := L.ft.n; rw [IntWalk.i64_in _ (by omega)]; omega
  go_enter Try.func91, Try.ntmps91
  go_wp2_with fail
  refine (findY h L hth (i := t - 1) (by omega)).mono ?_
  rintro e w' ⟨rfl, q1, q2⟩
  obtain ⟨_, c1, _⟩ := q2.head
  obtain ⟨s0, _⟩ := q2.slot lt
  rw [hup] at s0
  clear hup hth ht
  go_wp2
  go_ret
  exact ⟨rfl, q1, q2⟩
set_option maxHeartbeats 4000000 in
theorem listFitsR (hr : room = T.n) (h : Pool w p g n cap room S) (L : Lc S n T G) :
  Calls Try.prog 76 #[zp p 0] w fun e w' => e = .returned (.bool true) /\ Keep [g] w w' /\ Pool w' p g n cap room S := by
 have n0 := L.n0
 have nnn := L.nn
 have hTn := L.ft.n
 have e1 : (1 : Int) <= (n : Int) := by omega
 have e2 : (n : Int) - 1 <= (room : Int) := by omega
 have e3 : (room : Int) <= 1048576 := by omega
 have e4 : IntKind.i64.wrap ((n : Int) - 1) = (n : Int) - 1 := IntWalk.i64_in _ (by omega)
 have e5 : (0 : Int) < (n : Int) := by omega
 obtain ⟨c0, c1, _⟩ := h.head
 obtain ⟨s0, s1, s2, s3, s4, s5, s6, s7, s8, s9, s10, s11, s12, s13⟩ := h.slot (t := 0) n0
 rw [L.s0] at s0 s1 s2 s3 s4 s5 s6 s7 s8 s9 s10 s11 s12 s13
 simp only [Sl.zero, zero, Nat.zero_mul, Nat.zero_add] at s0 s1 s2 s3 s4 s5 s6 s7 s8 s9 s10 s11 s12 s13
 have H := hide h
 clear h L n0 nnn hTn hr
 go_enter Try.func76, Try.ntmps76
 go_wp2
 go_quiet (fail)
 go_wp2
 go_ret
 exact ⟨rfl, Keep.ofBelow (below_drewN (Below.refl _ _) _) _, (unhide H).below (below_drewN (Below.refl _ _) _)⟩
end
def slZ : Array Value := #[zi 0, zi 0, zi 0, .bool false, zi 0, zi 0, zi 0, zi 0, zi 0, zi 0, zi 0, zi 0, zi 0, zi 0]
def slC (s : Sl) : Array Value := (slV s).toArray
theorem setAll_slZ (s : Sl) : setAll slZ 0 (slV s) = slC s := by simp [setAll, slC, slV, slZ]
def smZ : Array Value := #[zi 0, zi 0, zi 0, zi 0]
def smL (x : Sm) : List Value := [zi x.c, zi x.s, zi x.a, zi x.b]
def smC (x : Sm) : Array Value := (smL x).toArray
theorem setAll_smZ (s : Sm) : setAll smZ 0 (smL s) = smC s := by simp [setAll, smC, smL, smZ]
theorem thenN {P : Program} {Q : Exit -> Act -> World -> Prop} {a : Act} {w : World} {x : Code} (h : x.wp P Q a w) : Exit.then (fun a w => x.wp P Q a w) Q .normal a w := h
section
variable {p g n cap room : Nat} {T : Tr} {S : Ss} {G : Gh} {w : World} {t u : Nat}
theorem Lc.up_th (L : Lc S n T G) (ht : Th T t) : (S t).up ≠ 0 -> Th T (S t).up := fun e => by
 by_cases hT : Top S t
 ·have P := (L.loc t ht).tp hT
  have f := L.fi_th ht
  rw [← P.fi] at e ⊢
  exact ps_th L.wf f e
 ·exact (L.nt_up ht hT).1
theorem Lc.kid_l (L : Lc S n T G) (ht : Th T t) : (S t).l ≠ 0 -> Th T (S t).l /\ (S (S t).l).up = t := fun e => ⟨((L.loc t ht).kl e).th, ((L.loc t ht).kl e).up⟩
theorem Lc.kid_r (L : Lc S n T G) (ht : Th T t) : (S t).r ≠ 0 -> Th T (S t).r /\ (S (S t).r).up = t := fun e => ⟨((L.loc t ht).kr e).th, ((L.loc t ht).kr e).up⟩
theorem Fr.sl {W : World} {B : Nat} {Bs : List (Nat × Obj)} {s : Sl} (h : Fr w W p g n cap room S ((B, .cells (slC s) 75 (0, 0)) :: Bs)) :
  W.cell? ⟨B, 1, none⟩ = some (zi (s.l : Int)) /\ W.cell? ⟨B, 2, none⟩ = some (zi (s.r : Int)) := ⟨(h.box (List.Mem.head _) 1).1, (h.box (List.Mem.head _) 2).1⟩
set_option maxHeartbeats 4000000 in
theorem linksFitL (h : Pool w p g n cap room S) (L : Lc S n T G) :
  Calls Try.prog 77 #[zp p 0] w fun e w' => e = .returned (.bool true) /\ Keep [g] w w' /\ Pool w' p g n cap room S := by
 obtain ⟨_, c1, _, _, k1, k2⟩ := h.head
 have HP := hide (Fr.start h)
 have hn : (n : Int) <= 1048577 := by have := L.nn; have := L.ft.n; omega
 have LH := hide L
 clear h L
 go_enter Try.func77, Try.ntmps77
 go_wp2
 go_loopg [10] n (fun gk a w' => ∃ t : Nat, t + gk = n /\ a = zi t /\ Hid (Fr w w' p g n cap room S []))
 case atStart => exact ⟨0, by omega, rfl, unhide HP⟩
 case round =>
  obtain ⟨t, ht, rfl, HK⟩ := hrel
  by_cases htn : t < n
  ·have i1 : (0 : Int) <= (t : Int) := by omega
   have i2 : (t : Int) < (n : Int) := by omega
   obtain ⟨v0, v1, v2, v3, v4, v5, v6, v7, v8, v9, v10, v11, v12, v13⟩ := (unhide HK).po.slot htn
   have G0 := hide ((unhide HK).alloc (.cells (slC (S t)) 75 (0, 0)))
   by_cases hth : Th T t
   ·have hc := (unhide LH).th_c.1 hth
    have hc2 : ((S t).sm.c == 0) = false := by rw [beq_eq_false_iff_ne]; exact hc
    have hlr : ((S t).l = 0 /\ (S t).r = 0) ∨ (((S t).l : Int) == ((S t).r : Int)) = false := by
     by_cases e : (S t).l = (S t).r
     ·have := ((unhide LH).loc t hth).lr e; exact .inl ⟨this, by omega⟩
     ·exact .inr (by rw [beq_eq_false_iff_ne]; omega)
    have HT := hide hth
    have HL := hide hlr
    clear hth hlr
    go_wp2_with fail
    refine (isUpL (unhide G0).po (unhide LH) ((unhide LH).up_th (unhide HT))).mono ?_
    rintro e w1 ⟨rfl, q1, q2⟩
    have F1 := hide ((unhide G0).call q1 q2)
    obtain ⟨b1, b2⟩ := (unhide F1).sl
    clear q1 q2 G0
    go_wp2_with fail
    refine (isBesideL (unhide F1).po (unhide LH) ((unhide LH).kid_l (unhide HT))).mono ?_
    rintro e w2 ⟨rfl, q1, q2⟩
    have F2 := hide ((unhide F1).call q1 q2)
    clear b1 b2 q1 q2 F1
    obtain ⟨b1, b2⟩ := (unhide F2).sl
    go_wp2_with fail
    refine (isBesideL (unhide F2).po (unhide LH) ((unhide LH).kid_r (unhide HT))).mono ?_
    rintro e w3 ⟨rfl, q1, q2⟩
    have F3 := hide ((unhide F2).call q1 q2)
    clear b1 b2 q1 q2 F2
    obtain ⟨b1, b2⟩ := (unhide F3).sl
    rcases unhide HL with ⟨z1, z2⟩ | hne
    ·rw [z1] at b1
     rw [z2] at b2
     clear z1 z2 HL
     go_wp2
     go_roundg (gk - 1)
     case rel => exact ⟨t + 1, by omega, by go_num, (unhide F3).tail⟩
     all_goals omega
    ·clear HL
     go_wp2
     go_roundg (gk - 1)
     case rel => exact ⟨t + 1, by omega, by go_num, (unhide F3).tail⟩
     all_goals omega
   ·have hz := (unhide LH).out t hth
    rw [hz] at v0 v1 v2 v3 v4 v5 v6 v7 v8 v9 v10 v11 v12 v13 G0
    simp only [Sl.zero, zero] at v0 v1 v2 v3 v4 v5 v6 v7 v8 v9 v10 v11 v12 v13
    clear hz hth
    go_wp2
    go_roundg (gk - 1)
    case rel => exact ⟨t + 1, by omega, by go_num, (unhide G0).tail⟩
    all_goals omega
  ·have hnt : t = n := by omega
   subst hnt
   have R := hide (unhide HK)
   clear HK ht
   go_wp2
   go_ret
   exact ⟨rfl, (unhide R).keep, (unhide R).po⟩
end
section
variable {S : Ss} {n : Nat} {T : Tr} {G : Gh} {t : Nat}
theorem HA_top (hT : isTopB S t = true) : HA S (t + 1) = fun j => if j = (S t).up then ⟨(HA S t (S t).up).c + ((S t).hu.c + (S t).sm.c), (HA S t (S t).up).w + ((S t).hu.w + (S t).sm.s)⟩ else HA S t j := by
 funext j
 rw [HA_step]
 by_cases e : j = (S t).up
 ·subst e; rw [if_pos ⟨hT, rfl⟩, if_pos rfl]; rfl
 ·rw [if_neg (fun h => e h.2.symm), if_neg e]
theorem HA_not (hT : isTopB S t = false) : HA S (t + 1) = HA S t := by
 funext j
 rw [HA_step, if_neg]
 rw [hT]; simp
theorem Lc.wh_bd (h : Lc S n T G) (hT : isTopB S t = true) : (-4611686018427387904 <= (S t).hu.c + (S t).sm.c /\ (S t).hu.c + (S t).sm.c <= 4611686018427387904) /\ (-4611686018427387904 <= (S t).hu.w + (S t).sm.s /\ (S t).hu.w + (S t).sm.s <= 4611686018427387904) := by
 by_cases ht : Th T t
 ·have q := h.top_whole ht ((isTopB_iff S t).1 hT)
  have q1 := Dc_bd T (G.fi t)
  have q2 := Dw_abs h.ft (G.fi t)
  have q3 := h.ft.n
  omega
 ·rw [h.out t ht]
  exact ⟨by decide, by decide⟩
theorem Lc.ups_lt (h : Lc S n T G) (t : Nat) : (S t).up < n := by
 by_cases ht : Th T t
 ·exact h.up_lt ht
 ·rw [h.out t ht]; exact h.n0
end
theorem isTopK {p g n cap room t : Nat} {S : Ss} {w : World} (h : Pool w p g n cap room S) (ht : t < n) (hu : (S t).up < n) :
  Calls Try.prog 87 #[zp p 0, zi t] w fun e w' => e = .returned (.bool (isTopB S t)) /\ Keep [g] w w' /\ Pool w' p g n cap room S := by
 refine (isTop_any h ht hu).mono ?_
 rintro e w' ⟨rfl, q1, q2⟩
 exact ⟨rfl, q2.mono (fun k hk => by simp at hk), q1⟩
theorem Fr.head1 {w W : World} {p g n cap room : Nat} {S : Ss} {Bs : List (Nat × Obj)} {x : Nat × Obj} (h : Fr w W p g n cap room S (x :: Bs)) : Fr w W p g n cap room S [x] := h.sub (fun y hy => by simp at hy; simp [hy]) (by simp)
theorem info73 : (Try.prog.info? 73).map (fun i => (i.zero, i.size, i.bytes)) = some (some (.agg #[zi 0, zi 0]), 2, 16) := by kernel_rfl
theorem make_ms (n : Nat) (hn : n <= 1048577) (w : World) :
  (Instr.makeSlice 87 (zi n) (zi n)).run Try.prog w = .ok (.slice (some ⟨w.heap.size, 0, none⟩) n n) (w.alloc (.cells (madeCells #[zi 0, zi 0] (n * 2)) 73)) := by
 obtain ⟨i, hi, hzz⟩ := Option.map_eq_some_iff.1 info73
 simp only [Prod.mk.injEq] at hzz
 obtain ⟨hz, hs, hb⟩ := hzz
 have hr := run_make (P := Try.prog) w 87 73 i _ Try.underlying87 hi hz .i64 .i64 n n (by omega) (Int.le_refl _) (by rw [hb]; omega) (by omega)
 rw [hs] at hr
 exact hr
theorem made_hs (n : Nat) : madeCells #[zi 0, zi 0] (n * 2) = hsA (fun _ => ⟨0, 0⟩) n := by
 apply Array.ext (by rw [size_madeCells, hsA_size])
 intro i h1 h2
 rw [size_madeCells] at h1
 have e1 : (madeCells #[zi 0, zi 0] (n * 2))[i]? = some (zi 0) := by
  have : i % 2 = 0 ∨ i % 2 = 1 := by omega
  rcases this with e | e <;> simp [madeCells, h1, e]
 have e2 : (hsA (fun _ => ⟨0, 0⟩) n)[i]? = some (zi 0) := by
  have q := hsA_get (fun _ => (⟨0, 0⟩ : Ms)) (n := n) (t := i / 2) (by omega)
  have : i % 2 = 0 ∨ i % 2 = 1 := by omega
  rcases this with e | e
  ·rw [show i = i / 2 * 2 from by omega]; exact q.1
  ·rw [show i = i / 2 * 2 + 1 from by omega]; exact q.2
 rw [Array.getElem?_eq_getElem (by rw [size_madeCells]; exact h1)] at e1
 rw [Array.getElem?_eq_getElem h2] at e2
 exact (Option.some.inj e1).trans (Option.some.inj e2).symm
def O92_6_0 : Oper := ⟨some 25, .move (.tmp 3), 87, "check.go:61", #[], none⟩
def O92_6_1 : Oper := ⟨some 26, .fieldAddr 75 (.tmp 5) 0, 0, "check.go:61", #[], none⟩
def O92_6_2 : Oper := ⟨some 27, .load 3 (.tmp 26), 3, "check.go:61", #[⟨1, .data⟩], none⟩
def O92_6_3 : Oper := ⟨some 28, .move (.tmp 3), 87, "check.go:61", #[], none⟩
def O92_6_4 : Oper := ⟨some 29, .fieldAddr 75 (.tmp 5) 0, 0, "check.go:61", #[], none⟩
def O92_6_5 : Oper := ⟨some 30, .load 3 (.tmp 29), 3, "check.go:61", #[⟨4, .data⟩], none⟩
def O92_6_6 : Oper := ⟨some 31, .indexAddr 87 (.tmp 28) (.tmp 30), 0, "check.go:61", #[⟨3, .data⟩, ⟨5, .data⟩], none⟩
def O92_6_7 : Oper := ⟨some 32, .load 73 (.tmp 31), 73, "check.go:61", #[⟨6, .data⟩], none⟩
def O92_6_8 : Oper := ⟨some 33, .load 75 (.tmp 5), 75, "check.go:61", #[], none⟩
def O92_6_9 : Oper := ⟨some 34, .call { callee := (.value (.func 75)), args := #[(.tmp 33)], argTypes := #[75] }, 73, "check.go:61", #[⟨8, .data⟩], none⟩
def O92_6_10 : Oper := ⟨some 35, .call { callee := (.value (.func 80)), args := #[(.tmp 32), (.tmp 34)], argTypes := #[73, 73] }, 73, "check.go:61", #[⟨7, .data⟩, ⟨9, .data⟩, ⟨9, .chain⟩], none⟩
def O92_6_11 : Oper := ⟨some 36, .indexAddr 87 (.tmp 25) (.tmp 27), 0, "check.go:61", #[⟨0, .data⟩, ⟨2, .data⟩, ⟨0, .phase⟩, ⟨1, .phase⟩, ⟨2, .phase⟩, ⟨3, .phase⟩, ⟨4, .phase⟩, ⟨5, .phase⟩, ⟨6, .phase⟩, ⟨7, .phase⟩, ⟨8, .phase⟩, ⟨9, .phase⟩, ⟨10, .phase⟩], none⟩
def O92_6_12 : Oper := ⟨none, .store 73 (.tmp 36) (.tmp 35), 0, "check.go:61", #[⟨11, .data⟩, ⟨10, .data⟩, ⟨10, .chain⟩, ⟨0, .phase⟩, ⟨1, .phase⟩, ⟨2, .phase⟩, ⟨3, .phase⟩, ⟨4, .phase⟩, ⟨5, .phase⟩, ⟨6, .phase⟩, ⟨7, .phase⟩, ⟨8, .phase⟩, ⟨9, .phase⟩, ⟨10, .phase⟩], none⟩
def OPS92_6 : List Oper := [O92_6_0, O92_6_1, O92_6_2, O92_6_3, O92_6_4, O92_6_5, O92_6_6, O92_6_7, O92_6_8, O92_6_9, O92_6_10, O92_6_11, O92_6_12]
set_option maxHeartbeats 4000000 in
theorem round92 {p g n cap room t hb : Nat} {T : Tr} {S : Ss} {G : Gh} {Q : Exit -> Act -> World -> Prop} {a0 : Act} {w w1 : World} (K0 : Kn a0 39 [(0, zp p 0), (3, .slice (some ⟨hb, 0, none⟩) n n), (15, .slice (some ⟨g, 0, none⟩) n cap), (16, zi n), (17, zi t)]) (F0 : Fr w w1 p g n cap room S [(hb, .cells (hsA (HA S t) n) 73 (0, 0))]) (L : Lc S n T G) (htn : t <= n)
  (hN : ∀ a' W, t < n -> Kn a' 39 [(0, zp p 0), (3, .slice (some ⟨hb, 0, none⟩) n n), (15, .slice (some ⟨g, 0, none⟩) n cap), (16, zi n), (17, zi ((t + 1 : Nat) : Int))] -> Fr w W p g n cap room S [(hb, .cells (hsA (HA S (t + 1)) n) 73 (0, 0))] -> Q .normal a' W)
  (hX : ∀ a' W, t = n -> Kn a' 39 [(0, zp p 0), (3, .slice (some ⟨hb, 0, none⟩) n n), (15, .slice (some ⟨g, 0, none⟩) n cap), (16, zi n), (17, zi t)] -> Fr w W p g n cap room S [(hb, .cells (hsA (HA S t) n) 73 (0, 0))] -> Q (.exit 0) a' W) : (Code.seq (Code.region 3 (rg [1, 1, 0, 1, 0, 0, 0] Try.f92).toArray false) (Code.seq (Code.cond (Operand.tmp 18) Code.skip (Code.exit 0)) (Code.seq (Code.block 1 (Code.seq (Code.region 4 (rg [1, 1, 0, 1, 0, 0, 1, 1, 0, 0, 0] Try.f92).toArray false) (Code.seq (Code.region 5 (rg [1, 1, 0, 1, 0, 0, 1, 1, 0, 0, 1, 0] Try.f92).toArray false) (Code.cond (Operand.tmp 24) (Code.region 6 OPS92_6.toArray true) Code.skip)))) (Code.region 7 (rg [1, 1, 0, 1, 0, 0, 1, 1, 1] Try.f92).toArray false)))).wp Try.prog Q a0 w1 := by
 have FH := hide F0
 have HN := hide hN
 have HX := hide hX
 have LH := hide L
 have nnn := L.nn
 have hTn := L.ft.n
 have wr : IntKind.i64.wrap ((t : Int) + 1) = ((t + 1 : Nat) : Int) := by rw [IntWalk.i64_in _ (by omega)]; omega
 have WR := hide wr
 clear hN hX L F0 wr nnn hTn
 by_cases n0 : n <= t
 ·have i0 : ¬ (t : Int) < (n : Int) := by omega
  have i1 : t = n := by omega
  have I1 := hide i1
  clear i1
  refine seqR ?_
  refine lT (.bool false) w1 K0 (want_none rfl) (fun ev E => ?_) fun a1 K1 => ?_
  ·have E16 := E.tmp 16 _ rfl; have E17 := E.tmp 17 _ rfl; clear E; clear FH HN HX LH WR I1; (try simp only [slZ, smZ, putF, slV, smL, msL] at *); go_simp
  refine nilN ?_
  refine wp_seq ?_
  refine knCond (b := false) K1 rfl ?_
  refine wp_exit ?_
  exact unhide HX _ _ (unhide I1) (K1.less ⟨rfl, rfl, rfl, rfl, rfl, trivial⟩) (unhide FH)
 have i0 : (t : Int) < (n : Int) := by omega
 have lt1 : t < n := by omega
 have e1 : (0 : Int) <= (t : Int) := by omega
 have ul := (unhide LH).ups_lt t
 have e3 : (0 : Int) <= ((S t).up : Int) := by omega
 have e4 : ((S t).up : Int) < (n : Int) := by omega
 cases hT : isTopB S t
 ·have HT := hide hT
  clear hT
  refine seqR ?_
  refine lT (.bool true) w1 K0 (want_none rfl) (fun ev E => ?_) fun a1 K1 => ?_
  ·have E16 := E.tmp 16 _ rfl; have E17 := E.tmp 17 _ rfl; clear E; clear FH HN HX LH WR HT; (try simp only [slZ, smZ, putF, slV, smL, msL] at *); go_simp
  refine nilN ?_
  refine seqN ?_
  refine knCond (b := true) K1 rfl (wp_skip ?_)
  show Code.wp _ _ _ _ _
  refine seqN ?_
  refine blockN ?_
  refine seqR ?_
  refine lM K1 fun a2 K2 => ?_
  clear K1
  refine lT (zp g (t * 14)) w1 K2 (want_none rfl) (fun ev E => ?_) fun a3 K3 => ?_
  ·have E15 := E.tmp 15 _ rfl; have E17 := E.tmp 17 _ rfl; clear E; clear FH HN HX LH WR HT; (try simp only [slZ, smZ, putF, slV, smL, msL] at *); go_simp
  clear K2
  refine lT (.agg #[zi ((S t).up : Int), zi ((S t).l : Int), zi ((S t).r : Int), .bool (S t).tn, zi (S t).wt, zi (S t).wa, zi (S t).sm.c, zi (S t).sm.s, zi (S t).sm.a, zi (S t).sm.b, zi (S t).hg.c, zi (S t).hg.w, zi (S t).hu.c, zi (S t).hu.w]) w1 K3 (want_none rfl) (fun ev E => ?_) fun a4 K4 => ?_
  ·obtain ⟨s0, s1, s2, s3, s4, s5, s6, s7, s8, s9, s10, s11, s12, s13⟩ := (unhide FH).po.slot (t := t) (by assumption); have E20 := E.tmp 20 _ rfl; clear E; clear FH HN HX LH WR HT; (try simp only [slZ, smZ, putF, slV, smL, msL] at *); go_simp
  clear K3
  refine lT (zp w1.heap.size 0) (w1.alloc (.cells slZ 75)) K4 (want_none rfl) (fun ev E => ?_) fun a5 K5 => ?_
  ·clear E; clear FH HN HX LH WR HT; (try simp only [slZ, smZ, putF, slV, smL, msL] at *); go_simp
  clear K4
  have F2 := hide ((unhide FH).alloc (.cells slZ 75))
  clear FH
  have FH := F2
  clear F2
  generalize (w1.alloc (.cells slZ 75)) = Ab5 at *
  obtain ⟨b5, hd⟩ : ∃ z, z = w1.heap.size := ⟨_, rfl⟩
  rw [← hd] at FH K5
  clear hd
  refine lA K5 fun a6 K6 => ?_
  clear K5
  refine lstore (w' := (putF Ab5 b5 0 (slV (S t)))) K6 rfl (want_none rfl) (fun ev E => ?_) ?_
  ·have q0 := (unhide FH).box (List.Mem.head _) 0; have f0 := q0.2 (by decide); replace q0 := q0.1; change _ = some (zi 0 : Value) at q0; have q1 := (unhide FH).box (List.Mem.head _) 1; have f1 := q1.2 (by decide); replace q1 := q1.1; change _ = some (zi 0 : Value) at q1; have q2 := (unhide FH).box (List.Mem.head _) 2; have f2 := q2.2 (by decide); replace q2 := q2.1; change _ = some (zi 0 : Value) at q2; have q3 := (unhide FH).box (List.Mem.head _) 3; have f3 := q3.2 (by decide); replace q3 := q3.1; change _ = some (.bool false : Value) at q3; have q4 := (unhide FH).box (List.Mem.head _) 4; have f4 := q4.2 (by decide); replace q4 := q4.1; change _ = some (zi 0 : Value) at q4; have q5 := (unhide FH).box (List.Mem.head _) 5; have f5 := q5.2 (by decide); replace q5 := q5.1; change _ = some (zi 0 : Value) at q5; have q6 := (unhide FH).box (List.Mem.head _) 6; have f6 := q6.2 (by decide); replace q6 := q6.1; change _ = some (zi 0 : Value) at q6; have q7 := (unhide FH).box (List.Mem.head _) 7; have f7 := q7.2 (by decide); replace q7 := q7.1; change _ = some (zi 0 : Value) at q7; have q8 := (unhide FH).box (List.Mem.head _) 8; have f8 := q8.2 (by decide); replace q8 := q8.1; change _ = some (zi 0 : Value) at q8; have q9 := (unhide FH).box (List.Mem.head _) 9; have f9 := q9.2 (by decide); replace q9 := q9.1; change _ = some (zi 0 : Value) at q9; have q10 := (unhide FH).box (List.Mem.head _) 10; have f10 := q10.2 (by decide); replace q10 := q10.1; change _ = some (zi 0 : Value) at q10; have q11 := (unhide FH).box (List.Mem.head _) 11; have f11 := q11.2 (by decide); replace q11 := q11.1; change _ = some (zi 0 : Value) at q11; have q12 := (unhide FH).box (List.Mem.head _) 12; have f12 := q12.2 (by decide); replace q12 := q12.1; change _ = some (zi 0 : Value) at q12; have q13 := (unhide FH).box (List.Mem.head _) 13; have f13 := q13.2 (by decide); replace q13 := q13.1; change _ = some (zi 0 : Value) at q13; have E5 := E.tmp 5 _ rfl; have E21 := E.tmp 21 _ rfl; clear E; clear FH HN HX LH WR HT; (try simp only [slZ, smZ, putF, slV, smL, msL] at *); go_simp
  have F2 := hide ((unhide FH).putF (0) (slV (S t)))
  clear FH
  have FH := F2
  clear F2
  generalize (putF Ab5 b5 0 (slV (S t))) = V3 at *
  rw [setAll_slZ] at FH
  refine nilN ?_
  refine seqR ?_
  refine lM K6 fun a8 K8 => ?_
  clear K6
  refine lM K8 fun a9 K9 => ?_
  clear K8
  refine lcall (f := 87) (args := #[zp p 0, zi t]) K9 rfl rfl (want_none rfl) (fun ev E => ?_) (isTopK (unhide FH).po lt1 ul) (fun e W10 hR => ?_)
  ·have EF := E.func; have E22 := E.tmp 22 _ rfl; have E23 := E.tmp 23 _ rfl; clear E; clear FH HN HX LH WR HT; (try simp only [slZ, smZ, putF, slV, smL, msL] at *); go_simp
  obtain ⟨rfl, Q1, P1⟩ := hR
  have F2 := hide ((unhide FH).call Q1 P1)
  clear FH Q1 P1
  have FH := F2
  clear F2
  refine ⟨_, rfl, fun a11 K11 => ?_⟩
  clear K9
  rw [unhide HT] at K11
  refine nilN ?_
  refine knCond (b := false) K11 rfl (wp_skip ?_)
  have F2 := (unhide FH).tail
  rw [← HA_not (unhide HT)] at F2
  clear FH
  have FH := hide F2
  clear F2
  show Code.wp _ _ _ _ _
  have wr := unhide WR
  clear WR
  refine wp_region_lit ?_
  refine lT (zi ((t + 1 : Nat) : Int)) W10 K11 (want_none rfl) (fun ev E => ?_) fun a12 K12 => ?_
  ·have EC := E.const; have E17 := E.tmp 17 _ rfl; clear E; clear FH HN HX LH HT; (try simp only [slZ, smZ, putF, slV, smL, msL] at *); go_simp
  clear K11
  refine lM K12 fun a13 K13 => ?_
  clear K12
  refine wpList_nil ?_
  exact unhide HN _ _ lt1 (K13.less ⟨rfl, rfl, rfl, rfl, rfl, trivial⟩) (unhide FH)
 ·have HT := hide hT
  clear hT
  refine seqR ?_
  refine lT (.bool true) w1 K0 (want_none rfl) (fun ev E => ?_) fun a1 K1 => ?_
  ·have E16 := E.tmp 16 _ rfl; have E17 := E.tmp 17 _ rfl; clear E; clear FH HN HX LH WR HT; (try simp only [slZ, smZ, putF, slV, smL, msL] at *); go_simp
  refine nilN ?_
  refine seqN ?_
  refine knCond (b := true) K1 rfl (wp_skip ?_)
  show Code.wp _ _ _ _ _
  refine seqN ?_
  refine blockN ?_
  refine seqR ?_
  refine lM K1 fun a2 K2 => ?_
  clear K1
  refine lT (zp g (t * 14)) w1 K2 (want_none rfl) (fun ev E => ?_) fun a3 K3 => ?_
  ·have E15 := E.tmp 15 _ rfl; have E17 := E.tmp 17 _ rfl; clear E; clear FH HN HX LH WR HT; (try simp only [slZ, smZ, putF, slV, smL, msL] at *); go_simp
  clear K2
  refine lT (.agg #[zi ((S t).up : Int), zi ((S t).l : Int), zi ((S t).r : Int), .bool (S t).tn, zi (S t).wt, zi (S t).wa, zi (S t).sm.c, zi (S t).sm.s, zi (S t).sm.a, zi (S t).sm.b, zi (S t).hg.c, zi (S t).hg.w, zi (S t).hu.c, zi (S t).hu.w]) w1 K3 (want_none rfl) (fun ev E => ?_) fun a4 K4 => ?_
  ·obtain ⟨s0, s1, s2, s3, s4, s5, s6, s7, s8, s9, s10, s11, s12, s13⟩ := (unhide FH).po.slot (t := t) (by assumption); have E20 := E.tmp 20 _ rfl; clear E; clear FH HN HX LH WR HT; (try simp only [slZ, smZ, putF, slV, smL, msL] at *); go_simp
  clear K3
  refine lT (zp w1.heap.size 0) (w1.alloc (.cells slZ 75)) K4 (want_none rfl) (fun ev E => ?_) fun a5 K5 => ?_
  ·clear E; clear FH HN HX LH WR HT; (try simp only [slZ, smZ, putF, slV, smL, msL] at *); go_simp
  clear K4
  have F2 := hide ((unhide FH).alloc (.cells slZ 75))
  clear FH
  have FH := F2
  clear F2
  generalize (w1.alloc (.cells slZ 75)) = Ab5 at *
  obtain ⟨b5, hd⟩ : ∃ z, z = w1.heap.size := ⟨_, rfl⟩
  rw [← hd] at FH K5
  clear hd
  refine lA K5 fun a6 K6 => ?_
  clear K5
  refine lstore (w' := (putF Ab5 b5 0 (slV (S t)))) K6 rfl (want_none rfl) (fun ev E => ?_) ?_
  ·have q0 := (unhide FH).box (List.Mem.head _) 0; have f0 := q0.2 (by decide); replace q0 := q0.1; change _ = some (zi 0 : Value) at q0; have q1 := (unhide FH).box (List.Mem.head _) 1; have f1 := q1.2 (by decide); replace q1 := q1.1; change _ = some (zi 0 : Value) at q1; have q2 := (unhide FH).box (List.Mem.head _) 2; have f2 := q2.2 (by decide); replace q2 := q2.1; change _ = some (zi 0 : Value) at q2; have q3 := (unhide FH).box (List.Mem.head _) 3; have f3 := q3.2 (by decide); replace q3 := q3.1; change _ = some (.bool false : Value) at q3; have q4 := (unhide FH).box (List.Mem.head _) 4; have f4 := q4.2 (by decide); replace q4 := q4.1; change _ = some (zi 0 : Value) at q4; have q5 := (unhide FH).box (List.Mem.head _) 5; have f5 := q5.2 (by decide); replace q5 := q5.1; change _ = some (zi 0 : Value) at q5; have q6 := (unhide FH).box (List.Mem.head _) 6; have f6 := q6.2 (by decide); replace q6 := q6.1; change _ = some (zi 0 : Value) at q6; have q7 := (unhide FH).box (List.Mem.head _) 7; have f7 := q7.2 (by decide); replace q7 := q7.1; change _ = some (zi 0 : Value) at q7; have q8 := (unhide FH).box (List.Mem.head _) 8; have f8 := q8.2 (by decide); replace q8 := q8.1; change _ = some (zi 0 : Value) at q8; have q9 := (unhide FH).box (List.Mem.head _) 9; have f9 := q9.2 (by decide); replace q9 := q9.1; change _ = some (zi 0 : Value) at q9; have q10 := (unhide FH).box (List.Mem.head _) 10; have f10 := q10.2 (by decide); replace q10 := q10.1; change _ = some (zi 0 : Value) at q10; have q11 := (unhide FH).box (List.Mem.head _) 11; have f11 := q11.2 (by decide); replace q11 := q11.1; change _ = some (zi 0 : Value) at q11; have q12 := (unhide FH).box (List.Mem.head _) 12; have f12 := q12.2 (by decide); replace q12 := q12.1; change _ = some (zi 0 : Value) at q12; have q13 := (unhide FH).box (List.Mem.head _) 13; have f13 := q13.2 (by decide); replace q13 := q13.1; change _ = some (zi 0 : Value) at q13; have E5 := E.tmp 5 _ rfl; have E21 := E.tmp 21 _ rfl; clear E; clear FH HN HX LH WR HT; (try simp only [slZ, smZ, putF, slV, smL, msL] at *); go_simp
  have F2 := hide ((unhide FH).putF (0) (slV (S t)))
  clear FH
  have FH := F2
  clear F2
  generalize (putF Ab5 b5 0 (slV (S t))) = V3 at *
  rw [setAll_slZ] at FH
  refine nilN ?_
  refine seqR ?_
  refine lM K6 fun a8 K8 => ?_
  clear K6
  refine lM K8 fun a9 K9 => ?_
  clear K8
  refine lcall (f := 87) (args := #[zp p 0, zi t]) K9 rfl rfl (want_none rfl) (fun ev E => ?_) (isTopK (unhide FH).po lt1 ul) (fun e W10 hR => ?_)
  ·have EF := E.func; have E22 := E.tmp 22 _ rfl; have E23 := E.tmp 23 _ rfl; clear E; clear FH HN HX LH WR HT; (try simp only [slZ, smZ, putF, slV, smL, msL] at *); go_simp
  obtain ⟨rfl, Q1, P1⟩ := hR
  have F2 := hide ((unhide FH).call Q1 P1)
  clear FH Q1 P1
  have FH := F2
  clear F2
  refine ⟨_, rfl, fun a11 K11 => ?_⟩
  clear K9
  rw [unhide HT] at K11
  refine nilN ?_
  have K12 : Kn _ 39 [(0, zp p 0), (3, .slice (some ⟨hb, 0, none⟩) n n), (5, zp b5 0), (15, .slice (some ⟨g, 0, none⟩) n cap), (16, zi n), (17, zi t), (24, .bool true)] := K11.less ⟨rfl, rfl, rfl, rfl, rfl, rfl, rfl, trivial⟩
  clear K11
  refine knCond (b := true) K12 rfl ?_
  have PM : List.Perm (α := Nat × Obj) [(b5, .cells (slC (S t)) 75 (0, 0)), (hb, .cells (hsA (HA S t) n) 73 (0, 0))] [(hb, .cells (hsA (HA S t) n) 73 (0, 0)), (b5, .cells (slC (S t)) 75 (0, 0))] := List.perm_middle (l₁ := ([(b5, .cells (slC (S t)) 75 (0, 0))] : List (Nat × Obj))) (l₂ := ([] : List (Nat × Obj)))
  have F2 := hide ((unhide FH).perm PM)
  clear FH PM
  have FH := F2
  clear F2
  have b1 := hide ((unhide LH).wh_bd (unhide HT))
  have b2 := hide (show (-4611686018427387904 <= (HA S t (S t).up).c + ((S t).hu.c + (S t).sm.c) /\ (HA S t (S t).up).c + ((S t).hu.c + (S t).sm.c) <= 4611686018427387904) /\ (-4611686018427387904 <= (HA S t (S t).up).w + ((S t).hu.w + (S t).sm.s) /\ (HA S t (S t).up).w + ((S t).hu.w + (S t).sm.s) <= 4611686018427387904) from by
   have q := (unhide LH).ha_bd (t + 1) (S t).up
   rw [HA_top (unhide HT)] at q
   simp only [if_true] at q
   omega)
  have FD := (unhide FH).drew
  obtain ⟨V, hV⟩ : ∃ V : (Unit) -> Nat -> Value, V = fun gg k => ([.slice (some ⟨hb, 0, none⟩) n n, zp b5 0, zi ((S t).up : Int), .slice (some ⟨hb, 0, none⟩) n n, zp b5 0, zi ((S t).up : Int), zp hb ((S t).up * 2), .agg #[zi (HA S t (S t).up).c, zi (HA S t (S t).up).w], .agg #[zi ((S t).up : Int), zi ((S t).l : Int), zi ((S t).r : Int), .bool (S t).tn, zi (S t).wt, zi (S t).wa, zi (S t).sm.c, zi (S t).sm.s, zi (S t).sm.a, zi (S t).sm.b, zi (S t).hg.c, zi (S t).hg.w, zi (S t).hu.c, zi (S t).hu.w], .agg #[zi ((S t).hu.c + (S t).sm.c), zi ((S t).hu.w + (S t).sm.s)], .agg #[zi ((HA S t (S t).up).c + ((S t).hu.c + (S t).sm.c)), zi ((HA S t (S t).up).w + ((S t).hu.w + (S t).sm.s))], zp hb ((S t).up * 2), undef] : List Value).getD k undef := ⟨_, rfl⟩
  have vv : ∀ gg k, V gg k = ([.slice (some ⟨hb, 0, none⟩) n n, zp b5 0, zi ((S t).up : Int), .slice (some ⟨hb, 0, none⟩) n n, zp b5 0, zi ((S t).up : Int), zp hb ((S t).up * 2), .agg #[zi (HA S t (S t).up).c, zi (HA S t (S t).up).w], .agg #[zi ((S t).up : Int), zi ((S t).l : Int), zi ((S t).r : Int), .bool (S t).tn, zi (S t).wt, zi (S t).wa, zi (S t).sm.c, zi (S t).sm.s, zi (S t).sm.a, zi (S t).sm.b, zi (S t).hg.c, zi (S t).hg.w, zi (S t).hu.c, zi (S t).hu.w], .agg #[zi ((S t).hu.c + (S t).sm.c), zi ((S t).hu.w + (S t).sm.s)], .agg #[zi ((HA S t (S t).up).c + ((S t).hu.c + (S t).sm.c)), zi ((HA S t (S t).up).w + ((S t).hu.w + (S t).sm.s))], zp hb ((S t).up * 2), undef] : List Value).getD k undef := fun _ _ => by rw [hV]
  have HV := hide (And.intro True.intro hV)
  clear hV
  show (Code.region 6 OPS92_6.toArray true).wp _ _ _ _
  refine wp_region_once (A := Unit) (V := V) (J := fun gg f W => Fr w W p g n cap room S [(hb, .cells (bif f 12 then hsA (fun j => if j = (S t).up then ⟨(HA S t (S t).up).c + ((S t).hu.c + (S t).sm.c), (HA S t (S t).up).w + ((S t).hu.w + (S t).sm.s)⟩ else HA S t j) n else hsA (HA S t) n) 73 (0, 0)), (b5, .cells (slC (S t)) 75 (0, 0))]) () 13 (by kernel_rfl) (by kernel_rfl) K12 (FD) (by kernel_rfl) ?_ (fun gg f a9 W9 hf hk hj => ?_)
  ·clear FH FD K12
   refine obsC (j := 1) (m := 12) rfl rfl ?_ ?_
   ·exact ob_copy (o := O92_6_0) (u := 3) rfl rfl (fun gg => ⟨.inr ⟨by rw [vv]; rfl, by kernel_rfl⟩, trivial⟩) (.inl ⟨rfl, rfl⟩) (fun _ _ _ h => h)
   refine obsC (j := 2) (m := 11) rfl rfl ?_ ?_
   ·refine ob_look (o := O92_6_1) rfl (fun gg => [(5, zp b5 0)]) (fun gg => ⟨.inr ⟨rfl, by kernel_rfl⟩, trivial⟩) (.inl ⟨rfl, rfl⟩) (fun _ _ _ h => h) (fun gg f W ev hJ hd hn E => ?_)
    rw [show V gg 1 = zp b5 0 from vv gg 1]; clear hJ hd hn; have E5 := E.tmp 5 _ rfl; clear E; clear vv HV HN HX LH WR HT b1 b2; unfold O92_6_1; (try simp only [slZ, smZ, putF, slV, smL, msL] at *); go_simp
   refine obsC (j := 3) (m := 10) rfl rfl ?_ ?_
   ·refine ob_look (o := O92_6_2) rfl (fun gg => [(26, zp b5 0)]) (fun gg => ⟨.inl ⟨1, by kernel_rfl, rfl, vv gg 1⟩, trivial⟩) (.inl ⟨rfl, rfl⟩) (fun _ _ _ h => h) (fun gg f W ev hJ hd hn E => ?_)
    rw [show V gg 2 = zi ((S t).up : Int) from vv gg 2]; have hJ9 := hJ; simp only [hn 12 (by kernel_rfl), cond_false] at hJ9; have q0 := (hJ9.box (List.Mem.tail _ (List.Mem.head _)) 0).1; change _ = some (zi ((S t).up : Int) : Value) at q0; clear hJ9; clear hJ hd hn; have E26 := E.tmp 26 _ rfl; clear E; clear vv HV HN HX LH WR HT b1 b2; unfold O92_6_2; (try simp only [slZ, smZ, putF, slV, smL, msL] at *); go_simp
   refine obsC (j := 4) (m := 9) rfl rfl ?_ ?_
   ·exact ob_copy (o := O92_6_3) (u := 3) rfl rfl (fun gg => ⟨.inr ⟨by rw [vv]; rfl, by kernel_rfl⟩, trivial⟩) (.inl ⟨rfl, rfl⟩) (fun _ _ _ h => h)
   refine obsC (j := 5) (m := 8) rfl rfl ?_ ?_
   ·refine ob_look (o := O92_6_4) rfl (fun gg => [(5, zp b5 0)]) (fun gg => ⟨.inr ⟨rfl, by kernel_rfl⟩, trivial⟩) (.inl ⟨rfl, rfl⟩) (fun _ _ _ h => h) (fun gg f W ev hJ hd hn E => ?_)
    rw [show V gg 4 = zp b5 0 from vv gg 4]; clear hJ hd hn; have E5 := E.tmp 5 _ rfl; clear E; clear vv HV HN HX LH WR HT b1 b2; unfold O92_6_4; (try simp only [slZ, smZ, putF, slV, smL, msL] at *); go_simp
   refine obsC (j := 6) (m := 7) rfl rfl ?_ ?_
   ·refine ob_look (o := O92_6_5) rfl (fun gg => [(29, zp b5 0)]) (fun gg => ⟨.inl ⟨4, by kernel_rfl, rfl, vv gg 4⟩, trivial⟩) (.inl ⟨rfl, rfl⟩) (fun _ _ _ h => h) (fun gg f W ev hJ hd hn E => ?_)
    rw [show V gg 5 = zi ((S t).up : Int) from vv gg 5]; have hJ9 := hJ; simp only [hn 12 (by kernel_rfl), cond_false] at hJ9; have q0 := (hJ9.box (List.Mem.tail _ (List.Mem.head _)) 0).1; change _ = some (zi ((S t).up : Int) : Value) at q0; clear hJ9; clear hJ hd hn; have E29 := E.tmp 29 _ rfl; clear E; clear vv HV HN HX LH WR HT b1 b2; unfold O92_6_5; (try simp only [slZ, smZ, putF, slV, smL, msL] at *); go_simp
   refine obsC (j := 7) (m := 6) rfl rfl ?_ ?_
   ·refine ob_look (o := O92_6_6) rfl (fun gg => [(28, .slice (some ⟨hb, 0, none⟩) n n), (30, zi ((S t).up : Int))]) (fun gg => ⟨.inl ⟨3, by kernel_rfl, rfl, vv gg 3⟩, .inl ⟨5, by kernel_rfl, rfl, vv gg 5⟩, trivial⟩) (.inl ⟨rfl, rfl⟩) (fun _ _ _ h => h) (fun gg f W ev hJ hd hn E => ?_)
    rw [show V gg 6 = zp hb ((S t).up * 2) from vv gg 6]; clear hJ hd hn; have E28 := E.tmp 28 _ rfl; have E30 := E.tmp 30 _ rfl; clear E; clear vv HV HN HX LH WR HT b1 b2; unfold O92_6_6; (try simp only [slZ, smZ, putF, slV, smL, msL] at *); go_simp
   refine obsC (j := 8) (m := 5) rfl rfl ?_ ?_
   ·refine ob_look (o := O92_6_7) rfl (fun gg => [(31, zp hb ((S t).up * 2))]) (fun gg => ⟨.inl ⟨6, by kernel_rfl, rfl, vv gg 6⟩, trivial⟩) (.inl ⟨rfl, rfl⟩) (fun _ _ _ h => h) (fun gg f W ev hJ hd hn E => ?_)
    rw [show V gg 7 = .agg #[zi (HA S t (S t).up).c, zi (HA S t (S t).up).w] from vv gg 7]; have hJ9 := hJ; simp only [hn 12 (by kernel_rfl), cond_false] at hJ9; have q0 := (hJ9.box (List.Mem.head _) ((S t).up * 2)).1; rw [(hsA_get _ ul).1] at q0; have q1 := (hJ9.box (List.Mem.head _) ((S t).up * 2 + 1)).1; rw [(hsA_get _ ul).2] at q1; clear hJ9; clear hJ hd hn; have E31 := E.tmp 31 _ rfl; clear E; clear vv HV HN HX LH WR HT b1 b2; unfold O92_6_7; (try simp only [slZ, smZ, putF, slV, smL, msL] at *); go_simp
   refine obsC (j := 9) (m := 4) rfl rfl ?_ ?_
   ·refine ob_look (o := O92_6_8) rfl (fun gg => [(5, zp b5 0)]) (fun gg => ⟨.inr ⟨rfl, by kernel_rfl⟩, trivial⟩) (.inl ⟨rfl, rfl⟩) (fun _ _ _ h => h) (fun gg f W ev hJ hd hn E => ?_)
    rw [show V gg 8 = .agg #[zi ((S t).up : Int), zi ((S t).l : Int), zi ((S t).r : Int), .bool (S t).tn, zi (S t).wt, zi (S t).wa, zi (S t).sm.c, zi (S t).sm.s, zi (S t).sm.a, zi (S t).sm.b, zi (S t).hg.c, zi (S t).hg.w, zi (S t).hu.c, zi (S t).hu.w] from vv gg 8]; have hJ9 := hJ; simp only [hn 12 (by kernel_rfl), cond_false] at hJ9; have q0 := (hJ9.box (List.Mem.tail _ (List.Mem.head _)) 0).1; change _ = some (zi ((S t).up : Int) : Value) at q0; have q1 := (hJ9.box (List.Mem.tail _ (List.Mem.head _)) 1).1; change _ = some (zi ((S t).l : Int) : Value) at q1; have q2 := (hJ9.box (List.Mem.tail _ (List.Mem.head _)) 2).1; change _ = some (zi ((S t).r : Int) : Value) at q2; have q3 := (hJ9.box (List.Mem.tail _ (List.Mem.head _)) 3).1; change _ = some (.bool (S t).tn : Value) at q3; have q4 := (hJ9.box (List.Mem.tail _ (List.Mem.head _)) 4).1; change _ = some (zi (S t).wt : Value) at q4; have q5 := (hJ9.box (List.Mem.tail _ (List.Mem.head _)) 5).1; change _ = some (zi (S t).wa : Value) at q5; have q6 := (hJ9.box (List.Mem.tail _ (List.Mem.head _)) 6).1; change _ = some (zi (S t).sm.c : Value) at q6; have q7 := (hJ9.box (List.Mem.tail _ (List.Mem.head _)) 7).1; change _ = some (zi (S t).sm.s : Value) at q7; have q8 := (hJ9.box (List.Mem.tail _ (List.Mem.head _)) 8).1; change _ = some (zi (S t).sm.a : Value) at q8; have q9 := (hJ9.box (List.Mem.tail _ (List.Mem.head _)) 9).1; change _ = some (zi (S t).sm.b : Value) at q9; have q10 := (hJ9.box (List.Mem.tail _ (List.Mem.head _)) 10).1; change _ = some (zi (S t).hg.c : Value) at q10; have q11 := (hJ9.box (List.Mem.tail _ (List.Mem.head _)) 11).1; change _ = some (zi (S t).hg.w : Value) at q11; have q12 := (hJ9.box (List.Mem.tail _ (List.Mem.head _)) 12).1; change _ = some (zi (S t).hu.c : Value) at q12; have q13 := (hJ9.box (List.Mem.tail _ (List.Mem.head _)) 13).1; change _ = some (zi (S t).hu.w : Value) at q13; clear hJ9; clear hJ hd hn; have E5 := E.tmp 5 _ rfl; clear E; clear vv HV HN HX LH WR HT b1 b2; unfold O92_6_8; (try simp only [slZ, smZ, putF, slV, smL, msL] at *); go_simp
   refine obsC (j := 10) (m := 3) rfl rfl ?_ ?_
   ·refine ob_run (o := O92_6_9) rfl (fun gg => [(33, .agg #[zi ((S t).up : Int), zi ((S t).l : Int), zi ((S t).r : Int), .bool (S t).tn, zi (S t).wt, zi (S t).wa, zi (S t).sm.c, zi (S t).sm.s, zi (S t).sm.a, zi (S t).sm.b, zi (S t).hg.c, zi (S t).hg.w, zi (S t).hu.c, zi (S t).hu.w])]) (fun gg => ⟨.inl ⟨8, by kernel_rfl, rfl, vv gg 8⟩, trivial⟩) (.inl ⟨rfl, rfl⟩) (fun gg f W ev hJ hf hd hn E => ?_)
    refine .inr (.inr ⟨75, #[.agg #[zi ((S t).up : Int), zi ((S t).l : Int), zi ((S t).r : Int), .bool (S t).tn, zi (S t).wt, zi (S t).wa, zi (S t).sm.c, zi (S t).sm.s, zi (S t).sm.a, zi (S t).sm.b, zi (S t).hg.c, zi (S t).hg.w, zi (S t).hu.c, zi (S t).hu.w]], ?_, (whole_any _ _ _ _ _ _ _ _ _ _ _ _ _ _ _ (unhide b1).1 (unhide b1).2).mono ?_⟩)
    ·clear hJ hf hd hn; have EF := E.func; have E33 := E.tmp 33 _ rfl; clear E; clear vv HV HN HX LH WR HT b1 b2; unfold O92_6_9; go_simp
    ·rintro e w9 ⟨rfl, hb9⟩
     exact ⟨_, rfl, gg, .inr (vv gg 9), fun _ => .inr (.inr rfl), hJ.below hb9⟩
   refine obsC (j := 11) (m := 2) rfl rfl ?_ ?_
   ·refine ob_run (o := O92_6_10) rfl (fun gg => [(32, .agg #[zi (HA S t (S t).up).c, zi (HA S t (S t).up).w]), (34, .agg #[zi ((S t).hu.c + (S t).sm.c), zi ((S t).hu.w + (S t).sm.s)])]) (fun gg => ⟨.inl ⟨7, by kernel_rfl, rfl, vv gg 7⟩, .inl ⟨9, by kernel_rfl, rfl, vv gg 9⟩, trivial⟩) (.inl ⟨rfl, rfl⟩) (fun gg f W ev hJ hf hd hn E => ?_)
    refine .inr (.inr ⟨80, #[.agg #[zi (HA S t (S t).up).c, zi (HA S t (S t).up).w], .agg #[zi ((S t).hu.c + (S t).sm.c), zi ((S t).hu.w + (S t).sm.s)]], ?_, (with_any _ _ _ _ _ (unhide b2).1 (unhide b2).2).mono ?_⟩)
    ·clear hJ hf hd hn; have EF := E.func; have E32 := E.tmp 32 _ rfl; have E34 := E.tmp 34 _ rfl; clear E; clear vv HV HN HX LH WR HT b1 b2; unfold O92_6_10; go_simp
    ·rintro e w9 ⟨rfl, hb9⟩
     exact ⟨_, rfl, gg, .inr (vv gg 10), fun _ => .inr (.inr rfl), hJ.below hb9⟩
   refine obsC (j := 12) (m := 1) rfl rfl ?_ ?_
   ·refine ob_look (o := O92_6_11) rfl (fun gg => [(25, .slice (some ⟨hb, 0, none⟩) n n), (27, zi ((S t).up : Int))]) (fun gg => ⟨.inl ⟨0, by kernel_rfl, rfl, vv gg 0⟩, .inl ⟨2, by kernel_rfl, rfl, vv gg 2⟩, trivial⟩) (.inl ⟨rfl, rfl⟩) (fun _ _ _ h => h) (fun gg f W ev hJ hd hn E => ?_)
    rw [show V gg 11 = zp hb ((S t).up * 2) from vv gg 11]; clear hJ hd hn; have E25 := E.tmp 25 _ rfl; have E27 := E.tmp 27 _ rfl; clear E; clear vv HV HN HX LH WR HT b1 b2; unfold O92_6_11; (try simp only [slZ, smZ, putF, slV, smL, msL] at *); go_simp
   refine obsC (j := 13) (m := 0) rfl rfl ?_ ?_
   ·refine ob_run (o := O92_6_12) rfl (fun gg => [(35, .agg #[zi ((HA S t (S t).up).c + ((S t).hu.c + (S t).sm.c)), zi ((HA S t (S t).up).w + ((S t).hu.w + (S t).sm.s))]), (36, zp hb ((S t).up * 2))]) (fun gg => ⟨.inl ⟨10, by kernel_rfl, rfl, vv gg 10⟩, .inl ⟨11, by kernel_rfl, rfl, vv gg 11⟩, trivial⟩) (.inl ⟨rfl, rfl⟩) (fun gg f W ev hJ hf hd hn E => ?_)
    have q := hJ
    simp only [hf, cond_false] at q
    have q2 := q.putF ((S t).up * 2) (msL ⟨(HA S t (S t).up).c + ((S t).hu.c + (S t).sm.c), (HA S t (S t).up).w + ((S t).hu.w + (S t).sm.s)⟩)
    rw [hsA_put _ ul] at q2
    refine .inr (.inl ⟨_, ?_, gg, .inl rfl, fun _ => .inr (.inr rfl), q2⟩)
    have z := q.bs _ (List.Mem.head _)
    have y0 := (q.box (List.Mem.head _) ((S t).up * 2)); have y1 := (q.box (List.Mem.head _) ((S t).up * 2 + 1))
    have f0 := y0.2 (by rw [hsA_size]; omega); have f1 := y1.2 (by rw [hsA_size]; omega); replace y0 := y0.1; replace y1 := y1.1; rw [(hsA_get _ ul).1] at y0; rw [(hsA_get _ ul).2] at y1
    clear hJ hf hd hn q q2 z; have E35 := E.tmp 35 _ rfl; have E36 := E.tmp 36 _ rfl; clear E; clear vv HV HN HX LH WR HT b1 b2; unfold O92_6_12; (try simp only [slZ, smZ, putF, slV, smL, msL] at *); go_simp
   exact True.intro
  have K13 : Kn a9 39 [(0, zp p 0), (3, .slice (some ⟨hb, 0, none⟩) n n), (15, .slice (some ⟨g, 0, none⟩) n cap), (16, zi n), (17, zi t)] := hk.kn' (by kernel_rfl) hf ⟨.inr ⟨rfl, by kernel_rfl⟩, .inr ⟨rfl, by kernel_rfl⟩, .inr ⟨rfl, by kernel_rfl⟩, .inr ⟨rfl, by kernel_rfl⟩, .inr ⟨rfl, by kernel_rfl⟩, trivial⟩
  clear hk FH FD HV vv K12
  simp only [hf 12 rfl, cond_true] at hj
  rw [← HA_top (unhide HT)] at hj
  clear hf b1 b2
  have FH := hide hj.head1
  clear hj
  show Code.wp _ _ _ _ _
  have wr := unhide WR
  clear WR
  refine wp_region_lit ?_
  refine lT (zi ((t + 1 : Nat) : Int)) W9 K13 (want_none rfl) (fun ev E => ?_) fun a14 K14 => ?_
  ·have EC := E.const; have E17 := E.tmp 17 _ rfl; clear E; clear FH HN HX LH HT; (try simp only [slZ, smZ, putF, slV, smL, msL] at *); go_simp
  clear K13
  refine lM K14 fun a15 K15 => ?_
  clear K14
  refine wpList_nil ?_
  exact unhide HN _ _ lt1 (K15.less ⟨rfl, rfl, rfl, rfl, rfl, trivial⟩) (unhide FH)
set_option maxHeartbeats 4000000 in
theorem hangingL {p g n cap room : Nat} {T : Tr} {S : Ss} {G : Gh} {w : World} (h : Pool w p g n cap room S) (L : Lc S n T G) :
  Calls Try.prog 92 #[zp p 0] w fun e w' => ∃ hb : Nat, e = .returned (.slice (some ⟨hb, 0, none⟩) n n) /\ Fr w w' p g n cap room S [(hb, .cells (hsA (HA S n) n) 73 (0, 0))] := by
 have FH := hide (Fr.start h)
 have LH := hide L
 have nle : n <= 1048577 := by have := L.nn; have := L.ft.n; omega
 clear h L
 refine callsK (n := 39) (L := [(0, zp p 0)]) Try.func92 rfl Try.ntmps92 rfl rfl (fun a0 K0 => ?_)
 refine seqR ?_
 refine lC K0 fun a1 K1 => ?_
 refine nilN ?_
 refine seqR ?_
 refine lM K1 fun a2 K2 => ?_
 clear K1
 refine lN K2 fun a3 K3 => ?_
 clear K2
 refine lF K3 FA66_1 fun a4 K4 => ?_
 clear K3
 refine lT (.slice (some ⟨g, 0, none⟩) n cap) w K4 (want_none rfl) (fun ev E => ?_) fun a5 K5 => ?_
 ·obtain ⟨c0, c1, _⟩ := (unhide FH).po.head; have E8 := E.tmp 8 _ rfl; clear E; clear FH LH; (try simp only [slZ, smZ, putF, slV, smL, msL] at *); go_simp
 clear K4
 refine lT (zi n) w K5 (want_none rfl) (fun ev E => ?_) fun a6 K6 => ?_
 ·have E9 := E.tmp 9 _ rfl; clear E; clear FH LH; (try simp only [slZ, smZ, putF, slV, smL, msL] at *); go_simp
 clear K5
 have hmk := make_ms n nle w
 refine lT (.slice (some ⟨w.heap.size, 0, none⟩) n n) (w.alloc (.cells (madeCells #[zi 0, zi 0] (n * 2)) 73)) K6 (want_none rfl) (fun ev E => ?_) fun a7 K7 => ?_
 ·have E10 := E.tmp 10 _ rfl; clear E; clear FH LH; (try simp only [slZ, smZ, putF, slV, smL, msL] at *); go_simp
 clear K6 hmk
 have F2 := hide ((unhide FH).alloc (.cells (madeCells #[zi 0, zi 0] (n * 2)) 73))
 clear FH
 have FH := F2
 clear F2
 generalize (w.alloc (.cells (madeCells #[zi 0, zi 0] (n * 2)) 73)) = A at *
 obtain ⟨hb, hd⟩ : ∃ z, z = w.heap.size := ⟨_, rfl⟩
 rw [← hd] at FH K7
 clear hd
 rw [made_hs] at FH
 refine lA K7 fun a8 K8 => ?_
 clear K7
 refine nilN ?_
 refine seqN ?_
 refine seqR ?_
 refine lM K8 fun a9 K9 => ?_
 clear K8
 refine lN K9 fun a10 K10 => ?_
 clear K9
 refine lF K10 FA66_1 fun a11 K11 => ?_
 clear K10
 refine lT (.slice (some ⟨g, 0, none⟩) n cap) A K11 (want_none rfl) (fun ev E => ?_) fun a12 K12 => ?_
 ·obtain ⟨c0, c1, _⟩ := (unhide FH).po.head; have E14 := E.tmp 14 _ rfl; clear E; clear FH LH; (try simp only [slZ, smZ, putF, slV, smL, msL] at *); go_simp
 clear K11
 refine lT (zi n) A K12 (want_none rfl) (fun ev E => ?_) fun a13 K13 => ?_
 ·have E15 := E.tmp 15 _ rfl; clear E; clear FH LH; (try simp only [slZ, smZ, putF, slV, smL, msL] at *); go_simp
 clear K12
 refine lT (zi (0)) A K13 (want_none rfl) (fun ev E => ?_) fun a14 K14 => ?_
 ·have EC := E.const; clear E; clear FH LH; (try simp only [slZ, smZ, putF, slV, smL, msL] at *); go_simp
 clear K13
 refine nilN ?_
 have K15 : Kn _ 39 [(0, zp p 0), (3, .slice (some ⟨hb, 0, none⟩) n n), (15, .slice (some ⟨g, 0, none⟩) n cap), (16, zi n), (17, zi ((0 : Nat) : Int))] := K14.less ⟨rfl, rfl, rfl, rfl, rfl, trivial⟩
 clear K14
 refine wp_block ?_
 refine wp_loop_ghost (fun k a w' => ∃ t : Nat, Kn a 39 [(0, zp p 0), (3, .slice (some ⟨hb, 0, none⟩) n n), (15, .slice (some ⟨g, 0, none⟩) n cap), (16, zi n), (17, zi t)] /\ Fr w w' p g n cap room S [(hb, .cells (hsA (HA S t) n) 73 (0, 0))] /\ t <= n /\ k = n - t) _ ⟨0, K15, unhide FH, Nat.zero_le _, rfl⟩ ?_
 rintro k a w1 ⟨t, K1, F1, hle, hk⟩
 refine round92 K1 F1 (unhide LH) hle (fun a' W lt K2 F2 => ?_) (fun a' W n0 KZ F2 => ?_)
 ·exact ⟨_, by omega, t + 1, K2, F2, by omega, rfl⟩
 show Code.wp _ _ _ _ _
 clear FH F1 K1 hk
 have FH := hide F2
 clear F2
 have N0 := hide n0
 clear n0
 refine seqR ?_
 refine lM KZ fun a16 K16 => ?_
 clear KZ
 refine lA K16 fun a17 K17 => ?_
 clear K16
 refine nilN ?_
 refine wp_ret ?_
 refine bodyPost_ret (v := .slice (some ⟨hb, 0, none⟩) n n) ?_ K17.defers ⟨hb, rfl, by have q := unhide FH; rw [unhide N0] at q; exact q⟩
 have e2 := K17.has 2 _ rfl
 simp [results, Try.results92, go_sem, e2]
end Go.Proofs.Ytjnkgakajenoaaa
