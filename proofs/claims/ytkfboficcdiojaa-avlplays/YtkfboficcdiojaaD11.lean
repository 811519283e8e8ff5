import Derived.Test.YtkfboficcdiojaaD9
import Derived.Test.YtkfboficcdiojaaD10
namespace Go.Proofs.Ytkfboficcdiojaa
open Go.RowKit Go.Arb
set_option linter.unusedVariables false
set_option linter.unusedSimpArgs false

def Se.addOk (A : Se) (x y : Int) : Bool := ((decide (0 ≤ x) && decide (x < (A.n : Int))) && !A.hasI x) && fitB y
def Se.addA (A : Se) (x y : Int) : Se := if A.addOk x y then { A with L := A.L ++ [[x.toNat]], W := fun v => if v = x.toNat then y else A.W v } else A
def Se.dropB (A : Se) (x : Int) : Bool := A.lenI x == 1
def Se.dropA (A : Se) (x : Int) : Se := if A.dropB x then { A with L := A.L.erase [x.toNat] } else A
def Se.new (n : Nat) : Se := ⟨n, [], fun _ => 0⟩

/-- What a change leaves in memory. -/
structure Chd (w w' : World) (p g g' : Nat) (A' : Se) : Prop where
  ex : ∃ n' cap' S', PA w' p g' n' cap' S' A'
  kp : Keep [p, g] w w'
  gg : g' = g ∨ w.heap.size ≤ g'

section
variable {w w' : World} {p g n cap : Nat} {S S' : Ss} {A : Se}
theorem PA.same (h : PA w p g n cap S A) : Chd w w p g g A := ⟨⟨n, cap, S, h⟩, Keep.refl _ _, .inl rfl⟩
theorem PA.stay (h : PA w p g n cap S A) (hb : Below w.heap.size w w') : Chd w w' p g g A := ⟨⟨n, cap, S, h.below hb⟩, Keep.ofBelow hb _, .inl rfl⟩
def newSl (y : Int) : Sl := ⟨0, 0, 0, 1, y, 0, one y⟩
theorem Inv.add {v : Nat} {y : Int} (h : Inv S A) (hv : v ∉ A.L.flatten) (hn : v < A.n) (hy : -1099511627776 ≤ y ∧ y ≤ 1099511627776) : Inv (upd S (v + 1) (newSl y)) { A with L := A.L ++ [[v]], W := fun u => if u = v then y else A.W u } := by
  have z' : upd S (v + 1) (newSl y) 0 = S 0 := upd_ne _ _ (by omega)
  refine ⟨by unfold Z; rw [z']; exact h.z, ?_, ?_, ?_, ?_, ?_, h.n⟩
  · dsimp only
    rw [List.flatten_append, List.nodup_append]
    refine ⟨h.nd, by simp, fun a ha b hb e => ?_⟩
    simp at hb
    subst hb; subst e; exact hv ha
  · intro l hl
    rcases List.mem_append.1 hl with h' | h'
    · exact h.ne l h'
    · simp at h'; subst h'; simp
  · intro l hl
    dsimp only
    rcases List.mem_append.1 hl with h' | h'
    · obtain ⟨r, p', u'⟩ := h.tr l h'
      have hvl : ∀ u ∈ l, u ≠ v := fun u hu e => hv (e ▸ List.mem_flatten.2 ⟨l, h', hu⟩)
      have e1 : its (fun u => if u = v then y else A.W u) l = its A.W l := its_congr (fun u hu => by simp [hvl u hu])
      rw [e1]
      have hr : r ≠ v + 1 := fun e => by
        by_cases r0 : r = 0
        · omega
        · have := p'.mem r0
          rw [ids_its] at this
          obtain ⟨u, hu, eu⟩ := List.mem_map.1 this
          exact hvl u hu (by omega)
      refine ⟨r, p'.frame z' (nodup_its.2 (nodup_flatten h.nd h')) (fun x hx => upd_ne _ _ (fun e => ?_)), by rw [upd_ne _ _ hr]; exact u'⟩
      rw [ids_its] at hx
      obtain ⟨u, hu, eu⟩ := List.mem_map.1 hx
      exact hvl u hu (by omega)
    · simp at h'
      subst h'
      refine ⟨v + 1, ?_, by rw [upd_same]; rfl⟩
      have hs : upd S (v + 1) (newSl y) (v + 1) = newSl y := upd_same _ _ _
      have hz0 : (upd S (v + 1) (newSl y) 0).h = 0 := by rw [z', h.z]; rfl
      have e1 : its (fun u => if u = v then y else A.W u) [v] = [(v + 1, y)] := by simp [its]
      rw [e1]
      refine Pt.mk (xl := []) (xr := []) (by rw [hs]; exact Pt.nil) (by rw [hs]; exact Pt.nil) ⟨by omega, ?_, ?_, ?_, ?_, ?_, ?_, ?_, ?_, ?_⟩
      · rw [hs]; rfl
      · rw [hs]; show 1 = 1 + max (upd S (v + 1) (newSl y) 0).h (upd S (v + 1) (newSl y) 0).h; rw [hz0]; rfl
      · rw [hs]; show (upd S (v + 1) (newSl y) 0).h ≤ (upd S (v + 1) (newSl y) 0).h + 1; omega
      · rw [hs]; show (upd S (v + 1) (newSl y) 0).h ≤ (upd S (v + 1) (newSl y) 0).h + 1; omega
      · rw [hs, smL_one]; rfl
      · rw [FitL.cons]; exact ⟨hy, FitL.nil⟩
      · rw [hs]; intro h0; exact absurd rfl h0
      · rw [hs]; intro h0; exact absurd rfl h0
      · rw [hs]; intro _ _; rfl
  · intro t ht
    have ht' : ∀ u ∈ A.L.flatten, u + 1 ≠ t := fun u hu => ht u (by simp only [List.flatten_append, List.mem_append]; exact .inl hu)
    have : t ≠ v + 1 := fun e => ht v (by simp) e.symm
    rw [upd_ne _ _ this]
    exact h.out t ht'
  · intro u hu
    simp only [List.flatten_append, List.mem_append] at hu
    rcases hu with h' | h'
    · exact h.lt u h'
    · simp at h'; subst h'; exact hn
theorem Pool.putNew {room : Nat} (h : Pool w p g n cap room S) {t : Nat} (ht : t < n) (x : Sl) :
    Pool ((((((((((w.setCell ⟨g, t * 10, none⟩ (.int .i64 (x.up : Int))).setCell ⟨g, t * 10 + 1, none⟩ (.int .i64 (x.l : Int))).setCell ⟨g, t * 10 + 2, none⟩ (.int .i64 (x.r : Int))).setCell ⟨g, t * 10 + 3, none⟩ (.int .i64 (x.h : Int))).setCell ⟨g, t * 10 + 4, none⟩ (.int .i64 x.wt)).setCell ⟨g, t * 10 + 5, none⟩ (.int .i64 x.wa)).setCell ⟨g, t * 10 + 6, none⟩ (.int .i64 x.sm.c)).setCell ⟨g, t * 10 + 7, none⟩ (.int .i64 x.sm.s)).setCell ⟨g, t * 10 + 8, none⟩ (.int .i64 x.sm.a)).setCell ⟨g, t * 10 + 9, none⟩ (.int .i64 x.sm.b)) p g n cap room (upd S t x) := by
  have a0 := h.put ht 0 (by omega) { S t with up := x.up } (.int .i64 (x.up : Int)) rfl
  have a1 := a0.put ht 1 (by omega) { S t with up := x.up, l := x.l } (.int .i64 (x.l : Int)) (by rw [upd_same]; rfl)
  have a2 := a1.put ht 2 (by omega) { S t with up := x.up, l := x.l, r := x.r } (.int .i64 (x.r : Int)) (by rw [upd_same]; rfl)
  have a3 := a2.put ht 3 (by omega) { S t with up := x.up, l := x.l, r := x.r, h := x.h } (.int .i64 (x.h : Int)) (by rw [upd_same]; rfl)
  have a4 := a3.put ht 4 (by omega) { S t with up := x.up, l := x.l, r := x.r, h := x.h, wt := x.wt } (.int .i64 x.wt) (by rw [upd_same]; rfl)
  have a5 := a4.put ht 5 (by omega) { S t with up := x.up, l := x.l, r := x.r, h := x.h, wt := x.wt, wa := x.wa } (.int .i64 x.wa) (by rw [upd_same]; rfl)
  have a6 := a5.putSm ht x.sm
  simp only [upd_upd, upd_same] at a6
  exact a6
theorem keep_putNew (w : World) (g t : Nat) (x : Sl) : Keep [g] w ((((((((((w.setCell ⟨g, t * 10, none⟩ (.int .i64 (x.up : Int))).setCell ⟨g, t * 10 + 1, none⟩ (.int .i64 (x.l : Int))).setCell ⟨g, t * 10 + 2, none⟩ (.int .i64 (x.r : Int))).setCell ⟨g, t * 10 + 3, none⟩ (.int .i64 (x.h : Int))).setCell ⟨g, t * 10 + 4, none⟩ (.int .i64 x.wt)).setCell ⟨g, t * 10 + 5, none⟩ (.int .i64 x.wa)).setCell ⟨g, t * 10 + 6, none⟩ (.int .i64 x.sm.c)).setCell ⟨g, t * 10 + 7, none⟩ (.int .i64 x.sm.s)).setCell ⟨g, t * 10 + 8, none⟩ (.int .i64 x.sm.a)).setCell ⟨g, t * 10 + 9, none⟩ (.int .i64 x.sm.b)) :=
  (((((((((keep_cell w g _ _).cellB _ _).cellB _ _).cellB _ _).cellB _ _).cellB _ _).cellB _ _).cellB _ _).cellB _ _).cellB _ _

set_option maxHeartbeats 1000000 in
theorem padd_nil (x y : Int) (w : World) : Calls Try.prog 13 #[.pointer none, .int .i64 x, .int .i64 y] w fun e w' => e = .returned (.bool false) ∧ w = w' := by
  go_enter Try.func13, Try.ntmps13
  go_wp2
  go_ret
  exact ⟨rfl, rfl⟩
set_option maxRecDepth 100000 in
set_option maxHeartbeats 4000000 in
theorem padd_any (x y : Int) (h : PA w p g n cap S A) : Calls Try.prog 13 #[.pointer (some ⟨p, 0, none⟩), .int .i64 x, .int .i64 y] w fun e w' => e = .returned (.bool (A.addOk x y)) ∧ ∃ g', Chd w w' p g g' (A.addA x y) := by
  have HA := hide (has_any x h)
  have HH := hide h
  obtain ⟨c0, c1, _, _, k1, k2⟩ := h.po.head
  have nb := h.iv.n
  by_cases x0 : x < 0
  · have hf : A.addOk x y = false := by simp [Se.addOk]; omega
    have eA : A.addA x y = A := by simp [Se.addA, hf]
    rw [hf, eA]
    clear h hf eA
    go_enter Try.func13, Try.ntmps13
    go_wp2
    go_ret
    exact ⟨rfl, g, (unhide HH).same⟩
  have x0' : (0 : Int) ≤ x := by omega
  by_cases xn : (A.n : Int) ≤ x
  · have hf : A.addOk x y = false := by simp [Se.addOk]; omega
    have eA : A.addA x y = A := by simp [Se.addA, hf]
    rw [hf, eA]
    clear h hf eA
    generalize A.n = room at *
    go_enter Try.func13, Try.ntmps13
    go_wp2
    go_ret
    exact ⟨rfl, g, (unhide HH).same⟩
  cases hh : A.hasI x
  rotate_left
  · have hf : A.addOk x y = false := by simp [Se.addOk, hh]
    have eA : A.addA x y = A := by simp [Se.addA, hf]
    rw [hf, eA]
    rw [hh] at HA
    clear h hf eA hh
    have HR := hide (unhide HH)
    generalize A.n = room at *
    go_enter Try.func13, Try.ntmps13
    go_wp2_with fail
    refine (unhide HA).mono ?_
    rintro e w' ⟨rfl, rfl⟩
    go_wp2
    go_ret
    exact ⟨rfl, g, (unhide HH).same⟩
  rw [hh] at HA
  have FT := hide (fits_any y)
  cases hy : fitB y
  · have hf : A.addOk x y = false := by simp [Se.addOk, hy]
    have eA : A.addA x y = A := by simp [Se.addA, hf]
    rw [hf, eA]
    rw [hy] at FT
    clear h hf eA hh hy
    generalize A.n = room at *
    go_enter Try.func13, Try.ntmps13
    go_wp2_with fail
    refine (unhide HA).mono ?_
    rintro e w' ⟨rfl, rfl⟩
    go_wp2_with fail
    refine (unhide FT _).mono ?_
    rintro e w' ⟨rfl, hw⟩
    obtain rfl : w = w' := hw.symm
    go_wp2
    go_ret
    exact ⟨rfl, g, (unhide HH).same⟩
  · obtain ⟨v, rfl⟩ := Int.eq_ofNat_of_zero_le x0'
    have hvn : v < A.n := by omega
    have hv : v ∉ A.L.flatten := by rw [A.hasI_nat] at hh; simpa using hh
    have hf : A.addOk v y = true := by simp [Se.addOk, hh, hy, hvn]
    have eA : A.addA v y = { A with L := A.L ++ [[v]], W := fun u => if u = v then y else A.W u } := by simp [Se.addA, hf]
    have fy : -1099511627776 ≤ y ∧ y ≤ 1099511627776 := by simpa [fitB] using hy
    have IV := hide (h.iv.add hv hvn fy)
    rw [hf, eA]
    rw [hy] at FT
    have RC := hide (reach_any v h.po h.n0 (by omega) (by have := h.nn; omega))
    have NN := hide (And.intro h.nn hvn)
    clear h hf eA hh hy hv
    generalize hA' : ({ A with L := A.L ++ [[v]], W := fun u => if u = v then y else A.W u } : Se) = A' at *
    have hn' : A'.n = A.n := by rw [← hA']
    have HN := hide hn'
    clear hA' hn'
    generalize A.n = room at *
    go_enter Try.func13, Try.ntmps13
    go_wp2_with fail
    refine (unhide HA).mono ?_
    rintro e w' ⟨rfl, rfl⟩
    go_wp2_with fail
    refine (unhide FT _).mono ?_
    rintro e w' ⟨rfl, hw⟩
    obtain rfl : w = w' := hw.symm
    clear hw
    go_wp2_with fail
    refine (unhide RC).mono ?_
    rintro e w1 ⟨rfl, g', n', cap', hr⟩
    have HR := hide hr
    obtain ⟨_, d1, _, _, m1, m2⟩ := hr.po.head
    have hlt := hr.lt
    have hne := hr.po.ne
    have hne' : ¬ p = g' := fun e => hne e.symm
    clear hr RC c0 c1
    have i1 : (0 : Int) ≤ (v : Int) + 1 := by omega
    have i2 : (v : Int) + 1 < (n' : Int) := by omega
    have wr : IntKind.i64.wrap ((v : Int) + 1) = (v : Int) + 1 := IntWalk.i64_in _ (by omega)
    have D := hide (unhide HR).po.drew
    go_wp2
    go_region_held3 (fun w' => w'.cell? ⟨p, 1, none⟩ = some (.slice (some ⟨g', 0, none⟩) n' cap'))
      (simp [go_sem, *])
      (first
        | (go_at_call 46; refine (one_any y _).mono ?_; rintro e w2 ⟨rfl, hb⟩; have P2 := hide ((unhide D).below hb); have K2 := hide ((unhide HR).kp.drew.trans (Keep.ofBelow hb []) (by simp)); (obtain ⟨_, d1', _⟩ := (unhide P2).head); (obtain ⟨v0, v1, v2, v3, v4, v5, v6, v7, v8, v9⟩ := (unhide P2).slot hlt); (obtain ⟨f0, f1, f2, f3, f4, f5, f6, f7, f8, f9⟩ := (unhide P2).soft hlt); clear hb))
    all_goals
      go_wp2
      go_ret
      refine ⟨rfl, g', ?_⟩
      refine Chd.mk ⟨n', cap', upd S (v + 1) (newSl y), ?_⟩ ?_ (unhide HR).gg
      · refine ⟨?_, unhide IV, by omega, ?_⟩
        · rw [unhide HN]; exact (unhide P2).putNew hlt (newSl y)
        · rw [unhide HN]
          have hn1 : n' = n ∨ n' = v + 2 := Reach.nn (unhide HR)
          have hn2 := unhide NN
          omega
      · have k := (unhide K2).trans (keep_putNew w2 g' (v + 1) (newSl y)) (fun i hi => by
          simp at hi; subst hi
          rcases Reach.gg (unhide HR) with h' | h'
          · left; simp [h']
          · right; exact h')
        exact k

theorem Se.dropB_true {x : Int} (h : A.dropB x = true) : ∃ v : Nat, x = v ∧ v ∈ A.L.flatten ∧ A.seq v = [v] := by
  have hl : A.lenI x = 1 := by simpa [Se.dropB] using h
  cases hh : A.hasI x
  · rw [Se.lenI, Se.seqI, hh] at hl; simp at hl
  obtain ⟨v, rfl, hv⟩ := Se.hasI_true hh
  rw [Se.lenI, Se.seqI_nat hv] at hl
  have hm := (Se.seq_mem hv).2
  refine ⟨v, rfl, hv, ?_⟩
  obtain ⟨u, hu⟩ := List.length_eq_one_iff.1 (show (A.seq v).length = 1 by omega)
  rw [hu] at hm ⊢
  simp at hm
  rw [hm]
theorem mem_erase_ne {L : List (List Nat)} (hn : L.flatten.Nodup) (hne : ∀ l ∈ L, l ≠ []) {m l : List Nat} (hm : m ∈ L) : l ∈ L.erase m ↔ l ∈ L ∧ l ≠ m := by
  have hnd : L.Nodup := by
    rw [List.Nodup, List.pairwise_flatten] at hn
    refine List.Pairwise.imp_of_mem ?_ hn.2
    intro a b ha hb hab e
    obtain ⟨x, hx⟩ := List.exists_mem_of_ne_nil _ (hne a ha)
    exact hab x hx x (e ▸ hx) rfl
  rw [hnd.mem_erase_iff]
  exact And.comm
theorem flatten_erase {L : List (List Nat)} {m : List Nat} (hm : m ∈ L) : L.flatten.Perm (m ++ (L.erase m).flatten) := by
  have := (List.perm_cons_erase hm).flatten
  simpa using this
theorem Inv.drop {v : Nat} (h : Inv S A) (hv : v ∈ A.L.flatten) (hs : A.seq v = [v]) : Inv (upd S (v + 1) Sl.zero) { A with L := A.L.erase [v] } := by
  have hm := (Se.seq_mem hv).1
  rw [hs] at hm
  have z' : upd S (v + 1) Sl.zero 0 = S 0 := upd_ne _ _ (by omega)
  have hp := flatten_erase hm
  have hnd := (hp.nodup_iff).1 h.nd
  rw [List.singleton_append, List.nodup_cons] at hnd
  have hsub : ∀ u ∈ (A.L.erase [v]).flatten, u ∈ A.L.flatten := fun u hu => hp.mem_iff.2 (by simp [hu])
  refine ⟨by unfold Z; rw [z']; exact h.z, hnd.2, fun l hl => h.ne l (List.mem_of_mem_erase hl), fun l hl => ?_, fun t ht => ?_, fun u hu => h.lt u (hsub u hu), h.n⟩
  · have hl' := List.mem_of_mem_erase hl
    obtain ⟨r, p', u'⟩ := h.tr l hl'
    have hvl : ∀ u ∈ l, u ≠ v := fun u hu e => hnd.1 (by rw [← e]; exact List.mem_flatten.2 ⟨l, by rw [e]; exact hl, hu⟩)
    have hr : r ≠ v + 1 := fun e => by
      by_cases r0 : r = 0
      · omega
      · have := p'.mem r0
        rw [ids_its] at this
        obtain ⟨u, hu, eu⟩ := List.mem_map.1 this
        exact hvl u hu (by omega)
    refine ⟨r, p'.frame z' (nodup_its.2 (nodup_flatten h.nd hl')) (fun x hx => upd_ne _ _ (fun e => ?_)), by rw [upd_ne _ _ hr]; exact u'⟩
    rw [ids_its] at hx
    obtain ⟨u, hu, eu⟩ := List.mem_map.1 hx
    exact hvl u hu (by omega)
  · by_cases e : t = v + 1
    · rw [e, upd_same]
    · rw [upd_ne _ _ e]
      refine h.out t (fun u hu => ?_)
      rcases List.mem_cons.1 (hp.mem_iff.1 hu) with h' | h'
      · subst h'; exact fun e' => e e'.symm
      · exact ht u h'
set_option maxHeartbeats 1000000 in
theorem pdrop_nil (x : Int) (w : World) : Calls Try.prog 15 #[.pointer none, .int .i64 x] w fun e w' => e = .returned (.bool false) ∧ Below w.heap.size w w' := by
  go_enter Try.func15, Try.ntmps15
  go_wp2_with (go_at_call 31; refine (len_nil _ _).mono ?_; rintro e w' ⟨rfl, hb⟩)
  go_ret
  exact ⟨rfl, hb⟩
set_option maxHeartbeats 4000000 in
theorem pdrop_any (x : Int) (h : PA w p g n cap S A) : Calls Try.prog 15 #[.pointer (some ⟨p, 0, none⟩), .int .i64 x] w fun e w' => e = .returned (.bool (A.dropB x)) ∧ ∃ g', Chd w w' p g g' (A.dropA x) := by
  have L := hide (len_any x h)
  have HH := hide h
  cases hd : A.dropB x
  · have eA : A.dropA x = A := by simp [Se.dropA, hd]
    have hl : (A.lenI x == 1) = false := hd
    rw [eA]
    generalize A.lenI x = len at *
    clear h hd eA
    go_enter Try.func15, Try.ntmps15
    go_wp2_with fail
    refine (unhide L).mono ?_
    rintro e w1 ⟨rfl, hb⟩
    have H1 := hide ((unhide HH).stay hb)
    clear hb
    go_wp2
    go_ret
    exact ⟨rfl, g, unhide H1⟩
  · obtain ⟨v, rfl, hv, hs⟩ := Se.dropB_true hd
    have hl : A.lenI v = 1 := by simpa [Se.dropB] using hd
    rw [hl] at L
    have eA : A.dropA v = { A with L := A.L.erase [v] } := by simp [Se.dropA, hd]
    have IV := hide (h.iv.drop hv hs)
    rw [eA]
    have hlt := h.ltn hv
    have NN := hide (And.intro h.n0 h.nn)
    have hne := h.po.ne
    have nb := h.iv.n
    have nn := h.nn
    clear h hd eA hl hs
    have hn4 : (n : Int) ≤ 4194305 := by omega
    have i1 : (0 : Int) ≤ (v : Int) + 1 := by omega
    have i2 : (v : Int) + 1 < (n : Int) := by omega
    go_enter Try.func15, Try.ntmps15
    go_wp2_with fail
    refine (unhide L).mono ?_
    rintro e w1 ⟨rfl, hb⟩
    have H1 := hide ((unhide HH).below hb)
    have K1 := hide (Keep.ofBelow hb [g])
    clear hb L
    obtain ⟨_, c1, _, _, k1, k2⟩ := (unhide H1).po.head
    obtain ⟨v0, v1, v2, v3, v4, v5, v6, v7, v8, v9⟩ := (unhide H1).po.slot hlt
    obtain ⟨f0, f1, f2, f3, f4, f5, f6, f7, f8, f9⟩ := (unhide H1).po.soft hlt
    go_wp2
    go_ret
    exact ⟨rfl, g, ⟨⟨n, cap, _, ⟨(unhide H1).po.putNew hlt Sl.zero, unhide IV, (unhide NN).1, (unhide NN).2⟩⟩, ((unhide K1).tr (keep_putNew w1 g (v + 1) Sl.zero)).mono (by simp), .inl rfl⟩⟩
end
end Go.Proofs.Ytkfboficcdiojaa
