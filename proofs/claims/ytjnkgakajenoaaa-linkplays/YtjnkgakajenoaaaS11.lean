/- Part 11 of the texts. -/
import Derived.Test.YtjnkgakajenoaaaS1
import Derived.Test.YtjnkgakajenoaaaS9
import Derived.Test.YtjnkgakajenoaaaS10
import Derived.Laws.MakeOwn
import Derived.WalkKit
namespace Go.Proofs.Ytjnkgakajenoaaa
open Go.RowKit Go.Arb
set_option linter.unusedVariables false
set_option linter.unusedSimpArgs false
set_option maxRecDepth 100000
theorem root_l0 {S : Ss} {n : Nat} {T : Tr} {G : Gh} {t : Nat} (E : Pth S n T G t) (h0 : ps T t = 0) : ((S t).l : Int) = 0 := by
 refine Classical.byContradiction fun e0 => ?_
 have l1 : (S t).l ≠ 0 := by omega
 have L := E.lc
 have en := (L.loc t E.th).en
 rw [((L.loc t E.th).tp E.top).b] at en
 have q : G.pn (G.la (S t).l) = t := (en.l1 l1).2
 have t0 := E.th.1
 have := (L.ps_pn (L.la_th ((L.loc t E.th).kl l1).th) q (by omega)).2
 rw [h0] at this
 have := (L.la_th ((L.loc t E.th).kl l1).th).1
 omega
theorem root_l1 {S : Ss} {n : Nat} {T : Tr} {G : Gh} {t : Nat} (E : Pth S n T G t) (h0 : ¬ ps T t = 0) : (((S t).l : Int) == 0) = false := by
 have l0 : ¬ (S t).l = 0 := fun e0 => by
  have en := (E.lc.loc t E.th).en
  rw [((E.lc.loc t E.th).tp E.top).b] at en
  have q : G.fi t = t := en.l0 e0
  have := E.root
  rw [q] at this
  exact h0 this
 simp; omega
theorem sameI_there {T : Tr} (W : T.Wf) {i : Nat} (h : Th T (i + 1)) : T.sameI (i : Int) (i : Int) = true := by
 obtain ⟨r, e, _, _⟩ := W.rootI_in (v := i) (by simpa using h.2)
 unfold Tr.sameI
 rw [e]; simp
theorem sameI_no1 {T : Tr} {x y : Int} (h : T.hasI x = false) : T.sameI x y = false := by
 unfold Tr.sameI; rw [Tr.rootI_gone h]; simp
theorem sameI_no2 {T : Tr} {x y : Int} (h : T.hasI y = false) : T.sameI x y = false := by
 unfold Tr.sameI; rw [Tr.rootI_gone h]
 cases hq : (T.rootI x != -1)
 ·rfl
 ·simp at hq ⊢; exact hq
theorem sameAll {p g n cap room : Nat} {T : Tr} {S : Ss} {G : Gh} {w : World} (h : Pool w p g n cap room S) (L : Lc S n T G) (x y : Int) :
  Calls Try.prog 43 #[zp p 0, zi x, zi y] w fun e w' => e = .returned (.bool (T.sameI x y)) /\ Keep [g] w w' /\ ∃ S2 G2, Pool w' p g n cap room S2 /\ Lc S2 n T G2 := by
 rcases hasI_cases T x with ⟨i, rfl, hi, _⟩ | hx
 ·rcases hasI_cases T y with ⟨j, rfl, hj, _⟩ | hy
  ·by_cases e : i = j
   ·subst e
    refine (sameEq h L hi rfl hj rfl rfl).mono ?_
    rintro e w' ⟨_, _, S1, G1, S2, G2, rfl, q1, q2, _, q3, _⟩
    exact ⟨by rw [sameI_there L.wf hi], q1, S2, G2, q2, q3⟩
   ·refine (sameNe h L hi rfl hj rfl e).mono ?_
    rintro e w' ⟨_, _, S1, G1, S2, G2, rfl, q1, q2, L1, L2, X1, X2⟩
    have := same_up L1 L2 X1 X2 hi hj (by omega)
    simp only [Nat.add_sub_cancel] at this
    exact ⟨by rw [this], q1, S2, G2, q2, L2⟩
  ·refine (sameN2 h L hi rfl hy).mono ?_
   rintro e w' ⟨rfl, q1, q2⟩
   exact ⟨by rw [sameI_no2 hy], q1, S, G, q2, L⟩
 ·refine (sameN1 h L hx).mono ?_
  rintro e w' ⟨rfl, q1, q2⟩
  exact ⟨by rw [sameI_no1 hx], q1, S, G, q2, L⟩
theorem sameLit {p g n cap room : Nat} {T : Tr} {S : Ss} {G : Gh} {w : World} (h : Pool w p g n cap room S) (L : Lc S n T G) {x y : Int} {b : Bool} (hs : T.sameI x y = b) :
  Calls Try.prog 43 #[zp p 0, zi x, zi y] w fun e w' => e = .returned (.bool b) /\ Keep [g] w w' /\ ∃ S2 G2, Pool w' p g n cap room S2 /\ Lc S2 n T G2 := by
 have q := sameAll h L x y
 rw [hs] at q; exact q
theorem lca_met {n : Nat} {T : Tr} {S S1 S2 : Ss} {G G1 G2 : Gh} {m1 met t u : Nat} (W : T.Wf) (X1 : Exd n T t S G m1 S1 G1) (X2 : Exd n T u S1 G1 met S2 G2) (ht : Th T t) (hu : Th T u) {i j : Nat} (hit : t = i + 1) (hju : u = j + 1) (hs : T.sameI (i : Int) (j : Int) = true) : T.lcaI (i : Int) (j : Int) = (met : Int) - 1 := by
 obtain ⟨i', j', e1, e2, hi, hj, m, a, b, c, hm⟩ := W.same_true hs
 obtain rfl : i = i' := by omega
 obtain rfl : j = j' := by omega
 subst hit hju
 have mt : m + 1 ∈ U T (i + 1) := by rw [mem_U1, hm.el]; simp
 have mu : m + 1 ∈ U T (j + 1) := by rw [mem_U1, hm.em]; simp
 have low : ∀ z, z ∈ U T (i + 1) -> z ∈ U T (j + 1) -> z ∈ U T (m + 1) := fun z z1 z2 => by
  have hz := (U_mem_th W z1).1
  obtain ⟨z, rfl⟩ : ∃ k, z = k + 1 := ⟨z - 1, by omega⟩
  rw [mem_U1] at z1 z2 ⊢
  rw [W.tail hm.el]
  rw [hm.el] at z1
  simp only [List.mem_append, List.mem_cons] at z1 ⊢
  rcases z1 with q | q | q
  ·exact absurd z2 (hm.ha z q)
  ·exact .inl q
  ·exact .inr q
 have down : ∀ (s y : Nat), y ∈ U T s -> y ≠ s -> ∃ z, z ∈ U T s /\ ps T z = y := by
  intro s y hy hne
  have key : ∀ (k : Nat) (r : Nat), dp T r <= k -> r ∈ U T s -> y ∈ U T r -> y ≠ r -> ∃ z, z ∈ U T s /\ ps T z = y := by
   intro k
   induction k with
   | zero => intro r hr hr1 hr2 _; have := dp_pos W (U_mem_th' W hr2); omega
   | succ k ih =>
    intro r hr hr1 hr2 hr3
    have hrt := U_mem_th W hr1
    have hd := dp_th W hrt
    rcases (U_up W hrt).1 hr2 with e | e
    ·exact absurd e hr3
    ·by_cases e2 : y = ps T r
     ·exact ⟨r, hr1, e2.symm⟩
     ·have p0 : ps T r ≠ 0 := fun e3 => by rw [e3, U_zero] at e; simp at e
      exact ih (ps T r) (by omega) (U_trans W hr1 (U_ps W hrt p0)) e e2
  exact key _ s (Nat.le_refl _) (U_self W (U_mem_th' W hy)) hy hne
 have hmeth := U_mem_th W X2.mu
 have mth := U_mem_th W mt
 have met_t : met ∈ U T (i + 1) := by
  rcases U_cmp' W X2.mu mu with q | q
  ·exact U_trans W mt q
  ·by_cases e : m + 1 = met
   ·rw [← e]; exact mt
   ·obtain ⟨y, hy1, hy2⟩ := down met (m + 1) q e
    have k1 := X2.mc y hy1 (by rw [hy2]; omega)
    rw [hy2] at k1
    by_cases e3 : m + 1 = i + 1
    ·have := X1.pn0
     rw [e3] at k1; rw [k1] at this
     have := (U_mem_th W hy1).1; omega
    ·obtain ⟨z, hz1, hz2⟩ := down (i + 1) (m + 1) mt e3
     have k2 := X1.chain z hz1 (by rw [hz2]; omega)
     rw [hz2] at k2
     have e4 : y = z := k1.symm.trans k2
     rw [← e4] at hz1
     have k3 := low y hz1 (U_trans W X2.mu hy1)
     rw [← hy2] at k3
     exact absurd k3 (ps_notin W (U_mem_th W hy1))
 have met_m := low met met_t X2.mu
 have em : met = m + 1 := by
  rcases X2.m1 with e | ⟨y, hy1, hy2, hy3⟩
  ·rw [e] at met_m ⊢; exact U_anti W met_m mu
  ·refine Classical.byContradiction fun ne => hy3 ?_
   have hyt := U_mem_th W hy1
   have yt : y ∈ U T (i + 1) := by
    rcases U_cmp' W mu hy1 with q | q
    ·rcases (U_up W hyt).1 q with k | k
     ·rw [← k]; exact mt
     ·rw [hy2] at k; exact absurd (U_anti W met_m k) ne
    ·exact U_trans W mt q
   have := X1.chain y yt (by rw [hy2]; have := hmeth.1; omega)
   rw [hy2] at this; exact this
 rw [Tr.lcaI, T.upI_nat, T.upI_nat, hm.lca, em]; omega
set_option maxHeartbeats 4000000 in
theorem lcaN {p g n cap room : Nat} {T : Tr} {S : Ss} {G : Gh} {w : World} {x y : Int} (h : Pool w p g n cap room S) (L : Lc S n T G) (hs : T.sameI x y = false) :
  Calls Try.prog 45 #[zp p 0, zi x, zi y] w fun e w' => e = .returned (zi (-1)) /\ Keep [g] w w' /\ ∃ S1 G1, Pool w' p g n cap room S1 /\ Lc S1 n T G1 := by
 have PH := hide h
 have KP := hide (Keep.refl [g] w)
 have LH := hide L
 clear h L
 go_enter Try.func45, Try.ntmps45
 go_wp2_with fail
 refine (sameLit (unhide PH) (unhide LH) (hs)).mono ?_
 rintro e W1 ⟨rfl, Q1, S1, G1, P1, L1⟩
 have Q2 := hide ((unhide KP).tr Q1)
 clear PH KP Q1
 have PH := hide P1
 have KP := Q2
 clear Q2 P1
 go_wp2
 refine bodyPost_ret (v := zi (-1)) (by simp [results, Try.results45, go_sem, *]) rfl ⟨rfl, unhide KP, S1, G1, unhide PH, L1⟩
set_option maxHeartbeats 4000000 in
theorem lcaY {p g n cap room : Nat} {T : Tr} {S : Ss} {G : Gh} {w : World} {i j t u : Nat} (h : Pool w p g n cap room S) (L : Lc S n T G) (hi : Th T t) (hit : t = i + 1) (hj : Th T u) (hju : u = j + 1) (hs : T.sameI (i : Int) (j : Int) = true) :
  Calls Try.prog 45 #[zp p 0, zi i, zi j] w fun e w' => e = .returned (zi (T.lcaI (i : Int) (j : Int))) /\ Keep [g] w w' /\ ∃ S1 G1, Pool w' p g n cap room S1 /\ Lc S1 n T G1 := by
 have PH := hide h
 have KP := hide (Keep.refl [g] w)
 have LH := hide L
 clear h L
 have lt1 := (unhide LH).lt t hi
 have e1 : (0 : Int) <= (t : Int) := by omega
 have e2 : (t : Int) < (n : Int) := by omega
 have t1 := hi.1
 have e5 : ¬ (t : Int) = 0 := by omega
 have e6 : ¬ t = 0 := by omega
 have HT := hide hi
 have HI := hide hit
 clear hi hit t1
 have lt2 := (unhide LH).lt u hj
 have e3 : (0 : Int) <= (u : Int) := by omega
 have e4 : (u : Int) < (n : Int) := by omega
 have HU := hide hj
 have HJ := hide hju
 clear hj hju
 have HSM := hide hs
 clear hs
 go_enter Try.func45, Try.ntmps45
 go_wp2_with fail
 refine (sameLit (unhide PH) (unhide LH) (unhide HSM)).mono ?_
 rintro e W1 ⟨rfl, Q1, S1, G1, P1, L1⟩
 have Q2 := hide ((unhide KP).tr Q1)
 clear PH KP Q1
 have PH := hide P1
 have KP := Q2
 clear Q2 P1
 go_wp2_with fail
 refine (findY (unhide PH) L1 (unhide HT) (unhide HI)).mono ?_
 rintro e W2 ⟨rfl, Q1, P1⟩
 have Q2 := hide ((unhide KP).tr Q1)
 clear PH KP Q1
 have PH := hide P1
 have KP := Q2
 clear Q2 P1
 go_wp2_with fail
 refine (exposeL (unhide PH) L1 (unhide HT)).mono ?_
 rintro e W3 ⟨met2, rfl, Q1, S2, G2, P1, L2, X2⟩
 have Q2 := hide ((unhide KP).tr Q1)
 clear PH KP Q1
 have PH := hide P1
 have KP := Q2
 clear Q2 P1
 go_wp2_with fail
 refine (findY (unhide PH) L2 (unhide HU) (unhide HJ)).mono ?_
 rintro e W4 ⟨rfl, Q1, P1⟩
 have Q2 := hide ((unhide KP).tr Q1)
 clear PH KP Q1
 have PH := hide P1
 have KP := Q2
 clear Q2 P1
 go_wp2_with fail
 refine (exposeL (unhide PH) L2 (unhide HU)).mono ?_
 rintro e W5 ⟨met3, rfl, Q1, S3, G3, P1, L3, X3⟩
 have Q2 := hide ((unhide KP).tr Q1)
 clear PH KP Q1
 have PH := hide P1
 have KP := Q2
 clear Q2 P1
 have lm := L3.lt _ (U_mem_th L3.wf X3.mu)
 have nnn := L3.nn
 have hTn := L3.ft.n
 have w1 : IntKind.i64.wrap ((met3 : Int) - 1) = (met3 : Int) - 1 := IntWalk.i64_in _ (by omega)
 go_wp2
 have hl := lca_met L3.wf X2 X3 (unhide HT) (unhide HU) (unhide HI) (unhide HJ) (unhide HSM)
 refine bodyPost_ret (v := zi ((met3 : Int) - 1)) (by simp [results, Try.results45, go_sem, *]) rfl ⟨by rw [hl], unhide KP, S3, G3, unhide PH, L3⟩
set_option maxHeartbeats 4000000 in
theorem wayN {p g n cap room : Nat} {T : Tr} {S : Ss} {G : Gh} {w : World} {x y : Int} (h : Pool w p g n cap room S) (L : Lc S n T G) (hs : T.sameI x y = false) :
  Calls Try.prog 64 #[zp p 0, zi x, zi y] w fun e w' => e = .returned (zi 0) /\ Keep [g] w w' /\ ∃ S1 G1, Pool w' p g n cap room S1 /\ Lc S1 n T G1 := by
 have PH := hide h
 have KP := hide (Keep.refl [g] w)
 have LH := hide L
 clear h L
 go_enter Try.func64, Try.ntmps64
 go_wp2_with fail
 refine (sameLit (unhide PH) (unhide LH) (hs)).mono ?_
 rintro e W1 ⟨rfl, Q1, S1, G1, P1, L1⟩
 have Q2 := hide ((unhide KP).tr Q1)
 clear PH KP Q1
 have PH := hide P1
 have KP := Q2
 clear Q2 P1
 go_wp2
 refine bodyPost_ret (v := zi 0) (by simp [results, Try.results64, go_sem, *]) rfl ⟨rfl, unhide KP, S1, G1, unhide PH, L1⟩
set_option maxHeartbeats 4000000 in
theorem wayY {p g n cap room : Nat} {T : Tr} {S : Ss} {G : Gh} {w : World} {i j t u : Nat} (h : Pool w p g n cap room S) (L : Lc S n T G) (hi : Th T t) (hit : t = i + 1) (hj : Th T u) (hju : u = j + 1) (hs : T.sameI (i : Int) (j : Int) = true) :
  Calls Try.prog 64 #[zp p 0, zi i, zi j] w fun e w' => e = .returned (zi u) /\ Keep [g] w w' /\ ∃ S1 G1, Pool w' p g n cap room S1 /\ Pth S1 n (T.evert i) G1 u := by
 have PH := hide h
 have KP := hide (Keep.refl [g] w)
 have LH := hide L
 clear h L
 have lt1 := (unhide LH).lt t hi
 have e1 : (0 : Int) <= (t : Int) := by omega
 have e2 : (t : Int) < (n : Int) := by omega
 have t1 := hi.1
 have e5 : ¬ (t : Int) = 0 := by omega
 have e6 : ¬ t = 0 := by omega
 have HT := hide hi
 have HI := hide hit
 clear hi hit t1
 have lt2 := (unhide LH).lt u hj
 have e3 : (0 : Int) <= (u : Int) := by omega
 have e4 : (u : Int) < (n : Int) := by omega
 have HU := hide hj
 have HJ := hide hju
 clear hj hju
 have HSM := hide hs
 clear hs
 go_enter Try.func64, Try.ntmps64
 go_wp2_with fail
 refine (sameLit (unhide PH) (unhide LH) (unhide HSM)).mono ?_
 rintro e W1 ⟨rfl, Q1, S1, G1, P1, L1⟩
 have Q2 := hide ((unhide KP).tr Q1)
 clear PH KP Q1
 have PH := hide P1
 have KP := Q2
 clear Q2 P1
 go_wp2_with fail
 refine (evertY (unhide PH) L1 (unhide HT) (unhide HI)).mono ?_
 rintro e W2 ⟨rfl, Q1, S2, G2, P1, L2⟩
 have Q2 := hide ((unhide KP).tr Q1)
 clear PH KP Q1
 have PH := hide P1
 have KP := Q2
 clear Q2 P1
 have HU2 := hide ((th_evert (unhide LH).wf (v := i) (by have q := (unhide HT).2; rw [unhide HI] at q; simpa using q)).2 (unhide HU))
 go_wp2_with fail
 refine (findY (unhide PH) L2 (unhide HU2) (unhide HJ)).mono ?_
 rintro e W3 ⟨rfl, Q1, P1⟩
 have Q2 := hide ((unhide KP).tr Q1)
 clear PH KP Q1
 have PH := hide P1
 have KP := Q2
 clear Q2 P1
 go_wp2_with fail
 refine (exposeL (unhide PH) L2 (unhide HU2)).mono ?_
 rintro e W4 ⟨met3, rfl, Q1, S3, G3, P1, L3, X3⟩
 have Q2 := hide ((unhide KP).tr Q1)
 clear PH KP Q1
 have PH := hide P1
 have KP := Q2
 clear Q2 P1
 go_wp2_with fail
 refine (findY (unhide PH) L3 (unhide HU2) (unhide HJ)).mono ?_
 rintro e W5 ⟨rfl, Q1, P1⟩
 have Q2 := hide ((unhide KP).tr Q1)
 clear PH KP Q1
 have PH := hide P1
 have KP := Q2
 clear Q2 P1
 go_wp2
 refine bodyPost_ret (v := zi u) (by simp [results, Try.results64, go_sem, *]) rfl ⟨rfl, unhide KP, S3, G3, unhide PH, X3.pth L3 (unhide HU2)⟩
set_option maxHeartbeats 4000000 in
theorem linkN1 {p g n cap room : Nat} {T : Tr} {S : Ss} {G : Gh} {w : World} {x y : Int} (h : Pool w p g n cap room S) (L : Lc S n T G) (hx : T.hasI x = false) :
  Calls Try.prog 21 #[zp p 0, zi x, zi y] w fun e w' => e = .returned (.bool false) /\ Keep [g] w w' /\ Pool w' p g n cap room S := by
 have PH := hide h
 have KP := hide (Keep.refl [g] w)
 have LH := hide L
 clear h L
 go_enter Try.func21, Try.ntmps21
 go_wp2_with fail
 refine (hasN (unhide PH) (unhide LH) hx).mono ?_
 rintro e W1 ⟨rfl, Q1, P1⟩
 have Q2 := hide ((unhide KP).tr Q1)
 clear PH KP Q1
 have PH := hide P1
 have KP := Q2
 clear Q2 P1
 go_wp2
 refine bodyPost_ret (v := .bool false) (by simp [results, Try.results21, go_sem, *]) rfl ⟨rfl, unhide KP, unhide PH⟩
set_option maxHeartbeats 4000000 in
theorem linkN2 {p g n cap room : Nat} {T : Tr} {S : Ss} {G : Gh} {w : World} {i t : Nat} {y : Int} (h : Pool w p g n cap room S) (L : Lc S n T G) (hi : Th T t) (hit : t = i + 1) (hp : ¬ ps T t = 0) :
  Calls Try.prog 21 #[zp p 0, zi i, zi y] w fun e w' => e = .returned (.bool false) /\ Keep [g] w w' /\ ∃ S1 G1, Pool w' p g n cap room S1 /\ Lc S1 n T G1 := by
 have PH := hide h
 have KP := hide (Keep.refl [g] w)
 have LH := hide L
 clear h L
 have lt1 := (unhide LH).lt t hi
 have e1 : (0 : Int) <= (t : Int) := by omega
 have e2 : (t : Int) < (n : Int) := by omega
 have t1 := hi.1
 have e5 : ¬ (t : Int) = 0 := by omega
 have e6 : ¬ t = 0 := by omega
 have HT := hide hi
 have HI := hide hit
 clear hi hit t1
 have HP := hide hp
 clear hp
 go_enter Try.func21, Try.ntmps21
 go_wp2_with fail
 refine (hasY (unhide PH) (unhide LH) (unhide HT) (unhide HI)).mono ?_
 rintro e W1 ⟨rfl, Q1, P1⟩
 have Q2 := hide ((unhide KP).tr Q1)
 clear PH KP Q1
 have PH := hide P1
 have KP := Q2
 clear Q2 P1
 go_wp2_with fail
 refine (findY (unhide PH) (unhide LH) (unhide HT) (unhide HI)).mono ?_
 rintro e W2 ⟨rfl, Q1, P1⟩
 have Q2 := hide ((unhide KP).tr Q1)
 clear PH KP Q1
 have PH := hide P1
 have KP := Q2
 clear Q2 P1
 go_wp2_with fail
 refine (isRootL (unhide PH) (unhide LH) (unhide HT)).mono ?_
 rintro e W3 ⟨Q1, met1, S1, G1, rfl, P1, L1, X1⟩
 have Q2 := hide ((unhide KP).tr Q1)
 clear PH KP Q1
 have PH := hide P1
 have KP := Q2
 clear Q2 P1
 have EP1 := X1.pth L1 (unhide HT)
 have l0i : (((S1 t).l : Int) == 0) = false := root_l1 EP1 (unhide HP)
 rw [l0i] at ⊢
 clear l0i
 go_wp2
 refine bodyPost_ret (v := .bool false) (by simp [results, Try.results21, go_sem, *]) rfl ⟨rfl, unhide KP, S1, G1, unhide PH, L1⟩
set_option maxHeartbeats 4000000 in
theorem linkN3 {p g n cap room : Nat} {T : Tr} {S : Ss} {G : Gh} {w : World} {i t : Nat} {y : Int} (h : Pool w p g n cap room S) (L : Lc S n T G) (hi : Th T t) (hit : t = i + 1) (hp : ps T t = 0) (hy : T.hasI y = false) :
  Calls Try.prog 21 #[zp p 0, zi i, zi y] w fun e w' => e = .returned (.bool false) /\ Keep [g] w w' /\ ∃ S1 G1, Pool w' p g n cap room S1 /\ Lc S1 n T G1 := by
 have PH := hide h
 have KP := hide (Keep.refl [g] w)
 have LH := hide L
 clear h L
 have lt1 := (unhide LH).lt t hi
 have e1 : (0 : Int) <= (t : Int) := by omega
 have e2 : (t : Int) < (n : Int) := by omega
 have t1 := hi.1
 have e5 : ¬ (t : Int) = 0 := by omega
 have e6 : ¬ t = 0 := by omega
 have HT := hide hi
 have HI := hide hit
 clear hi hit t1
 have HP := hide hp
 clear hp
 go_enter Try.func21, Try.ntmps21
 go_wp2_with fail
 refine (hasY (unhide PH) (unhide LH) (unhide HT) (unhide HI)).mono ?_
 rintro e W1 ⟨rfl, Q1, P1⟩
 have Q2 := hide ((unhide KP).tr Q1)
 clear PH KP Q1
 have PH := hide P1
 have KP := Q2
 clear Q2 P1
 go_wp2_with fail
 refine (findY (unhide PH) (unhide LH) (unhide HT) (unhide HI)).mono ?_
 rintro e W2 ⟨rfl, Q1, P1⟩
 have Q2 := hide ((unhide KP).tr Q1)
 clear PH KP Q1
 have PH := hide P1
 have KP := Q2
 clear Q2 P1
 go_wp2_with fail
 refine (isRootL (unhide PH) (unhide LH) (unhide HT)).mono ?_
 rintro e W3 ⟨Q1, met1, S1, G1, rfl, P1, L1, X1⟩
 have Q2 := hide ((unhide KP).tr Q1)
 clear PH KP Q1
 have PH := hide P1
 have KP := Q2
 clear Q2 P1
 have EP1 := X1.pth L1 (unhide HT)
 have l0 : ((S1 t).l : Int) = 0 := root_l0 EP1 (unhide HP)
 rw [show (((S1 t).l : Int) == 0) = true from by rw [l0]; rfl] at ⊢
 clear l0
 go_wp2_with fail
 refine (hasN (unhide PH) L1 hy).mono ?_
 rintro e W4 ⟨rfl, Q1, P1⟩
 have Q2 := hide ((unhide KP).tr Q1)
 clear PH KP Q1
 have PH := hide P1
 have KP := Q2
 clear Q2 P1
 go_wp2
 refine bodyPost_ret (v := .bool false) (by simp [results, Try.results21, go_sem, *]) rfl ⟨rfl, unhide KP, S1, G1, unhide PH, L1⟩
set_option maxHeartbeats 4000000 in
theorem linkN4 {p g n cap room : Nat} {T : Tr} {S : Ss} {G : Gh} {w : World} {i j t u : Nat} (h : Pool w p g n cap room S) (L : Lc S n T G) (hi : Th T t) (hit : t = i + 1) (hp : ps T t = 0) (hj : Th T u) (hju : u = j + 1) (hs : T.sameI (i : Int) (j : Int) = true) :
  Calls Try.prog 21 #[zp p 0, zi i, zi j] w fun e w' => e = .returned (.bool false) /\ Keep [g] w w' /\ ∃ S1 G1, Pool w' p g n cap room S1 /\ Lc S1 n T G1 := by
 have PH := hide h
 have KP := hide (Keep.refl [g] w)
 have LH := hide L
 clear h L
 have lt1 := (unhide LH).lt t hi
 have e1 : (0 : Int) <= (t : Int) := by omega
 have e2 : (t : Int) < (n : Int) := by omega
 have t1 := hi.1
 have e5 : ¬ (t : Int) = 0 := by omega
 have e6 : ¬ t = 0 := by omega
 have HT := hide hi
 have HI := hide hit
 clear hi hit t1
 have lt2 := (unhide LH).lt u hj
 have e3 : (0 : Int) <= (u : Int) := by omega
 have e4 : (u : Int) < (n : Int) := by omega
 have HU := hide hj
 have HJ := hide hju
 clear hj hju
 have HP := hide hp
 clear hp
 have HSM := hide hs
 clear hs
 go_enter Try.func21, Try.ntmps21
 go_wp2_with fail
 refine (hasY (unhide PH) (unhide LH) (unhide HT) (unhide HI)).mono ?_
 rintro e W1 ⟨rfl, Q1, P1⟩
 have Q2 := hide ((unhide KP).tr Q1)
 clear PH KP Q1
 have PH := hide P1
 have KP := Q2
 clear Q2 P1
 go_wp2_with fail
 refine (findY (unhide PH) (unhide LH) (unhide HT) (unhide HI)).mono ?_
 rintro e W2 ⟨rfl, Q1, P1⟩
 have Q2 := hide ((unhide KP).tr Q1)
 clear PH KP Q1
 have PH := hide P1
 have KP := Q2
 clear Q2 P1
 go_wp2_with fail
 refine (isRootL (unhide PH) (unhide LH) (unhide HT)).mono ?_
 rintro e W3 ⟨Q1, met1, S1, G1, rfl, P1, L1, X1⟩
 have Q2 := hide ((unhide KP).tr Q1)
 clear PH KP Q1
 have PH := hide P1
 have KP := Q2
 clear Q2 P1
 have EP1 := X1.pth L1 (unhide HT)
 have l0 : ((S1 t).l : Int) = 0 := root_l0 EP1 (unhide HP)
 rw [show (((S1 t).l : Int) == 0) = true from by rw [l0]; rfl] at ⊢
 clear l0
 go_wp2_with fail
 refine (hasY (unhide PH) L1 (unhide HU) (unhide HJ)).mono ?_
 rintro e W4 ⟨rfl, Q1, P1⟩
 have Q2 := hide ((unhide KP).tr Q1)
 clear PH KP Q1
 have PH := hide P1
 have KP := Q2
 clear Q2 P1
 go_wp2_with fail
 refine (sameLit (unhide PH) L1 (unhide HSM)).mono ?_
 rintro e W5 ⟨rfl, Q1, S2, G2, P1, L2⟩
 have Q2 := hide ((unhide KP).tr Q1)
 clear PH KP Q1
 have PH := hide P1
 have KP := Q2
 clear Q2 P1
 go_wp2
 refine bodyPost_ret (v := .bool false) (by simp [results, Try.results21, go_sem, *]) rfl ⟨rfl, unhide KP, S2, G2, unhide PH, L2⟩
set_option maxHeartbeats 4000000 in
theorem linkY {p g n cap room : Nat} {T : Tr} {S : Ss} {G : Gh} {w : World} {i j t u : Nat} (h : Pool w p g n cap room S) (L : Lc S n T G) (hi : Th T t) (hit : t = i + 1) (hp : ps T t = 0) (hj : Th T u) (hju : u = j + 1) (hs : T.sameI (i : Int) (j : Int) = false) :
  Calls Try.prog 21 #[zp p 0, zi i, zi j] w fun e w' => e = .returned (.bool true) /\ Keep [g] w w' /\ ∃ S1 G1, Pool w' p g n cap room S1 /\ Lc S1 n (T.link i j) G1 := by
 have PH := hide h
 have KP := hide (Keep.refl [g] w)
 have LH := hide L
 clear h L
 have lt1 := (unhide LH).lt t hi
 have e1 : (0 : Int) <= (t : Int) := by omega
 have e2 : (t : Int) < (n : Int) := by omega
 have t1 := hi.1
 have e5 : ¬ (t : Int) = 0 := by omega
 have e6 : ¬ t = 0 := by omega
 have HT := hide hi
 have HI := hide hit
 clear hi hit t1
 have lt2 := (unhide LH).lt u hj
 have e3 : (0 : Int) <= (u : Int) := by omega
 have e4 : (u : Int) < (n : Int) := by omega
 have HU := hide hj
 have HJ := hide hju
 clear hj hju
 have HP := hide hp
 clear hp
 have HSM := hide hs
 clear hs
 go_enter Try.func21, Try.ntmps21
 go_wp2_with fail
 refine (hasY (unhide PH) (unhide LH) (unhide HT) (unhide HI)).mono ?_
 rintro e W1 ⟨rfl, Q1, P1⟩
 have Q2 := hide ((unhide KP).tr Q1)
 clear PH KP Q1
 have PH := hide P1
 have KP := Q2
 clear Q2 P1
 go_wp2_with fail
 refine (findY (unhide PH) (unhide LH) (unhide HT) (unhide HI)).mono ?_
 rintro e W2 ⟨rfl, Q1, P1⟩
 have Q2 := hide ((unhide KP).tr Q1)
 clear PH KP Q1
 have PH := hide P1
 have KP := Q2
 clear Q2 P1
 go_wp2_with fail
 refine (isRootL (unhide PH) (unhide LH) (unhide HT)).mono ?_
 rintro e W3 ⟨Q1, met1, S1, G1, rfl, P1, L1, X1⟩
 have Q2 := hide ((unhide KP).tr Q1)
 clear PH KP Q1
 have PH := hide P1
 have KP := Q2
 clear Q2 P1
 have EP1 := X1.pth L1 (unhide HT)
 have l0 : ((S1 t).l : Int) = 0 := root_l0 EP1 (unhide HP)
 rw [show (((S1 t).l : Int) == 0) = true from by rw [l0]; rfl] at ⊢
 clear l0
 go_wp2_with fail
 refine (hasY (unhide PH) L1 (unhide HU) (unhide HJ)).mono ?_
 rintro e W4 ⟨rfl, Q1, P1⟩
 have Q2 := hide ((unhide KP).tr Q1)
 clear PH KP Q1
 have PH := hide P1
 have KP := Q2
 clear Q2 P1
 have hij : ¬ i = j := fun e => by
  have q := sameI_there L1.wf (i := i) (by rw [← unhide HI]; exact unhide HT)
  have q2 := unhide HSM
  rw [← e, q] at q2; simp at q2
 go_wp2_with fail
 refine (sameNe (unhide PH) L1 (unhide HT) (unhide HI) (unhide HU) (unhide HJ) hij).mono ?_
 rintro e W5 ⟨met2, met3, S2, G2, S3, G3, rfl, Q1, P1, L2, L3, X2, X3⟩
 have Q2 := hide ((unhide KP).tr Q1)
 clear PH KP Q1
 have PH := hide P1
 have KP := Q2
 clear Q2 P1
 have su := same_up L2 L3 X2 X3 (unhide HT) (unhide HU) (by have := unhide HI; have := unhide HJ; omega)
 rw [show t - 1 = i by have := unhide HI; omega, show u - 1 = j by have := unhide HJ; omega, unhide HSM] at su
 clear hij
 rw [su] at ⊢
 have HSU := hide su
 clear su
 go_wp2_with fail
 refine (findY (unhide PH) L3 (unhide HT) (unhide HI)).mono ?_
 rintro e W6 ⟨rfl, Q1, P1⟩
 have Q2 := hide ((unhide KP).tr Q1)
 clear PH KP Q1
 have PH := hide P1
 have KP := Q2
 clear Q2 P1
 go_wp2_with fail
 refine (findY (unhide PH) L3 (unhide HU) (unhide HJ)).mono ?_
 rintro e W7 ⟨rfl, Q1, P1⟩
 have Q2 := hide ((unhide KP).tr Q1)
 clear PH KP Q1
 have PH := hide P1
 have KP := Q2
 clear Q2 P1
 have EP3 := X3.pth L3 (unhide HU)
 have fc : G2.fi t = t := by
  have q := L2.fi_in (unhide HT)
  rw [U_th L2.wf (unhide HT), unhide HP, U_zero] at q; simpa using q
 have hne : t ∉ U T u := fun q => by
  have r2 := X2.pth L2 (unhide HT) |>.rootI
  have r3 := root_of (r := t) L3.wf (v := j) (by have k := (unhide HU).2; rw [unhide HJ] at k; simpa using k) (by rw [← unhide HJ]; exact q) (unhide HP)
  rw [fc, show t - 1 = i by have := unhide HI; omega] at r2
  have k := unhide HSM
  unfold Tr.sameI at k
  rw [r2, r3] at k
  have := (unhide HT).1
  simp at k; omega
 obtain ⟨b1, b2, b3, _⟩ := X3.out t (unhide HT) X2.top (by rw [fc]; exact hne)
 have c0 : (S3 t).up = 0 := by rw [b2]; exact X2.up0
 have f3 : G3.fi t = t := by rw [b3]; exact fc
 clear fc b2 b3
 go_wp2_with fail
 refine (attachL (unhide PH) EP3 (unhide HT) b1 c0 f3 hne).mono ?_
 rintro e W8 ⟨rfl, Q1, P1, L4⟩
 have Q2 := hide ((unhide KP).tr Q1)
 clear PH KP Q1
 have PH := hide P1
 have KP := Q2
 clear Q2 P1
 rw [show t - 1 = i by have := unhide HI; omega, show u - 1 = j by have := unhide HJ; omega] at L4
 go_wp2
 refine bodyPost_ret (v := .bool true) (by simp [results, Try.results21, go_sem, *]) rfl ⟨rfl, unhide KP, _, G3, unhide PH, L4⟩
set_option maxHeartbeats 4000000 in
theorem setN1 {p g n cap room : Nat} {T : Tr} {S : Ss} {G : Gh} {w : World} {x y : Int} (h : Pool w p g n cap room S) (L : Lc S n T G) (hx : T.hasI x = false) :
  Calls Try.prog 27 #[zp p 0, zi x, zi y] w fun e w' => e = .returned (.bool false) /\ Keep [g] w w' /\ Pool w' p g n cap room S := by
 have PH := hide h
 have KP := hide (Keep.refl [g] w)
 have LH := hide L
 clear h L
 go_enter Try.func27, Try.ntmps27
 go_wp2_with fail
 refine (findN (unhide PH) (unhide LH) hx).mono ?_
 rintro e W1 ⟨rfl, Q1, P1⟩
 have Q2 := hide ((unhide KP).tr Q1)
 clear PH KP Q1
 have PH := hide P1
 have KP := Q2
 clear Q2 P1
 go_wp2
 refine bodyPost_ret (v := .bool false) (by simp [results, Try.results27, go_sem, *]) rfl ⟨rfl, unhide KP, unhide PH⟩
theorem fitsK {p g n cap room : Nat} {S : Ss} {w : World} (h : Pool w p g n cap room S) {y : Int} {b : Bool} (hy : fitB y = b) :
  Calls Try.prog 52 #[zi y] w fun e w' => e = .returned (.bool b) /\ Keep [g] w w' /\ Pool w' p g n cap room S := by
 refine (fits_any y w).mono ?_
 rintro e w' ⟨rfl, hw⟩
 rw [hy]
 exact ⟨rfl, by rw [hw]; exact Keep.refl _ _, by rw [hw]; exact h⟩
set_option maxHeartbeats 4000000 in
theorem setN2 {p g n cap room : Nat} {T : Tr} {S : Ss} {G : Gh} {w : World} {i t : Nat} {y : Int} (h : Pool w p g n cap room S) (L : Lc S n T G) (hi : Th T t) (hit : t = i + 1) (hf : fitB y = false) :
  Calls Try.prog 27 #[zp p 0, zi i, zi y] w fun e w' => e = .returned (.bool false) /\ Keep [g] w w' /\ Pool w' p g n cap room S := by
 have PH := hide h
 have KP := hide (Keep.refl [g] w)
 have LH := hide L
 clear h L
 have lt1 := (unhide LH).lt t hi
 have e1 : (0 : Int) <= (t : Int) := by omega
 have e2 : (t : Int) < (n : Int) := by omega
 have t1 := hi.1
 have e5 : ¬ (t : Int) = 0 := by omega
 have e6 : ¬ t = 0 := by omega
 have HT := hide hi
 have HI := hide hit
 clear hi hit t1
 have HF := hide hf
 clear hf
 go_enter Try.func27, Try.ntmps27
 go_wp2_with fail
 refine (findY (unhide PH) (unhide LH) (unhide HT) (unhide HI)).mono ?_
 rintro e W1 ⟨rfl, Q1, P1⟩
 have Q2 := hide ((unhide KP).tr Q1)
 clear PH KP Q1
 have PH := hide P1
 have KP := Q2
 clear Q2 P1
 go_wp2_with fail
 refine (fitsK (unhide PH) (unhide HF)).mono ?_
 rintro e W2 ⟨rfl, Q1, P1⟩
 have Q2 := hide ((unhide KP).tr Q1)
 clear PH KP Q1
 have PH := hide P1
 have KP := Q2
 clear Q2 P1
 go_wp2
 refine bodyPost_ret (v := .bool false) (by simp [results, Try.results27, go_sem, *]) rfl ⟨rfl, unhide KP, unhide PH⟩
set_option maxHeartbeats 4000000 in
theorem setY {p g n cap room : Nat} {T : Tr} {S : Ss} {G : Gh} {w : World} {i t : Nat} {y : Int} (h : Pool w p g n cap room S) (L : Lc S n T G) (hi : Th T t) (hit : t = i + 1) (hf : fitB y = true) :
  Calls Try.prog 27 #[zp p 0, zi i, zi y] w fun e w' => e = .returned (.bool true) /\ Keep [g] w w' /\ ∃ S1 G1, Pool w' p g n cap room S1 /\ Lc S1 n (T.set i y) G1 := by
 have PH := hide h
 have KP := hide (Keep.refl [g] w)
 have LH := hide L
 clear h L
 have lt1 := (unhide LH).lt t hi
 have e1 : (0 : Int) <= (t : Int) := by omega
 have e2 : (t : Int) < (n : Int) := by omega
 have t1 := hi.1
 have e5 : ¬ (t : Int) = 0 := by omega
 have e6 : ¬ t = 0 := by omega
 have HT := hide hi
 have HI := hide hit
 clear hi hit t1
 have HF := hide hf
 clear hf
 refine callsK (n := 32) (L := [(0, zp p 0), (1, zi i), (2, zi y)]) Try.func27 rfl Try.ntmps27 rfl rfl (fun a0 K0 => ?_)
 refine seqR ?_
 refine lC K0 fun a1 K1 => ?_
 refine nilN ?_
 refine seqR ?_
 refine lM K1 fun a2 K2 => ?_
 clear K1
 refine lM K2 fun a3 K3 => ?_
 clear K2
 refine lcall (f := 58) (args := #[zp p 0, zi i]) K3 rfl rfl (want_none rfl) (fun ev E => ?_) (findY (unhide PH) (unhide LH) (unhide HT) (unhide HI)) (fun e W4 hR => ?_)
 ·have EF := E.func; have E8 := E.tmp 8 _ rfl; have E9 := E.tmp 9 _ rfl; clear E; clear PH KP LH HT HI HF; go_simp
 obtain ⟨rfl, Q1, P1⟩ := hR
 have Q2 := hide ((unhide KP).tr Q1)
 clear PH KP Q1
 have PH := hide P1
 have KP := Q2
 clear Q2 P1
 refine ⟨_, rfl, fun a5 K5 => ?_⟩
 clear K3
 refine lA K5 fun a6 K6 => ?_
 clear K5
 refine nilN ?_
 refine seqN ?_
 refine seqR ?_
 refine lM K6 fun a7 K7 => ?_
 clear K6
 refine lT (.bool false) W4 K7 (want_none rfl) (fun ev E => ?_) fun a8 K8 => ?_
 ·have EC := E.const; have E11 := E.tmp 11 _ rfl; clear E; clear PH KP LH HT HI HF; go_simp
 clear K7
 refine lM K8 fun a9 K9 => ?_
 clear K8
 refine lmv K9 rfl rfl (want_some K9 rfl rfl rfl) rfl rfl (fun a10 K10 => ?_)
 clear K9
 refine lcall (f := 52) (args := #[zi y]) K10 rfl rfl (want_some K10 rfl rfl rfl) (fun ev E => ?_) (fitsK (unhide PH) (unhide HF)) (fun e W11 hR => ?_)
 ·have EF := E.func; have E14 := E.tmp 14 _ rfl; clear E; clear PH KP LH HT HI HF; go_simp
 obtain ⟨rfl, Q1, P1⟩ := hR
 have Q2 := hide ((unhide KP).tr Q1)
 clear PH KP Q1
 have PH := hide P1
 have KP := Q2
 clear Q2 P1
 refine ⟨_, rfl, fun a12 K12 => ?_⟩
 clear K10
 refine lT (.bool false) W11 K12 (want_some K12 rfl rfl rfl) (fun ev E => ?_) fun a13 K13 => ?_
 ·have E15 := E.tmp 15 _ rfl; clear E; clear PH KP LH HT HI HF; go_simp
 clear K12
 refine lT (.bool false) W11 K13 (want_none rfl) (fun ev E => ?_) fun a14 K14 => ?_
 ·have EC := E.const; have E13 := E.tmp 13 _ rfl; have E16 := E.tmp 16 _ rfl; clear E; clear PH KP LH HT HI HF; go_simp
 clear K13
 refine nilN ?_
 refine knCond (b := false) K14 rfl ?_
 refine wp_skip ?_
 show Code.wp _ _ _ _ _
 refine seqR ?_
 refine lM K14 fun a15 K15 => ?_
 clear K14
 refine lM K15 fun a16 K16 => ?_
 clear K15
 refine lcall (f := 61) (args := #[zp p 0, zi t]) K16 rfl rfl (want_none rfl) (fun ev E => ?_) (exposeL (unhide PH) (unhide LH) (unhide HT)) (fun e W17 hR => ?_)
 ·have EF := E.func; have E18 := E.tmp 18 _ rfl; have E19 := E.tmp 19 _ rfl; clear E; clear PH KP LH HT HI HF; go_simp
 obtain ⟨met1, rfl, Q1, S1, G1, P1, L1, X1⟩ := hR
 have Q2 := hide ((unhide KP).tr Q1)
 clear PH KP Q1
 have PH := hide P1
 have KP := Q2
 clear Q2 P1
 refine ⟨_, rfl, fun a18 K18 => ?_⟩
 clear K16
 refine nilN ?_
 refine seqR ?_
 refine lM K18 fun a19 K19 => ?_
 clear K18
 refine lN K19 fun a20 K20 => ?_
 clear K19
 refine lF K20 FA66_1 fun a21 K21 => ?_
 clear K20
 refine lT (.slice (some ⟨g, 0, none⟩) n cap) W17 K21 (want_none rfl) (fun ev E => ?_) fun a22 K22 => ?_
 ·obtain ⟨c0, c1, _⟩ := (unhide PH).head; have E23 := E.tmp 23 _ rfl; clear E; clear PH KP LH HT HI HF L1 X1; go_simp
 clear K21
 refine lM K22 fun a23 K23 => ?_
 clear K22
 refine lM K23 fun a24 K24 => ?_
 clear K23
 refine lT (zp g (t * 14)) W17 K24 (want_none rfl) (fun ev E => ?_) fun a25 K25 => ?_
 ·have E24 := E.tmp 24 _ rfl; have E25 := E.tmp 25 _ rfl; clear E; clear PH KP LH HT HI HF L1 X1; go_simp
 clear K24
 refine lF K25 FA75_4 fun a26 K26 => ?_
 clear K25
 obtain ⟨_, _, _, _, sk, _, _, _, _, _, _, _, _, _⟩ := (unhide PH).slot (t := t) lt1
 obtain ⟨_, _, _, _, fk, _, _, _, _, _, _, _, _, _⟩ := (unhide PH).soft (t := t) lt1
 refine lstore (w' := W17.setCell ⟨g, t * 14 + 4, none⟩ (zi y)) K26 rfl (want_none rfl) (fun ev E => ?_) ?_
 ·have E26 := E.tmp 26 _ rfl; have E28 := E.tmp 28 _ rfl; clear E; clear PH KP LH HT HI HF L1 X1; go_simp
 clear sk fk
 have P1 := (unhide PH).put (t := t) lt1 4 (by omega) { S1 t with wt := y } (zi y) rfl
 have Q1 := (unhide KP).cellB (t * 14 + 4) (zi y)
 clear PH KP
 have PH := hide P1
 have KP := hide Q1
 clear P1 Q1
 generalize W17.setCell ⟨g, t * 14 + 4, none⟩ (zi y) = W27 at *
 obtain ⟨S2, hS2⟩ : ∃ z, z = upd S1 t { S1 t with wt := y } := ⟨_, rfl⟩
 rw [← hS2] at PH
 have HS2 := hide hS2
 clear hS2
 refine nilN ?_
 refine seqR ?_
 refine lM K26 fun a29 K29 => ?_
 clear K26
 refine lM K29 fun a30 K30 => ?_
 clear K29
 have E1 := X1.pth L1 (unhide HT)
 obtain ⟨k1, k2, k3, k4⟩ := L1.kids_lt (unhide HT)
 have bt := L1.bz t
 have hf2 : -1099511627776 <= y /\ y <= 1099511627776 := by have := unhide HF; simpa [fitB] using this
 have s2 : S2 t = { S1 t with wt := y } := by rw [unhide HS2, upd_same]
 have g2 : Gbd S2 t := gbd_of (by rw [s2, unhide HS2]; dsimp only; rw [upd_ne _ _ k3]; exact L1.bz _) (by rw [s2, unhide HS2]; dsimp only; rw [upd_ne _ _ k4]; exact L1.bz _) (by rw [s2]; exact ⟨bt.c, bt.s, bt.uc, bt.uw, bt.gc, bt.gw, hf2⟩)
 refine lcall (f := 63) (args := #[zp p 0, zi t]) K30 rfl rfl (want_none rfl) (fun ev E => ?_) (gather_any (unhide PH) lt1 (by rw [s2]; exact k1) (by rw [s2]; exact k2) (by rw [s2]; exact k3) (by rw [s2]; exact k4) g2) (fun e W31 hR => ?_)
 ·have EF := E.func; have E29 := E.tmp 29 _ rfl; have E30 := E.tmp 30 _ rfl; clear E; clear PH KP LH HT HI HF L1 X1 HS2 E1 k1 k2 k3 k4 bt hf2 s2 g2; go_simp
 obtain ⟨rfl, P1, Q1⟩ := hR
 have Q2 := hide ((unhide KP).tr Q1)
 clear PH KP Q1
 have PH := hide P1
 have KP := Q2
 clear Q2 P1
 refine ⟨_, rfl, fun a32 K32 => ?_⟩
 clear K30
 refine nilN ?_
 refine seqR ?_
 refine lC K32 fun a33 K33 => ?_
 clear K32
 refine nilN ?_
 refine wp_ret ?_
 have L2 := E1.set hf2
 have hti : t - 1 = i := by have := unhide HI; omega
 rw [hti] at L2
 have PQ := unhide PH
 rw [unhide HS2] at PQ
 refine bodyPost_ret (v := .bool true) ?_ K33.defers ⟨rfl, unhide KP, _, _, PQ, L2⟩
 have e6 := K33.has 6 _ rfl
 simp [results, Try.results27, go_sem, e6]
theorem info75 : (Try.prog.info? 75).map (fun i => (i.zero, i.size, i.bytes)) = some (some (.agg #[zi 0, zi 0, zi 0, .bool false, zi 0, zi 0, zi 0, zi 0, zi 0, zi 0, zi 0, zi 0, zi 0, zi 0]), 14, 112) := by kernel_rfl
theorem make_one (w : World) :
  (Instr.makeSlice 64 (zi 1) (zi 1)).run Try.prog w = .ok (.slice (some ⟨w.heap.size, 0, none⟩) 1 1) (w.alloc (.cells (madeCells #[zi 0, zi 0, zi 0, .bool false, zi 0, zi 0, zi 0, zi 0, zi 0, zi 0, zi 0, zi 0, zi 0, zi 0] 14) 75)) := by
 obtain ⟨i, hi, hzz⟩ := Option.map_eq_some_iff.1 info75
 simp only [Prod.mk.injEq] at hzz
 obtain ⟨hz, hs, hb⟩ := hzz
 have hr := run_make (P := Try.prog) w 64 75 i _ Try.underlying64 hi hz .i64 .i64 1 1 (by omega) (Int.le_refl _) (by rw [hb]; omega) (by omega)
 rw [hs] at hr
 exact hr
set_option maxHeartbeats 4000000 in
theorem new_any (n : Nat) (w : World) (h1 : n <= 1048576) :
  Calls Try.prog 14 #[zi n] w fun e w' => ∃ p g, e = .returned (zp p 0) /\ Pool w' p g 1 1 n (fun _ => Sl.zero) /\ Below w.heap.size w w' /\ w.heap.size <= p /\ w.heap.size <= g := by
 have h' : ¬ (n : Int) < 0 := by omega
 have h'' : ¬ 1048576 < (n : Int) := by omega
 have hmk := make_one w
 go_enter Try.func14, Try.ntmps14
 go_wp2_with fail
 refine bodyPost_ret (v := zp (w.heap.size + 1) 0) (by simp [results, Try.results14, go_sem]) rfl ⟨_, rfl, w.heap.size, ?_, ?_, by omega, by omega⟩
 ·have hm : (madeCells #[zi 0, zi 0, zi 0, .bool false, zi 0, zi 0, zi 0, zi 0, zi 0, zi 0, zi 0, zi 0, zi 0, zi 0] 14).toList = flat slV [Sl.zero] := by kernel_rfl
  have e1 := heap_alloc_new w (.cells (madeCells #[zi 0, zi 0, zi 0, .bool false, zi 0, zi 0, zi 0, zi 0, zi 0, zi 0, zi 0, zi 0, zi 0, zi 0] 14) 75)
  refine ⟨[Sl.zero], ⟨?_, ?_, ?_⟩, rfl, ?_⟩
  ·have := heap_alloc_new (w.alloc (.cells (madeCells #[zi 0, zi 0, zi 0, .bool false, zi 0, zi 0, zi 0, zi 0, zi 0, zi 0, zi 0, zi 0, zi 0, zi 0] 14) 75)) (.cells #[zi n, .slice (some ⟨w.heap.size, 0, none⟩) 1 1] 66)
   simpa using this
  ·refine ⟨by rfl, .inr ⟨w.heap.size, 1, madeCells #[zi 0, zi 0, zi 0, .bool false, zi 0, zi 0, zi 0, zi 0, zi 0, zi 0, zi 0, zi 0, zi 0, zi 0] 14, by simp, Nat.zero_le _, ?_, by simp, by unfold maxLen; omega, size_madeCells _ _, ?_⟩⟩
   ·rw [Below.heap_alloc _ _ _ (by simp)]
    exact e1
   ·rw [hm]; rfl
  ·simp [own, Value.ownBlock]
  ·funext t
   cases t with
   | zero => rfl
   | succ t => simp [sl]
 ·exact ((Below.refl _ _).alloc (Nat.le_refl _) _).alloc (by simp) _
def whole14 (w : World) (g t : Nat) (x : Sl) : World := ((((((((((((((w.setCell ⟨g, t * 14, none⟩ (zi (x.up : Int))).setCell ⟨g, t * 14 + 1, none⟩ (zi (x.l : Int))).setCell ⟨g, t * 14 + 2, none⟩ (zi (x.r : Int))).setCell ⟨g, t * 14 + 3, none⟩ (.bool x.tn)).setCell ⟨g, t * 14 + 4, none⟩ (zi x.wt)).setCell ⟨g, t * 14 + 5, none⟩ (zi x.wa)).setCell ⟨g, t * 14 + 6, none⟩ (zi x.sm.c)).setCell ⟨g, t * 14 + 7, none⟩ (zi x.sm.s)).setCell ⟨g, t * 14 + 8, none⟩ (zi x.sm.a)).setCell ⟨g, t * 14 + 9, none⟩ (zi x.sm.b)).setCell ⟨g, t * 14 + 10, none⟩ (zi x.hg.c)).setCell ⟨g, t * 14 + 11, none⟩ (zi x.hg.w)).setCell ⟨g, t * 14 + 12, none⟩ (zi x.hu.c)).setCell ⟨g, t * 14 + 13, none⟩ (zi x.hu.w))
theorem Pool.putSlot {w : World} {p g n cap room t : Nat} {S : Ss} (h : Pool w p g n cap room S) (ht : t < n) (x : Sl) : Pool (whole14 w g t x) p g n cap room (upd S t x) := by
 have h0 := h.put (t := t) ht 0 (by omega) { S t with up := x.up } (zi (x.up : Int)) rfl
 have h1 := h0.put (t := t) ht 1 (by omega) { S t with up := x.up, l := x.l } (zi (x.l : Int)) (by rw [upd_same]; rfl)
 have h2 := h1.put (t := t) ht 2 (by omega) { S t with up := x.up, l := x.l, r := x.r } (zi (x.r : Int)) (by rw [upd_same]; rfl)
 have h3 := h2.put (t := t) ht 3 (by omega) { S t with up := x.up, l := x.l, r := x.r, tn := x.tn } (.bool x.tn) (by rw [upd_same]; rfl)
 have h4 := h3.put (t := t) ht 4 (by omega) { S t with up := x.up, l := x.l, r := x.r, tn := x.tn, wt := x.wt } (zi x.wt) (by rw [upd_same]; rfl)
 have h5 := h4.put (t := t) ht 5 (by omega) { S t with up := x.up, l := x.l, r := x.r, tn := x.tn, wt := x.wt, wa := x.wa } (zi x.wa) (by rw [upd_same]; rfl)
 have h6 := h5.put (t := t) ht 6 (by omega) { S t with up := x.up, l := x.l, r := x.r, tn := x.tn, wt := x.wt, wa := x.wa, sm := { (S t).sm with c := x.sm.c } } (zi x.sm.c) (by rw [upd_same]; rfl)
 have h7 := h6.put (t := t) ht 7 (by omega) { S t with up := x.up, l := x.l, r := x.r, tn := x.tn, wt := x.wt, wa := x.wa, sm := { (S t).sm with c := x.sm.c, s := x.sm.s } } (zi x.sm.s) (by rw [upd_same]; rfl)
 have h8 := h7.put (t := t) ht 8 (by omega) { S t with up := x.up, l := x.l, r := x.r, tn := x.tn, wt := x.wt, wa := x.wa, sm := { (S t).sm with c := x.sm.c, s := x.sm.s, a := x.sm.a } } (zi x.sm.a) (by rw [upd_same]; rfl)
 have h9 := h8.put (t := t) ht 9 (by omega) { S t with up := x.up, l := x.l, r := x.r, tn := x.tn, wt := x.wt, wa := x.wa, sm := x.sm } (zi x.sm.b) (by rw [upd_same]; rfl)
 have h10 := h9.put (t := t) ht 10 (by omega) { S t with up := x.up, l := x.l, r := x.r, tn := x.tn, wt := x.wt, wa := x.wa, sm := x.sm, hg := { (S t).hg with c := x.hg.c } } (zi x.hg.c) (by rw [upd_same]; rfl)
 have h11 := h10.put (t := t) ht 11 (by omega) { S t with up := x.up, l := x.l, r := x.r, tn := x.tn, wt := x.wt, wa := x.wa, sm := x.sm, hg := x.hg } (zi x.hg.w) (by rw [upd_same]; rfl)
 have h12 := h11.put (t := t) ht 12 (by omega) { S t with up := x.up, l := x.l, r := x.r, tn := x.tn, wt := x.wt, wa := x.wa, sm := x.sm, hg := x.hg, hu := { (S t).hu with c := x.hu.c } } (zi x.hu.c) (by rw [upd_same]; rfl)
 have h13 := h12.put (t := t) ht 13 (by omega) { S t with up := x.up, l := x.l, r := x.r, tn := x.tn, wt := x.wt, wa := x.wa, sm := x.sm, hg := x.hg, hu := x.hu } (zi x.hu.w) (by rw [upd_same]; rfl)
 have hE : ∀ (A : Ss) (y : Sl), (∀ j, j ≠ t -> A j = S j) -> upd A t y = upd S t y := fun A y hA => by
  funext j
  by_cases hj : j = t
  ·subst hj; simp [upd]
  ·simp [upd, hj, hA j hj]
 rw [hE _ _ (fun j hj => by simp [upd, hj])] at h13
 exact h13
theorem keep14 {a w : World} {g t : Nat} (h : Keep [g] a w) (x : Sl) : Keep [g] a (whole14 w g t x) := ((((((((((((((h.cellB (t * 14) (zi (x.up : Int))).cellB (t * 14 + 1) (zi (x.l : Int))).cellB (t * 14 + 2) (zi (x.r : Int))).cellB (t * 14 + 3) (.bool x.tn)).cellB (t * 14 + 4) (zi x.wt)).cellB (t * 14 + 5) (zi x.wa)).cellB (t * 14 + 6) (zi x.sm.c)).cellB (t * 14 + 7) (zi x.sm.s)).cellB (t * 14 + 8) (zi x.sm.a)).cellB (t * 14 + 9) (zi x.sm.b)).cellB (t * 14 + 10) (zi x.hg.c)).cellB (t * 14 + 11) (zi x.hg.w)).cellB (t * 14 + 12) (zi x.hu.c)).cellB (t * 14 + 13) (zi x.hu.w))
theorem Lc.by_itself {S : Ss} {n : Nat} {T : Tr} {G : Gh} {t : Nat} (h : Lc S n T G) (ht : Th T t) (hr : ps T t = 0) (hk : ∀ y, Th T y -> ps T y ≠ t) : (S t).l = 0 /\ (S t).r = 0 /\ Top S t := by
 have L := h.loc t ht
 have t0 := ht.1
 have en := L.en
 have main : ∀ P Q : Nat, (P ≠ 0 -> Th T P /\ G.pn (G.la P) = t) -> (Q ≠ 0 -> Th T Q /\ G.pn t = G.fi Q) -> P = 0 /\ Q = 0 := fun P Q h1 h2 => by
  refine ⟨Classical.byContradiction fun e => ?_, Classical.byContradiction fun e => ?_⟩
  ·obtain ⟨q1, q2⟩ := h1 e
   have := (h.ps_pn (h.la_th q1) q2 (by omega)).2
   have := (h.la_th q1).1
   omega
  ·obtain ⟨q1, q2⟩ := h2 e
   have f := h.fi_th q1
   exact hk _ f (h.ps_pn ht q2 (by have := f.1; omega)).2
 have lr : (S t).l = 0 /\ (S t).r = 0 := by
  cases hb : G.b t
  ·rw [hb] at en
   exact main _ _ (fun e => ⟨(L.kl e).th, (en.l1 e).2⟩) (fun e => ⟨(L.kr e).th, (en.r1 e).2⟩)
  ·rw [hb] at en
   exact (main _ _ (fun e => ⟨(L.kr e).th, (en.r1 e).2⟩) (fun e => ⟨(L.kl e).th, (en.l1 e).2⟩)).symm
 refine ⟨lr.1, lr.2, Classical.byContradiction fun nT => ?_⟩
 have ft : G.fi t = t /\ G.la t = t := by
  cases hb : G.b t
  ·rw [hb] at en; exact ⟨en.l0 lr.1, en.r0 lr.2⟩
  ·rw [hb] at en; exact ⟨en.r0 lr.2, en.l0 lr.1⟩
 obtain ⟨hu, hkd, _⟩ := h.nt_up ht nT
 have Lu := h.loc _ hu
 have enu := Lu.en
 have m2 : (G.pn (G.la t) = (S t).up ∨ G.pn (S t).up = G.fi t) := by
  cases hb : G.b (S t).up
  ·rw [hb] at enu
   rcases hkd with e | e
   ·left; have := (enu.l1 (by omega)).2; rw [← e] at this; exact this
   ·right; have := (enu.r1 (by omega)).2; rw [← e] at this; exact this
  ·rw [hb] at enu
   rcases hkd with e | e
   ·right; have := (enu.l1 (by omega)).2; rw [← e] at this; exact this
   ·left; have := (enu.r1 (by omega)).2; rw [← e] at this; exact this
 have u0 := hu.1
 rcases m2 with e | e
 ·rw [ft.2] at e
  exact hk _ hu (h.ps_pn ht e (by omega)).2
 ·rw [ft.1] at e
  have := (h.ps_pn hu e (by omega)).2
  omega
set_option maxHeartbeats 4000000 in
theorem dropN {p g n cap room : Nat} {T : Tr} {S : Ss} {G : Gh} {w : World} {x : Int} (h : Pool w p g n cap room S) (L : Lc S n T G) (hx : T.hasI x = false) :
  Calls Try.prog 19 #[zp p 0, zi x] w fun e w' => e = .returned (.bool false) /\ Keep [g] w w' /\ Pool w' p g n cap room S := by
 have PH := hide h
 have KP := hide (Keep.refl [g] w)
 have LH := hide L
 clear h L
 go_enter Try.func19, Try.ntmps19
 go_wp2_with fail
 refine (sizeN (unhide PH) (unhide LH) hx).mono ?_
 rintro e W1 ⟨rfl, Q1, P1⟩
 have Q2 := hide ((unhide KP).tr Q1)
 clear PH KP Q1
 have PH := hide P1
 have KP := Q2
 clear Q2 P1
 go_wp2
 refine bodyPost_ret (v := .bool false) (by simp [results, Try.results19, go_sem, *]) rfl ⟨rfl, unhide KP, unhide PH⟩
set_option maxHeartbeats 4000000 in
theorem dropN2 {p g n cap room : Nat} {T : Tr} {S : Ss} {G : Gh} {w : World} {i t : Nat} (h : Pool w p g n cap room S) (L : Lc S n T G) (hi : Th T t) (hit : t = i + 1) (hd : ∀ r, r ∈ U T t -> ps T r = 0 -> Dc T r ≠ 1) :
  Calls Try.prog 19 #[zp p 0, zi i] w fun e w' => e = .returned (.bool false) /\ Keep [g] w w' /\ ∃ S1 G1, Pool w' p g n cap room S1 /\ Lc S1 n T G1 := by
 have PH := hide h
 have KP := hide (Keep.refl [g] w)
 have LH := hide L
 clear h L
 have lt1 := (unhide LH).lt t hi
 have e1 : (0 : Int) <= (t : Int) := by omega
 have e2 : (t : Int) < (n : Int) := by omega
 have t1 := hi.1
 have e5 : ¬ (t : Int) = 0 := by omega
 have e6 : ¬ t = 0 := by omega
 have HT := hide hi
 have HI := hide hit
 clear hi hit t1
 have HD := hide hd
 clear hd
 go_enter Try.func19, Try.ntmps19
 go_wp2_with fail
 refine (sizeY (unhide PH) (unhide LH) (unhide HT) (unhide HI)).mono ?_
 rintro e W1 ⟨r, rfl, hr1, hr2, Q1, S1, G1, P1, L1⟩
 have Q2 := hide ((unhide KP).tr Q1)
 clear PH KP Q1
 have PH := hide P1
 have KP := Q2
 clear Q2 P1
 have hd1 : ¬ Dc T r = 1 := unhide HD r hr1 hr2
 go_wp2
 refine bodyPost_ret (v := .bool false) (by simp [results, Try.results19, go_sem, *]) rfl ⟨rfl, unhide KP, S1, G1, unhide PH, L1⟩
set_option maxHeartbeats 4000000 in
theorem dropY {p g n cap room : Nat} {T : Tr} {S : Ss} {G : Gh} {w : World} {i t : Nat} (h : Pool w p g n cap room S) (L : Lc S n T G) (hi : Th T t) (hit : t = i + 1) (hd : ∀ r, r ∈ U T t -> ps T r = 0 -> Dc T r = 1) (hr : ps T t = 0) (hk : ∀ y, Th T y -> ps T y ≠ t) :
  Calls Try.prog 19 #[zp p 0, zi i] w fun e w' => e = .returned (.bool true) /\ Keep [g] w w' /\ ∃ S1 G1, Pool w' p g n cap room S1 /\ Lc S1 n (T.drop i) G1 := by
 have PH := hide h
 have KP := hide (Keep.refl [g] w)
 have LH := hide L
 clear h L
 have lt1 := (unhide LH).lt t hi
 have e1 : (0 : Int) <= (t : Int) := by omega
 have e2 : (t : Int) < (n : Int) := by omega
 have t1 := hi.1
 have e5 : ¬ (t : Int) = 0 := by omega
 have e6 : ¬ t = 0 := by omega
 have HT := hide hi
 have HI := hide hit
 clear hi hit t1
 have HD := hide hd
 clear hd
 have nnn := (unhide LH).nn
 have hTn := (unhide LH).ft.n
 have w1 : IntKind.i64.wrap ((i : Int) + 1) = (t : Int) := by have := unhide HI; rw [IntWalk.i64_in _ (by omega)]; omega
 have HK := hide (And.intro hr hk)
 clear hr hk
 refine callsK (n := 17) (L := [(0, zp p 0), (1, zi i)]) Try.func19 rfl Try.ntmps19 rfl rfl (fun a0 K0 => ?_)
 refine seqR ?_
 refine lC K0 fun a1 K1 => ?_
 refine nilN ?_
 refine seqN ?_
 refine seqR ?_
 refine lM K1 fun a2 K2 => ?_
 clear K1
 refine lM K2 fun a3 K3 => ?_
 clear K2
 refine lcall (f := 47) (args := #[zp p 0, zi i]) K3 rfl rfl (want_none rfl) (fun ev E => ?_) (sizeY (unhide PH) (unhide LH) (unhide HT) (unhide HI)) (fun e W4 hR => ?_)
 ·have EF := E.func; have E5 := E.tmp 5 _ rfl; have E6 := E.tmp 6 _ rfl; clear E; clear PH KP LH HT HI HD HK; go_simp
 obtain ⟨r, rfl, hr1, hr2, Q1, S1, G1, P1, L1⟩ := hR
 have Q2 := hide ((unhide KP).tr Q1)
 clear PH KP Q1
 have PH := hide P1
 have KP := Q2
 clear Q2 P1
 refine ⟨_, rfl, fun a5 K5 => ?_⟩
 clear K3
 have hd1 := unhide HD r hr1 hr2
 rw [hd1] at K5
 clear hd1
 refine lT (.bool false) W4 K5 (want_none rfl) (fun ev E => ?_) fun a6 K6 => ?_
 ·have EC := E.const; have E7 := E.tmp 7 _ rfl; clear E; clear PH KP LH HT HI HD HK L1 hr1 hr2; go_simp
 clear K5
 refine nilN ?_
 refine knCond (b := false) K6 rfl ?_
 refine wp_skip ?_
 show Code.wp _ _ _ _ _
 refine seqR ?_
 refine lM K6 fun a7 K7 => ?_
 clear K6
 refine lN K7 fun a8 K8 => ?_
 clear K7
 refine lF K8 FA66_1 fun a9 K9 => ?_
 clear K8
 refine lT (.slice (some ⟨g, 0, none⟩) n cap) W4 K9 (want_none rfl) (fun ev E => ?_) fun a10 K10 => ?_
 ·obtain ⟨c0, c1, _⟩ := (unhide PH).head; have E11 := E.tmp 11 _ rfl; clear E; clear PH KP LH HT HI HD HK L1 hr1 hr2; go_simp
 clear K9
 refine lM K10 fun a11 K11 => ?_
 clear K10
 refine lT (zi t) W4 K11 (want_none rfl) (fun ev E => ?_) fun a12 K12 => ?_
 ·have EC := E.const; have E13 := E.tmp 13 _ rfl; clear E; clear PH KP LH HT HI HD HK L1 hr1 hr2; go_simp
 clear K11
 refine lT (.agg #[zi 0, zi 0, zi 0, .bool false, zi 0, zi 0, zi 0, zi 0, zi 0, zi 0, zi 0, zi 0, zi 0, zi 0]) W4 K12 (want_none rfl) (fun ev E => ?_) fun a13 K13 => ?_
 ·clear E; clear PH KP LH HT HI HD HK L1 hr1 hr2; go_simp
 clear K12
 refine lT (zp g (t * 14)) W4 K13 (want_none rfl) (fun ev E => ?_) fun a14 K14 => ?_
 ·have E12 := E.tmp 12 _ rfl; have E14 := E.tmp 14 _ rfl; clear E; clear PH KP LH HT HI HD HK L1 hr1 hr2; go_simp
 clear K13
 obtain ⟨s0, s1, s2, s3, s4, s5, s6, s7, s8, s9, s10, s11, s12, s13⟩ := (unhide PH).slot (t := t) lt1
 obtain ⟨f0, f1, f2, f3, f4, f5, f6, f7, f8, f9, f10, f11, f12, f13⟩ := (unhide PH).soft (t := t) lt1
 refine lstore (w' := ((((((((((((((W4.setCell ⟨g, t * 14, none⟩ (zi 0)).setCell ⟨g, t * 14 + 1, none⟩ (zi 0)).setCell ⟨g, t * 14 + 2, none⟩ (zi 0)).setCell ⟨g, t * 14 + 3, none⟩ (.bool false)).setCell ⟨g, t * 14 + 4, none⟩ (zi 0)).setCell ⟨g, t * 14 + 5, none⟩ (zi 0)).setCell ⟨g, t * 14 + 6, none⟩ (zi 0)).setCell ⟨g, t * 14 + 7, none⟩ (zi 0)).setCell ⟨g, t * 14 + 8, none⟩ (zi 0)).setCell ⟨g, t * 14 + 9, none⟩ (zi 0)).setCell ⟨g, t * 14 + 10, none⟩ (zi 0)).setCell ⟨g, t * 14 + 11, none⟩ (zi 0)).setCell ⟨g, t * 14 + 12, none⟩ (zi 0)).setCell ⟨g, t * 14 + 13, none⟩ (zi 0))) K14 rfl (want_none rfl) (fun ev E => ?_) ?_
 ·have E15 := E.tmp 15 _ rfl; have E16 := E.tmp 16 _ rfl; clear E; clear PH KP LH HT HI HD HK L1 hr1 hr2; go_simp
 clear s0 s1 s2 s3 s4 s5 s6 s7 s8 s9 s10 s11 s12 s13 f0 f1 f2 f3 f4 f5 f6 f7 f8 f9 f10 f11 f12 f13
 have P1 : Pool ((((((((((((((W4.setCell ⟨g, t * 14, none⟩ (zi 0)).setCell ⟨g, t * 14 + 1, none⟩ (zi 0)).setCell ⟨g, t * 14 + 2, none⟩ (zi 0)).setCell ⟨g, t * 14 + 3, none⟩ (.bool false)).setCell ⟨g, t * 14 + 4, none⟩ (zi 0)).setCell ⟨g, t * 14 + 5, none⟩ (zi 0)).setCell ⟨g, t * 14 + 6, none⟩ (zi 0)).setCell ⟨g, t * 14 + 7, none⟩ (zi 0)).setCell ⟨g, t * 14 + 8, none⟩ (zi 0)).setCell ⟨g, t * 14 + 9, none⟩ (zi 0)).setCell ⟨g, t * 14 + 10, none⟩ (zi 0)).setCell ⟨g, t * 14 + 11, none⟩ (zi 0)).setCell ⟨g, t * 14 + 12, none⟩ (zi 0)).setCell ⟨g, t * 14 + 13, none⟩ (zi 0)) p g n cap room (upd S1 t Sl.zero) := (unhide PH).putSlot lt1 Sl.zero
 have Q1 : Keep [g] w ((((((((((((((W4.setCell ⟨g, t * 14, none⟩ (zi 0)).setCell ⟨g, t * 14 + 1, none⟩ (zi 0)).setCell ⟨g, t * 14 + 2, none⟩ (zi 0)).setCell ⟨g, t * 14 + 3, none⟩ (.bool false)).setCell ⟨g, t * 14 + 4, none⟩ (zi 0)).setCell ⟨g, t * 14 + 5, none⟩ (zi 0)).setCell ⟨g, t * 14 + 6, none⟩ (zi 0)).setCell ⟨g, t * 14 + 7, none⟩ (zi 0)).setCell ⟨g, t * 14 + 8, none⟩ (zi 0)).setCell ⟨g, t * 14 + 9, none⟩ (zi 0)).setCell ⟨g, t * 14 + 10, none⟩ (zi 0)).setCell ⟨g, t * 14 + 11, none⟩ (zi 0)).setCell ⟨g, t * 14 + 12, none⟩ (zi 0)).setCell ⟨g, t * 14 + 13, none⟩ (zi 0)) := keep14 (unhide KP) Sl.zero
 clear PH KP
 have PH := hide P1
 have KP := hide Q1
 clear P1 Q1
 generalize ((((((((((((((W4.setCell ⟨g, t * 14, none⟩ (zi 0)).setCell ⟨g, t * 14 + 1, none⟩ (zi 0)).setCell ⟨g, t * 14 + 2, none⟩ (zi 0)).setCell ⟨g, t * 14 + 3, none⟩ (.bool false)).setCell ⟨g, t * 14 + 4, none⟩ (zi 0)).setCell ⟨g, t * 14 + 5, none⟩ (zi 0)).setCell ⟨g, t * 14 + 6, none⟩ (zi 0)).setCell ⟨g, t * 14 + 7, none⟩ (zi 0)).setCell ⟨g, t * 14 + 8, none⟩ (zi 0)).setCell ⟨g, t * 14 + 9, none⟩ (zi 0)).setCell ⟨g, t * 14 + 10, none⟩ (zi 0)).setCell ⟨g, t * 14 + 11, none⟩ (zi 0)).setCell ⟨g, t * 14 + 12, none⟩ (zi 0)).setCell ⟨g, t * 14 + 13, none⟩ (zi 0)) = W15 at *
 refine nilN ?_
 refine seqR ?_
 refine lC K14 fun a17 K17 => ?_
 clear K14
 refine nilN ?_
 refine wp_ret ?_
 have W := (unhide LH).wf
 obtain ⟨z1, z2, z3⟩ := L1.by_itself (unhide HT) (unhide HK).1 (unhide HK).2
 have hti : t - 1 = i := by have := unhide HI; omega
 have L2 := L1.drop (unhide HT) (par_root W (unhide HT) (unhide HK).1) (fun y e => by
  have hy : Th T (y + 1) := ⟨by omega, by simp only [Nat.add_sub_cancel]; omega⟩
  refine (unhide HK).2 _ hy ?_
  have q := ps_par hy W
  simp only [Nat.add_sub_cancel] at q
  have := (unhide HT).1
  omega) z3 z1 z2
 rw [hti] at L2
 refine bodyPost_ret (v := .bool true) ?_ K17.defers ⟨rfl, unhide KP, _, _, unhide PH, L2⟩
 have e4 := K17.has 4 _ rfl
 simp [results, Try.results19, go_sem, e4]
end Go.Proofs.Ytjnkgakajenoaaa
namespace Go.Arb
open Go.RowKit
theorem run_append_zero {P : Program} (w : World) (base : Nat) (t ti ty e : TypeId) (i : TypeInfo) (z : Value) (size bytes : Nat) (k : IntKind) (ht : P.underlying t = some (.slice e)) (hti : P.underlying ti = some (.int k)) (hi : P.info? e = some i) (hz : i.zero = some z)
  (hsize : i.size = size) (hby : i.bytes = bytes) (hzs : z.cells.size = size) (hsz : 0 < size)
  (g n cap m : Nat) (xs : List Value) (hown : w.ownsRow base e size (.slice (some ⟨g, 0, none⟩) n cap) n xs) (hm : 0 < m)
  (h1 : ∀ u ∈ (Builtin.zeroCells z.cells m).toList, u.oneCell' = true)
  (h63 : n + m <= maxLen) (hbytes : (n + m) * bytes <= 140737488355328) (hbase : base <= w.heap.size) :
  ∃ v' w', (Builtin.append_ #[t, ti] ty #[.slice (some ⟨g, 0, none⟩) n cap, zi m]).run P w = .ok v' w' /\ w'.ownsRow base e size v' (n + m) (xs ++ (Builtin.zeroCells z.cells m).toList) /\ w.grownBy w' (some g) /\ (v'.ownBlock = some g ∨ v'.ownBlock = some w.heap.size) := by
 subst hsize
 subst hby
 have hsmall : n + m <= 9223372036854775807 := by simp only [maxLen] at h63; omega
 have hl : (Builtin.zeroCells z.cells m).toList.length = m * i.size := by rw [Array.length_toList, size_zeroCells, hzs]
 have hlen : (xs ++ (Builtin.zeroCells z.cells m).toList).length = (n + m) * i.size := by rw [List.length_append, hown.1, hl, Nat.add_mul]
 have hwrap : IntKind.i64.wrap (m : Int) = (m : Int) := IntWalk.i64_in _ (by omega)
 have hneg : ¬ (m : Int) < 0 := by omega
 have hmb : m * i.bytes <= 140737488355328 := Nat.le_trans (Nat.mul_le_mul_right _ (by omega)) hbytes
 have h48 : ¬ (281474976710656 : Int) < (m : Int) * (i.bytes : Int) := by
  have : ((m * i.bytes : Nat) : Int) = (m : Int) * (i.bytes : Int) := by simp
  omega
 have hms : ¬ m * i.size = 0 := by have := Nat.mul_pos hm hsz; omega
 rcases hown.2 with ⟨hv, _⟩ | ⟨g', cap', cur, hv, hbg, hg, hnc, hcm, hcs, htake⟩
 ·simp at hv
 simp only [Value.slice.injEq, Option.some.injEq, Addr.mk.injEq, and_true, true_and] at hv
 obtain ⟨rfl, rfl⟩ := hv
 by_cases hroom : n + m <= cap
 ·have hfit : n * i.size + (Builtin.zeroCells z.cells m).toList.length <= cur.size := by rw [hl, hcs, ← Nat.add_mul]; exact Nat.mul_le_mul_right _ hroom
  have hst := run_storeCells_at P g (n * i.size) e (Builtin.zeroCells z.cells m).toList 0 cur w hg (by simpa using hfit) h1
  simp only [Nat.add_zero] at hst
  refine ⟨.slice (some ⟨g, 0, none⟩) (n + m) cap, w.setRow g (cur.toList.take (n * i.size) ++ (Builtin.zeroCells z.cells m).toList ++ cur.toList.drop (n * i.size + (Builtin.zeroCells z.cells m).toList.length)).toArray, ?_, ⟨hlen, .inr ⟨g, cap, _, rfl, hbg, setRow_heap w g cur _ e _ hg, hroom, hcm, ?_, ?_⟩⟩, ⟨rfl, rfl, rfl, by simp, fun k _ hk => setRow_other w g k _ (fun e => hk (by simp [e]))⟩, Or.inl rfl⟩
  ·simp [Builtin.append_, run_underlying ht, run_underlying hti, sizeOf, typeInfo, zeroValue, hi, hz, hwrap, hneg, h48, hms, hroom, Addr.add_lit, hst, asInt, asIntOf]
  ·simp only [List.size_toArray, List.length_append, List.length_take, List.length_drop, Array.length_toList] at *
   omega
  ·rw [htake, ← hlen]
   exact List.take_left
 ·have holds : ∀ j u, xs[j]? = some u -> w.cell? ((⟨g, 0, none⟩ : Addr).add j) = some u := hown.cells (g := g) rfl
  have hge := grownCap_ge w (n + m) cap e
  have hcm' : grownCap w (n + m) cap e <= maxLen := grownCap_le_maxLen w (n + m) cap e h63
  have h63' : ¬ (9223372036854775807 < ((n : Int) + (m : Int))) := by omega
  have hfit := growslice_fits (need := n + m) (old := cap) (bytes := i.bytes) (by omega) hbytes
  have h48' : ¬ (281474976710656 < Builtin.nextslicecap (n + m) cap * i.bytes) := by omega
  have hfo := run_firstCells_some (P := P) w.drew i.size n ⟨g, 0, none⟩ n cap xs hown.1 (by simpa using holds)
  refine ⟨.slice (some ⟨w.heap.size, 0, none⟩) (n + m) (grownCap w (n + m) cap e), w.drew.alloc (.cells (xs.toArray ++ Builtin.zeroCells z.cells m ++ Builtin.zeroCells z.cells (grownCap w (n + m) cap e - (n + m))) e), ?_, ⟨hlen, .inr ⟨w.heap.size, _, _, rfl, hbase, heap_alloc_new w.drew _, hge, hcm', ?_, ?_⟩⟩, ⟨rfl, rfl, rfl, by simp, fun k hk _ => Below.heap_alloc w.drew _ _ hk⟩, Or.inr rfl⟩
  ·simp [Builtin.append_, run_underlying ht, run_underlying hti, sizeOf, typeInfo, zeroValue, hi, hz, hwrap, hneg, h48, hms, hroom, h63', h48', Question.forced, hfo, newRow, grownCap, asInt, asIntOf]
  ·simp only [Array.size_append, List.size_toArray, size_zeroCells, hzs, hown.1, ← Nat.add_mul]
   congr 1
   omega
  ·simp only [Array.toList_append, List.append_assoc]
   rw [← List.append_assoc, ← hlen]
   exact List.take_left
theorem wpList_append_zero {P : Program} (w : World) {ops : Array Oper} {rest : List Oper} {o : Oper} {a : Act} {Q : Exit -> Act -> World -> Prop} (hgd : o.guard = none) (s x : Operand) (t ti : TypeId)
  (ho : o.op = .call { callee := .builtin .append, args := #[s, x], argTypes := #[t, ti] })
  (base : Nat) (e : TypeId) (i : TypeInfo) (z : Value) (size bytes : Nat) (k : IntKind) (ht : P.underlying t = some (.slice e)) (hti : P.underlying ti = some (.int k)) (hi : P.info? e = some i) (hz : i.zero = some z)
  (hsize : i.size = size) (hby : i.bytes = bytes) (hzs : z.cells.size = size) (hsz : 0 < size)
  (g n cap m : Nat) (xs : List Value) (hs : a.eval s = .slice (some ⟨g, 0, none⟩) n cap) (hown : w.ownsRow base e size (.slice (some ⟨g, 0, none⟩) n cap) n xs) (hx : a.eval x = zi m) (hm : 0 < m)
  (h1 : ∀ u ∈ (Builtin.zeroCells z.cells m).toList, u.oneCell' = true)
  (h63 : n + m <= maxLen) (hbytes : (n + m) * bytes <= 140737488355328) (hbase : base <= w.heap.size)
  (h : ∀ v' w', w'.ownsRow base e size v' (n + m) (xs ++ (Builtin.zeroCells z.cells m).toList) -> w.grownBy w' (some g) -> (v'.ownBlock = some g ∨ v'.ownBlock = some w.heap.size) -> wpList P ops Q rest (a.put o.dst v') w') :
  wpList P ops Q (o :: rest) a w := by
 refine wpList_plain hgd fun K hK => ?_
 obtain ⟨v', w', hr, h2, h3, h5⟩ := run_append_zero (P := P) w base t ti o.type e i z size bytes k ht hti hi hz hsize hby hzs hsz g n cap m xs hown hm h1 h63 hbytes hbase
 unfold Oper.wp execOp
 simp only [ho, resolve, invoke, builtin, Sem.run_bind, Sem.run_pure, Result.andThen_ok, List.map_toArray, List.map_cons, List.map_nil, hs, hx, hr]
 exact hK _ _ (h v' w' h2 h3 h5)
end Go.Arb
namespace Go.Proofs.Ytjnkgakajenoaaa
open Go.RowKit Go.Arb
set_option linter.unusedVariables false
set_option linter.unusedSimpArgs false
theorem zcell (k : Nat) (hk : k < 14) : (#[zi 0, zi 0, zi 0, .bool false, zi 0, zi 0, zi 0, zi 0, zi 0, zi 0, zi 0, zi 0, zi 0, zi 0] : Array Value)[k]! = (slV Sl.zero).getD k undef /\ ((#[zi 0, zi 0, zi 0, .bool false, zi 0, zi 0, zi 0, zi 0, zi 0, zi 0, zi 0, zi 0, zi 0, zi 0] : Array Value)[k]!).oneCell' = true := by
 match k, hk with
 | 0, _ => exact ⟨rfl, rfl⟩
 | 1, _ => exact ⟨rfl, rfl⟩
 | 2, _ => exact ⟨rfl, rfl⟩
 | 3, _ => exact ⟨rfl, rfl⟩
 | 4, _ => exact ⟨rfl, rfl⟩
 | 5, _ => exact ⟨rfl, rfl⟩
 | 6, _ => exact ⟨rfl, rfl⟩
 | 7, _ => exact ⟨rfl, rfl⟩
 | 8, _ => exact ⟨rfl, rfl⟩
 | 9, _ => exact ⟨rfl, rfl⟩
 | 10, _ => exact ⟨rfl, rfl⟩
 | 11, _ => exact ⟨rfl, rfl⟩
 | 12, _ => exact ⟨rfl, rfl⟩
 | 13, _ => exact ⟨rfl, rfl⟩
theorem zeros75 (m : Nat) : (Builtin.zeroCells #[zi 0, zi 0, zi 0, .bool false, zi 0, zi 0, zi 0, zi 0, zi 0, zi 0, zi 0, zi 0, zi 0, zi 0] m).toList = flat slV (List.replicate m Sl.zero) := by
 apply List.ext_getElem?
 intro j
 have h14 : (#[zi 0, zi 0, zi 0, .bool false, zi 0, zi 0, zi 0, zi 0, zi 0, zi 0, zi 0, zi 0, zi 0, zi 0] : Array Value).size = 14 := rfl
 obtain ⟨t, k, hk, rfl⟩ : ∃ t k, k < 14 /\ j = t * 14 + k := ⟨j / 14, j % 14, Nat.mod_lt _ (by omega), by omega⟩
 rw [flat_get slV_len _ t k hk]
 by_cases ht : t < m
 ·have hm : (t * 14 + k) % 14 = k := by omega
  have hlt : t * 14 + k < m * 14 := by omega
  have z := (zcell k hk).1
  have e2 : (slV Sl.zero)[k]? = some ((slV Sl.zero).getD k undef) := by
   rw [List.getD_eq_getElem?_getD, List.getElem?_eq_getElem (show k < (slV Sl.zero).length from hk)]; rfl
  rw [List.getElem?_replicate, if_pos ht]
  show _ = (slV Sl.zero)[k]?
  rw [e2, ← z]
  simp [Builtin.zeroCells, h14, hm, hlt]
 ·rw [List.getElem?_replicate, if_neg ht]
  have hge : ¬ t * 14 + k < m * 14 := by omega
  simp [Builtin.zeroCells]
  omega
theorem zone75 (m : Nat) : ∀ u ∈ (Builtin.zeroCells #[zi 0, zi 0, zi 0, .bool false, zi 0, zi 0, zi 0, zi 0, zi 0, zi 0, zi 0, zi 0, zi 0, zi 0] m).toList, u.oneCell' = true := by
 intro u hu
 simp only [Builtin.zeroCells, Array.toList_map, List.mem_map] at hu
 obtain ⟨i, _, rfl⟩ := hu
 exact (zcell _ (Nat.mod_lt _ (by decide))).2
theorem sl_zero (F : List Sl) (m : Nat) : sl (F ++ List.replicate m Sl.zero) = sl F := by
 funext t
 simp only [sl, List.getD_eq_getElem?_getD]
 by_cases h : t < F.length
 ·rw [List.getElem?_append_left h]
 ·rw [List.getElem?_append_right (by omega), List.getElem?_eq_none (show F.length <= t by omega), List.getElem?_replicate]
  split <;> rfl
section
variable {w w' : World} {p g n cap room : Nat} {S S' : Ss}
structure Reach (w w' : World) (p g g' n n' cap' room : Nat) (S : Ss) (v : Nat) : Prop where
 po : Pool w' p g' n' cap' room S
 lt : v + 1 < n'
 nn : n' = n ∨ (n' = v + 2 /\ n < v + 2)
 kp : Keep [p, g] w w'
 gg : g' = g ∨ w.heap.size <= g'
set_option maxHeartbeats 4000000 in
theorem reach_any (v : Nat) (h : Pool w p g n cap room S) (n0 : 0 < n) (hv : v <= 4194304) (hn : n <= 4194306) :
  Calls Try.prog 53 #[zp p 0, zi v] w fun e w' => e = .returned (.tuple #[]) /\ ∃ g' n' cap', Reach w w' p g g' n n' cap' room S v := by
 obtain ⟨_, c1, _, f1, k1, k2⟩ := h.head
 by_cases hc : v + 2 <= n
 ·have hc' : ¬ 0 < (v : Int) + 2 - (n : Int) := by omega
  have HH := hide h
  clear h
  go_enter Try.func53, Try.ntmps53
  go_wp2
  go_end0
  exact ⟨rfl, g, n, cap, unhide HH, by omega, .inl rfl, Keep.refl _ _, .inl rfl⟩
 ·obtain ⟨m, hm⟩ : ∃ m, v + 2 = n + m := ⟨v + 2 - n, by omega⟩
  have hc' : 0 < (v : Int) + 2 - (n : Int) := by omega
  have hmm : (v : Int) + 2 - (n : Int) = (m : Int) := by omega
  have hN := h.ne
  have hL := h.lt
  obtain ⟨F, hF, hlen, hS⟩ := h
  obtain ⟨i0, hi, hzz⟩ := Option.map_eq_some_iff.1 info75
  simp only [Prod.mk.injEq] at hzz
  obtain ⟨hz0, hz1, hz2⟩ := hzz
  have hrow := hF.row
  rw [hlen] at hrow
  have HF := hide hF
  have HS := hide (And.intro hS hlen)
  clear hF
  go_enter Try.func53, Try.ntmps53
  go_wp2_with (at_builtin; refine wpList_append_zero _ rfl _ _ 64 3 rfl 0 75 i0 (.agg #[zi 0, zi 0, zi 0, .bool false, zi 0, zi 0, zi 0, zi 0, zi 0, zi 0, zi 0, zi 0, zi 0, zi 0]) 14 112 .i64 Try.underlying64 Try.underlying3 hi hz0 hz1 hz2 rfl (by decide) g n cap m (flat slV F) rfl hrow rfl (by omega) (zone75 m) (by unfold maxLen; omega) (by omega) (Nat.zero_le _) ?_)
  intro v' w2 hown hgrow hat
  rw [zeros75, ← flat_append] at hown
  obtain ⟨g', cap', hv'⟩ : ∃ g' cap', v' = .slice (some ⟨g', 0, none⟩) (n + m) cap' := by
   obtain ⟨x, c', e1, _, _, h3⟩ := row_form hown
   obtain ⟨g', rfl, _⟩ := h3 (by omega)
   exact ⟨g', c', e1⟩
  subst hv'
  have hgw : ¬ g' = p := fun e => by
   subst e
   rcases hat with h' | h'
   ·simp [Value.ownBlock] at h'; exact hN h'.symm
   ·simp [Value.ownBlock] at h'; omega
  have hp2 : w2.heap[p]? = w.heap[p]? := hgrow.block p hL.1 (by simp; exact fun e => hN e.symm)
  have c2 : w2.cell? ⟨p, 1, none⟩ = some (.slice (some ⟨g, 0, none⟩) n cap) := by rw [World.cell?_of_block (w := w) (a := ⟨p, 1, none⟩) hp2]; exact c1
  have f2 : w2.frozen? ⟨p, 1, none⟩ = false := by rw [World.frozen?_of_block (w := w) (a := ⟨p, 1, none⟩) hp2]; exact f1
  have RES : Hid (Pool (w2.setCell ⟨p, 1, none⟩ (.slice (some ⟨g', 0, none⟩) (n + m) cap')) p g' (n + m) cap' room S /\ Keep [p, g] w (w2.setCell ⟨p, 1, none⟩ (.slice (some ⟨g', 0, none⟩) (n + m) cap')) /\ (g' = g ∨ w.heap.size <= g')) := by
   refine ⟨⟨F ++ List.replicate m Sl.zero, ⟨?_, ?_, ?_⟩, ?_, ?_⟩, ?_, ?_⟩
   ·rw [heap_setCell_same w2 p 1 _ _ _ (hp2.trans (unhide HF).blk)]; simp
   ·have : (F ++ List.replicate m Sl.zero).length = n + m := by simp [(unhide HS).2]
    rw [this]
    exact row_keep hown (keep_cell w2 p 1 _) (off_one (by simp [own, Value.ownBlock]; exact fun e => hgw e.symm))
   ·simp [own, Value.ownBlock]; exact fun e => hgw e.symm
   ·simp [(unhide HS).2]
   ·rw [sl_zero]; exact (unhide HS).1
   ·have k : Keep [g] w w2 := Keep.grown (ks := [g]) (Keep.refl _ _) hgrow (fun k hk => by simp at hk; subst hk; exact .inl (by simp))
    exact (k.mono (js := [p, g]) (by simp)).setCell (p := ⟨p, 1, none⟩) (.inl (by simp)) _
   ·rcases hat with h' | h'
    ·simp [Value.ownBlock] at h'; exact .inl h'
    ·simp [Value.ownBlock] at h'; right; omega
  clear hown hgrow hat hp2 hrow HF HS hz0 hi hgw hL
  go_wp2
  go_end0
  obtain ⟨r1, r2, r3⟩ := unhide RES
  exact ⟨rfl, g', n + m, cap', r1, by omega, .inr ⟨hm.symm, by omega⟩, r2, r3⟩
end
end Go.Proofs.Ytjnkgakajenoaaa
