/- Part 10 of the texts. -/
import Derived.Test.YtjnkgakajenoaaaS1
import Derived.Test.YtjnkgakajenoaaaS9
namespace Go.Proofs.Ytjnkgakajenoaaa
open Go.RowKit Go.Arb
set_option linter.unusedVariables false
set_option linter.unusedSimpArgs false
set_option maxRecDepth 100000
set_option maxHeartbeats 4000000 in
theorem sizeN {p g n cap room : Nat} {T : Tr} {S : Ss} {G : Gh} {w : World} {x : Int} (h : Pool w p g n cap room S) (L : Lc S n T G) (hx : T.hasI x = false) :
  Calls Try.prog 47 #[zp p 0, zi x] w fun e w' => e = .returned (zi 0) /\ Keep [g] w w' /\ Pool w' p g n cap room S := by
 have PH := hide h
 have KP := hide (Keep.refl [g] w)
 have LH := hide L
 clear h L
 go_enter Try.func47, Try.ntmps47
 go_wp2_with fail
 refine (findN (unhide PH) (unhide LH) hx).mono ?_
 rintro e W1 ⟨rfl, Q1, P1⟩
 have Q2 := hide ((unhide KP).tr Q1)
 clear PH KP Q1
 have PH := hide P1
 have KP := Q2
 clear Q2 P1
 go_wp2
 refine bodyPost_ret (v := zi 0) (by simp [results, Try.results47, go_sem, *]) rfl ⟨rfl, unhide KP, unhide PH⟩
set_option maxHeartbeats 4000000 in
theorem sizeY {p g n cap room : Nat} {T : Tr} {S : Ss} {G : Gh} {w : World} {i t : Nat} (h : Pool w p g n cap room S) (L : Lc S n T G) (hi : Th T t) (hit : t = i + 1) :
  Calls Try.prog 47 #[zp p 0, zi i] w fun e w' => ∃ r : Nat, e = .returned (zi (Dc T r)) /\ r ∈ U T t /\ ps T r = 0 /\ Keep [g] w w' /\ ∃ S1 G1, Pool w' p g n cap room S1 /\ Lc S1 n T G1 := by
 have PH := hide h
 have KP := hide (Keep.refl [g] w)
 have LH := hide L
 clear h L
 have lt1 := (unhide LH).lt t hi
 have nnn := (unhide LH).nn
 have hTn := (unhide LH).ft.n
 have e1 : (0 : Int) <= (t : Int) := by omega
 have e2 : (t : Int) < (n : Int) := by omega
 have t1 := hi.1
 have e5 : ¬ (t : Int) = 0 := by omega
 have e6 : ¬ t = 0 := by omega
 have HT := hide hi
 have HI := hide hit
 clear hi hit t1
 refine callsK (n := 23) (L := [(0, zp p 0), (1, zi i)]) Try.func47 rfl Try.ntmps47 rfl rfl (fun a0 K0 => ?_)
 refine seqR ?_
 refine lC K0 fun a1 K1 => ?_
 refine nilN ?_
 refine seqR ?_
 refine lM K1 fun a2 K2 => ?_
 clear K1
 refine lM K2 fun a3 K3 => ?_
 clear K2
 refine lcall (f := 58) (args := #[zp p 0, zi i]) K3 rfl rfl (want_none rfl) (fun ev E => ?_) (findY (unhide PH) (unhide LH) (unhide HT) (unhide HI)) (fun e W4 hR => ?_)
 ·have EF := E.func; have E6 := E.tmp 6 _ rfl; have E7 := E.tmp 7 _ rfl; clear E; clear PH KP LH HT HI; go_simp
 obtain ⟨rfl, Q1, P1⟩ := hR
 have Q2 := hide ((unhide KP).tr Q1)
 clear PH KP Q1
 have PH := hide P1
 have KP := Q2
 clear Q2 P1
 refine ⟨_, rfl, fun a5 K5 => ?_⟩
 clear K3
 refine lA K5 fun a6 K6 => ?_
 clear K5
 refine nilN ?_
 refine seqN ?_
 refine seqR ?_
 refine lM K6 fun a7 K7 => ?_
 clear K6
 refine lT (.bool false) W4 K7 (want_none rfl) (fun ev E => ?_) fun a8 K8 => ?_
 ·have EC := E.const; have E9 := E.tmp 9 _ rfl; clear E; clear PH KP LH HT HI; go_simp
 clear K7
 refine nilN ?_
 refine knCond (b := false) K8 rfl ?_
 refine wp_skip ?_
 show Code.wp _ _ _ _ _
 refine seqR ?_
 refine lM K8 fun a9 K9 => ?_
 clear K8
 refine lM K9 fun a10 K10 => ?_
 clear K9
 refine lcall (f := 61) (args := #[zp p 0, zi t]) K10 rfl rfl (want_none rfl) (fun ev E => ?_) (exposeL (unhide PH) (unhide LH) (unhide HT)) (fun e W11 hR => ?_)
 ·have EF := E.func; have E11 := E.tmp 11 _ rfl; have E12 := E.tmp 12 _ rfl; clear E; clear PH KP LH HT HI; go_simp
 obtain ⟨met1, rfl, Q1, S1, G1, P1, L1, X1⟩ := hR
 have Q2 := hide ((unhide KP).tr Q1)
 clear PH KP Q1
 have PH := hide P1
 have KP := Q2
 clear Q2 P1
 refine ⟨_, rfl, fun a12 K12 => ?_⟩
 clear K10
 refine nilN ?_
 refine seqR ?_
 refine lM K12 fun a13 K13 => ?_
 clear K12
 refine lN K13 fun a14 K14 => ?_
 clear K13
 refine lF K14 FA66_1 fun a15 K15 => ?_
 clear K14
 refine lT (.slice (some ⟨g, 0, none⟩) n cap) W11 K15 (want_none rfl) (fun ev E => ?_) fun a16 K16 => ?_
 ·obtain ⟨c0, c1, _⟩ := (unhide PH).head; have E16 := E.tmp 16 _ rfl; clear E; clear PH KP LH HT HI L1 X1; go_simp
 clear K15
 refine lM K16 fun a17 K17 => ?_
 clear K16
 refine lT (zp g (t * 14)) W11 K17 (want_none rfl) (fun ev E => ?_) fun a18 K18 => ?_
 ·have E17 := E.tmp 17 _ rfl; have E18 := E.tmp 18 _ rfl; clear E; clear PH KP LH HT HI L1 X1; go_simp
 clear K17
 refine lT (.agg #[zi ((S1 t).up : Int), zi ((S1 t).l : Int), zi ((S1 t).r : Int), .bool (S1 t).tn, zi (S1 t).wt, zi (S1 t).wa, zi (S1 t).sm.c, zi (S1 t).sm.s, zi (S1 t).sm.a, zi (S1 t).sm.b, zi (S1 t).hg.c, zi (S1 t).hg.w, zi (S1 t).hu.c, zi (S1 t).hu.w]) W11 K18 (want_none rfl) (fun ev E => ?_) fun a19 K19 => ?_
 ·obtain ⟨s0, s1, s2, s3, s4, s5, s6, s7, s8, s9, s10, s11, s12, s13⟩ := (unhide PH).slot (t := t) (by assumption); have E19 := E.tmp 19 _ rfl; clear E; clear PH KP LH HT HI L1 X1; go_simp
 clear K18
 have bz := L1.bz t
 have b1 := bz.c; have b2 := bz.s; have b3 := bz.uc; have b4 := bz.uw
 have HB := hide (And.intro b1 (And.intro b2 (And.intro b3 b4)))
 clear b1 b2 b3 b4
 refine lcall (f := 75) (args := #[.agg #[zi ((S1 t).up : Int), zi ((S1 t).l : Int), zi ((S1 t).r : Int), .bool (S1 t).tn, zi (S1 t).wt, zi (S1 t).wa, zi (S1 t).sm.c, zi (S1 t).sm.s, zi (S1 t).sm.a, zi (S1 t).sm.b, zi (S1 t).hg.c, zi (S1 t).hg.w, zi (S1 t).hu.c, zi (S1 t).hu.w]]) K19 rfl rfl (want_none rfl) (fun ev E => ?_) (whole_any _ _ _ _ _ _ _ _ _ _ _ _ _ _ _ (by have := unhide HB; omega) (by have := unhide HB; omega)) (fun e W20 hR => ?_)
 ·have EF := E.func; have E20 := E.tmp 20 _ rfl; clear E; clear PH KP LH HT HI L1 X1 bz HB; go_simp
 obtain ⟨rfl, B1⟩ := hR
 have Q2 := hide ((unhide KP).belowB B1)
 have P2 := hide ((unhide PH).below B1)
 clear PH KP B1
 have PH := P2
 have KP := Q2
 clear P2 Q2
 refine ⟨_, rfl, fun a21 K21 => ?_⟩
 clear K19
 refine lT (zi ((S1 t).hu.c + (S1 t).sm.c)) W20 K21 (want_none rfl) (fun ev E => ?_) fun a22 K22 => ?_
 ·have E21 := E.tmp 21 _ rfl; clear E; clear PH KP LH HT HI L1 X1 bz HB; go_simp; rfl
 clear K21
 refine lA K22 fun a23 K23 => ?_
 clear K22
 refine nilN ?_
 refine wp_ret ?_
 have hd := (L1.top_whole (unhide HT) X1.top).1
 refine bodyPost_ret (v := zi ((S1 t).hu.c + (S1 t).sm.c)) ?_ K23.defers ⟨G1.fi t, by rw [hd], L1.fi_in (unhide HT), X1.root, unhide KP, S1, G1, unhide PH, L1⟩
 have e4 := K23.has 4 _ rfl
 simp [results, Try.results47, go_sem, e4]
set_option maxHeartbeats 4000000 in
theorem evertN {p g n cap room : Nat} {T : Tr} {S : Ss} {G : Gh} {w : World} {x : Int} (h : Pool w p g n cap room S) (L : Lc S n T G) (hx : T.hasI x = false) :
  Calls Try.prog 25 #[zp p 0, zi x] w fun e w' => e = .returned (.bool false) /\ Keep [g] w w' /\ Pool w' p g n cap room S := by
 have PH := hide h
 have KP := hide (Keep.refl [g] w)
 have LH := hide L
 clear h L
 go_enter Try.func25, Try.ntmps25
 go_wp2_with fail
 refine (findN (unhide PH) (unhide LH) hx).mono ?_
 rintro e W1 ⟨rfl, Q1, P1⟩
 have Q2 := hide ((unhide KP).tr Q1)
 clear PH KP Q1
 have PH := hide P1
 have KP := Q2
 clear Q2 P1
 go_wp2
 refine bodyPost_ret (v := .bool false) (by simp [results, Try.results25, go_sem, *]) rfl ⟨rfl, unhide KP, unhide PH⟩
set_option maxHeartbeats 4000000 in
theorem evertY {p g n cap room : Nat} {T : Tr} {S : Ss} {G : Gh} {w : World} {i t : Nat} (h : Pool w p g n cap room S) (L : Lc S n T G) (hi : Th T t) (hit : t = i + 1) :
  Calls Try.prog 25 #[zp p 0, zi i] w fun e w' => e = .returned (.bool true) /\ Keep [g] w w' /\ ∃ S1 G1, Pool w' p g n cap room S1 /\ Lc S1 n (T.evert i) G1 := by
 have PH := hide h
 have KP := hide (Keep.refl [g] w)
 have LH := hide L
 clear h L
 have lt1 := (unhide LH).lt t hi
 have nnn := (unhide LH).nn
 have hTn := (unhide LH).ft.n
 have e1 : (0 : Int) <= (t : Int) := by omega
 have e2 : (t : Int) < (n : Int) := by omega
 have t1 := hi.1
 have e5 : ¬ (t : Int) = 0 := by omega
 have e6 : ¬ t = 0 := by omega
 have HT := hide hi
 have HI := hide hit
 clear hi hit t1
 go_enter Try.func25, Try.ntmps25
 go_wp2_with fail
 refine (findY (unhide PH) (unhide LH) (unhide HT) (unhide HI)).mono ?_
 rintro e W1 ⟨rfl, Q1, P1⟩
 have Q2 := hide ((unhide KP).tr Q1)
 clear PH KP Q1
 have PH := hide P1
 have KP := Q2
 clear Q2 P1
 go_wp2_with fail
 refine (exposeL (unhide PH) (unhide LH) (unhide HT)).mono ?_
 rintro e W2 ⟨met1, rfl, Q1, S1, G1, P1, L1, X1⟩
 have Q2 := hide ((unhide KP).tr Q1)
 clear PH KP Q1
 have PH := hide P1
 have KP := Q2
 clear Q2 P1
 go_wp2_with fail
 refine (turn_any (unhide PH) lt1).mono ?_
 rintro e W3 ⟨rfl, P1, Q1⟩
 have Q2 := hide ((unhide KP).tr Q1)
 clear PH KP Q1
 have PH := hide P1
 have KP := Q2
 clear Q2 P1
 go_wp2
 have L2 := (X1.pth L1 (unhide HT)).turn
 have hti : t - 1 = i := by have := unhide HI; omega
 rw [hti] at L2
 refine bodyPost_ret (v := .bool true) (by simp [results, Try.results25, go_sem, *]) rfl ⟨rfl, unhide KP, _, _, unhide PH, L2⟩
set_option maxHeartbeats 4000000 in
theorem parentN {p g n cap room : Nat} {T : Tr} {S : Ss} {G : Gh} {w : World} {x : Int} (h : Pool w p g n cap room S) (L : Lc S n T G) (hx : T.hasI x = false) :
  Calls Try.prog 41 #[zp p 0, zi x] w fun e w' => e = .returned (zi (-1)) /\ Keep [g] w w' /\ Pool w' p g n cap room S := by
 have PH := hide h
 have KP := hide (Keep.refl [g] w)
 have LH := hide L
 clear h L
 go_enter Try.func41, Try.ntmps41
 go_wp2_with fail
 refine (findN (unhide PH) (unhide LH) hx).mono ?_
 rintro e W1 ⟨rfl, Q1, P1⟩
 have Q2 := hide ((unhide KP).tr Q1)
 clear PH KP Q1
 have PH := hide P1
 have KP := Q2
 clear Q2 P1
 go_wp2
 refine bodyPost_ret (v := zi (-1)) (by simp [results, Try.results41, go_sem, *]) rfl ⟨rfl, unhide KP, unhide PH⟩
set_option maxHeartbeats 4000000 in
theorem parentY0 {p g n cap room : Nat} {T : Tr} {S : Ss} {G : Gh} {w : World} {i t : Nat} (h : Pool w p g n cap room S) (L : Lc S n T G) (hi : Th T t) (hit : t = i + 1) (hp : ps T t = 0) :
  Calls Try.prog 41 #[zp p 0, zi i] w fun e w' => e = .returned (zi (-1)) /\ Keep [g] w w' /\ ∃ S1 G1, Pool w' p g n cap room S1 /\ Lc S1 n T G1 := by
 have PH := hide h
 have KP := hide (Keep.refl [g] w)
 have LH := hide L
 clear h L
 have lt1 := (unhide LH).lt t hi
 have nnn := (unhide LH).nn
 have hTn := (unhide LH).ft.n
 have e1 : (0 : Int) <= (t : Int) := by omega
 have e2 : (t : Int) < (n : Int) := by omega
 have t1 := hi.1
 have e5 : ¬ (t : Int) = 0 := by omega
 have e6 : ¬ t = 0 := by omega
 have HT := hide hi
 have HI := hide hit
 clear hi hit t1
 have HP := hide hp
 clear hp
 go_enter Try.func41, Try.ntmps41
 go_wp2_with fail
 refine (findY (unhide PH) (unhide LH) (unhide HT) (unhide HI)).mono ?_
 rintro e W1 ⟨rfl, Q1, P1⟩
 have Q2 := hide ((unhide KP).tr Q1)
 clear PH KP Q1
 have PH := hide P1
 have KP := Q2
 clear Q2 P1
 go_wp2_with fail
 refine (isRootL (unhide PH) (unhide LH) (unhide HT)).mono ?_
 rintro e W2 ⟨Q1, met1, S1, G1, rfl, P1, L1, X1⟩
 have Q2 := hide ((unhide KP).tr Q1)
 clear PH KP Q1
 have PH := hide P1
 have KP := Q2
 clear Q2 P1
 have E1 := X1.pth L1 (unhide HT)
 have hps : ps T t = 0 := unhide HP
 have l0 : ((S1 t).l : Int) = 0 := by
  refine Classical.byContradiction fun e0 => ?_
  have l1 : (S1 t).l ≠ 0 := by omega
  have en := (L1.loc t (unhide HT)).en
  rw [((L1.loc t (unhide HT)).tp X1.top).b] at en
  have q : G1.pn (G1.la (S1 t).l) = t := (en.l1 l1).2
  have := (L1.ps_pn (L1.la_th ((L1.loc t (unhide HT)).kl l1).th) q (by omega)).2
  rw [hps] at this
  have := (L1.la_th ((L1.loc t (unhide HT)).kl l1).th).1
  omega
 clear hps
 rw [show (((S1 t).l : Int) == 0) = true from by rw [l0]; rfl] at ⊢
 clear l0
 go_wp2
 refine bodyPost_ret (v := zi (-1)) (by simp [results, Try.results41, go_sem, *]) rfl ⟨rfl, unhide KP, S1, G1, unhide PH, L1⟩
set_option maxHeartbeats 4000000 in
theorem parentY1 {p g n cap room : Nat} {T : Tr} {S : Ss} {G : Gh} {w : World} {i t : Nat} (h : Pool w p g n cap room S) (L : Lc S n T G) (hi : Th T t) (hit : t = i + 1) (hp : ¬ ps T t = 0) :
  Calls Try.prog 41 #[zp p 0, zi i] w fun e w' => e = .returned (zi ((ps T t : Int) - 1)) /\ Keep [g] w w' /\ ∃ S1 G1, Pool w' p g n cap room S1 /\ Lc S1 n T G1 := by
 have PH := hide h
 have KP := hide (Keep.refl [g] w)
 have LH := hide L
 clear h L
 have lt1 := (unhide LH).lt t hi
 have nnn := (unhide LH).nn
 have hTn := (unhide LH).ft.n
 have e1 : (0 : Int) <= (t : Int) := by omega
 have e2 : (t : Int) < (n : Int) := by omega
 have t1 := hi.1
 have e5 : ¬ (t : Int) = 0 := by omega
 have e6 : ¬ t = 0 := by omega
 have HT := hide hi
 have HI := hide hit
 clear hi hit t1
 have HP := hide hp
 clear hp
 go_enter Try.func41, Try.ntmps41
 go_wp2_with fail
 refine (findY (unhide PH) (unhide LH) (unhide HT) (unhide HI)).mono ?_
 rintro e W1 ⟨rfl, Q1, P1⟩
 have Q2 := hide ((unhide KP).tr Q1)
 clear PH KP Q1
 have PH := hide P1
 have KP := Q2
 clear Q2 P1
 go_wp2_with fail
 refine (isRootL (unhide PH) (unhide LH) (unhide HT)).mono ?_
 rintro e W2 ⟨Q1, met1, S1, G1, rfl, P1, L1, X1⟩
 have Q2 := hide ((unhide KP).tr Q1)
 clear PH KP Q1
 have PH := hide P1
 have KP := Q2
 clear Q2 P1
 have E1 := X1.pth L1 (unhide HT)
 have l0 : ¬ (S1 t).l = 0 := fun e0 => by
  have en := (L1.loc t (unhide HT)).en
  rw [((L1.loc t (unhide HT)).tp X1.top).b] at en
  have q : G1.fi t = t := en.l0 e0
  have := X1.root
  rw [q] at this
  exact unhide HP this
 have l0i : (((S1 t).l : Int) == 0) = false := by simp; omega
 rw [l0i] at ⊢
 have HL := hide l0
 clear l0 l0i
 have l0 := unhide HL
 have Kl := (L1.loc t (unhide HT)).kl l0
 have tp1 := (L1.loc t (unhide HT)).tp X1.top
 have hb1 : G1.b (S1 t).l = false := by rw [Kl.b, tp1.b, X1.idle.1]; rfl
 have en := (L1.loc t (unhide HT)).en
 rw [tp1.b] at en
 have q : G1.pn (G1.la (S1 t).l) = t := (en.l1 l0).2
 have hq : ps T t = G1.la (S1 t).l := (L1.ps_pn (L1.la_th Kl.th) q (by omega)).2
 have lf1 := L1.lt _ (L1.la_th Kl.th)
 have HQ := hide hq
 have w1 : IntKind.i64.wrap ((G1.la (S1 t).l : Int) - 1) = (G1.la (S1 t).l : Int) - 1 := IntWalk.i64_in _ (by omega)
 clear l0 tp1 en q hq
 obtain ⟨c0, c1, _⟩ := (unhide PH).head
 obtain ⟨_, z1_1, _⟩ := (unhide PH).slot (t := t) (by assumption)
 go_wp2_with fail
 refine (lastL (unhide PH) L1 Kl.th hb1).mono ?_
 rintro e W3 ⟨rfl, Q1, S2, G2, P1, L2, F2, T2, i2⟩
 clear c0 c1 z1_1
 have Q2 := hide ((unhide KP).tr Q1)
 clear PH KP Q1
 have PH := hide P1
 have KP := Q2
 clear Q2 P1
 go_wp2
 refine bodyPost_ret (v := zi ((G1.la (S1 t).l : Int) - 1)) (by simp [results, Try.results41, go_sem, *]) rfl ⟨by rw [unhide HQ], unhide KP, S2, G2, unhide PH, L2⟩
theorem dskip {P : Program} {ops : Array Oper} {Q : Exit -> Act -> World -> Prop} {S : World -> Prop} {a : Act} {w : World} {o : Oper} {d n : Nat} {L : List (Nat × Value)} {i fuel : Nat} {l1 : Array Bool} (hk : Kn a n L) (hq : ∀ c a a' w, Q (.panic c) a w -> Q (.panic c) a' w) (hi : ops[i]? = some o) (hs : Region.noSelect ops = true) (hf : Region.free .any ops l1 i = true) (hr : (Region.ready .any ops l1).contains i = true)
  (ho : o.dst = some d) (hd : Nat.blt d n = true) (hw : Region.wanted o (yielded ops a.tmps) = false) (hS : S w)
  (h : ∀ a', Kn a' n ((d, undef) :: L) -> wpAnyH P .any ops Q S fuel (l1.setIfInBounds i true) a' w) : wpAnyH P .any ops Q S (fuel + 1) l1 a w := by
 refine wpAnyH_take (v := undef) hi hs hf hr (fun c a w h => hq c _ _ w h) (Or.inr ⟨hw, rfl⟩) hS ?_
 rw [ho]
 exact h _ (hk.put hd)
def O43_5_0 : Oper := ⟨some 27, .move (.tmp 1), 3, "link.go:76", #[], none⟩
def O43_5_1 : Oper := ⟨some 28, .move (.tmp 2), 3, "link.go:76", #[], none⟩
def O43_5_2 : Oper := ⟨some 29, .binOp .eql 3 (.tmp 27) (.tmp 28) 3, 4, "link.go:76", #[⟨0, .data⟩, ⟨1, .data⟩], none⟩
def O43_5_3 : Oper := ⟨some 30, .move (.tmp 29), 4, "link.go:76", #[⟨2, .data⟩], none⟩
def O43_5_4 : Oper := ⟨some 31, .move (.tmp 0), 23, "link.go:76", #[⟨3, .guard⟩], some (3, false)⟩
def O43_5_5 : Oper := ⟨some 32, .nilCheck (.tmp 31), 0, "link.go:76", #[⟨4, .data⟩, ⟨3, .guard⟩], some (3, false)⟩
def O43_5_6 : Oper := ⟨some 33, .fieldAddr 66 (.tmp 32) 1, 0, "link.go:76", #[⟨5, .data⟩, ⟨3, .guard⟩], some (3, false)⟩
def O43_5_7 : Oper := ⟨some 34, .load 64 (.tmp 33), 64, "link.go:76", #[⟨6, .data⟩, ⟨3, .guard⟩], some (3, false)⟩
def O43_5_8 : Oper := ⟨some 35, .move (.tmp 0), 23, "link.go:76", #[⟨3, .guard⟩], some (3, false)⟩
def O43_5_9 : Oper := ⟨some 36, .move (.tmp 1), 3, "link.go:76", #[⟨3, .guard⟩], some (3, false)⟩
def O43_5_10 : Oper := ⟨some 37, .call { callee := (.value (.func 58)), args := #[(.tmp 35), (.tmp 36)], argTypes := #[23, 3] }, 3, "link.go:76", #[⟨8, .data⟩, ⟨9, .data⟩, ⟨3, .chain⟩, ⟨3, .guard⟩], some (3, false)⟩
def O43_5_11 : Oper := ⟨some 38, .indexAddr 64 (.tmp 34) (.tmp 37), 0, "link.go:76", #[⟨7, .data⟩, ⟨10, .data⟩, ⟨3, .guard⟩], some (3, false)⟩
def O43_5_12 : Oper := ⟨some 39, .fieldAddr 75 (.tmp 38) 0, 0, "link.go:76", #[⟨11, .data⟩, ⟨3, .guard⟩], some (3, false)⟩
def O43_5_13 : Oper := ⟨some 40, .load 3 (.tmp 39), 3, "link.go:76", #[⟨12, .data⟩, ⟨3, .guard⟩], some (3, false)⟩
def O43_5_14 : Oper := ⟨some 41, .binOp .neq 3 (.tmp 40) (.const (zi 0)) 3, 4, "link.go:76", #[⟨13, .data⟩, ⟨3, .guard⟩], some (3, false)⟩
def O43_5_15 : Oper := ⟨some 42, .pick (.tmp 30) (.const (.bool true)) (.tmp 41), 4, "link.go:76", #[⟨3, .data⟩, ⟨14, .data⟩], none⟩
def O43_5_16 : Oper := ⟨some 6, .assign (.tmp 42), 4, "link.go:76", #[⟨15, .data⟩, ⟨10, .chain⟩, ⟨0, .phase⟩, ⟨1, .phase⟩, ⟨2, .phase⟩, ⟨3, .phase⟩, ⟨4, .phase⟩, ⟨5, .phase⟩, ⟨6, .phase⟩, ⟨7, .phase⟩, ⟨8, .phase⟩, ⟨9, .phase⟩, ⟨10, .phase⟩, ⟨11, .phase⟩, ⟨12, .phase⟩, ⟨13, .phase⟩, ⟨14, .phase⟩, ⟨15, .phase⟩], none⟩
def OPS43_5 : List Oper := [O43_5_0, O43_5_1, O43_5_2, O43_5_3, O43_5_4, O43_5_5, O43_5_6, O43_5_7, O43_5_8, O43_5_9, O43_5_10, O43_5_11, O43_5_12, O43_5_13, O43_5_14, O43_5_15, O43_5_16]
theorem NS43_5 : Region.noSelect OPS43_5.toArray = true := by kernel_rfl
set_option maxHeartbeats 4000000 in
theorem sameN1 {p g n cap room : Nat} {T : Tr} {S : Ss} {G : Gh} {w : World} {x y : Int} (h : Pool w p g n cap room S) (L : Lc S n T G) (hx : T.hasI x = false) :
  Calls Try.prog 43 #[zp p 0, zi x, zi y] w fun e w' => e = .returned (.bool false) /\ Keep [g] w w' /\ Pool w' p g n cap room S := by
 have PH := hide h
 have KP := hide (Keep.refl [g] w)
 have LH := hide L
 clear h L
 go_enter Try.func43, Try.ntmps43
 go_wp2_with fail
 refine (hasN (unhide PH) (unhide LH) hx).mono ?_
 rintro e W1 ⟨rfl, Q1, P1⟩
 have Q2 := hide ((unhide KP).tr Q1)
 clear PH KP Q1
 have PH := hide P1
 have KP := Q2
 clear Q2 P1
 go_wp2
 refine bodyPost_ret (v := .bool false) (by simp [results, Try.results43, go_sem, *]) rfl ⟨rfl, unhide KP, unhide PH⟩
set_option maxHeartbeats 4000000 in
theorem sameN2 {p g n cap room : Nat} {T : Tr} {S : Ss} {G : Gh} {w : World} {i t : Nat} {y : Int} (h : Pool w p g n cap room S) (L : Lc S n T G) (hi : Th T t) (hit : t = i + 1) (hy : T.hasI y = false) :
  Calls Try.prog 43 #[zp p 0, zi i, zi y] w fun e w' => e = .returned (.bool false) /\ Keep [g] w w' /\ Pool w' p g n cap room S := by
 have PH := hide h
 have KP := hide (Keep.refl [g] w)
 have LH := hide L
 clear h L
 have HT := hide hi
 have HI := hide hit
 clear hi hit
 go_enter Try.func43, Try.ntmps43
 go_wp2_with fail
 refine (hasY (unhide PH) (unhide LH) (unhide HT) (unhide HI)).mono ?_
 rintro e W1 ⟨rfl, Q1, P1⟩
 have Q2 := hide ((unhide KP).tr Q1)
 clear PH KP Q1
 have PH := hide P1
 have KP := Q2
 clear Q2 P1
 go_wp2_with fail
 refine (hasN (unhide PH) (unhide LH) hy).mono ?_
 rintro e W2 ⟨rfl, Q1, P1⟩
 have Q2 := hide ((unhide KP).tr Q1)
 clear PH KP Q1
 have PH := hide P1
 have KP := Q2
 clear Q2 P1
 go_wp2
 refine bodyPost_ret (v := .bool false) (by simp [results, Try.results43, go_sem, *]) rfl ⟨rfl, unhide KP, unhide PH⟩
set_option maxHeartbeats 4000000 in
theorem sameEq {p g n cap room : Nat} {T : Tr} {S : Ss} {G : Gh} {w : World} {i t j u : Nat} (h : Pool w p g n cap room S) (L : Lc S n T G) (hi : Th T t) (hit : t = i + 1) (hj : Th T u) (hju : u = j + 1) (hij : i = j) :
  Calls Try.prog 43 #[zp p 0, zi i, zi j] w fun e w' => ∃ met1 met2 S1 G1 S2 G2, e = .returned (.bool true) /\ Keep [g] w w' /\ Pool w' p g n cap room S2 /\ Lc S1 n T G1 /\ Lc S2 n T G2 /\ Exd n T t S G met1 S1 G1 /\ Exd n T u S1 G1 met2 S2 G2 := by
 have PH := hide h
 have KP := hide (Keep.refl [g] w)
 have LH := hide L
 clear h L
 have lt1 := (unhide LH).lt t hi
 have lt2 := (unhide LH).lt u hj
 have e1 : (0 : Int) <= (t : Int) := by omega
 have e2 : (t : Int) < (n : Int) := by omega
 have e3 : (0 : Int) <= (u : Int) := by omega
 have e4 : (u : Int) < (n : Int) := by omega
 have HT := hide hi
 have HI := hide hit
 have HU := hide hj
 have HJ := hide hju
 clear hi hit hj hju
 have hij2 : (i : Int) = (j : Int) := by omega
 refine callsK (n := 43) (L := [(0, zp p 0), (1, zi i), (2, zi j)]) Try.func43 rfl Try.ntmps43 rfl rfl (fun a0 K0 => ?_)
 refine seqR ?_
 refine lC K0 fun a1 K1 => ?_
 refine nilN ?_
 refine seqN ?_
 refine seqR ?_
 refine lM K1 fun a2 K2 => ?_
 clear K1
 refine lM K2 fun a3 K3 => ?_
 clear K2
 refine lcall (f := 37) (args := #[zp p 0, zi i]) K3 rfl rfl (want_none rfl) (fun ev E => ?_) (hasY (unhide PH) (unhide LH) (unhide HT) (unhide HI)) (fun e W4 hR => ?_)
 ·have EF := E.func; have E7 := E.tmp 7 _ rfl; have E8 := E.tmp 8 _ rfl; clear E; clear PH KP LH HT HI HU HJ; go_simp
 obtain ⟨rfl, Q1, P1⟩ := hR
 have Q2 := hide ((unhide KP).tr Q1)
 clear PH KP Q1
 have PH := hide P1
 have KP := Q2
 clear Q2 P1
 refine ⟨_, rfl, fun a5 K5 => ?_⟩
 clear K3
 refine lT (.bool false) W4 K5 (want_none rfl) (fun ev E => ?_) fun a6 K6 => ?_
 ·have E9 := E.tmp 9 _ rfl; clear E; clear PH KP LH HT HI HU HJ; go_simp
 clear K5
 refine lM K6 fun a7 K7 => ?_
 clear K6
 refine lmv K7 rfl rfl (want_some K7 rfl rfl rfl) rfl rfl (fun a8 K8 => ?_)
 clear K7
 refine lmv K8 rfl rfl (want_some K8 rfl rfl rfl) rfl rfl (fun a9 K9 => ?_)
 clear K8
 refine lcall (f := 37) (args := #[zp p 0, zi j]) K9 rfl rfl (want_some K9 rfl rfl rfl) (fun ev E => ?_) (hasY (unhide PH) (unhide LH) (unhide HU) (unhide HJ)) (fun e W10 hR => ?_)
 ·have EF := E.func; have E12 := E.tmp 12 _ rfl; have E13 := E.tmp 13 _ rfl; clear E; clear PH KP LH HT HI HU HJ; go_simp
 obtain ⟨rfl, Q1, P1⟩ := hR
 have Q2 := hide ((unhide KP).tr Q1)
 clear PH KP Q1
 have PH := hide P1
 have KP := Q2
 clear Q2 P1
 refine ⟨_, rfl, fun a11 K11 => ?_⟩
 clear K9
 refine lT (.bool false) W10 K11 (want_some K11 rfl rfl rfl) (fun ev E => ?_) fun a12 K12 => ?_
 ·have E14 := E.tmp 14 _ rfl; clear E; clear PH KP LH HT HI HU HJ; go_simp
 clear K11
 refine lT (.bool false) W10 K12 (want_none rfl) (fun ev E => ?_) fun a13 K13 => ?_
 ·have EC := E.const; have E11 := E.tmp 11 _ rfl; have E15 := E.tmp 15 _ rfl; clear E; clear PH KP LH HT HI HU HJ; go_simp
 clear K12
 refine nilN ?_
 refine knCond (b := false) K13 rfl ?_
 refine wp_skip ?_
 show Code.wp _ _ _ _ _
 refine seqR ?_
 refine lM K13 fun a14 K14 => ?_
 clear K13
 refine lM K14 fun a15 K15 => ?_
 clear K14
 refine lM K15 fun a16 K16 => ?_
 clear K15
 refine lcall (f := 58) (args := #[zp p 0, zi i]) K16 rfl rfl (want_none rfl) (fun ev E => ?_) (findY (unhide PH) (unhide LH) (unhide HT) (unhide HI)) (fun e W17 hR => ?_)
 ·have EF := E.func; have E18 := E.tmp 18 _ rfl; have E19 := E.tmp 19 _ rfl; clear E; clear PH KP LH HT HI HU HJ; go_simp
 obtain ⟨rfl, Q1, P1⟩ := hR
 have Q2 := hide ((unhide KP).tr Q1)
 clear PH KP Q1
 have PH := hide P1
 have KP := Q2
 clear Q2 P1
 refine ⟨_, rfl, fun a18 K18 => ?_⟩
 clear K16
 refine lcall (f := 61) (args := #[zp p 0, zi t]) K18 rfl rfl (want_none rfl) (fun ev E => ?_) (exposeL (unhide PH) (unhide LH) (unhide HT)) (fun e W19 hR => ?_)
 ·have EF := E.func; have E17 := E.tmp 17 _ rfl; have E20 := E.tmp 20 _ rfl; clear E; clear PH KP LH HT HI HU HJ; go_simp
 obtain ⟨met1, rfl, Q1, S1, G1, P1, L1, X1⟩ := hR
 have Q2 := hide ((unhide KP).tr Q1)
 clear PH KP Q1
 have PH := hide P1
 have KP := Q2
 clear Q2 P1
 refine ⟨_, rfl, fun a20 K20 => ?_⟩
 clear K18
 refine nilN ?_
 refine seqR ?_
 refine lM K20 fun a21 K21 => ?_
 clear K20
 refine lM K21 fun a22 K22 => ?_
 clear K21
 refine lM K22 fun a23 K23 => ?_
 clear K22
 refine lcall (f := 58) (args := #[zp p 0, zi j]) K23 rfl rfl (want_none rfl) (fun ev E => ?_) (findY (unhide PH) L1 (unhide HU) (unhide HJ)) (fun e W24 hR => ?_)
 ·have EF := E.func; have E23 := E.tmp 23 _ rfl; have E24 := E.tmp 24 _ rfl; clear E; clear PH KP LH HT HI HU HJ L1 X1; go_simp
 obtain ⟨rfl, Q1, P1⟩ := hR
 have Q2 := hide ((unhide KP).tr Q1)
 clear PH KP Q1
 have PH := hide P1
 have KP := Q2
 clear Q2 P1
 refine ⟨_, rfl, fun a25 K25 => ?_⟩
 clear K23
 refine lcall (f := 61) (args := #[zp p 0, zi u]) K25 rfl rfl (want_none rfl) (fun ev E => ?_) (exposeL (unhide PH) L1 (unhide HU)) (fun e W26 hR => ?_)
 ·have EF := E.func; have E22 := E.tmp 22 _ rfl; have E25 := E.tmp 25 _ rfl; clear E; clear PH KP LH HT HI HU HJ L1 X1; go_simp
 obtain ⟨met2, rfl, Q1, S2, G2, P1, L2, X2⟩ := hR
 have Q2 := hide ((unhide KP).tr Q1)
 clear PH KP Q1
 have PH := hide P1
 have KP := Q2
 clear Q2 P1
 refine ⟨_, rfl, fun a27 K27 => ?_⟩
 clear K25
 refine nilN ?_
 refine seqN ?_
 skip
 have hS : (fun w' : World => Pool w' p g n cap room S2 /\ Keep [g] w w') W26.drew := ⟨(unhide PH).drew, (unhide KP).drew⟩
 clear PH KP
 show (Code.region 5 OPS43_5.toArray true).wp _ _ _ _
 refine wp_region_held_drew (S := (fun w' : World => Pool w' p g n cap room S2 /\ Keep [g] w w')) (by kernel_rfl) hS (fun hS => ?_)
 rw [show (OPS43_5.toArray).size = 17 from by kernel_rfl]
 refine dT 0 O43_5_0 (zi i) K27 (fun _ _ _ _ h => h) NS43_5 (want_none rfl) (fun ev E w9 hSw => ?_) hS fun a28 K28 => ?_
 ·clear hSw; have E1 := E.tmp 1 _ rfl; clear E; unfold O43_5_0; clear hS LH HT HI HU HJ L1 X1 L2 X2; go_simp
 clear K27
 refine dT 1 O43_5_1 (zi j) K28 (fun _ _ _ _ h => h) NS43_5 (want_none rfl) (fun ev E w9 hSw => ?_) hS fun a29 K29 => ?_
 ·clear hSw; have E2 := E.tmp 2 _ rfl; clear E; unfold O43_5_1; clear hS LH HT HI HU HJ L1 X1 L2 X2; go_simp
 clear K28
 refine dT 2 O43_5_2 (.bool true) K29 (fun _ _ _ _ h => h) NS43_5 (want_none rfl) (fun ev E w9 hSw => ?_) hS fun a30 K30 => ?_
 ·clear hSw; have E27 := E.tmp 27 _ rfl; have E28 := E.tmp 28 _ rfl; clear E; unfold O43_5_2; clear hS LH HT HI HU HJ L1 X1 L2 X2; go_simp
 clear K29
 refine dT 3 O43_5_3 (.bool true) K30 (fun _ _ _ _ h => h) NS43_5 (want_none rfl) (fun ev E w9 hSw => ?_) hS fun a31 K31 => ?_
 ·clear hSw; have E29 := E.tmp 29 _ rfl; clear E; unfold O43_5_3; clear hS LH HT HI HU HJ L1 X1 L2 X2; go_simp
 clear K30
 refine dskip (i := 4) (o := O43_5_4) K31 (fun _ _ _ _ h => h) rfl NS43_5 (by kernel_rfl) (by kernel_rfl) rfl rfl (want_not K31 rfl rfl rfl (by decide)) hS (fun a32 K32 => ?_)
 clear K31
 refine dskip (i := 5) (o := O43_5_5) K32 (fun _ _ _ _ h => h) rfl NS43_5 (by kernel_rfl) (by kernel_rfl) rfl rfl (want_not K32 rfl rfl rfl (by decide)) hS (fun a33 K33 => ?_)
 clear K32
 refine dskip (i := 6) (o := O43_5_6) K33 (fun _ _ _ _ h => h) rfl NS43_5 (by kernel_rfl) (by kernel_rfl) rfl rfl (want_not K33 rfl rfl rfl (by decide)) hS (fun a34 K34 => ?_)
 clear K33
 refine dskip (i := 7) (o := O43_5_7) K34 (fun _ _ _ _ h => h) rfl NS43_5 (by kernel_rfl) (by kernel_rfl) rfl rfl (want_not K34 rfl rfl rfl (by decide)) hS (fun a35 K35 => ?_)
 clear K34
 refine dskip (i := 8) (o := O43_5_8) K35 (fun _ _ _ _ h => h) rfl NS43_5 (by kernel_rfl) (by kernel_rfl) rfl rfl (want_not K35 rfl rfl rfl (by decide)) hS (fun a36 K36 => ?_)
 clear K35
 refine dskip (i := 9) (o := O43_5_9) K36 (fun _ _ _ _ h => h) rfl NS43_5 (by kernel_rfl) (by kernel_rfl) rfl rfl (want_not K36 rfl rfl rfl (by decide)) hS (fun a37 K37 => ?_)
 clear K36
 refine dskip (i := 10) (o := O43_5_10) K37 (fun _ _ _ _ h => h) rfl NS43_5 (by kernel_rfl) (by kernel_rfl) rfl rfl (want_not K37 rfl rfl rfl (by decide)) hS (fun a38 K38 => ?_)
 clear K37
 refine dskip (i := 11) (o := O43_5_11) K38 (fun _ _ _ _ h => h) rfl NS43_5 (by kernel_rfl) (by kernel_rfl) rfl rfl (want_not K38 rfl rfl rfl (by decide)) hS (fun a39 K39 => ?_)
 clear K38
 refine dskip (i := 12) (o := O43_5_12) K39 (fun _ _ _ _ h => h) rfl NS43_5 (by kernel_rfl) (by kernel_rfl) rfl rfl (want_not K39 rfl rfl rfl (by decide)) hS (fun a40 K40 => ?_)
 clear K39
 refine dskip (i := 13) (o := O43_5_13) K40 (fun _ _ _ _ h => h) rfl NS43_5 (by kernel_rfl) (by kernel_rfl) rfl rfl (want_not K40 rfl rfl rfl (by decide)) hS (fun a41 K41 => ?_)
 clear K40
 refine dskip (i := 14) (o := O43_5_14) K41 (fun _ _ _ _ h => h) rfl NS43_5 (by kernel_rfl) (by kernel_rfl) rfl rfl (want_not K41 rfl rfl rfl (by decide)) hS (fun a42 K42 => ?_)
 clear K41
 refine dT 15 O43_5_15 (.bool true) K42 (fun _ _ _ _ h => h) NS43_5 (want_none rfl) (fun ev E w9 hSw => ?_) hS fun a43 K43 => ?_
 ·clear hSw; have EC := E.const; have E30 := E.tmp 30 _ rfl; have E41 := E.tmp 41 _ rfl; clear E; unfold O43_5_15; clear hS LH HT HI HU HJ L1 X1 L2 X2; go_simp
 clear K42
 refine dT 16 O43_5_16 (.bool true) K43 (fun _ _ _ _ h => h) NS43_5 (want_none rfl) (fun ev E w9 hSw => ?_) hS fun a44 K44 => ?_
 ·clear hSw; have E42 := E.tmp 42 _ rfl; clear E; unfold O43_5_16; clear hS LH HT HI HU HJ L1 X1 L2 X2; go_simp
 clear K43
 refine wpAnyH_done (by kernel_rfl) ?_ _
 show Code.wp _ _ _ _ _
 refine wp_ret ?_
 refine bodyPost_ret (v := .bool true) ?_ K44.defers ⟨met1, met2, S1, G1, S2, G2, rfl, hS.2, hS.1, L1, L2, X1, X2⟩
 have e6 := K44.has 6 _ rfl
 simp [results, Try.results43, go_sem, e6]
set_option maxHeartbeats 4000000 in
theorem sameNe {p g n cap room : Nat} {T : Tr} {S : Ss} {G : Gh} {w : World} {i t j u : Nat} (h : Pool w p g n cap room S) (L : Lc S n T G) (hi : Th T t) (hit : t = i + 1) (hj : Th T u) (hju : u = j + 1) (hij : ¬ i = j) :
  Calls Try.prog 43 #[zp p 0, zi i, zi j] w fun e w' => ∃ met1 met2 S1 G1 S2 G2, e = .returned (.bool (((S2 t).up : Int) != 0)) /\ Keep [g] w w' /\ Pool w' p g n cap room S2 /\ Lc S1 n T G1 /\ Lc S2 n T G2 /\ Exd n T t S G met1 S1 G1 /\ Exd n T u S1 G1 met2 S2 G2 := by
 have PH := hide h
 have KP := hide (Keep.refl [g] w)
 have LH := hide L
 clear h L
 have lt1 := (unhide LH).lt t hi
 have lt2 := (unhide LH).lt u hj
 have e1 : (0 : Int) <= (t : Int) := by omega
 have e2 : (t : Int) < (n : Int) := by omega
 have e3 : (0 : Int) <= (u : Int) := by omega
 have e4 : (u : Int) < (n : Int) := by omega
 have HT := hide hi
 have HI := hide hit
 have HU := hide hj
 have HJ := hide hju
 clear hi hit hj hju
 have hij2 : ¬ (i : Int) = (j : Int) := by omega
 refine callsK (n := 43) (L := [(0, zp p 0), (1, zi i), (2, zi j)]) Try.func43 rfl Try.ntmps43 rfl rfl (fun a0 K0 => ?_)
 refine seqR ?_
 refine lC K0 fun a1 K1 => ?_
 refine nilN ?_
 refine seqN ?_
 refine seqR ?_
 refine lM K1 fun a2 K2 => ?_
 clear K1
 refine lM K2 fun a3 K3 => ?_
 clear K2
 refine lcall (f := 37) (args := #[zp p 0, zi i]) K3 rfl rfl (want_none rfl) (fun ev E => ?_) (hasY (unhide PH) (unhide LH) (unhide HT) (unhide HI)) (fun e W4 hR => ?_)
 ·have EF := E.func; have E7 := E.tmp 7 _ rfl; have E8 := E.tmp 8 _ rfl; clear E; clear PH KP LH HT HI HU HJ; go_simp
 obtain ⟨rfl, Q1, P1⟩ := hR
 have Q2 := hide ((unhide KP).tr Q1)
 clear PH KP Q1
 have PH := hide P1
 have KP := Q2
 clear Q2 P1
 refine ⟨_, rfl, fun a5 K5 => ?_⟩
 clear K3
 refine lT (.bool false) W4 K5 (want_none rfl) (fun ev E => ?_) fun a6 K6 => ?_
 ·have E9 := E.tmp 9 _ rfl; clear E; clear PH KP LH HT HI HU HJ; go_simp
 clear K5
 refine lM K6 fun a7 K7 => ?_
 clear K6
 refine lmv K7 rfl rfl (want_some K7 rfl rfl rfl) rfl rfl (fun a8 K8 => ?_)
 clear K7
 refine lmv K8 rfl rfl (want_some K8 rfl rfl rfl) rfl rfl (fun a9 K9 => ?_)
 clear K8
 refine lcall (f := 37) (args := #[zp p 0, zi j]) K9 rfl rfl (want_some K9 rfl rfl rfl) (fun ev E => ?_) (hasY (unhide PH) (unhide LH) (unhide HU) (unhide HJ)) (fun e W10 hR => ?_)
 ·have EF := E.func; have E12 := E.tmp 12 _ rfl; have E13 := E.tmp 13 _ rfl; clear E; clear PH KP LH HT HI HU HJ; go_simp
 obtain ⟨rfl, Q1, P1⟩ := hR
 have Q2 := hide ((unhide KP).tr Q1)
 clear PH KP Q1
 have PH := hide P1
 have KP := Q2
 clear Q2 P1
 refine ⟨_, rfl, fun a11 K11 => ?_⟩
 clear K9
 refine lT (.bool false) W10 K11 (want_some K11 rfl rfl rfl) (fun ev E => ?_) fun a12 K12 => ?_
 ·have E14 := E.tmp 14 _ rfl; clear E; clear PH KP LH HT HI HU HJ; go_simp
 clear K11
 refine lT (.bool false) W10 K12 (want_none rfl) (fun ev E => ?_) fun a13 K13 => ?_
 ·have EC := E.const; have E11 := E.tmp 11 _ rfl; have E15 := E.tmp 15 _ rfl; clear E; clear PH KP LH HT HI HU HJ; go_simp
 clear K12
 refine nilN ?_
 refine knCond (b := false) K13 rfl ?_
 refine wp_skip ?_
 show Code.wp _ _ _ _ _
 refine seqR ?_
 refine lM K13 fun a14 K14 => ?_
 clear K13
 refine lM K14 fun a15 K15 => ?_
 clear K14
 refine lM K15 fun a16 K16 => ?_
 clear K15
 refine lcall (f := 58) (args := #[zp p 0, zi i]) K16 rfl rfl (want_none rfl) (fun ev E => ?_) (findY (unhide PH) (unhide LH) (unhide HT) (unhide HI)) (fun e W17 hR => ?_)
 ·have EF := E.func; have E18 := E.tmp 18 _ rfl; have E19 := E.tmp 19 _ rfl; clear E; clear PH KP LH HT HI HU HJ; go_simp
 obtain ⟨rfl, Q1, P1⟩ := hR
 have Q2 := hide ((unhide KP).tr Q1)
 clear PH KP Q1
 have PH := hide P1
 have KP := Q2
 clear Q2 P1
 refine ⟨_, rfl, fun a18 K18 => ?_⟩
 clear K16
 refine lcall (f := 61) (args := #[zp p 0, zi t]) K18 rfl rfl (want_none rfl) (fun ev E => ?_) (exposeL (unhide PH) (unhide LH) (unhide HT)) (fun e W19 hR => ?_)
 ·have EF := E.func; have E17 := E.tmp 17 _ rfl; have E20 := E.tmp 20 _ rfl; clear E; clear PH KP LH HT HI HU HJ; go_simp
 obtain ⟨met1, rfl, Q1, S1, G1, P1, L1, X1⟩ := hR
 have Q2 := hide ((unhide KP).tr Q1)
 clear PH KP Q1
 have PH := hide P1
 have KP := Q2
 clear Q2 P1
 refine ⟨_, rfl, fun a20 K20 => ?_⟩
 clear K18
 refine nilN ?_
 refine seqR ?_
 refine lM K20 fun a21 K21 => ?_
 clear K20
 refine lM K21 fun a22 K22 => ?_
 clear K21
 refine lM K22 fun a23 K23 => ?_
 clear K22
 refine lcall (f := 58) (args := #[zp p 0, zi j]) K23 rfl rfl (want_none rfl) (fun ev E => ?_) (findY (unhide PH) L1 (unhide HU) (unhide HJ)) (fun e W24 hR => ?_)
 ·have EF := E.func; have E23 := E.tmp 23 _ rfl; have E24 := E.tmp 24 _ rfl; clear E; clear PH KP LH HT HI HU HJ L1 X1; go_simp
 obtain ⟨rfl, Q1, P1⟩ := hR
 have Q2 := hide ((unhide KP).tr Q1)
 clear PH KP Q1
 have PH := hide P1
 have KP := Q2
 clear Q2 P1
 refine ⟨_, rfl, fun a25 K25 => ?_⟩
 clear K23
 refine lcall (f := 61) (args := #[zp p 0, zi u]) K25 rfl rfl (want_none rfl) (fun ev E => ?_) (exposeL (unhide PH) L1 (unhide HU)) (fun e W26 hR => ?_)
 ·have EF := E.func; have E22 := E.tmp 22 _ rfl; have E25 := E.tmp 25 _ rfl; clear E; clear PH KP LH HT HI HU HJ L1 X1; go_simp
 obtain ⟨met2, rfl, Q1, S2, G2, P1, L2, X2⟩ := hR
 have Q2 := hide ((unhide KP).tr Q1)
 clear PH KP Q1
 have PH := hide P1
 have KP := Q2
 clear Q2 P1
 refine ⟨_, rfl, fun a27 K27 => ?_⟩
 clear K25
 refine nilN ?_
 refine seqN ?_
 skip
 have hS : (fun w' : World => Pool w' p g n cap room S2 /\ Keep [g] w w') W26.drew := ⟨(unhide PH).drew, (unhide KP).drew⟩
 clear PH KP
 show (Code.region 5 OPS43_5.toArray true).wp _ _ _ _
 refine wp_region_held_drew (S := (fun w' : World => Pool w' p g n cap room S2 /\ Keep [g] w w')) (by kernel_rfl) hS (fun hS => ?_)
 rw [show (OPS43_5.toArray).size = 17 from by kernel_rfl]
 refine dT 0 O43_5_0 (zi i) K27 (fun _ _ _ _ h => h) NS43_5 (want_none rfl) (fun ev E w9 hSw => ?_) hS fun a28 K28 => ?_
 ·clear hSw; have E1 := E.tmp 1 _ rfl; clear E; unfold O43_5_0; clear hS LH HT HI HU HJ L1 X1 L2 X2; go_simp
 clear K27
 refine dT 1 O43_5_1 (zi j) K28 (fun _ _ _ _ h => h) NS43_5 (want_none rfl) (fun ev E w9 hSw => ?_) hS fun a29 K29 => ?_
 ·clear hSw; have E2 := E.tmp 2 _ rfl; clear E; unfold O43_5_1; clear hS LH HT HI HU HJ L1 X1 L2 X2; go_simp
 clear K28
 refine dT 2 O43_5_2 (.bool false) K29 (fun _ _ _ _ h => h) NS43_5 (want_none rfl) (fun ev E w9 hSw => ?_) hS fun a30 K30 => ?_
 ·clear hSw; have E27 := E.tmp 27 _ rfl; have E28 := E.tmp 28 _ rfl; clear E; unfold O43_5_2; clear hS LH HT HI HU HJ L1 X1 L2 X2; go_simp
 clear K29
 refine dT 3 O43_5_3 (.bool false) K30 (fun _ _ _ _ h => h) NS43_5 (want_none rfl) (fun ev E w9 hSw => ?_) hS fun a31 K31 => ?_
 ·clear hSw; have E29 := E.tmp 29 _ rfl; clear E; unfold O43_5_3; clear hS LH HT HI HU HJ L1 X1 L2 X2; go_simp
 clear K30
 refine dT 4 O43_5_4 (zp p 0) K31 (fun _ _ _ _ h => h) NS43_5 (want_some K31 rfl rfl rfl) (fun ev E w9 hSw => ?_) hS fun a32 K32 => ?_
 ·clear hSw; have E0 := E.tmp 0 _ rfl; clear E; unfold O43_5_4; clear hS LH HT HI HU HJ L1 X1 L2 X2; go_simp
 clear K31
 refine dT 5 O43_5_5 (zp p 0) K32 (fun _ _ _ _ h => h) NS43_5 (want_some K32 rfl rfl rfl) (fun ev E w9 hSw => ?_) hS fun a33 K33 => ?_
 ·clear hSw; have E31 := E.tmp 31 _ rfl; clear E; unfold O43_5_5; clear hS LH HT HI HU HJ L1 X1 L2 X2; go_simp
 clear K32
 refine dT 6 O43_5_6 (zp p 1) K33 (fun _ _ _ _ h => h) NS43_5 (want_some K33 rfl rfl rfl) (fun ev E w9 hSw => ?_) hS fun a34 K34 => ?_
 ·clear hSw; have E32 := E.tmp 32 _ rfl; clear E; unfold O43_5_6; clear hS LH HT HI HU HJ L1 X1 L2 X2; go_simp
 clear K33
 refine dT 7 O43_5_7 (.slice (some ⟨g, 0, none⟩) n cap) K34 (fun _ _ _ _ h => h) NS43_5 (want_some K34 rfl rfl rfl) (fun ev E w9 hSw => ?_) hS fun a35 K35 => ?_
 ·obtain ⟨c0, c1, _⟩ := hSw.1.head; clear hSw; have E33 := E.tmp 33 _ rfl; clear E; unfold O43_5_7; clear hS LH HT HI HU HJ L1 X1 L2 X2; go_simp
 clear K34
 refine dT 8 O43_5_8 (zp p 0) K35 (fun _ _ _ _ h => h) NS43_5 (want_some K35 rfl rfl rfl) (fun ev E w9 hSw => ?_) hS fun a36 K36 => ?_
 ·clear hSw; have E0 := E.tmp 0 _ rfl; clear E; unfold O43_5_8; clear hS LH HT HI HU HJ L1 X1 L2 X2; go_simp
 clear K35
 refine dT 9 O43_5_9 (zi i) K36 (fun _ _ _ _ h => h) NS43_5 (want_some K36 rfl rfl rfl) (fun ev E w9 hSw => ?_) hS fun a37 K37 => ?_
 ·clear hSw; have E1 := E.tmp 1 _ rfl; clear E; unfold O43_5_9; clear hS LH HT HI HU HJ L1 X1 L2 X2; go_simp
 clear K36
 refine dcall (i := 10) (o := O43_5_10) (f := 58) (args := #[zp p 0, zi i]) K37 rfl (by kernel_rfl) rfl rfl (want_some K37 rfl rfl rfl) (fun ev E => ?_) (findY hS.1 L2 (unhide HT) (unhide HI)) (fun e W38 hR => ?_)
 ·have EF := E.func; have E35 := E.tmp 35 _ rfl; have E36 := E.tmp 36 _ rfl; clear E; unfold O43_5_10; clear hS LH HT HI HU HJ L1 X1 L2 X2; go_simp
 obtain ⟨rfl, Q1, P1⟩ := hR
 have hS2 : (fun w' : World => Pool w' p g n cap room S2 /\ Keep [g] w w') W38 := ⟨P1, hS.2.tr Q1⟩
 clear hS Q1 P1
 have hS := hS2
 clear hS2
 refine ⟨_, rfl, hS, fun a38 K38 => ?_⟩
 clear K37
 refine dT 11 O43_5_11 (zp g (t * 14)) K38 (fun _ _ _ _ h => h) NS43_5 (want_some K38 rfl rfl rfl) (fun ev E w9 hSw => ?_) hS fun a39 K39 => ?_
 ·clear hSw; have E34 := E.tmp 34 _ rfl; have E37 := E.tmp 37 _ rfl; clear E; unfold O43_5_11; clear hS LH HT HI HU HJ L1 X1 L2 X2; go_simp
 clear K38
 refine dT 12 O43_5_12 (zp g (t * 14)) K39 (fun _ _ _ _ h => h) NS43_5 (want_some K39 rfl rfl rfl) (fun ev E w9 hSw => ?_) hS fun a40 K40 => ?_
 ·clear hSw; have E38 := E.tmp 38 _ rfl; clear E; unfold O43_5_12; clear hS LH HT HI HU HJ L1 X1 L2 X2; go_simp
 clear K39
 refine dT 13 O43_5_13 (zi ((S2 t).up : Int)) K40 (fun _ _ _ _ h => h) NS43_5 (want_some K40 rfl rfl rfl) (fun ev E w9 hSw => ?_) hS fun a41 K41 => ?_
 ·obtain ⟨s0, s1, s2, s3, s4, s5, s6, s7, s8, s9, s10, s11, s12, s13⟩ := hSw.1.slot (t := t) (by assumption); clear hSw; have E39 := E.tmp 39 _ rfl; clear E; unfold O43_5_13; clear hS LH HT HI HU HJ L1 X1 L2 X2; go_simp
 clear K40
 refine dT 14 O43_5_14 (.bool (((S2 t).up : Int) != 0)) K41 (fun _ _ _ _ h => h) NS43_5 (want_some K41 rfl rfl rfl) (fun ev E w9 hSw => ?_) hS fun a42 K42 => ?_
 ·clear hSw; have EC := E.const; have E40 := E.tmp 40 _ rfl; clear E; unfold O43_5_14; clear hS LH HT HI HU HJ L1 X1 L2 X2; go_simp
 clear K41
 refine dT 15 O43_5_15 (.bool (((S2 t).up : Int) != 0)) K42 (fun _ _ _ _ h => h) NS43_5 (want_none rfl) (fun ev E w9 hSw => ?_) hS fun a43 K43 => ?_
 ·clear hSw; have EC := E.const; have E30 := E.tmp 30 _ rfl; have E41 := E.tmp 41 _ rfl; clear E; unfold O43_5_15; clear hS LH HT HI HU HJ L1 X1 L2 X2; go_simp
 clear K42
 refine dT 16 O43_5_16 (.bool (((S2 t).up : Int) != 0)) K43 (fun _ _ _ _ h => h) NS43_5 (want_none rfl) (fun ev E w9 hSw => ?_) hS fun a44 K44 => ?_
 ·clear hSw; have E42 := E.tmp 42 _ rfl; clear E; unfold O43_5_16; clear hS LH HT HI HU HJ L1 X1 L2 X2; go_simp
 clear K43
 refine wpAnyH_done (by kernel_rfl) ?_ _
 show Code.wp _ _ _ _ _
 refine wp_ret ?_
 refine bodyPost_ret (v := .bool (((S2 t).up : Int) != 0)) ?_ K44.defers ⟨met1, met2, S1, G1, S2, G2, rfl, hS.2, hS.1, L1, L2, X1, X2⟩
 have e6 := K44.has 6 _ rfl
 simp [results, Try.results43, go_sem, e6]
theorem same_up {n : Nat} {T : Tr} {S S1 S2 : Ss} {G G1 G2 : Gh} {met1 met2 t u : Nat} (L1 : Lc S1 n T G1) (L2 : Lc S2 n T G2) (X1 : Exd n T t S G met1 S1 G1) (X2 : Exd n T u S1 G1 met2 S2 G2) (ht : Th T t) (hu : Th T u) (hne : t ≠ u) :
  (((S2 t).up : Int) != 0) = T.sameI ((t - 1 : Nat) : Int) ((u - 1 : Nat) : Int) := by
 have W := L1.wf
 have E1 := X1.pth L1 ht
 have E2 := X2.pth L2 hu
 have r1 := E1.rootI
 have r2 := E2.rootI
 have f1 := (L1.fi_th ht).1
 have f2 := (L2.fi_th hu).1
 unfold Tr.sameI
 rw [r1, r2]
 by_cases e : G1.fi t = G2.fi u
 .
  have : (S2 t).up ≠ 0 := fun q => by
   have tT : Top S2 t := by unfold Top; rw [q, L2.s0]; exact ⟨by have := ht.1; show 0 ≠ t; omega, by have := ht.1; show 0 ≠ t; omega⟩
   have P := (L2.loc t ht).tp tT
   have hr : ps T (G2.fi t) = 0 := by rw [P.fi]; exact q
   have m1 := L2.fi_in ht
   have m2 := L1.fi_in ht
   have e2 : G2.fi t = G1.fi t := by
    rcases U_cmp' W m1 m2 with k | k
    ·rw [U_th W (L1.fi_th ht), X1.root, U_zero] at k; simpa using k
    ·rw [U_th W (L2.fi_th ht), hr, U_zero] at k; simp at k; exact k.symm
   exact hne (L2.uniq ht hu tT X2.top (e2.trans e))
  rw [e]
  have q1 : (((S2 t).up : Int) != 0) = true := by simp; exact this
  have q2 : (((G2.fi u : Int) - 1) != -1) = true := by simp; omega
  rw [q1, q2]; simp
 ·have nin : G1.fi t ∉ U T u := fun k => e (by
   rcases U_cmp' W k (L2.fi_in hu) with q | q
   ·rw [U_th W (L2.fi_th hu), X2.root, U_zero] at q; simpa using q
   ·rw [U_th W (L1.fi_th ht), X1.root, U_zero] at q; simp at q; exact q.symm)
  obtain ⟨_, b2, _, _⟩ := X2.out t ht X1.top nin
  rw [b2, X1.up0]
  have : ((((G1.fi t : Int) - 1) == ((G2.fi u : Int) - 1)) : Bool) = false := by simp; omega
  rw [this]; simp
def O59_1_0 : Oper := ⟨some 14, .move (.tmp 0), 23, "path.go:117", #[], none⟩
def O59_1_1 : Oper := ⟨some 15, .nilCheck (.tmp 14), 0, "path.go:117", #[⟨0, .data⟩], none⟩
def O59_1_2 : Oper := ⟨some 16, .fieldAddr 66 (.tmp 15) 1, 0, "path.go:117", #[⟨1, .data⟩], none⟩
def O59_1_3 : Oper := ⟨some 17, .load 64 (.tmp 16), 64, "path.go:117", #[⟨2, .data⟩], none⟩
def O59_1_4 : Oper := ⟨some 18, .move (.tmp 2), 3, "path.go:117", #[], none⟩
def O59_1_5 : Oper := ⟨some 19, .move (.tmp 0), 23, "path.go:117", #[], none⟩
def O59_1_6 : Oper := ⟨some 20, .nilCheck (.tmp 19), 0, "path.go:117", #[⟨5, .data⟩], none⟩
def O59_1_7 : Oper := ⟨some 21, .fieldAddr 66 (.tmp 20) 1, 0, "path.go:117", #[⟨6, .data⟩], none⟩
def O59_1_8 : Oper := ⟨some 22, .load 64 (.tmp 21), 64, "path.go:117", #[⟨7, .data⟩], none⟩
def O59_1_9 : Oper := ⟨some 23, .move (.tmp 2), 3, "path.go:117", #[], none⟩
def O59_1_10 : Oper := ⟨some 24, .indexAddr 64 (.tmp 22) (.tmp 23), 0, "path.go:117", #[⟨8, .data⟩, ⟨9, .data⟩], none⟩
def O59_1_11 : Oper := ⟨some 25, .fieldAddr 75 (.tmp 24) 7, 0, "path.go:117", #[⟨10, .data⟩], none⟩
def O59_1_12 : Oper := ⟨some 26, .load 73 (.tmp 25), 73, "path.go:117", #[⟨11, .data⟩], none⟩
def O59_1_13 : Oper := ⟨some 27, .move (.tmp 0), 23, "path.go:117", #[], none⟩
def O59_1_14 : Oper := ⟨some 28, .nilCheck (.tmp 27), 0, "path.go:117", #[⟨13, .data⟩], none⟩
def O59_1_15 : Oper := ⟨some 29, .fieldAddr 66 (.tmp 28) 1, 0, "path.go:117", #[⟨14, .data⟩], none⟩
def O59_1_16 : Oper := ⟨some 30, .load 64 (.tmp 29), 64, "path.go:117", #[⟨15, .data⟩], none⟩
def O59_1_17 : Oper := ⟨some 31, .move (.tmp 1), 3, "path.go:117", #[], none⟩
def O59_1_18 : Oper := ⟨some 32, .indexAddr 64 (.tmp 30) (.tmp 31), 0, "path.go:117", #[⟨16, .data⟩, ⟨17, .data⟩], none⟩
def O59_1_19 : Oper := ⟨some 33, .load 75 (.tmp 32), 75, "path.go:117", #[⟨18, .data⟩], none⟩
def O59_1_20 : Oper := ⟨some 34, .call { callee := (.value (.func 75)), args := #[(.tmp 33)], argTypes := #[75] }, 73, "path.go:117", #[⟨19, .data⟩], none⟩
def O59_1_21 : Oper := ⟨some 35, .call { callee := (.value (.func 80)), args := #[(.tmp 26), (.tmp 34)], argTypes := #[73, 73] }, 73, "path.go:117", #[⟨12, .data⟩, ⟨20, .data⟩, ⟨20, .chain⟩], none⟩
def O59_1_22 : Oper := ⟨some 36, .indexAddr 64 (.tmp 17) (.tmp 18), 0, "path.go:117", #[⟨3, .data⟩, ⟨4, .data⟩, ⟨0, .phase⟩, ⟨1, .phase⟩, ⟨2, .phase⟩, ⟨3, .phase⟩, ⟨4, .phase⟩, ⟨5, .phase⟩, ⟨6, .phase⟩, ⟨7, .phase⟩, ⟨8, .phase⟩, ⟨9, .phase⟩, ⟨10, .phase⟩, ⟨11, .phase⟩, ⟨12, .phase⟩, ⟨13, .phase⟩, ⟨14, .phase⟩, ⟨15, .phase⟩, ⟨16, .phase⟩, ⟨17, .phase⟩, ⟨18, .phase⟩, ⟨19, .phase⟩, ⟨20, .phase⟩, ⟨21, .phase⟩], none⟩
def O59_1_23 : Oper := ⟨some 37, .fieldAddr 75 (.tmp 36) 7, 0, "path.go:117", #[⟨22, .data⟩, ⟨0, .phase⟩, ⟨1, .phase⟩, ⟨2, .phase⟩, ⟨3, .phase⟩, ⟨4, .phase⟩, ⟨5, .phase⟩, ⟨6, .phase⟩, ⟨7, .phase⟩, ⟨8, .phase⟩, ⟨9, .phase⟩, ⟨10, .phase⟩, ⟨11, .phase⟩, ⟨12, .phase⟩, ⟨13, .phase⟩, ⟨14, .phase⟩, ⟨15, .phase⟩, ⟨16, .phase⟩, ⟨17, .phase⟩, ⟨18, .phase⟩, ⟨19, .phase⟩, ⟨20, .phase⟩, ⟨21, .phase⟩], none⟩
def O59_1_24 : Oper := ⟨none, .store 73 (.tmp 37) (.tmp 35), 0, "path.go:117", #[⟨23, .data⟩, ⟨21, .data⟩, ⟨21, .chain⟩, ⟨0, .phase⟩, ⟨1, .phase⟩, ⟨2, .phase⟩, ⟨3, .phase⟩, ⟨4, .phase⟩, ⟨5, .phase⟩, ⟨6, .phase⟩, ⟨7, .phase⟩, ⟨8, .phase⟩, ⟨9, .phase⟩, ⟨10, .phase⟩, ⟨11, .phase⟩, ⟨12, .phase⟩, ⟨13, .phase⟩, ⟨14, .phase⟩, ⟨15, .phase⟩, ⟨16, .phase⟩, ⟨17, .phase⟩, ⟨18, .phase⟩, ⟨19, .phase⟩, ⟨20, .phase⟩, ⟨21, .phase⟩], none⟩
def OPS59_1 : List Oper := [O59_1_0, O59_1_1, O59_1_2, O59_1_3, O59_1_4, O59_1_5, O59_1_6, O59_1_7, O59_1_8, O59_1_9, O59_1_10, O59_1_11, O59_1_12, O59_1_13, O59_1_14, O59_1_15, O59_1_16, O59_1_17, O59_1_18, O59_1_19, O59_1_20, O59_1_21, O59_1_22, O59_1_23, O59_1_24]
theorem NS59_1 : Region.noSelect OPS59_1.toArray = true := by kernel_rfl
set_option maxHeartbeats 4000000 in
theorem rg59_1 {p g n cap room c d : Nat} {S : Ss} {NX : Act -> World -> Prop} {a0 : Act} {w : World} (K0 : Kn a0 41 [(0, zp p 0), (1, zi c), (2, zi d)]) (h : Pool w p g n cap room S) (hc : c < n) (hd : d < n) (k1 : (-4611686018427387904 <= (S c).hu.c + (S c).sm.c /\ (S c).hu.c + (S c).sm.c <= 4611686018427387904)) (k2 : (-4611686018427387904 <= (S c).hu.w + (S c).sm.s /\ (S c).hu.w + (S c).sm.s <= 4611686018427387904)) (k3 : (-4611686018427387904 <= (S d).hg.c + ((S c).hu.c + (S c).sm.c) /\ (S d).hg.c + ((S c).hu.c + (S c).sm.c) <= 4611686018427387904)) (k4 : (-4611686018427387904 <= (S d).hg.w + ((S c).hu.w + (S c).sm.s) /\ (S d).hg.w + ((S c).hu.w + (S c).sm.s) <= 4611686018427387904))
  (hN : ∀ a' W, Kn a' 41 [(0, zp p 0), (1, zi c), (2, zi d)] -> Pool W p g n cap room (attach2 S c d) -> Keep [g] w W -> NX a' W) : (Code.region 1 OPS59_1.toArray true).wp Try.prog (Norm NX) a0 w := by
 have hq := @norm_q NX
 have hS : (fun w' : World => Pool w' p g n cap room S) w.drew := h.drew
 have HP := hide h
 have b0 : Below w.heap.size w w.drew := (Below.refl _ _).drew
 have e1 : (0 : Int) <= (c : Int) := by omega
 have e2 : (c : Int) < (n : Int) := by omega
 have e5 : (0 : Int) <= (d : Int) := by omega
 have e6 : (d : Int) < (n : Int) := by omega
 clear h
 refine wp_region_till (t := 24) (S := (fun w' : World => Pool w' p g n cap room S)) (by kernel_rfl) ?_
 rw [show (OPS59_1.toArray).size = 25 from by kernel_rfl]
 refine uP 0 O59_1_0 (zp p 0) K0 hq NS59_1 (want_none rfl) (fun ev E w9 => ?_) (fun _ => hS) fun a1 K1 => ?_
 ·have E0 := E.tmp 0 _ rfl; clear E; unfold O59_1_0; clear hN hq hS HP; go_simp
 refine uP 1 O59_1_1 (zp p 0) K1 hq NS59_1 (want_none rfl) (fun ev E w9 => ?_) (fun _ => hS) fun a2 K2 => ?_
 ·have E14 := E.tmp 14 _ rfl; clear E; unfold O59_1_1; clear hN hq hS HP; go_simp
 clear K1
 refine uP 2 O59_1_2 (zp p 1) K2 hq NS59_1 (want_none rfl) (fun ev E w9 => ?_) (fun _ => hS) fun a3 K3 => ?_
 ·have E15 := E.tmp 15 _ rfl; clear E; unfold O59_1_2; clear hN hq hS HP; go_simp
 clear K2
 refine utake (i := 3) (o := O59_1_3) (v := .slice (some ⟨g, 0, none⟩) n cap) K3 hq rfl NS59_1 (by kernel_rfl) (by kernel_rfl) (by kernel_rfl) (by kernel_rfl) rfl rfl (want_none rfl) (fun ev E w9 hSw => ?_) hS (fun a4 K4 => ?_)
 ·obtain ⟨c0, c1, _⟩ := hSw.head; clear hSw; have E16 := E.tmp 16 _ rfl; clear E; unfold O59_1_3; clear hN hq hS HP; go_simp
 clear K3
 refine uP 4 O59_1_4 (zi d) K4 hq NS59_1 (want_none rfl) (fun ev E w9 => ?_) (fun _ => hS) fun a5 K5 => ?_
 ·have E2 := E.tmp 2 _ rfl; clear E; unfold O59_1_4; clear hN hq hS HP; go_simp
 clear K4
 refine uP 5 O59_1_5 (zp p 0) K5 hq NS59_1 (want_none rfl) (fun ev E w9 => ?_) (fun _ => hS) fun a6 K6 => ?_
 ·have E0 := E.tmp 0 _ rfl; clear E; unfold O59_1_5; clear hN hq hS HP; go_simp
 clear K5
 refine uP 6 O59_1_6 (zp p 0) K6 hq NS59_1 (want_none rfl) (fun ev E w9 => ?_) (fun _ => hS) fun a7 K7 => ?_
 ·have E19 := E.tmp 19 _ rfl; clear E; unfold O59_1_6; clear hN hq hS HP; go_simp
 clear K6
 refine uP 7 O59_1_7 (zp p 1) K7 hq NS59_1 (want_none rfl) (fun ev E w9 => ?_) (fun _ => hS) fun a8 K8 => ?_
 ·have E20 := E.tmp 20 _ rfl; clear E; unfold O59_1_7; clear hN hq hS HP; go_simp
 clear K7
 refine utake (i := 8) (o := O59_1_8) (v := .slice (some ⟨g, 0, none⟩) n cap) K8 hq rfl NS59_1 (by kernel_rfl) (by kernel_rfl) (by kernel_rfl) (by kernel_rfl) rfl rfl (want_none rfl) (fun ev E w9 hSw => ?_) hS (fun a9 K9 => ?_)
 ·obtain ⟨c0, c1, _⟩ := hSw.head; clear hSw; have E21 := E.tmp 21 _ rfl; clear E; unfold O59_1_8; clear hN hq hS HP; go_simp
 clear K8
 refine uP 9 O59_1_9 (zi d) K9 hq NS59_1 (want_none rfl) (fun ev E w9 => ?_) (fun _ => hS) fun a10 K10 => ?_
 ·have E2 := E.tmp 2 _ rfl; clear E; unfold O59_1_9; clear hN hq hS HP; go_simp
 clear K9
 refine uP 10 O59_1_10 (zp g (d * 14)) K10 hq NS59_1 (want_none rfl) (fun ev E w9 => ?_) (fun _ => hS) fun a11 K11 => ?_
 ·have E22 := E.tmp 22 _ rfl; have E23 := E.tmp 23 _ rfl; clear E; unfold O59_1_10; clear hN hq hS HP; go_simp
 clear K10
 refine uP 11 O59_1_11 (zp g (d * 14 + 10)) K11 hq NS59_1 (want_none rfl) (fun ev E w9 => ?_) (fun _ => hS) fun a12 K12 => ?_
 ·have E24 := E.tmp 24 _ rfl; clear E; unfold O59_1_11; clear hN hq hS HP; go_simp
 clear K11
 refine utake (i := 12) (o := O59_1_12) (v := .agg #[zi (S d).hg.c, zi (S d).hg.w]) K12 hq rfl NS59_1 (by kernel_rfl) (by kernel_rfl) (by kernel_rfl) (by kernel_rfl) rfl rfl (want_none rfl) (fun ev E w9 hSw => ?_) hS (fun a13 K13 => ?_)
 ·obtain ⟨s0, s1, s2, s3, s4, s5, s6, s7, s8, s9, s10, s11, s12, s13⟩ := hSw.slot (t := d) (by assumption); clear hSw; have E25 := E.tmp 25 _ rfl; clear E; unfold O59_1_12; clear hN hq hS HP; go_simp
 clear K12
 refine uP 13 O59_1_13 (zp p 0) K13 hq NS59_1 (want_none rfl) (fun ev E w9 => ?_) (fun _ => hS) fun a14 K14 => ?_
 ·have E0 := E.tmp 0 _ rfl; clear E; unfold O59_1_13; clear hN hq hS HP; go_simp
 clear K13
 refine uP 14 O59_1_14 (zp p 0) K14 hq NS59_1 (want_none rfl) (fun ev E w9 => ?_) (fun _ => hS) fun a15 K15 => ?_
 ·have E27 := E.tmp 27 _ rfl; clear E; unfold O59_1_14; clear hN hq hS HP; go_simp
 clear K14
 refine uP 15 O59_1_15 (zp p 1) K15 hq NS59_1 (want_none rfl) (fun ev E w9 => ?_) (fun _ => hS) fun a16 K16 => ?_
 ·have E28 := E.tmp 28 _ rfl; clear E; unfold O59_1_15; clear hN hq hS HP; go_simp
 clear K15
 refine utake (i := 16) (o := O59_1_16) (v := .slice (some ⟨g, 0, none⟩) n cap) K16 hq rfl NS59_1 (by kernel_rfl) (by kernel_rfl) (by kernel_rfl) (by kernel_rfl) rfl rfl (want_none rfl) (fun ev E w9 hSw => ?_) hS (fun a17 K17 => ?_)
 ·obtain ⟨c0, c1, _⟩ := hSw.head; clear hSw; have E29 := E.tmp 29 _ rfl; clear E; unfold O59_1_16; clear hN hq hS HP; go_simp
 clear K16
 refine uP 17 O59_1_17 (zi c) K17 hq NS59_1 (want_none rfl) (fun ev E w9 => ?_) (fun _ => hS) fun a18 K18 => ?_
 ·have E1 := E.tmp 1 _ rfl; clear E; unfold O59_1_17; clear hN hq hS HP; go_simp
 clear K17
 refine uP 18 O59_1_18 (zp g (c * 14)) K18 hq NS59_1 (want_none rfl) (fun ev E w9 => ?_) (fun _ => hS) fun a19 K19 => ?_
 ·have E30 := E.tmp 30 _ rfl; have E31 := E.tmp 31 _ rfl; clear E; unfold O59_1_18; clear hN hq hS HP; go_simp
 clear K18
 refine utake (i := 19) (o := O59_1_19) (v := .agg #[zi ((S c).up : Int), zi ((S c).l : Int), zi ((S c).r : Int), .bool (S c).tn, zi (S c).wt, zi (S c).wa, zi (S c).sm.c, zi (S c).sm.s, zi (S c).sm.a, zi (S c).sm.b, zi (S c).hg.c, zi (S c).hg.w, zi (S c).hu.c, zi (S c).hu.w]) K19 hq rfl NS59_1 (by kernel_rfl) (by kernel_rfl) (by kernel_rfl) (by kernel_rfl) rfl rfl (want_none rfl) (fun ev E w9 hSw => ?_) hS (fun a20 K20 => ?_)
 ·obtain ⟨s0, s1, s2, s3, s4, s5, s6, s7, s8, s9, s10, s11, s12, s13⟩ := hSw.slot (t := c) (by assumption); clear hSw; have E32 := E.tmp 32 _ rfl; clear E; unfold O59_1_19; clear hN hq hS HP; go_simp
 clear K19
 refine uone (i := 20) (o := ⟨some 34, .call { callee := (.value (.func 75)), args := #[(.tmp 33)], argTypes := #[75] }, 73, "path.go:117", #[⟨19, .data⟩], none⟩) K20 rfl (by kernel_rfl) rfl rfl (want_none rfl) (leaves_call (fn := 75) (args := #[.agg #[zi ((S c).up : Int), zi ((S c).l : Int), zi ((S c).r : Int), .bool (S c).tn, zi (S c).wt, zi (S c).wa, zi (S c).sm.c, zi (S c).sm.s, zi (S c).sm.a, zi (S c).sm.b, zi (S c).hg.c, zi (S c).hg.w, zi (S c).hu.c, zi (S c).hu.w]]) K20 (fun ev E => by clear hN hq hS HP; have EF := E.func; have E33 := E.tmp 33 _ rfl; clear E; go_simp) (whole_any _ _ _ _ _ _ _ _ _ _ _ _ _ _ _ k1 k2) (fun e w' h => ⟨_, h.1⟩)) (fun v21 C1 hR => ?_)
 obtain ⟨hv, hb⟩ := hR
 injection hv with hv
 subst hv
 have b1 : Below w.heap.size w C1 := b0.trans (hb.mono b0.size)
 clear hS hb
 have hS : (fun w' : World => Pool w' p g n cap room S) C1 := (unhide HP).below b1
 refine ⟨fun _ => hS, fun a21 K21 => ?_⟩
 clear K20
 replace K21 : Kn _ 41 ((34, .agg #[zi ((S c).hu.c + (S c).sm.c), zi ((S c).hu.w + (S c).sm.s)]) :: _) := K21
 refine uone (i := 21) (o := ⟨some 35, .call { callee := (.value (.func 80)), args := #[(.tmp 26), (.tmp 34)], argTypes := #[73, 73] }, 73, "path.go:117", #[⟨12, .data⟩, ⟨20, .data⟩, ⟨20, .chain⟩], none⟩) K21 rfl (by kernel_rfl) rfl rfl (want_none rfl) (leaves_call (fn := 80) (args := #[.agg #[zi (S d).hg.c, zi (S d).hg.w], .agg #[zi ((S c).hu.c + (S c).sm.c), zi ((S c).hu.w + (S c).sm.s)]]) K21 (fun ev E => by clear hN hq hS HP; have EF := E.func; have E26 := E.tmp 26 _ rfl; have E34 := E.tmp 34 _ rfl; clear E; go_simp) (with_any _ _ _ _ _ k3 k4) (fun e w' h => ⟨_, h.1⟩)) (fun v22 C2 hR => ?_)
 obtain ⟨hv, hb⟩ := hR
 injection hv with hv
 subst hv
 have b2 : Below w.heap.size w C2 := b1.trans (hb.mono b1.size)
 clear hS hb
 have hS : (fun w' : World => Pool w' p g n cap room S) C2 := (unhide HP).below b2
 refine ⟨fun _ => hS, fun a22 K22 => ?_⟩
 clear K21
 replace K22 : Kn _ 41 ((35, .agg #[zi ((S d).hg.c + ((S c).hu.c + (S c).sm.c)), zi ((S d).hg.w + ((S c).hu.w + (S c).sm.s))]) :: _) := K22
 refine uP 22 O59_1_22 (zp g (d * 14)) K22 hq NS59_1 (want_none rfl) (fun ev E w9 => ?_) (fun _ => hS) fun a23 K23 => ?_
 ·have E17 := E.tmp 17 _ rfl; have E18 := E.tmp 18 _ rfl; clear E; unfold O59_1_22; clear hN hq hS HP; go_simp
 clear K22
 refine uP 23 O59_1_23 (zp g (d * 14 + 10)) K23 hq NS59_1 (want_none rfl) (fun ev E w9 => ?_) (fun _ => hS) fun a24 K24 => ?_
 ·have E36 := E.tmp 36 _ rfl; clear E; unfold O59_1_23; clear hN hq hS HP; go_simp
 clear K23
 have P0 := hide hS
 clear hS
 obtain ⟨s0, s1, s2, s3, s4, s5, s6, s7, s8, s9, s10, s11, s12, s13⟩ := (unhide P0).slot hd
 obtain ⟨f0, f1, f2, f3, f4, f5, f6, f7, f8, f9, f10, f11, f12, f13⟩ := (unhide P0).soft hd
 refine ustore (R := fun _ _ => True) (i := 24) (o := O59_1_24) (w' := ((C2).setCell ⟨g, d * 14 + 10, none⟩ (zi ((S d).hg.c + ((S c).hu.c + (S c).sm.c)))).setCell ⟨g, d * 14 + 11, none⟩ (zi ((S d).hg.w + ((S c).hu.w + (S c).sm.s)))) K24 rfl (by kernel_rfl) rfl (want_none rfl) (fun ev E => ?_) (fun hx => absurd hx (by decide)) ?_
 ·have E35 := E.tmp 35 _ rfl; have E37 := E.tmp 37 _ rfl; clear E; unfold O59_1_24; clear hN hq HP P0; go_simp
 refine till_done (by kernel_rfl) ?_ _
 have P3 := ((unhide P0).put (t := d) hd 10 (by omega) { S d with hg := { (S d).hg with c := (S d).hg.c + (wh (S c)).c } } (zi ((S d).hg.c + ((S c).hu.c + (S c).sm.c))) rfl).put (t := d) hd 11 (by omega) { S d with hg := ⟨(S d).hg.c + (wh (S c)).c, (S d).hg.w + (wh (S c)).w⟩ } (zi ((S d).hg.w + ((S c).hu.w + (S c).sm.s))) (by rw [upd_same]; rfl)
 have Q3 := ((Keep.ofBelow b2 [g]).cellB (d * 14 + 10) (zi ((S d).hg.c + ((S c).hu.c + (S c).sm.c)))).cellB (d * 14 + 11) (zi ((S d).hg.w + ((S c).hu.w + (S c).sm.s)))
 have hE : ∀ (T : Ss) (x : Sl), (∀ j, j ≠ d -> T j = S j) -> upd T d x = upd S d x := fun T x hT => by
  funext j
  by_cases hj : j = d
  ·subst hj; simp [upd]
  ·simp [upd, hj, hT j hj]
 rw [hE _ _ (fun j hj => by simp [upd, hj])] at P3
 exact hN _ _ (K24.less ⟨rfl, rfl, rfl, trivial⟩) P3 Q3
set_option maxHeartbeats 4000000 in
theorem attach_any {p g n cap room c d : Nat} {S : Ss} {w : World} (h : Pool w p g n cap room S) (hc : c < n) (hd : d < n) (cd : c ≠ d) (hl : (S d).l < n) (hr : (S d).r < n) (hlt : (S d).l ≠ d) (hrt : (S d).r ≠ d) (k1 : (-4611686018427387904 <= (S c).hu.c + (S c).sm.c /\ (S c).hu.c + (S c).sm.c <= 4611686018427387904)) (k2 : (-4611686018427387904 <= (S c).hu.w + (S c).sm.s /\ (S c).hu.w + (S c).sm.s <= 4611686018427387904)) (k3 : (-4611686018427387904 <= (S d).hg.c + ((S c).hu.c + (S c).sm.c) /\ (S d).hg.c + ((S c).hu.c + (S c).sm.c) <= 4611686018427387904)) (k4 : (-4611686018427387904 <= (S d).hg.w + ((S c).hu.w + (S c).sm.s) /\ (S d).hg.w + ((S c).hu.w + (S c).sm.s) <= 4611686018427387904)) (hb : Gbd (attach2 (attach1 S c d) c d) d) :
  Calls Try.prog 59 #[zp p 0, zi c, zi d] w fun e w' => e = .returned (.tuple #[]) /\ Keep [g] w w' /\ Pool w' p g n cap room (attachS S c d) := by
 have PH := hide h
 have KP := hide (Keep.refl [g] w)
 have HB := hide (And.intro k1 (And.intro k2 (And.intro k3 (And.intro k4 hb))))
 clear h hb k1 k2 k3 k4
 have e1 : (0 : Int) <= (c : Int) := by omega
 have e2 : (c : Int) < (n : Int) := by omega
 have e5 : (0 : Int) <= (d : Int) := by omega
 have e6 : (d : Int) < (n : Int) := by omega
 refine callsK (n := 41) (L := [(0, zp p 0), (1, zi c), (2, zi d)]) Try.func59 rfl Try.ntmps59 rfl rfl (fun a0 K0 => ?_)
 refine seqR ?_
 refine lM K0 fun a1 K1 => ?_
 refine lN K1 fun a2 K2 => ?_
 clear K1
 refine lF K2 FA66_1 fun a3 K3 => ?_
 clear K2
 refine lT (.slice (some ⟨g, 0, none⟩) n cap) w K3 (want_none rfl) (fun ev E => ?_) fun a4 K4 => ?_
 ·obtain ⟨c0, c1, _⟩ := (unhide PH).head; have E8 := E.tmp 8 _ rfl; clear E; clear PH KP HB; go_simp
 clear K3
 refine lM K4 fun a5 K5 => ?_
 clear K4
 refine lM K5 fun a6 K6 => ?_
 clear K5
 refine lT (zp g (c * 14)) w K6 (want_none rfl) (fun ev E => ?_) fun a7 K7 => ?_
 ·have E9 := E.tmp 9 _ rfl; have E10 := E.tmp 10 _ rfl; clear E; clear PH KP HB; go_simp
 clear K6
 refine lF K7 FA75_0 fun a8 K8 => ?_
 clear K7
 obtain ⟨sk, _, _, _, _, _, _, _, _, _, _, _, _, _⟩ := (unhide PH).slot (t := c) hc
 obtain ⟨fk, _, _, _, _, _, _, _, _, _, _, _, _, _⟩ := (unhide PH).soft (t := c) hc
 refine lstore (w' := w.setCell ⟨g, c * 14, none⟩ (zi d)) K8 rfl (want_none rfl) (fun ev E => ?_) ?_
 ·have E11 := E.tmp 11 _ rfl; have E13 := E.tmp 13 _ rfl; clear E; clear PH KP HB; go_simp
 clear sk fk
 have P1 := (unhide PH).put (t := c) hc 0 (by omega) { S c with up := d } (zi d) rfl
 have Q1 := (unhide KP).cellB (c * 14) (zi d)
 clear PH KP
 have PH := hide P1
 have KP := hide Q1
 clear P1 Q1
 generalize w.setCell ⟨g, c * 14, none⟩ (zi d) = W1 at *
 obtain ⟨S1, hS1⟩ : ∃ z, z = attach1 S c d := ⟨_, rfl⟩
 have PP : Pool W1 p g n cap room S1 := by rw [hS1]; exact unhide PH
 clear PH
 have PH := hide PP
 clear PP
 have HS1 := hide hS1
 clear hS1
 refine nilN ?_
 refine seqN ?_
 have K10 : Kn _ 41 [(0, zp p 0), (1, zi c), (2, zi d)] := K8.less ⟨rfl, rfl, rfl, trivial⟩
 obtain ⟨k1, k2, k3, k4, kb⟩ := unhide HB
 have sc : (S1 c).hu = (S c).hu /\ (S1 c).sm = (S c).sm /\ (S1 d).hg = (S d).hg := by
  rw [unhide HS1]
  have : ∀ y, (attach1 S c d y).hu = (S y).hu /\ (attach1 S c d y).sm = (S y).sm /\ (attach1 S c d y).hg = (S y).hg := fun y => by
   unfold attach1
   by_cases e : y = c
   ·subst e; rw [upd_same]; exact ⟨rfl, rfl, rfl⟩
   ·rw [upd_ne _ _ e]; exact ⟨rfl, rfl, rfl⟩
  exact ⟨(this c).1, (this c).2.1, (this d).2.2⟩
 rw [← sc.1, ← sc.2.1] at k1 k2
 rw [← sc.1, ← sc.2.1, ← sc.2.2] at k3 k4
 refine rg59_1 K10 (unhide PH) hc hd k1 k2 k3 k4 fun a77 W7 K77 P1 Q1 => ?_
 have Q2 := hide ((unhide KP).tr Q1)
 clear PH KP Q1 k1 k2 k3 k4 kb sc
 have PH := hide P1
 have KP := Q2
 clear Q2 P1
 obtain ⟨S2, hS2⟩ : ∃ z, z = attach2 S1 c d := ⟨_, rfl⟩
 rw [← hS2] at PH
 have HS2 := hide hS2
 clear hS2
 show Code.wp _ _ _ _ _
 refine wp_region_lit ?_
 refine lM K77 fun a11 K11 => ?_
 clear K77
 refine lM K11 fun a12 K12 => ?_
 clear K11
 have hs2 : S2 = attach2 (attach1 S c d) c d := by rw [unhide HS2, unhide HS1]
 have sd : (S2 d).l = (S d).l /\ (S2 d).r = (S d).r := by
  rw [hs2, attach2, upd_same]; dsimp only; rw [attach1, upd_ne _ _ (Ne.symm cd)]; exact ⟨rfl, rfl⟩
 refine lcall (f := 63) (args := #[zp p 0, zi d]) K12 rfl rfl (want_none rfl) (fun ev E => ?_) (gather_any (unhide PH) hd (by rw [sd.1]; exact hl) (by rw [sd.2]; exact hr) (by rw [sd.1]; exact hlt) (by rw [sd.2]; exact hrt) (by rw [hs2]; exact (unhide HB).2.2.2.2)) (fun e W13 hR => ?_)
 ·have EF := E.func; have E38 := E.tmp 38 _ rfl; have E39 := E.tmp 39 _ rfl; clear E; clear PH KP HB HS1 HS2; go_simp
 obtain ⟨rfl, P1, Q1⟩ := hR
 have Q2 := hide ((unhide KP).tr Q1)
 clear PH KP Q1
 rw [hs2] at P1
 have PH := hide P1
 have KP := Q2
 clear Q2 P1
 refine ⟨_, rfl, fun a14 K14 => ?_⟩
 clear K12
 refine wpList_nil ?_
 exact ⟨K14.defers, .tuple #[], results_none rfl _ _ _, rfl, unhide KP, unhide PH⟩
theorem attachL {p g n cap room c d : Nat} {T : Tr} {S : Ss} {G : Gh} {w : World} (h : Pool w p g n cap room S) (E : Pth S n T G d) (hc : Th T c) (hT : Top S c) (c0 : (S c).up = 0) (fc : G.fi c = c) (hne : c ∉ U T d) :
  Calls Try.prog 59 #[zp p 0, zi c, zi d] w fun e w' => e = .returned (.tuple #[]) /\ Keep [g] w w' /\ Pool w' p g n cap room (attachS S c d) /\ Lc (attachS S c d) n (T.link (c - 1) (d - 1)) G := by
 have L := E.lc
 obtain ⟨k1, k2, k3, k4⟩ := L.kids_lt E.th
 have L2 := E.attach hc hT c0 fc hne
 have cd : c ≠ d := fun e => hne (by rw [e]; exact U_self L.wf E.th)
 have bc := L.bz c
 have bd := L.bz d
 have nk := L.top_nk E.th hT (by have := hc.1; omega)
 have at1 := attachS_at S cd k3 k4 (Ne.symm nk.1) (Ne.symm nk.2) d
 rw [if_pos rfl] at at1
 have b9 := L2.bz d
 rw [at1] at b9
 have q1 := bc.c; have q2 := bc.s; have q3 := bc.uc; have q4 := bc.uw
 have r1 := bd.gc; have r2 := bd.gw
 have ad : attach1 S c d d = S d := upd_ne _ _ (Ne.symm cd)
 have ac : wh (attach1 S c d c) = wh (S c) := by unfold attach1; rw [upd_same]; rfl
 have ae : attach2 (attach1 S c d) c d d = { S d with hg := ⟨(S d).hg.c + (wh (S c)).c, (S d).hg.w + (wh (S c)).w⟩ } := by unfold attach2; rw [upd_same, ad, ac]
 have ak : ∀ j, j ≠ d -> j ≠ c -> attach2 (attach1 S c d) c d j = S j := fun j h1 h2 => by
  unfold attach2; rw [upd_ne _ _ h1]; exact upd_ne _ _ h2
 refine (attach_any h (L.lt c hc) (L.lt d E.th) cd k1 k2 k3 k4 ⟨by omega, by omega⟩ ⟨by omega, by omega⟩ ⟨by omega, by omega⟩ ⟨by omega, by omega⟩ (gbd_of ?_ ?_ ?_)).mono ?_
 ·rw [ae]; dsimp only; rw [ak _ k3 (Ne.symm nk.1)]; exact L.bz _
 ·rw [ae]; dsimp only; rw [ak _ k4 (Ne.symm nk.2)]; exact L.bz _
 ·rw [ae]; exact ⟨bd.c, bd.s, bd.uc, bd.uw, b9.gc, b9.gw, bd.wt⟩
 ·rintro e w' ⟨rfl, h1, h2⟩
  exact ⟨rfl, h1, h2, L2⟩
end Go.Proofs.Ytjnkgakajenoaaa
