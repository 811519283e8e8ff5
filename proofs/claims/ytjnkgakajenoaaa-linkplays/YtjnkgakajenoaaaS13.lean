/- Part 13 of the texts. -/
import Derived.Test.YtjnkgakajenoaaaS1
import Derived.Test.YtjnkgakajenoaaaS12
import Derived.Test.YtjnkgakajenoaaaS9
import Derived.Test.YtjnkgakajenoaaaS11
namespace Go.Proofs.Ytjnkgakajenoaaa
open Go.RowKit Go.Arb
set_option linter.unusedVariables false
set_option linter.unusedSimpArgs false
set_option maxRecDepth 100000
set_option maxHeartbeats 4000000 in
theorem pathY {p g n cap room : Nat} {T : Tr} {S : Ss} {G : Gh} {w : World} {i j t u r : Nat} (h : Pool w p g n cap room S) (L : Lc S n T G) (hi : Th T t) (hit : t = i + 1) (hj : Th T u) (hju : u = j + 1) (hs : T.sameI (i : Int) (j : Int) = true) (hr : T.rootI (i : Int) = (r : Int)) :
  Calls Try.prog 31 #[zp p 0, zi i, zi j] w fun e w' => e = .returned (.tuple #[.agg #[zi (ofL (((T.evert i).up j).map T.wt)).c, zi (ofL (((T.evert i).up j).map T.wt)).s, zi (ofL (((T.evert i).up j).map T.wt)).a, zi (ofL (((T.evert i).up j).map T.wt)).b], .bool true]) /\ Keep [g] w w' /\ ∃ S1 G1, Pool w' p g n cap room S1 /\ Lc S1 n T G1 := by
 have PH := hide h
 have KP := hide (Keep.refl [g] w)
 have LH := hide L
 clear h L
 have lt1 := (unhide LH).lt t hi
 have e1 : (0 : Int) <= (t : Int) := by omega
 have e2 : (t : Int) < (n : Int) := by omega
 have t1 := hi.1
 have e5 : ¬ (t : Int) = 0 := by omega
 have e6 : ¬ t = 0 := by omega
 have HT := hide hi
 have HI := hide hit
 clear hi hit t1
 have lt2 := (unhide LH).lt u hj
 have e3 : (0 : Int) <= (u : Int) := by omega
 have e4 : (u : Int) < (n : Int) := by omega
 have HU := hide hj
 have HJ := hide hju
 clear hj hju
 have HSM := hide hs
 have HR := hide hr
 clear hs hr
 refine callsK (n := 33) (L := [(0, zp p 0), (1, zi i), (2, zi j)]) Try.func31 rfl Try.ntmps31 rfl rfl (fun a0 K0 => ?_)
 refine seqR ?_
 refine lT (zp w.heap.size 0) (w.alloc (.cells #[zi 0, zi 0, zi 0, zi 0] 34)) K0 (want_none rfl) (fun ev E => ?_) fun a1 K1 => ?_
 ·clear E; clear PH KP LH HT HI HU HJ HSM HR; go_simp
 have LB := (Below.refl w.heap.size w).alloc (Nat.le_refl _) (.cells #[zi 0, zi 0, zi 0, zi 0] 34)
 have PA := (unhide PH).below LB
 have KA := (unhide KP).belowB LB
 have BA := heap_alloc_new w (.cells #[zi 0, zi 0, zi 0, zi 0] 34)
 have bg : g ≠ w.heap.size /\ p ≠ w.heap.size := ⟨by have := (unhide PH).lt.2; omega, by have := (unhide PH).lt.1; omega⟩
 have bs : w.heap.size <= w.heap.size := (unhide KP).size
 clear PH KP LB
 generalize (w.alloc (.cells #[zi 0, zi 0, zi 0, zi 0] 34)) = Wd6 at *
 obtain ⟨d6, hd⟩ : ∃ z, z = w.heap.size := ⟨_, rfl⟩
 rw [← hd] at BA bg K1
 have bs2 : w.heap.size <= d6 := by rw [hd]; exact bs
 clear hd bs
 have PH := hide PA
 have KP := hide KA
 have Bd6 := hide BA
 have Nd6 := hide (And.intro bg.1 (And.intro bg.2 bs2))
 clear PA KA BA bg bs2
 refine lC K1 fun a2 K2 => ?_
 clear K1
 refine nilN ?_
 refine seqR ?_
 refine lM K2 fun a3 K3 => ?_
 clear K2
 refine lM K3 fun a4 K4 => ?_
 clear K3
 refine lcall (f := 39) (args := #[zp p 0, zi i]) K4 rfl rfl (want_none rfl) (fun ev E => ?_) (rootLit (unhide PH) (unhide LH) (unhide HT) (unhide HI) (unhide HR)) (fun e W5 hR => ?_)
 ·have EF := E.func; have E11 := E.tmp 11 _ rfl; have E12 := E.tmp 12 _ rfl; clear E; clear PH KP LH HT HI HU HJ HSM HR Bd6 Nd6; go_simp
 obtain ⟨rfl, Q1, S1, G1, P1, L1⟩ := hR
 have Xd6 := hide ((Q1.block d6 (blk_lt (unhide Bd6)) (by simp; exact Ne.symm (unhide Nd6).1)).trans (unhide Bd6))
 have Q2 := hide ((unhide KP).tr Q1)
 clear PH KP Q1 Bd6
 have PH := hide P1
 have KP := Q2
 clear Q2 P1
 have Bd6 := Xd6
 clear Xd6
 refine ⟨_, rfl, fun a6 K6 => ?_⟩
 clear K4
 refine lA K6 fun a7 K7 => ?_
 clear K6
 refine nilN ?_
 refine seqR ?_
 refine lM K7 fun a8 K8 => ?_
 clear K7
 refine lM K8 fun a9 K9 => ?_
 clear K8
 refine lM K9 fun a10 K10 => ?_
 clear K9
 refine lcall (f := 64) (args := #[zp p 0, zi i, zi j]) K10 rfl rfl (want_none rfl) (fun ev E => ?_) (wayY (unhide PH) L1 (unhide HT) (unhide HI) (unhide HU) (unhide HJ) (unhide HSM)) (fun e W11 hR => ?_)
 ·have EF := E.func; have E14 := E.tmp 14 _ rfl; have E15 := E.tmp 15 _ rfl; have E16 := E.tmp 16 _ rfl; clear E; clear PH KP LH HT HI HU HJ HSM HR Bd6 Nd6 L1; go_simp
 obtain ⟨rfl, Q1, S2, G2, P1, E2⟩ := hR
 have Xd6 := hide ((Q1.block d6 (blk_lt (unhide Bd6)) (by simp; exact Ne.symm (unhide Nd6).1)).trans (unhide Bd6))
 have Q2 := hide ((unhide KP).tr Q1)
 clear PH KP Q1 Bd6
 have PH := hide P1
 have KP := Q2
 clear Q2 P1
 have Bd6 := Xd6
 clear Xd6
 refine ⟨_, rfl, fun a12 K12 => ?_⟩
 clear K10
 have HE := hide E2
 have hsum := E2.sum
 rw [show u - 1 = j by have := unhide HJ; omega] at hsum
 have HSU := hide hsum
 clear E2 hsum
 have e7 : ¬ (u : Int) = 0 := by have := (unhide HU).1; omega
 have e8 : ¬ u = 0 := by have := (unhide HU).1; omega
 refine lA K12 fun a13 K13 => ?_
 clear K12
 refine nilN ?_
 refine seqN ?_
 refine seqR ?_
 refine lM K13 fun a14 K14 => ?_
 clear K13
 refine lT (.bool false) W11 K14 (want_none rfl) (fun ev E => ?_) fun a15 K15 => ?_
 ·have EC := E.const; have E18 := E.tmp 18 _ rfl; clear E; clear PH KP LH HT HI HU HJ HSM HR Bd6 Nd6 L1 HE HSU; go_simp
 clear K14
 refine nilN ?_
 refine knCond (b := false) K15 rfl ?_
 refine wp_skip ?_
 show Code.wp _ _ _ _ _
 refine seqR ?_
 refine lM K15 fun a16 K16 => ?_
 clear K15
 refine lN K16 fun a17 K17 => ?_
 clear K16
 refine lF K17 FA66_1 fun a18 K18 => ?_
 clear K17
 refine lT (.slice (some ⟨g, 0, none⟩) n cap) W11 K18 (want_none rfl) (fun ev E => ?_) fun a19 K19 => ?_
 ·obtain ⟨c0, c1, _⟩ := (unhide PH).head; have E23 := E.tmp 23 _ rfl; clear E; clear PH KP LH HT HI HU HJ HSM HR Bd6 Nd6 L1 HE HSU; go_simp
 clear K18
 refine lM K19 fun a20 K20 => ?_
 clear K19
 refine lT (zp g (u * 14)) W11 K20 (want_none rfl) (fun ev E => ?_) fun a21 K21 => ?_
 ·have E24 := E.tmp 24 _ rfl; have E25 := E.tmp 25 _ rfl; clear E; clear PH KP LH HT HI HU HJ HSM HR Bd6 Nd6 L1 HE HSU; go_simp
 clear K20
 refine lF K21 FA75_6 fun a22 K22 => ?_
 clear K21
 refine lT (.agg #[zi (S2 u).sm.c, zi (S2 u).sm.s, zi (S2 u).sm.a, zi (S2 u).sm.b]) W11 K22 (want_none rfl) (fun ev E => ?_) fun a23 K23 => ?_
 ·obtain ⟨s0, s1, s2, s3, s4, s5, s6, s7, s8, s9, s10, s11, s12, s13⟩ := (unhide PH).slot (t := u) (by assumption); have E27 := E.tmp 27 _ rfl; clear E; clear PH KP LH HT HI HU HJ HSM HR Bd6 Nd6 L1 HE HSU; go_simp
 clear K22
 refine lT (zp W11.heap.size 0) (W11.alloc (.cells #[zi 0, zi 0, zi 0, zi 0] 34)) K23 (want_none rfl) (fun ev E => ?_) fun a24 K24 => ?_
 ·clear E; clear PH KP LH HT HI HU HJ HSM HR Bd6 Nd6 L1 HE HSU; go_simp
 clear K23
 have LB := (Below.refl W11.heap.size W11).alloc (Nat.le_refl _) (.cells #[zi 0, zi 0, zi 0, zi 0] 34)
 have PA := (unhide PH).below LB
 have KA := (unhide KP).belowB LB
 have BA := heap_alloc_new W11 (.cells #[zi 0, zi 0, zi 0, zi 0] 34)
 have bg : g ≠ W11.heap.size /\ p ≠ W11.heap.size := ⟨by have := (unhide PH).lt.2; omega, by have := (unhide PH).lt.1; omega⟩
 have Xd6 := (LB.block d6 (blk_lt (unhide Bd6))).trans (unhide Bd6)
 have Yd6 : d6 ≠ W11.heap.size := by have := blk_lt (unhide Bd6); omega
 have bs : w.heap.size <= W11.heap.size := (unhide KP).size
 clear PH KP LB Bd6
 generalize (W11.alloc (.cells #[zi 0, zi 0, zi 0, zi 0] 34)) = Wd10 at *
 obtain ⟨d10, hd⟩ : ∃ z, z = W11.heap.size := ⟨_, rfl⟩
 rw [← hd] at BA bg K24 Yd6
 have bs2 : w.heap.size <= d10 := by rw [hd]; exact bs
 clear hd bs
 have PH := hide PA
 have KP := hide KA
 have Bd10 := hide BA
 have Nd10 := hide (And.intro bg.1 (And.intro bg.2 bs2))
 clear PA KA BA bg bs2
 have Bd6 := hide Xd6
 have Yd6h := hide Yd6
 clear Xd6
 clear Yd6
 have bb := unhide Bd10
 have cA : ∀ k, k < 4 -> Wd10.cell? ⟨d10, k, none⟩ = (#[zi 0, zi 0, zi 0, zi 0] : Array Value)[k]? /\ Wd10.frozen? ⟨d10, k, none⟩ = false := fun k hk => by
  constructor
  ·simp [World.cell?, bb]
  ·simp [World.frozen?, bb]
 have s0 := (cA 0 (by omega)).1; have f0 := (cA 0 (by omega)).2
 have s1 := (cA 1 (by omega)).1; have f1 := (cA 1 (by omega)).2
 have s2 := (cA 2 (by omega)).1; have f2 := (cA 2 (by omega)).2
 have s3 := (cA 3 (by omega)).1; have f3 := (cA 3 (by omega)).2
 simp only [List.getElem?_toArray, List.getElem?_cons_succ, List.getElem?_cons_zero] at s0 s1 s2 s3
 clear cA bb
 refine lstore (w' := ((((Wd10.setCell ⟨d10, 0, none⟩ (zi (S2 u).sm.c)).setCell ⟨d10, 1, none⟩ (zi (S2 u).sm.s)).setCell ⟨d10, 2, none⟩ (zi (S2 u).sm.a)).setCell ⟨d10, 3, none⟩ (zi (S2 u).sm.b))) K24 rfl (want_none rfl) (fun ev E => ?_) ?_
 ·have E10 := E.tmp 10 _ rfl; have E28 := E.tmp 28 _ rfl; clear E; clear PH KP LH HT HI HU HJ HSM HR Bd6 Nd6 L1 HE HSU Bd10 Nd10 Yd6h; go_simp
 clear s0 s1 s2 s3 f0 f1 f2 f3
 have b0 := heap_setCell_same Wd10 d10 0 _ _ (zi (S2 u).sm.c) (unhide Bd10)
 have b1 := heap_setCell_same (Wd10.setCell ⟨d10, 0, none⟩ (zi (S2 u).sm.c)) d10 1 _ _ (zi (S2 u).sm.s) b0
 have b2 := heap_setCell_same ((Wd10.setCell ⟨d10, 0, none⟩ (zi (S2 u).sm.c)).setCell ⟨d10, 1, none⟩ (zi (S2 u).sm.s)) d10 2 _ _ (zi (S2 u).sm.a) b1
 have b3 := heap_setCell_same (((Wd10.setCell ⟨d10, 0, none⟩ (zi (S2 u).sm.c)).setCell ⟨d10, 1, none⟩ (zi (S2 u).sm.s)).setCell ⟨d10, 2, none⟩ (zi (S2 u).sm.a)) d10 3 _ _ (zi (S2 u).sm.b) b2
 have KB : Keep [d10] Wd10 ((((Wd10.setCell ⟨d10, 0, none⟩ (zi (S2 u).sm.c)).setCell ⟨d10, 1, none⟩ (zi (S2 u).sm.s)).setCell ⟨d10, 2, none⟩ (zi (S2 u).sm.a)).setCell ⟨d10, 3, none⟩ (zi (S2 u).sm.b)) := (((((Keep.refl [d10] Wd10).cellB (0) (zi (S2 u).sm.c)).cellB (1) (zi (S2 u).sm.s)).cellB (2) (zi (S2 u).sm.a)).cellB (3) (zi (S2 u).sm.b))
 have PB1 := (unhide PH).keep KB (by simp; exact (unhide Nd10).2.1) (by simp; exact (unhide Nd10).1)
 have KB1 : Keep [g] w ((((Wd10.setCell ⟨d10, 0, none⟩ (zi (S2 u).sm.c)).setCell ⟨d10, 1, none⟩ (zi (S2 u).sm.s)).setCell ⟨d10, 2, none⟩ (zi (S2 u).sm.a)).setCell ⟨d10, 3, none⟩ (zi (S2 u).sm.b)) := (unhide KP).trans KB (fun i hi => by simp at hi; right; rw [hi]; exact (unhide Nd10).2.2)
 have Xd6 := (KB.block d6 (blk_lt (unhide Bd6)) (by simp; exact unhide Yd6h)).trans (unhide Bd6)
 have bN : ((((Wd10.setCell ⟨d10, 0, none⟩ (zi (S2 u).sm.c)).setCell ⟨d10, 1, none⟩ (zi (S2 u).sm.s)).setCell ⟨d10, 2, none⟩ (zi (S2 u).sm.a)).setCell ⟨d10, 3, none⟩ (zi (S2 u).sm.b)).heap[d10]? = some (.cells #[zi (S2 u).sm.c, zi (S2 u).sm.s, zi (S2 u).sm.a, zi (S2 u).sm.b] 34 (0, 0)) := by rw [b3]; simp
 clear PH KP KB b0 b1 b2 b3 Bd10 Bd6
 generalize ((((Wd10.setCell ⟨d10, 0, none⟩ (zi (S2 u).sm.c)).setCell ⟨d10, 1, none⟩ (zi (S2 u).sm.s)).setCell ⟨d10, 2, none⟩ (zi (S2 u).sm.a)).setCell ⟨d10, 3, none⟩ (zi (S2 u).sm.b)) = Vd10a at *
 have PH := hide PB1
 have KP := hide KB1
 have Bd10 := hide bN
 clear PB1 KB1 bN
 have Bd6 := hide Xd6
 clear Xd6
 refine nilN ?_
 refine seqR ?_
 refine lM K24 fun a26 K26 => ?_
 clear K24
 refine lM K26 fun a27 K27 => ?_
 clear K26
 have rb := root_back (unhide LH).wf (i := i) (by have q := (unhide HT).2; rw [unhide HI] at q; simpa using q) (unhide HR)
 have ht0 : T.par i ≠ -2 := by have q := (unhide HT).2; rw [unhide HI] at q; simpa using q
 refine lcall (f := 25) (args := #[zp p 0, zi r]) K27 rfl rfl (want_none rfl) (fun ev E => ?_) (evertY (i := r) (t := r + 1) (unhide PH) (unhide HE).lc ((th_evert (unhide LH).wf ht0).2 ⟨by omega, by simpa using rb.1⟩) rfl) (fun e W28 hR => ?_)
 ·have EF := E.func; have E29 := E.tmp 29 _ rfl; have E30 := E.tmp 30 _ rfl; clear E; clear PH KP LH HT HI HU HJ HSM HR Bd6 Nd6 L1 HE HSU Bd10 Nd10 Yd6h rb ht0; go_simp
 obtain ⟨rfl, Q1, S9, G9, P1, L9⟩ := hR
 have Xd6 := hide ((Q1.block d6 (blk_lt (unhide Bd6)) (by simp; exact Ne.symm (unhide Nd6).1)).trans (unhide Bd6))
 have Xd10 := hide ((Q1.block d10 (blk_lt (unhide Bd10)) (by simp; exact Ne.symm (unhide Nd10).1)).trans (unhide Bd10))
 have Q2 := hide ((unhide KP).tr Q1)
 clear PH KP Q1 Bd6 Bd10
 have PH := hide P1
 have KP := Q2
 clear Q2 P1
 have Bd6 := Xd6
 clear Xd6
 have Bd10 := Xd10
 clear Xd10
 refine ⟨_, rfl, fun a29 K29 => ?_⟩
 clear K27
 rw [rb.2] at L9
 refine nilN ?_
 refine seqR ?_
 have bb := unhide Bd10
 have q0 : W28.cell? ⟨d10, 0, none⟩ = some (zi (S2 u).sm.c) := by simp [World.cell?, bb]
 have q1 : W28.cell? ⟨d10, 1, none⟩ = some (zi (S2 u).sm.s) := by simp [World.cell?, bb]
 have q2 : W28.cell? ⟨d10, 2, none⟩ = some (zi (S2 u).sm.a) := by simp [World.cell?, bb]
 have q3 : W28.cell? ⟨d10, 3, none⟩ = some (zi (S2 u).sm.b) := by simp [World.cell?, bb]
 clear bb
 refine lT (.agg #[zi (S2 u).sm.c, zi (S2 u).sm.s, zi (S2 u).sm.a, zi (S2 u).sm.b]) W28 K29 (want_none rfl) (fun ev E => ?_) fun a30 K30 => ?_
 ·have E10 := E.tmp 10 _ rfl; clear E; clear PH KP LH HT HI HU HJ HSM HR Bd6 Nd6 L1 HE HSU Bd10 Nd10 Yd6h rb ht0 L9; go_simp
 clear K29
 clear q0 q1 q2 q3
 have bb := unhide Bd6
 have cA : ∀ k, k < 4 -> W28.cell? ⟨d6, k, none⟩ = (#[zi 0, zi 0, zi 0, zi 0] : Array Value)[k]? /\ W28.frozen? ⟨d6, k, none⟩ = false := fun k hk => by
  constructor
  ·simp [World.cell?, bb]
  ·simp [World.frozen?, bb]
 have s0 := (cA 0 (by omega)).1; have f0 := (cA 0 (by omega)).2
 have s1 := (cA 1 (by omega)).1; have f1 := (cA 1 (by omega)).2
 have s2 := (cA 2 (by omega)).1; have f2 := (cA 2 (by omega)).2
 have s3 := (cA 3 (by omega)).1; have f3 := (cA 3 (by omega)).2
 simp only [List.getElem?_toArray, List.getElem?_cons_succ, List.getElem?_cons_zero] at s0 s1 s2 s3
 clear cA bb
 refine lstore (w' := ((((W28.setCell ⟨d6, 0, none⟩ (zi (S2 u).sm.c)).setCell ⟨d6, 1, none⟩ (zi (S2 u).sm.s)).setCell ⟨d6, 2, none⟩ (zi (S2 u).sm.a)).setCell ⟨d6, 3, none⟩ (zi (S2 u).sm.b))) K30 rfl (want_none rfl) (fun ev E => ?_) ?_
 ·have E6 := E.tmp 6 _ rfl; have E32 := E.tmp 32 _ rfl; clear E; clear PH KP LH HT HI HU HJ HSM HR Bd6 Nd6 L1 HE HSU Bd10 Nd10 Yd6h rb ht0 L9; go_simp
 clear s0 s1 s2 s3 f0 f1 f2 f3
 have b0 := heap_setCell_same W28 d6 0 _ _ (zi (S2 u).sm.c) (unhide Bd6)
 have b1 := heap_setCell_same (W28.setCell ⟨d6, 0, none⟩ (zi (S2 u).sm.c)) d6 1 _ _ (zi (S2 u).sm.s) b0
 have b2 := heap_setCell_same ((W28.setCell ⟨d6, 0, none⟩ (zi (S2 u).sm.c)).setCell ⟨d6, 1, none⟩ (zi (S2 u).sm.s)) d6 2 _ _ (zi (S2 u).sm.a) b1
 have b3 := heap_setCell_same (((W28.setCell ⟨d6, 0, none⟩ (zi (S2 u).sm.c)).setCell ⟨d6, 1, none⟩ (zi (S2 u).sm.s)).setCell ⟨d6, 2, none⟩ (zi (S2 u).sm.a)) d6 3 _ _ (zi (S2 u).sm.b) b2
 have KB : Keep [d6] W28 ((((W28.setCell ⟨d6, 0, none⟩ (zi (S2 u).sm.c)).setCell ⟨d6, 1, none⟩ (zi (S2 u).sm.s)).setCell ⟨d6, 2, none⟩ (zi (S2 u).sm.a)).setCell ⟨d6, 3, none⟩ (zi (S2 u).sm.b)) := (((((Keep.refl [d6] W28).cellB (0) (zi (S2 u).sm.c)).cellB (1) (zi (S2 u).sm.s)).cellB (2) (zi (S2 u).sm.a)).cellB (3) (zi (S2 u).sm.b))
 have PB1 := (unhide PH).keep KB (by simp; exact (unhide Nd6).2.1) (by simp; exact (unhide Nd6).1)
 have KB1 : Keep [g] w ((((W28.setCell ⟨d6, 0, none⟩ (zi (S2 u).sm.c)).setCell ⟨d6, 1, none⟩ (zi (S2 u).sm.s)).setCell ⟨d6, 2, none⟩ (zi (S2 u).sm.a)).setCell ⟨d6, 3, none⟩ (zi (S2 u).sm.b)) := (unhide KP).trans KB (fun i hi => by simp at hi; right; rw [hi]; exact (unhide Nd6).2.2)
 have Xd10 := (KB.block d10 (blk_lt (unhide Bd10)) (by simp; exact (Ne.symm (unhide Yd6h)))).trans (unhide Bd10)
 have bN : ((((W28.setCell ⟨d6, 0, none⟩ (zi (S2 u).sm.c)).setCell ⟨d6, 1, none⟩ (zi (S2 u).sm.s)).setCell ⟨d6, 2, none⟩ (zi (S2 u).sm.a)).setCell ⟨d6, 3, none⟩ (zi (S2 u).sm.b)).heap[d6]? = some (.cells #[zi (S2 u).sm.c, zi (S2 u).sm.s, zi (S2 u).sm.a, zi (S2 u).sm.b] 34 (0, 0)) := by rw [b3]; simp
 clear PH KP KB b0 b1 b2 b3 Bd6 Bd10
 generalize ((((W28.setCell ⟨d6, 0, none⟩ (zi (S2 u).sm.c)).setCell ⟨d6, 1, none⟩ (zi (S2 u).sm.s)).setCell ⟨d6, 2, none⟩ (zi (S2 u).sm.a)).setCell ⟨d6, 3, none⟩ (zi (S2 u).sm.b)) = Vd6new at *
 have PH := hide PB1
 have KP := hide KB1
 have Bd6 := hide bN
 clear PB1 KB1 bN
 have Bd10 := hide Xd10
 clear Xd10
 refine lC K30 fun a32 K32 => ?_
 clear K30
 refine nilN ?_
 refine wp_ret ?_
 have su := unhide HSU
 have bb := unhide Bd6
 have q0 : Vd6new.cell? ⟨d6, 0, none⟩ = some (zi (S2 u).sm.c) := by simp [World.cell?, bb]
 have q1 : Vd6new.cell? ⟨d6, 1, none⟩ = some (zi (S2 u).sm.s) := by simp [World.cell?, bb]
 have q2 : Vd6new.cell? ⟨d6, 2, none⟩ = some (zi (S2 u).sm.a) := by simp [World.cell?, bb]
 have q3 : Vd6new.cell? ⟨d6, 3, none⟩ = some (zi (S2 u).sm.b) := by simp [World.cell?, bb]
 refine bodyPost_ret (v := .tuple #[.agg #[zi (S2 u).sm.c, zi (S2 u).sm.s, zi (S2 u).sm.a, zi (S2 u).sm.b], .bool true]) ?_ K32.defers ⟨?_, unhide KP, S9, G9, unhide PH, L9⟩
 ·have e6 := K32.has 6 _ rfl
  have e7 := K32.has 7 _ rfl
  clear su bb
  simp [results, Try.results31, go_sem, e6, e7, q0, q1, q2, q3]
 ·rw [su]; rfl
set_option maxHeartbeats 4000000 in
theorem pathN {p g n cap room : Nat} {T : Tr} {S : Ss} {G : Gh} {w : World} {x y : Int} (h : Pool w p g n cap room S) (L : Lc S n T G) (hs : T.sameI x y = false) :
  Calls Try.prog 31 #[zp p 0, zi x, zi y] w fun e w' => e = .returned (.tuple #[.agg #[zi 0, zi 0, zi 0, zi 0], .bool false]) /\ Keep [g] w w' /\ ∃ S1 G1, Pool w' p g n cap room S1 /\ Lc S1 n T G1 := by
 have PH := hide h
 have KP := hide (Keep.refl [g] w)
 have LH := hide L
 clear h L
 refine callsK (n := 33) (L := [(0, zp p 0), (1, zi x), (2, zi y)]) Try.func31 rfl Try.ntmps31 rfl rfl (fun a0 K0 => ?_)
 refine seqR ?_
 refine lT (zp w.heap.size 0) (w.alloc (.cells #[zi 0, zi 0, zi 0, zi 0] 34)) K0 (want_none rfl) (fun ev E => ?_) fun a1 K1 => ?_
 ·clear E; clear PH KP LH; go_simp
 have LB := (Below.refl w.heap.size w).alloc (Nat.le_refl _) (.cells #[zi 0, zi 0, zi 0, zi 0] 34)
 have PA := (unhide PH).below LB
 have KA := (unhide KP).belowB LB
 have BA := heap_alloc_new w (.cells #[zi 0, zi 0, zi 0, zi 0] 34)
 have bg : g ≠ w.heap.size /\ p ≠ w.heap.size := ⟨by have := (unhide PH).lt.2; omega, by have := (unhide PH).lt.1; omega⟩
 have bs : w.heap.size <= w.heap.size := (unhide KP).size
 clear PH KP LB
 generalize (w.alloc (.cells #[zi 0, zi 0, zi 0, zi 0] 34)) = Wd6 at *
 obtain ⟨d6, hd⟩ : ∃ z, z = w.heap.size := ⟨_, rfl⟩
 rw [← hd] at BA bg K1
 have bs2 : w.heap.size <= d6 := by rw [hd]; exact bs
 clear hd bs
 have PH := hide PA
 have KP := hide KA
 have Bd6 := hide BA
 have Nd6 := hide (And.intro bg.1 (And.intro bg.2 bs2))
 clear PA KA BA bg bs2
 refine lC K1 fun a2 K2 => ?_
 clear K1
 refine nilN ?_
 refine seqR ?_
 refine lM K2 fun a3 K3 => ?_
 clear K2
 refine lM K3 fun a4 K4 => ?_
 clear K3
 refine lcall (f := 39) (args := #[zp p 0, zi x]) K4 rfl rfl (want_none rfl) (fun ev E => ?_) (rootAll (unhide PH) (unhide LH) x) (fun e W5 hR => ?_)
 ·have EF := E.func; have E11 := E.tmp 11 _ rfl; have E12 := E.tmp 12 _ rfl; clear E; clear PH KP LH Bd6 Nd6; go_simp
 obtain ⟨rfl, Q1, S1, G1, P1, L1⟩ := hR
 have Xd6 := hide ((Q1.block d6 (blk_lt (unhide Bd6)) (by simp; exact Ne.symm (unhide Nd6).1)).trans (unhide Bd6))
 have Q2 := hide ((unhide KP).tr Q1)
 clear PH KP Q1 Bd6
 have PH := hide P1
 have KP := Q2
 clear Q2 P1
 have Bd6 := Xd6
 clear Xd6
 refine ⟨_, rfl, fun a6 K6 => ?_⟩
 clear K4
 refine lA K6 fun a7 K7 => ?_
 clear K6
 refine nilN ?_
 refine seqR ?_
 refine lM K7 fun a8 K8 => ?_
 clear K7
 refine lM K8 fun a9 K9 => ?_
 clear K8
 refine lM K9 fun a10 K10 => ?_
 clear K9
 refine lcall (f := 64) (args := #[zp p 0, zi x, zi y]) K10 rfl rfl (want_none rfl) (fun ev E => ?_) (wayN (unhide PH) L1 hs) (fun e W11 hR => ?_)
 ·have EF := E.func; have E14 := E.tmp 14 _ rfl; have E15 := E.tmp 15 _ rfl; have E16 := E.tmp 16 _ rfl; clear E; clear PH KP LH Bd6 Nd6 L1; go_simp
 obtain ⟨rfl, Q1, S2, G2, P1, L2⟩ := hR
 have Xd6 := hide ((Q1.block d6 (blk_lt (unhide Bd6)) (by simp; exact Ne.symm (unhide Nd6).1)).trans (unhide Bd6))
 have Q2 := hide ((unhide KP).tr Q1)
 clear PH KP Q1 Bd6
 have PH := hide P1
 have KP := Q2
 clear Q2 P1
 have Bd6 := Xd6
 clear Xd6
 refine ⟨_, rfl, fun a12 K12 => ?_⟩
 clear K10
 refine lA K12 fun a13 K13 => ?_
 clear K12
 refine nilN ?_
 refine wp_seq ?_
 refine seqR ?_
 refine lM K13 fun a14 K14 => ?_
 clear K13
 refine lT (.bool true) W11 K14 (want_none rfl) (fun ev E => ?_) fun a15 K15 => ?_
 ·have EC := E.const; have E18 := E.tmp 18 _ rfl; clear E; clear PH KP LH Bd6 Nd6 L1 L2; go_simp
 clear K14
 refine nilN ?_
 refine knCond (b := true) K15 rfl ?_
 refine seqR ?_
 refine lT (.agg #[zi 0, zi 0, zi 0, zi 0]) W11 K15 (want_none rfl) (fun ev E => ?_) fun a16 K16 => ?_
 ·clear E; clear PH KP LH Bd6 Nd6 L1 L2; go_simp
 clear K15
 have bb := unhide Bd6
 have cA : ∀ k, k < 4 -> W11.cell? ⟨d6, k, none⟩ = (#[zi 0, zi 0, zi 0, zi 0] : Array Value)[k]? /\ W11.frozen? ⟨d6, k, none⟩ = false := fun k hk => by
  constructor
  ·simp [World.cell?, bb]
  ·simp [World.frozen?, bb]
 have s0 := (cA 0 (by omega)).1; have f0 := (cA 0 (by omega)).2
 have s1 := (cA 1 (by omega)).1; have f1 := (cA 1 (by omega)).2
 have s2 := (cA 2 (by omega)).1; have f2 := (cA 2 (by omega)).2
 have s3 := (cA 3 (by omega)).1; have f3 := (cA 3 (by omega)).2
 simp only [List.getElem?_toArray, List.getElem?_cons_succ, List.getElem?_cons_zero] at s0 s1 s2 s3
 clear cA bb
 refine lstore (w' := ((((W11.setCell ⟨d6, 0, none⟩ (zi 0)).setCell ⟨d6, 1, none⟩ (zi 0)).setCell ⟨d6, 2, none⟩ (zi 0)).setCell ⟨d6, 3, none⟩ (zi 0))) K16 rfl (want_none rfl) (fun ev E => ?_) ?_
 ·have E6 := E.tmp 6 _ rfl; have E20 := E.tmp 20 _ rfl; clear E; clear PH KP LH Bd6 Nd6 L1 L2; go_simp
 clear s0 s1 s2 s3 f0 f1 f2 f3
 have b0 := heap_setCell_same W11 d6 0 _ _ (zi 0) (unhide Bd6)
 have b1 := heap_setCell_same (W11.setCell ⟨d6, 0, none⟩ (zi 0)) d6 1 _ _ (zi 0) b0
 have b2 := heap_setCell_same ((W11.setCell ⟨d6, 0, none⟩ (zi 0)).setCell ⟨d6, 1, none⟩ (zi 0)) d6 2 _ _ (zi 0) b1
 have b3 := heap_setCell_same (((W11.setCell ⟨d6, 0, none⟩ (zi 0)).setCell ⟨d6, 1, none⟩ (zi 0)).setCell ⟨d6, 2, none⟩ (zi 0)) d6 3 _ _ (zi 0) b2
 have KB : Keep [d6] W11 ((((W11.setCell ⟨d6, 0, none⟩ (zi 0)).setCell ⟨d6, 1, none⟩ (zi 0)).setCell ⟨d6, 2, none⟩ (zi 0)).setCell ⟨d6, 3, none⟩ (zi 0)) := (((((Keep.refl [d6] W11).cellB (0) (zi 0)).cellB (1) (zi 0)).cellB (2) (zi 0)).cellB (3) (zi 0))
 have PB1 := (unhide PH).keep KB (by simp; exact (unhide Nd6).2.1) (by simp; exact (unhide Nd6).1)
 have KB1 : Keep [g] w ((((W11.setCell ⟨d6, 0, none⟩ (zi 0)).setCell ⟨d6, 1, none⟩ (zi 0)).setCell ⟨d6, 2, none⟩ (zi 0)).setCell ⟨d6, 3, none⟩ (zi 0)) := (unhide KP).trans KB (fun i hi => by simp at hi; right; rw [hi]; exact (unhide Nd6).2.2)
 have bN : ((((W11.setCell ⟨d6, 0, none⟩ (zi 0)).setCell ⟨d6, 1, none⟩ (zi 0)).setCell ⟨d6, 2, none⟩ (zi 0)).setCell ⟨d6, 3, none⟩ (zi 0)).heap[d6]? = some (.cells #[zi 0, zi 0, zi 0, zi 0] 34 (0, 0)) := by rw [b3]; simp
 clear PH KP KB b0 b1 b2 b3 Bd6
 generalize ((((W11.setCell ⟨d6, 0, none⟩ (zi 0)).setCell ⟨d6, 1, none⟩ (zi 0)).setCell ⟨d6, 2, none⟩ (zi 0)).setCell ⟨d6, 3, none⟩ (zi 0)) = Vd6z at *
 have PH := hide PB1
 have KP := hide KB1
 have Bd6 := hide bN
 clear PB1 KB1 bN
 refine lC K16 fun a18 K18 => ?_
 clear K16
 refine nilN ?_
 refine wp_ret ?_
 refine thenRet ?_
 have bb := unhide Bd6
 have q0 : Vd6z.cell? ⟨d6, 0, none⟩ = some (zi 0) := by simp [World.cell?, bb]
 have q1 : Vd6z.cell? ⟨d6, 1, none⟩ = some (zi 0) := by simp [World.cell?, bb]
 have q2 : Vd6z.cell? ⟨d6, 2, none⟩ = some (zi 0) := by simp [World.cell?, bb]
 have q3 : Vd6z.cell? ⟨d6, 3, none⟩ = some (zi 0) := by simp [World.cell?, bb]
 refine bodyPost_ret (v := .tuple #[.agg #[zi 0, zi 0, zi 0, zi 0], .bool false]) ?_ K18.defers ⟨rfl, unhide KP, S2, G2, unhide PH, L2⟩
 have e6 := K18.has 6 _ rfl
 have e7 := K18.has 7 _ rfl
 clear bb
 simp [results, Try.results31, go_sem, e6, e7, q0, q1, q2, q3]
end Go.Proofs.Ytjnkgakajenoaaa
namespace Go.Proofs.Ytjnkgakajenoaaa
open Go.RowKit Go.Arb
set_option linter.unusedVariables false
set_option linter.unusedSimpArgs false
def Tr.linkB (T : Tr) (c p : Int) : Bool := (T.hasI c && (T.par c.toNat == -1)) && T.hasI p && (T.rootI p != c)
def Tr.addB (T : Tr) (v w : Int) : Bool := decide (0 <= v) && decide (v < (T.n : Int)) && !T.hasI v && fitB w
def Tr.addI (T : Tr) (v w : Int) : Tr := if T.addB v w then T.add v.toNat w else T
def Tr.linkI (T : Tr) (c p : Int) : Tr := if T.linkB c p then T.link c.toNat p.toNat else T
def Tr.cutB (T : Tr) (c : Int) : Bool := T.parI c != -1
def Tr.cutI (T : Tr) (c : Int) : Tr := if T.cutB c then T.cut c.toNat else T
def Tr.evertI (T : Tr) (v : Int) : Tr := if T.hasI v then T.evert v.toNat else T
def Tr.setI (T : Tr) (v w : Int) : Tr := if T.hasI v && fitB w then T.set v.toNat w else T
def At (w : World) (p : Nat) (T : Tr) (ks : List Nat) : Prop := ∃ g n cap S G, Pool w p g n cap T.n S /\ Lc S n T G /\ ks = [p, g]
section
variable {w w' : World} {p : Nat} {T T1 : Tr} {ks js : List Nat}
theorem At.lt (h : At w p T ks) : ∀ k ∈ ks, k < w.heap.size := by
 obtain ⟨g, n, cap, S, G, h1, h2, rfl⟩ := h
 have := h1.lt
 intro k hk; simp at hk; rcases hk with rfl | rfl <;> omega
theorem At.keep (h : At w p T ks) (hk : Keep js w w') (ho : Off ks js) : At w' p T ks := by
 obtain ⟨g, n, cap, S, G, h1, h2, rfl⟩ := h
 exact ⟨g, n, cap, S, G, h1.keep hk (ho p (by simp)) (ho g (by simp)), h2, rfl⟩
theorem At.below (h : At w p T ks) (hb : Below w.heap.size w w') : At w' p T ks := h.keep (Keep.ofBelow hb []) (fun _ _ => by simp)
theorem At.wf (h : At w p T ks) : T.Wf := by obtain ⟨g, n, cap, S, G, h1, h2, rfl⟩ := h; exact h2.wf
theorem At.fit (h : At w p T ks) : T.Fit := by obtain ⟨g, n, cap, S, G, h1, h2, rfl⟩ := h; exact h2.ft
theorem At.same (h : At w p T ks) : ∃ ks', At w p T ks' /\ Keep ks w w /\ Grew w ks ks' := ⟨ks, h, Keep.refl _ _, Grew.refl _ _⟩
theorem At.of {g n cap : Nat} {S1 : Ss} {G1 : Gh} (hn : T1.n = T.n) (hk : Keep [g] w w') (hp : Pool w' p g n cap T.n S1) (hl : Lc S1 n T1 G1) : ∃ ks', At w' p T1 ks' /\ Keep [p, g] w w' /\ Grew w [p, g] ks' :=
 ⟨[p, g], ⟨g, n, cap, S1, G1, by rw [hn]; exact hp, hl, rfl⟩, hk.mono (fun k hk => .inl (by simp at hk ⊢; exact .inr hk)), Grew.refl _ _⟩
theorem aNew (n : Nat) (w : World) (h1 : n <= 1048576) :
  Calls Try.prog 14 #[zi n] w fun e w' => ∃ p ks, e = .returned (zp p 0) /\ At w' p (Tr.new n) ks /\ Below w.heap.size w w' /\ ∀ k ∈ ks, w.heap.size <= k := by
 refine (new_any n w h1).mono ?_
 rintro e w' ⟨p, g, rfl, h2, h3, h4, h5⟩
 exact ⟨p, _, rfl, ⟨g, 1, 1, _, _, h2, Lc.new h1, rfl⟩, h3, fun k hk => by simp at hk; rcases hk with rfl | rfl <;> assumption⟩
theorem aHas (x : Int) (h : At w p T ks) : Calls Try.prog 37 #[zp p 0, zi x] w fun e w' => e = .returned (.bool (T.hasI x)) /\ ∃ ks', At w' p T ks' /\ Keep ks w w' /\ Grew w ks ks' := by
 obtain ⟨g, n, cap, S, G, h1, h2, rfl⟩ := h
 rcases hasI_cases T x with ⟨i, rfl, hi, hx⟩ | hx
 ·refine (hasY h1 h2 hi rfl).mono ?_
  rintro e w' ⟨rfl, q1, q2⟩; exact ⟨by rw [hx], At.of rfl q1 q2 h2⟩
 ·refine (hasN h1 h2 hx).mono ?_
  rintro e w' ⟨rfl, q1, q2⟩; exact ⟨by rw [hx], At.of rfl q1 q2 h2⟩
theorem aRoot (x : Int) (h : At w p T ks) : Calls Try.prog 39 #[zp p 0, zi x] w fun e w' => e = .returned (zi (T.rootI x)) /\ ∃ ks', At w' p T ks' /\ Keep ks w w' /\ Grew w ks ks' := by
 obtain ⟨g, n, cap, S, G, h1, h2, rfl⟩ := h
 refine (rootAll h1 h2 x).mono ?_
 rintro e w' ⟨rfl, q1, S1, G1, q2, q3⟩; exact ⟨rfl, At.of rfl q1 q2 q3⟩
theorem aParent (x : Int) (h : At w p T ks) : Calls Try.prog 41 #[zp p 0, zi x] w fun e w' => e = .returned (zi (T.parI x)) /\ ∃ ks', At w' p T ks' /\ Keep ks w w' /\ Grew w ks ks' := by
 obtain ⟨g, n, cap, S, G, h1, h2, rfl⟩ := h
 rcases hasI_cases T x with ⟨i, rfl, hi, hx⟩ | hx
 ·have hp := ps_par hi h2.wf
  rw [Nat.add_sub_cancel] at hp
  by_cases e0 : ps T (i + 1) = 0
  ·refine (parentY0 h1 h2 hi rfl e0).mono ?_
   rintro e w' ⟨rfl, q1, S1, G1, q2, q3⟩
   exact ⟨by rw [Tr.parI, if_pos hx, Int.toNat_natCast, hp, e0]; rfl, At.of rfl q1 q2 q3⟩
  ·refine (parentY1 h1 h2 hi rfl e0).mono ?_
   rintro e w' ⟨rfl, q1, S1, G1, q2, q3⟩
   exact ⟨by rw [Tr.parI, if_pos hx, Int.toNat_natCast, hp], At.of rfl q1 q2 q3⟩
 ·refine (parentN h1 h2 hx).mono ?_
  rintro e w' ⟨rfl, q1, q2⟩; exact ⟨by rw [Tr.parI, hx]; rfl, At.of rfl q1 q2 h2⟩
theorem aSame (x y : Int) (h : At w p T ks) : Calls Try.prog 43 #[zp p 0, zi x, zi y] w fun e w' => e = .returned (.bool (T.sameI x y)) /\ ∃ ks', At w' p T ks' /\ Keep ks w w' /\ Grew w ks ks' := by
 obtain ⟨g, n, cap, S, G, h1, h2, rfl⟩ := h
 refine (sameAll h1 h2 x y).mono ?_
 rintro e w' ⟨rfl, q1, S1, G1, q2, q3⟩; exact ⟨rfl, At.of rfl q1 q2 q3⟩
theorem lcaI_no {T : Tr} (W : T.Wf) {x y : Int} (hs : T.sameI x y = false) : T.lcaI x y = -1 := lca_none (W.same_false hs)
theorem same_there {T : Tr} (W : T.Wf) {x y : Int} (hs : T.sameI x y = true) : ∃ i j : Nat, x = i /\ y = j /\ Th T (i + 1) /\ Th T (j + 1) := by
 obtain ⟨i, j, rfl, rfl, hi, hj, _⟩ := W.same_true hs
 exact ⟨i, j, rfl, rfl, ⟨by omega, by simpa using hi⟩, ⟨by omega, by simpa using hj⟩⟩
theorem aLca (x y : Int) (h : At w p T ks) : Calls Try.prog 45 #[zp p 0, zi x, zi y] w fun e w' => e = .returned (zi (T.lcaI x y)) /\ ∃ ks', At w' p T ks' /\ Keep ks w w' /\ Grew w ks ks' := by
 obtain ⟨g, n, cap, S, G, h1, h2, rfl⟩ := h
 cases hs : T.sameI x y
 ·refine (lcaN h1 h2 hs).mono ?_
  rintro e w' ⟨rfl, q1, S1, G1, q2, q3⟩; exact ⟨by rw [lcaI_no h2.wf hs], At.of rfl q1 q2 q3⟩
 ·obtain ⟨i, j, rfl, rfl, hi, hj⟩ := same_there h2.wf hs
  refine (lcaY h1 h2 hi rfl hj rfl hs).mono ?_
  rintro e w' ⟨rfl, q1, S1, G1, q2, q3⟩; exact ⟨rfl, At.of rfl q1 q2 q3⟩
theorem aGet (x : Int) (h : At w p T ks) : Calls Try.prog 35 #[zp p 0, zi x] w fun e w' => e = .returned (.tuple #[zi (T.getI x), .bool (T.hasI x)]) /\ ∃ ks', At w' p T ks' /\ Keep ks w w' /\ Grew w ks ks' := by
 obtain ⟨g, n, cap, S, G, h1, h2, rfl⟩ := h
 rcases hasI_cases T x with ⟨i, rfl, hi, hx⟩ | hx
 ·refine (getY h1 h2 hi rfl).mono ?_
  rintro e w' ⟨rfl, q1, S1, G1, q2, q3⟩; exact ⟨by rw [Tr.getI, hx, if_pos rfl, Int.toNat_natCast], At.of rfl q1 q2 q3⟩
 ·refine (getN h1 h2 hx).mono ?_
  rintro e w' ⟨rfl, q1, q2⟩; exact ⟨by rw [Tr.getI, hx]; rfl, At.of rfl q1 q2 h2⟩
theorem aSub (x : Int) (h : At w p T ks) : Calls Try.prog 33 #[zp p 0, zi x] w fun e w' => e = .returned (.tuple #[zi (T.subI x).c, zi (T.subI x).s, .bool (T.hasI x)]) /\ ∃ ks', At w' p T ks' /\ Keep ks w w' /\ Grew w ks ks' := by
 obtain ⟨g, n, cap, S, G, h1, h2, rfl⟩ := h
 rcases hasI_cases T x with ⟨i, rfl, hi, hx⟩ | hx
 ·refine (subY h1 h2 hi rfl).mono ?_
  have s := sub_sums T i
  rintro e w' ⟨rfl, q1, S1, G1, q2, q3⟩; exact ⟨by rw [Tr.subI, hx, if_pos rfl, Int.toNat_natCast, s.1, s.2], At.of rfl q1 q2 q3⟩
 ·refine (subN h1 h2 hx).mono ?_
  rintro e w' ⟨rfl, q1, q2⟩; exact ⟨by rw [Tr.subI, hx]; rfl, At.of rfl q1 q2 h2⟩
theorem aSize (x : Int) (h : At w p T ks) : Calls Try.prog 47 #[zp p 0, zi x] w fun e w' => e = .returned (zi (T.sizeI x)) /\ ∃ ks', At w' p T ks' /\ Keep ks w w' /\ Grew w ks ks' := by
 obtain ⟨g, n, cap, S, G, h1, h2, rfl⟩ := h
 rcases hasI_cases T x with ⟨i, rfl, hi, hx⟩ | hx
 ·refine (sizeY h1 h2 hi rfl).mono ?_
  rintro e w' ⟨r, rfl, hr, hr0, q1, S1, G1, q2, q3⟩
  refine ⟨?_, At.of rfl q1 q2 q3⟩
  have hv : T.par i ≠ -2 := by simpa using hi.2
  have e1 := root_of h2.wf hv hr hr0
  have hrt := U_mem_th h2.wf hr
  have r1 := hrt.1
  have e2 : T.rootI (i : Int) = ((r - 1 : Nat) : Int) := by rw [e1]; omega
  have s := sub_sums T (r - 1)
  rw [Nat.sub_add_cancel r1] at s
  have hh : T.hasI ((r - 1 : Nat) : Int) = true := by rw [T.hasI_nat]; simpa using hrt.2
  rw [Tr.sizeI, e2, Tr.subI, hh, if_pos rfl, Int.toNat_natCast, s.1]
 ·refine (sizeN h1 h2 hx).mono ?_
  rintro e w' ⟨rfl, q1, q2⟩
  refine ⟨?_, At.of rfl q1 q2 h2⟩
  rw [Tr.sizeI, Tr.rootI_gone hx, Tr.subI]; rfl
theorem aEvert (x : Int) (h : At w p T ks) : Calls Try.prog 25 #[zp p 0, zi x] w fun e w' => e = .returned (.bool (T.hasI x)) /\ ∃ ks', At w' p (T.evertI x) ks' /\ Keep ks w w' /\ Grew w ks ks' := by
 obtain ⟨g, n, cap, S, G, h1, h2, rfl⟩ := h
 rcases hasI_cases T x with ⟨i, rfl, hi, hx⟩ | hx
 ·refine (evertY h1 h2 hi rfl).mono ?_
  rintro e w' ⟨rfl, q1, S1, G1, q2, q3⟩
  exact ⟨by rw [hx], by rw [Tr.evertI, if_pos hx, Int.toNat_natCast]; exact At.of rfl q1 q2 q3⟩
 ·refine (evertN h1 h2 hx).mono ?_
  rintro e w' ⟨rfl, q1, q2⟩; exact ⟨by rw [hx], by rw [Tr.evertI, hx]; exact At.of rfl q1 q2 h2⟩
theorem aSet (x y : Int) (h : At w p T ks) : Calls Try.prog 27 #[zp p 0, zi x, zi y] w fun e w' => e = .returned (.bool (T.hasI x && fitB y)) /\ ∃ ks', At w' p (T.setI x y) ks' /\ Keep ks w w' /\ Grew w ks ks' := by
 obtain ⟨g, n, cap, S, G, h1, h2, rfl⟩ := h
 rcases hasI_cases T x with ⟨i, rfl, hi, hx⟩ | hx
 ·cases hf : fitB y
  ·refine (setN2 h1 h2 hi rfl hf).mono ?_
   rintro e w' ⟨rfl, q1, q2⟩; exact ⟨by rw [hx]; rfl, by rw [Tr.setI, hx, hf]; exact At.of rfl q1 q2 h2⟩
  ·refine (setY h1 h2 hi rfl hf).mono ?_
   rintro e w' ⟨rfl, q1, S1, G1, q2, q3⟩
   exact ⟨by rw [hx]; rfl, by rw [Tr.setI, hx, hf, Int.toNat_natCast]; exact At.of rfl q1 q2 q3⟩
 ·refine (setN1 h1 h2 hx).mono ?_
  rintro e w' ⟨rfl, q1, q2⟩; exact ⟨by rw [hx]; rfl, by rw [Tr.setI, hx]; exact At.of rfl q1 q2 h2⟩
theorem aCut (x : Int) (h : At w p T ks) : Calls Try.prog 23 #[zp p 0, zi x] w fun e w' => e = .returned (.bool (T.cutB x)) /\ ∃ ks', At w' p (T.cutI x) ks' /\ Keep ks w w' /\ Grew w ks ks' := by
 obtain ⟨g, n, cap, S, G, h1, h2, rfl⟩ := h
 rcases hasI_cases T x with ⟨i, rfl, hi, hx⟩ | hx
 ·have hp := ps_par hi h2.wf
  rw [Nat.add_sub_cancel] at hp
  have hP : T.parI (i : Int) = (ps T (i + 1) : Int) - 1 := by rw [Tr.parI, if_pos hx, Int.toNat_natCast, hp]
  by_cases e0 : ps T (i + 1) = 0
  ·have hb : T.cutB (i : Int) = false := by rw [Tr.cutB, hP, e0]; rfl
   refine (cutY0 h1 h2 hi rfl e0).mono ?_
   rintro e w' ⟨rfl, q1, S1, G1, q2, q3⟩
   exact ⟨by rw [hb], by rw [Tr.cutI, hb]; exact At.of rfl q1 q2 q3⟩
  ·have hb : T.cutB (i : Int) = true := by rw [Tr.cutB, hP]; simp; omega
   refine (cutY1 h1 h2 hi rfl e0).mono ?_
   rintro e w' ⟨rfl, q1, S1, G1, q2, q3⟩
   exact ⟨by rw [hb], by rw [Tr.cutI, hb, if_pos rfl, Int.toNat_natCast]; exact At.of rfl q1 q2 q3⟩
 ·have hb : T.cutB x = false := by rw [Tr.cutB, Tr.parI, hx]; rfl
  refine (cutN h1 h2 hx).mono ?_
  rintro e w' ⟨rfl, q1, q2⟩; exact ⟨by rw [hb], by rw [Tr.cutI, hb]; exact At.of rfl q1 q2 h2⟩
end
section
variable {w w' : World} {p : Nat} {T T1 : Tr} {ks js : List Nat}
theorem aAdd (x y : Int) (h : At w p T ks) : Calls Try.prog 17 #[zp p 0, zi x, zi y] w fun e w' => e = .returned (.bool (T.addB x y)) /\ ∃ ks', At w' p (T.addI x y) ks' /\ Keep ks w w' /\ Grew w ks ks' := by
 obtain ⟨g, n, cap, S, G, h1, h2, rfl⟩ := h
 have no : T.addB x y = false -> ∀ e w', e = Ending.returned (.bool false) /\ Keep [g] w w' /\ Pool w' p g n cap T.n S -> e = .returned (.bool (T.addB x y)) /\ ∃ ks', At w' p (T.addI x y) ks' /\ Keep [p, g] w w' /\ Grew w [p, g] ks' := by
  rintro hb e w' ⟨rfl, q1, q2⟩
  exact ⟨by rw [hb], by rw [Tr.addI, hb]; exact At.of rfl q1 q2 h2⟩
 by_cases c1 : x < 0
 ·refine (addN1 h1 h2 c1).mono (no ?_)
  rw [Tr.addB, decide_eq_false (show ¬ 0 <= x by omega)]; rfl
 by_cases c2 : (T.n : Int) <= x
 ·refine (addN2 h1 h2 (by omega) c2).mono (no ?_)
  rw [Tr.addB, decide_eq_false (show ¬ x < (T.n : Int) by omega)]; simp
 obtain ⟨i, rfl⟩ := Int.eq_ofNat_of_zero_le (show 0 <= x by omega)
 have hr : i < T.n := by omega
 cases hx : T.hasI (i : Int)
 ·cases hf : fitB y
  ·refine (addN4 h1 h2 hx hr hf).mono (no ?_)
   rw [Tr.addB, hf]; simp
  ·have hb : T.addB (i : Int) y = true := by rw [Tr.addB, hf, hx]; simp; omega
   refine (addY h1 h2 rfl hx hr hf).mono ?_
   rintro e w' ⟨rfl, q1, g2, n2, cap2, S1, G1, q2, q3, q4⟩
   refine ⟨by rw [hb], ?_⟩
   rw [Tr.addI, hb, if_pos rfl, Int.toNat_natCast]
   exact ⟨[p, g2], ⟨g2, n2, cap2, S1, G1, q2, q3, rfl⟩, q1, fun k hk => by
    simp at hk ⊢
    rcases hk with rfl | rfl
    ·exact .inl (.inl rfl)
    ·rcases q4 with e | e
     ·exact .inl (.inr e)
     ·exact .inr e⟩
 ·obtain ⟨j, hj, hj2⟩ := Tr.hasI_true hx
  obtain rfl : i = j := by omega
  refine (addN3 h1 h2 (t := i + 1) ⟨by omega, by simpa using hj2⟩ rfl hr).mono (no ?_)
  rw [Tr.addB, hx]; simp
theorem linkB_of {T : Tr} (W : T.Wf) {i j : Nat} (hi : Th T (i + 1)) (hj : Th T (j + 1)) (hp : ps T (i + 1) = 0) : T.linkB (i : Int) (j : Int) = !T.sameI (i : Int) (j : Int) := by
 have hroot : T.par i = -1 := by have := par_root W hi hp; simpa using this
 have h1 : T.hasI (i : Int) = true := by rw [T.hasI_nat]; simpa using hi.2
 have h2 : T.hasI (j : Int) = true := by rw [T.hasI_nat]; simpa using hj.2
 have r1 : T.rootI (i : Int) = (i : Int) := by
  have := root_of (r := i + 1) W (by simpa using hi.2) (U_self W hi) hp
  rw [this]; omega
 unfold Tr.linkB Tr.sameI
 rw [h1, h2, Int.toNat_natCast, hroot, r1]
 have : ((i : Int) != -1) = true := by simp
 rw [this]
 by_cases e : T.rootI (j : Int) = (i : Int)
 ·rw [e]; simp
 ·have e2 : (T.rootI (j : Int) != (i : Int)) = true := by simp; exact e
  have e3 : ((i : Int) == T.rootI (j : Int)) = false := by simp; exact fun k => e k.symm
  rw [e2, e3]; rfl
theorem aLink (x y : Int) (h : At w p T ks) : Calls Try.prog 21 #[zp p 0, zi x, zi y] w fun e w' => e = .returned (.bool (T.linkB x y)) /\ ∃ ks', At w' p (T.linkI x y) ks' /\ Keep ks w w' /\ Grew w ks ks' := by
 obtain ⟨g, n, cap, S, G, h1, h2, rfl⟩ := h
 have no : T.linkB x y = false -> ∀ e w', (e = Ending.returned (.bool false) /\ Keep [g] w w' /\ ∃ S1 G1, Pool w' p g n cap T.n S1 /\ Lc S1 n T G1) -> e = .returned (.bool (T.linkB x y)) /\ ∃ ks', At w' p (T.linkI x y) ks' /\ Keep [p, g] w w' /\ Grew w [p, g] ks' := by
  rintro hb e w' ⟨rfl, q1, S1, G1, q2, q3⟩
  exact ⟨by rw [hb], by rw [Tr.linkI, hb]; exact At.of rfl q1 q2 q3⟩
 rcases hasI_cases T x with ⟨i, rfl, hi, hx⟩ | hx
 ·by_cases hp : ps T (i + 1) = 0
  ·rcases hasI_cases T y with ⟨j, rfl, hj, hy⟩ | hy
   ·have lb := linkB_of h2.wf hi hj hp
    cases hs : T.sameI (i : Int) (j : Int)
    ·rw [hs] at lb
     refine (linkY h1 h2 hi rfl hp hj rfl hs).mono ?_
     rintro e w' ⟨rfl, q1, S1, G1, q2, q3⟩
     exact ⟨by rw [lb]; rfl, by rw [Tr.linkI, lb]; exact At.of rfl q1 q2 q3⟩
    ·rw [hs] at lb
     exact (linkN4 h1 h2 hi rfl hp hj rfl hs).mono (no lb)
   ·exact (linkN3 h1 h2 hi rfl hp hy).mono (no (by rw [Tr.linkB, hy]; simp))
  ·refine (linkN2 h1 h2 hi rfl hp).mono (no ?_)
   have q := ps_par hi h2.wf
   rw [Nat.add_sub_cancel] at q
   have : (T.par i == -1) = false := by simp; omega
   rw [Tr.linkB, Int.toNat_natCast, this]; simp
 ·refine (linkN1 h1 h2 hx).mono ?_
  rintro e w' ⟨rfl, q1, q2⟩
  have hb : T.linkB x y = false := by rw [Tr.linkB, hx]; rfl
  exact ⟨by rw [hb], by rw [Tr.linkI, hb]; exact At.of rfl q1 q2 h2⟩
end
def Tr.kidB (T : Tr) (v : Int) : Bool := (List.range T.n).any (fun u => T.par u == v)
def Tr.goB (T : Tr) (v : Int) : Bool := (T.hasI v && (T.par v.toNat == -1)) && !T.kidB v
def Tr.dropI (T : Tr) (v : Int) : Tr := if T.goB v then T.drop v.toNat else T
section
variable {w w' : World} {p : Nat} {T T1 : Tr} {ks js : List Nat}
theorem Dc_two {T : Tr} (W : T.Wf) {r x y : Nat} (hx : r ∈ U T x) (hy : r ∈ U T y) (hne : x ≠ y) : 2 <= Dc T r := by
 have tx := U_mem_th' W hx
 have ty := U_mem_th' W hy
 have x1 := tx.1
 have y1 := ty.1
 have h1 : sumF T.n (fun u => (if u = x - 1 then (1 : Int) else 0) + (if u = y - 1 then 1 else 0)) = 2 := by
  rw [sumF_add, sumF_one _ _ (th_lt W tx), sumF_one _ _ (th_lt W ty)]; rfl
 rw [← h1]
 unfold Dc
 refine sumF_le fun u _ => ?_
 by_cases e1 : u = x - 1
 ·have e2 : ¬ u = y - 1 := by omega
  rw [if_pos e1, if_neg e2, if_pos (by rw [e1, Nat.sub_add_cancel x1]; exact hx)]; omega
 ·by_cases e2 : u = y - 1
  ·rw [if_neg e1, if_pos e2, if_pos (by rw [e2, Nat.sub_add_cancel y1]; exact hy)]; omega
  ·rw [if_neg e1, if_neg e2]; split <;> omega
theorem goB_iff {T : Tr} (W : T.Wf) {i : Nat} (hi : Th T (i + 1)) : T.goB (i : Int) = true ↔ (ps T (i + 1) = 0 /\ ∀ y, Th T y -> ps T y ≠ i + 1) := by
 have h1 : T.hasI (i : Int) = true := by rw [T.hasI_nat]; simpa using hi.2
 have q := ps_par hi W
 rw [Nat.add_sub_cancel] at q
 unfold Tr.goB Tr.kidB
 rw [h1, Int.toNat_natCast]
 simp only [Bool.true_and, Bool.and_eq_true, beq_iff_eq, Bool.not_eq_true', List.any_eq_false, List.mem_range]
 constructor
 ·rintro ⟨a, b⟩
  refine ⟨by omega, fun y hy e => ?_⟩
  have q2 := ps_par hy W
  exact b (y - 1) (th_lt W hy) (by rw [q2, e]; omega)
 ·rintro ⟨a, b⟩
  refine ⟨by omega, fun u hu e => ?_⟩
  have hu2 : Th T (u + 1) := ⟨by omega, by rw [Nat.add_sub_cancel]; omega⟩
  have q2 := ps_par hu2 W
  rw [Nat.add_sub_cancel] at q2
  exact b _ hu2 (by omega)
theorem alone_one {T : Tr} (W : T.Wf) {t : Nat} (ht : Th T t) (h0 : ps T t = 0) (hk : ∀ y, Th T y -> ps T y ≠ t) : Dc T t = 1 := by
 have hU : U T t = [t] := by rw [U_th W ht, h0, U_zero]
 have key : ∀ (k : Nat) (u : Nat), dp T u <= k -> t ∈ U T u -> u = t := by
  intro k
  induction k with
  | zero => intro u hu hm; have := dp_pos W (U_mem_th' W hm); omega
  | succ k ih =>
   intro u hu hm
   have hut := U_mem_th' W hm
   rcases (U_up W hut).1 hm with e | e
   ·exact e.symm
   ·have hd := dp_th W hut
    exact absurd (ih _ (by omega) e) (hk u hut)
 unfold Dc
 refine (sumF_congr fun u _ => ?_).trans (sumF_one (t - 1) 1 (th_lt W ht))
 have t1 := ht.1
 by_cases e : u = t - 1
 ·rw [if_pos e, if_pos (by rw [e, Nat.sub_add_cancel t1]; exact U_self W ht)]
 ·rw [if_neg e, if_neg (fun hm => e (by have := key _ _ (Nat.le_refl _) hm; omega))]
theorem aDrop (x : Int) (h : At w p T ks) : Calls Try.prog 19 #[zp p 0, zi x] w fun e w' => e = .returned (.bool (T.goB x)) /\ ∃ ks', At w' p (T.dropI x) ks' /\ Keep ks w w' /\ Grew w ks ks' := by
 obtain ⟨g, n, cap, S, G, h1, h2, rfl⟩ := h
 have W := h2.wf
 rcases hasI_cases T x with ⟨i, rfl, hi, hx⟩ | hx
 ·have gi := goB_iff W hi
  cases hb : T.goB (i : Int)
  ·have nd : ∀ r, r ∈ U T (i + 1) -> ps T r = 0 -> Dc T r ≠ 1 := fun r hr hr0 e => by
    have hg : ¬ (ps T (i + 1) = 0 /\ ∀ y, Th T y -> ps T y ≠ i + 1) := fun k => by rw [gi.2 k] at hb; cases hb
    by_cases e0 : ps T (i + 1) = 0
    ·have hr2 : r = i + 1 := by rw [U_th W hi, e0, U_zero] at hr; simpa using hr
     refine hg ⟨e0, fun y hy ey => ?_⟩
     have := Dc_two W (r := r) (x := i + 1) (y := y) (by rw [hr2]; exact U_self W hi) (by rw [hr2, ← ey]; exact U_ps W hy (by omega)) (fun k => by rw [← k, e0] at ey; omega)
     omega
    ·have hrt := U_mem_th W hr
     have := Dc_two W (r := r) (x := i + 1) (y := r) hr (U_self W hrt) (fun k => by rw [← k] at hr0; exact e0 hr0)
     omega
   refine (dropN2 h1 h2 hi rfl nd).mono ?_
   rintro e w' ⟨rfl, q1, S1, G1, q2, q3⟩
   exact ⟨rfl, by rw [Tr.dropI, hb]; exact At.of rfl q1 q2 q3⟩
  ·obtain ⟨e0, hk⟩ := gi.1 hb
   have d1 : ∀ r, r ∈ U T (i + 1) -> ps T r = 0 -> Dc T r = 1 := fun r hr _ => by
    have hr2 : r = i + 1 := by rw [U_th W hi, e0, U_zero] at hr; simpa using hr
    rw [hr2]; exact alone_one W hi e0 hk
   refine (dropY h1 h2 hi rfl d1 e0 hk).mono ?_
   rintro e w' ⟨rfl, q1, S1, G1, q2, q3⟩
   exact ⟨rfl, by rw [Tr.dropI, hb, if_pos rfl, Int.toNat_natCast]; exact At.of rfl q1 q2 q3⟩
 ·have hb : T.goB x = false := by rw [Tr.goB, hx]; rfl
  refine (dropN h1 h2 hx).mono ?_
  rintro e w' ⟨rfl, q1, q2⟩
  exact ⟨by rw [hb], by rw [Tr.dropI, hb]; exact At.of rfl q1 q2 h2⟩
end
def Tr.raiseB (T : Tr) (a b n : Int) : Bool := T.sameI a b && (T.wayI a b).all (fun x => _root_.Go.Proofs.Ytjnkgakajenoaaa.addB (T.wt x) n)
def Tr.pathAdd (T : Tr) (a b n : Int) : Tr := if T.raiseB a b n then T.raise (T.wayI a b) n else T
theorem ofR_perm {l m : List Int} (h : l.Perm m) : ofR l = ofR m := by
 induction h with
 | nil => rfl
 | cons x _ ih => rw [ofR, ofR, ih]
 | swap x y l =>
  show jn (one y) (jn (one x) (ofR l)) = jn (one x) (jn (one y) (ofR l))
  rw [← jn_assoc (ok_one _) (ok_one _) (ok_ofR _), jn_comm (ok_one y) (ok_one x), jn_assoc (ok_one _) (ok_one _) (ok_ofR _)]
 | trans _ _ h1 h2 => rw [h1, h2]
theorem ofR_att : ∀ {l : List Int}, l ≠ [] -> (ofR l).a ∈ l /\ (ofR l).b ∈ l
 | [], h => absurd rfl h
 | k :: l, _ => by
  by_cases e : l = []
  ·subst e
   show (jn (one k) zero).a ∈ [k] /\ (jn (one k) zero).b ∈ [k]
   rw [jn_zero_right (ok_one k)]; simp [one]
  ·obtain ⟨h1, h2⟩ := ofR_att e
   have hc : (ofR l).c ≠ 0 := by rw [ofR_c]; have := List.length_pos_iff.2 e; omega
   show (jn (one k) (ofR l)).a ∈ k :: l /\ (jn (one k) (ofR l)).b ∈ k :: l
   rw [jn, if_neg (by simp [one]), if_neg hc]
   show min k (ofR l).a ∈ k :: l /\ max k (ofR l).b ∈ k :: l
   constructor
   ·by_cases q : k <= (ofR l).a
    ·rw [Int.min_eq_left q]; simp
    ·rw [Int.min_eq_right (by omega)]; simp [h1]
   ·by_cases q : (ofR l).b <= k
    ·rw [Int.max_eq_left q]; simp
    ·rw [Int.max_eq_right (by omega)]; simp [h2]
theorem way_perm {T : Tr} (W : T.Wf) {i j : Nat} (hs : T.sameI (i : Int) (j : Int) = true) : ((T.evert i).up j).Perm (T.wayI (i : Int) (j : Int)) /\ T.wayI (i : Int) (j : Int) ≠ [] := by
 obtain ⟨i', j', e1, e2, hi, hj, t, a, b, c, hm⟩ := W.same_true hs
 obtain rfl : i = i' := by omega
 obtain rfl : j = j' := by omega
 have e3 : (T.evert i).up j = b ++ t :: a.reverse := (W.evert hi).eq (W.evert_in hm.symm)
 have e4 : T.wayI (i : Int) (j : Int) = t :: (a ++ b) := by rw [Tr.wayI, T.upI_nat, T.upI_nat, hm.way]
 rw [e3, e4]
 refine ⟨List.perm_middle.trans ?_, by simp⟩
 exact (List.perm_append_comm.trans (List.Perm.append_right b (List.reverse_perm a))).cons t
theorem all_can {T : Tr} {l m : List Nat} (hp : m.Perm l) (hne : l ≠ []) (d : Int) : (addB (ofL (m.map T.wt)).a d && addB (ofL (m.map T.wt)).b d) = l.all (fun x => addB (T.wt x) d) := by
 have e : ofR (m.map T.wt) = ofR (l.map T.wt) := ofR_perm (hp.map _)
 rw [ofL_eq, e]
 have hn : l.map T.wt ≠ [] := by simpa using hne
 obtain ⟨h1, h2⟩ := ofR_att hn
 rw [Bool.eq_iff_iff]
 simp only [Bool.and_eq_true, List.all_eq_true]
 constructor
 ·rintro ⟨a1, a2⟩ x hx
  have := ofR_ab (List.mem_map.2 ⟨x, hx, rfl⟩ : T.wt x ∈ l.map T.wt)
  simp [addB, fitB, inB] at a1 a2 ⊢
  omega
 ·intro h
  obtain ⟨x, hx, ex⟩ := List.mem_map.1 h1
  obtain ⟨y, hy, ey⟩ := List.mem_map.1 h2
  rw [← ex, ← ey]
  exact ⟨h x hx, h y hy⟩
theorem raise_perm {T : Tr} {l m : List Nat} (hp : m.Perm l) (d : Int) : T.raise m d = T.raise l d := by
 unfold Tr.raise
 congr 1
 funext u
 unfold raiseF
 by_cases e : u ∈ l
 ·rw [if_pos e, if_pos (hp.mem_iff.2 e)]
 ·rw [if_neg e, if_neg (fun q => e (hp.mem_iff.1 q))]
section
variable {w w' : World} {p : Nat} {T T1 : Tr} {ks js : List Nat}
theorem aPath (x y : Int) (h : At w p T ks) : Calls Try.prog 31 #[zp p 0, zi x, zi y] w fun e w' => e = .returned (.tuple #[smV (T.pathI x y), .bool (T.sameI x y)]) /\ ∃ ks', At w' p T ks' /\ Keep ks w w' /\ Grew w ks ks' := by
 obtain ⟨g, n, cap, S, G, h1, h2, rfl⟩ := h
 have W := h2.wf
 cases hs : T.sameI x y
 ·have e0 : T.pathI x y = zero := by rw [Tr.pathI, Tr.wayI, way_none (W.same_false hs)]; rfl
  refine (pathN h1 h2 hs).mono ?_
  rintro e w' ⟨rfl, q1, S1, G1, q2, q3⟩; exact ⟨by rw [e0]; rfl, At.of rfl q1 q2 q3⟩
 ·obtain ⟨i, j, rfl, rfl, hi, hj⟩ := same_there W hs
  obtain ⟨r, e1, _, _⟩ := W.rootI_in (v := i) (by simpa using hi.2)
  have e0 : ofL (((T.evert i).up j).map T.wt) = T.pathI (i : Int) (j : Int) := by rw [Tr.pathI, ofL_eq, ofL_eq]; exact ofR_perm ((way_perm W hs).1.map _)
  refine (pathY h1 h2 hi rfl hj rfl hs e1).mono ?_
  rintro e w' ⟨rfl, q1, S1, G1, q2, q3⟩; exact ⟨by rw [e0]; rfl, At.of rfl q1 q2 q3⟩
theorem aPathAdd (x y d : Int) (h : At w p T ks) : Calls Try.prog 29 #[zp p 0, zi x, zi y, zi d] w fun e w' => e = .returned (.bool (T.raiseB x y d)) /\ ∃ ks', At w' p (T.pathAdd x y d) ks' /\ Keep ks w w' /\ Grew w ks ks' := by
 obtain ⟨g, n, cap, S, G, h1, h2, rfl⟩ := h
 have W := h2.wf
 cases hs : T.sameI x y
 ·have hb : T.raiseB x y d = false := by rw [Tr.raiseB, hs]; rfl
  refine (pathAddN0 h1 h2 hs).mono ?_
  rintro e w' ⟨rfl, q1, S1, G1, q2, q3⟩; exact ⟨by rw [hb], by rw [Tr.pathAdd, hb]; exact At.of rfl q1 q2 q3⟩
 ·obtain ⟨i, j, rfl, rfl, hi, hj⟩ := same_there W hs
  obtain ⟨r, e1, _, _⟩ := W.rootI_in (v := i) (by simpa using hi.2)
  obtain ⟨hp, hne⟩ := way_perm W hs
  have ac := all_can (T := T) hp hne d
  have hb : T.raiseB (i : Int) (j : Int) d = (T.wayI (i : Int) (j : Int)).all (fun x => addB (T.wt x) d) := by rw [Tr.raiseB, hs]; rfl
  cases hc : (T.wayI (i : Int) (j : Int)).all (fun x => addB (T.wt x) d)
  ·rw [hc] at ac hb
   refine (pathAddN h1 h2 hi rfl hj rfl hs e1 ac).mono ?_
   rintro e w' ⟨rfl, q1, S1, G1, q2, q3⟩; exact ⟨by rw [hb], by rw [Tr.pathAdd, hb]; exact At.of rfl q1 q2 q3⟩
  ·rw [hc] at ac hb
   refine (pathAddY h1 h2 hi rfl hj rfl hs e1 ac).mono ?_
   rintro e w' ⟨rfl, q1, S1, G1, q2, q3⟩
   rw [raise_perm hp] at q3
   exact ⟨by rw [hb], by rw [Tr.pathAdd, hb, if_pos rfl]; exact At.of rfl q1 q2 q3⟩
end
end Go.Proofs.Ytjnkgakajenoaaa
namespace Go.Arb
set_option linter.unusedVariables false
set_option linter.unusedSimpArgs false
def setF (f : Nat -> Bool) (i : Nat) : Nat -> Bool := fun k => bif Nat.beq k i then true else f k
theorem setF_same (f : Nat -> Bool) (i : Nat) : setF f i i = true := by simp [setF]
theorem setF_ne (f : Nat -> Bool) {i k : Nat} (h : k ≠ i) : setF f i k = f k := by
 have : Nat.beq k i = false := by cases e : Nat.beq k i; rfl; exact absurd (Nat.eq_of_beq_eq_true e) h
 simp [setF, this]
theorem setF_inv {f : Nat -> Bool} {i k : Nat} (h : setF f i k = true) : k = i ∨ f k = true := by
 by_cases e : k = i
 ·exact .inl e
 ·rw [setF_ne f e] at h; exact .inr h
def unl (f : Nat -> Bool) : Nat -> Nat
 | 0 => 0
 | n + 1 => unl f n + (bif f n then 0 else 1)
theorem unl_le (f : Nat -> Bool) : ∀ n, unl f n <= n
 | 0 => Nat.le_refl _
 | n + 1 => by have := unl_le f n; simp only [unl]; cases f n <;> simp <;> omega
theorem unl_zero {f : Nat -> Bool} : ∀ {n : Nat}, unl f n = 0 -> ∀ k, k < n -> f k = true
 | 0, _, k, hk => by omega
 | n + 1, h, k, hk => by
  simp only [unl] at h
  cases e : f n
  ·rw [e] at h; simp at h
  ·by_cases c : k = n
   ·subst c; exact e
   ·have hz : unl f n = 0 := by omega
    exact unl_zero hz k (by omega)
theorem unl_far {f : Nat -> Bool} {i : Nat} : ∀ {n : Nat}, n <= i -> unl (setF f i) n = unl f n
 | 0, _ => rfl
 | n + 1, h => by simp only [unl]; rw [unl_far (by omega), setF_ne f (by omega)]
theorem unl_set {f : Nat -> Bool} {i : Nat} (hf : f i = false) : ∀ {n : Nat}, i < n -> unl (setF f i) n + 1 = unl f n
 | 0, h => by omega
 | n + 1, h => by
  simp only [unl]
  by_cases c : i = n
  ·subst c; rw [unl_far (Nat.le_refl _), setF_same, hf]; simp
  ·have := unl_set hf (n := n) (by omega)
   rw [setF_ne f (by omega)]; omega
section
variable {P : Program} {ops : Array Oper} {Q : Exit -> Act -> World -> Prop} {A : Type} {V : A -> Nat -> Value} {J : A -> (Nat -> Bool) -> World -> Prop} {a : Act} {w w' : World} {s d n i : Nat} {u v : Value} {o : Oper} {L0 : List (Nat × Value)} {f : Nat -> Bool} {g : A}
def dstOk (ops : Array Oper) (n : Nat) : Bool := (List.range ops.size).all fun i => match (ops[i]?).bind (·.dst) with
 | none => true
 | some d => Nat.blt d n && (List.range ops.size).all fun k => Nat.beq k i || !((ops[k]?).bind (·.dst) == some d)
structure Kr (ops : Array Oper) (n : Nat) (L0 : List (Nat × Value)) (V : Nat -> Value) (f : Nat -> Bool) (a : Act) : Prop where
 ok : dstOk ops n = true
 size : a.tmps.size = n
 defers : a.defers = []
 base : ∀ s v, look L0 s = some v -> (ops.all fun o => !(o.dst == some s)) = true -> a.tmps[s]? = some v
 has : ∀ k d, f k = true -> (ops[k]?).bind (·.dst) = some d -> a.tmps[d]? = some (V k)
def Uses (ops : Array Oper) (i : Nat) (L0 : List (Nat × Value)) (V : Nat -> Value) : List (Nat × Value) -> Prop
 | [] => True
 | (s, v) :: r => ((∃ k, Region.waitsFor .any ops i k = true /\ (ops[k]?).bind (·.dst) = some s /\ V k = v) ∨ (look L0 s = some v /\ (ops.all fun o => !(o.dst == some s)) = true)) /\ Uses ops i L0 V r
theorem Uses.sees (hk : Kr ops n L0 (V g) f a) (hd : ∀ j, Region.waitsFor .any ops i j = true -> f j = true) : ∀ {L : List (Nat × Value)}, Uses ops i L0 (V g) L -> Sees L a.eval
 | [], _ => ⟨fun s v h => (by simp [look] at h), fun _ => rfl, fun _ => rfl⟩
 | (s, v) :: r, h => by
  have ih := Uses.sees hk hd h.2
  refine ⟨fun t x ht => ?_, fun _ => rfl, fun _ => rfl⟩
  unfold look at ht
  cases e : Nat.beq s t
  ·rw [e] at ht; exact ih.tmp t x ht
  ·rw [e] at ht
   have e' : s = t := Nat.eq_of_beq_eq_true e
   have hx : v = x := by simpa using ht
   subst e' hx
   have : a.tmps[s]? = some v := by
    rcases h.1 with ⟨k, h1, h2, h3⟩ | ⟨h1, h2⟩
    ·rw [← h3]; exact hk.has k s (hd k h1) h2
    ·exact hk.base s v h1 h2
   simp [Act.eval, this]
def Ends (ops : Array Oper) (L0 : List (Nat × Value)) (V : Nat -> Value) : List (Nat × Value) -> Prop
 | [] => True
 | (s, v) :: r => ((∃ k, Nat.blt k ops.size = true /\ (ops[k]?).bind (·.dst) = some s /\ V k = v) ∨ (look L0 s = some v /\ (ops.all fun o => !(o.dst == some s)) = true)) /\ Ends ops L0 V r
theorem Kr.kn (hk : Kr ops n L0 (V g) f a) (hf : ∀ k, k < ops.size -> f k = true) : ∀ {L : List (Nat × Value)}, Ends ops L0 (V g) L -> Kn a n L
 | [], _ => ⟨hk.size, hk.defers, fun s v h => (by simp [look] at h)⟩
 | (s, v) :: r, h => by
  have ih := Kr.kn hk hf h.2
  refine ⟨hk.size, hk.defers, fun t x ht => ?_⟩
  unfold look at ht
  cases e : Nat.beq s t
  ·rw [e] at ht; exact ih.has t x ht
  ·rw [e] at ht
   have e' : s = t := Nat.eq_of_beq_eq_true e
   have hx : v = x := by simpa using ht
   subst e' hx
   rcases h.1 with ⟨k, h1, h2, h3⟩ | ⟨h1, h2⟩
   ·rw [← h3]; exact hk.has k s (hf k (by simpa [Nat.blt_eq] using h1)) h2
   ·exact hk.base s v h1 h2
def Ob (P : Program) (ops : Array Oper) (Q : Exit -> Act -> World -> Prop) (n : Nat) (L0 : List (Nat × Value)) (V : A -> Nat -> Value) (J : A -> (Nat -> Bool) -> World -> Prop) (i : Nat) : Prop :=
 ∀ (g : A) (f : Nat -> Bool) (a : Act) (w : World), Kr ops n L0 (V g) f a -> J g f w -> (∀ j, Region.waitsFor .any ops i j = true -> f j = true) -> (∀ k, Region.waitsFor .any ops k i = true -> f k = false) -> f i = false →
  wpOp P ops Q i (fun a' w' => ∃ g', Kr ops n L0 (V g') (setF f i) a' /\ J g' (setF f i) w') a w
def Obs (P : Program) (ops : Array Oper) (Q : Exit -> Act -> World -> Prop) (n : Nat) (L0 : List (Nat × Value)) (V : A -> Nat -> Value) (J : A -> (Nat -> Bool) -> World -> Prop) : Nat -> Nat -> Prop
 | _, 0 => True
 | i, m + 1 => Ob P ops Q n L0 V J i /\ Obs P ops Q n L0 V J (i + 1) m
theorem Obs.at : ∀ {m i : Nat}, Obs P ops Q n L0 V J i m -> ∀ k, i <= k -> k < i + m -> Ob P ops Q n L0 V J k
 | 0, i, _, k, h1, h2 => by omega
 | m + 1, i, h, k, h1, h2 => by
  by_cases e : k = i
  ·subst e; exact h.1
  ·exact Obs.at h.2 k (by omega) (by omega)
def Region.early (ops : Array Oper) : Bool := (List.range ops.size).all fun i => match ops[i]? with | some o => o.after.all (fun e => !Region.binds .any e || Nat.blt e.on i) | none => true
theorem all_listed (he : Region.early ops = true) {l : Array Bool} (hl : l.size = ops.size) (hr : Region.ready .any ops l = []) : ∀ k, k < ops.size -> l.getD k false = true := by
 intro k
 induction k using Nat.strongRecOn with
 | ind k ih =>
  intro hk
  refine Classical.byContradiction fun hn => ?_
  have hkl : k < l.size := by omega
  have e1 : l[k] = false := by simpa [Array.getD, hkl] using hn
  have : k ∈ Region.ready .any ops l := by
   unfold Region.ready
   refine List.mem_filter.2 ⟨List.mem_range.2 hk, ?_⟩
   unfold Region.early at he
   have hq := List.all_eq_true.1 he k (List.mem_range.2 hk)
   simp only [Array.getElem?_eq_getElem hk] at hq
   simp only [Array.getElem?_eq_getElem hk, Option.map_some, Option.getD_some, Bool.and_eq_true]
   refine ⟨by simp [Array.getD, hkl, e1], ?_⟩
   rw [Array.all_eq_true_iff_forall_mem] at hq ⊢
   intro e hm
   have hb := hq e hm
   cases eb : Region.binds .any e
   ·rfl
   ·rw [eb] at hb
    have : e.on < k := by simpa [Nat.blt_eq] using hb
    rw [ih e.on this (by omega)]; simp
  rw [hr] at this; cases this
theorem wpAny_inv (he : (Region.early ops && dstOk ops n) = true) (hob : Obs P ops Q n L0 V J 0 ops.size)
  (hend : ∀ g f a w, (∀ k, k < ops.size -> f k = true) -> Kr ops n L0 (V g) f a -> J g f w -> Q .normal a w) :
  ∀ (fuel : Nat) (l : Array Bool) (g : A) (a : Act) (w : World), l.size = ops.size -> unl (fun k => l.getD k false) ops.size <= fuel -> (∀ i j, Region.waitsFor .any ops i j = true -> l.getD i false = true -> l.getD j false = true) →
   Kr ops n L0 (V g) (fun k => l.getD k false) a -> J g (fun k => l.getD k false) w -> wpAny P .any ops Q fuel l a w
 | 0, l, g, a, w, hl, hu, hc, hk, hj => by
  have hall := unl_zero (Nat.le_zero.1 hu)
  refine ⟨?_, hend g _ a w hall hk hj⟩
  unfold Region.ready
  refine List.filter_eq_nil_iff.2 fun i hi => ?_
  have hi' := List.mem_range.1 hi
  have h1 := hall i hi'
  have hil : i < l.size := by omega
  have : l[i] = true := by simpa [Array.getD, hil] using h1
  simp [Array.getD, hil, this]
 | fuel + 1, l, g, a, w, hl, hu, hc, hk, hj => by
  refine ⟨fun hr => hend g _ a w (all_listed (Bool.and_eq_true _ _ ▸ he).1 hl hr) hk hj, fun i hi => ?_⟩
  unfold Region.ready at hi
  obtain ⟨h1, h2⟩ := List.mem_filter.1 hi
  have hi' := List.mem_range.1 h1
  have hil : i < l.size := by omega
  rw [Bool.and_eq_true] at h2
  have hfi : l.getD i false = false := by
   have := h2.1
   simpa [Array.getD, hil] using this
  have hd : ∀ j, Region.waitsFor .any ops i j = true -> l.getD j false = true := fun j hj' => by
   obtain ⟨oi, ho, e, em, eb, eo⟩ := Region.waitsFor_spec hj'
   have q := h2.2
   rw [ho] at q
   simp only [Option.map_some, Option.getD_some] at q
   have := Array.all_eq_true_iff_forall_mem.1 q e em
   rw [eb, eo] at this
   simpa using this
  have hnot : ∀ k, Region.waitsFor .any ops k i = true -> l.getD k false = false := fun k hkw => by
   cases c : l.getD k false
   ·rfl
   ·have := hc k i hkw c; rw [hfi] at this; cases this
  have hob' := hob.at i (by omega) (by omega) g _ a w hk hj hd hnot hfi
  have efun : (fun k => (l.setIfInBounds i true).getD k false) = setF (fun k => l.getD k false) i := by
   funext k
   by_cases e : k = i
   ·subst e; rw [setF_same]; simp [Array.getD, hil]
   ·rw [setF_ne _ e]
    have e' : ¬ i = k := fun h => e h.symm
    by_cases hkl : k < l.size
    ·simp [Array.getD, hkl, Array.getElem_setIfInBounds, e']
    ·simp [Array.getD, hkl]
  refine wpOp_mono (fun a' w' hq => ?_) hob'
  obtain ⟨g', k1, k2⟩ := hq
  refine wpAny_inv he hob hend fuel _ g' a' w' (by simpa using hl) ?_ ?_ (by rw [efun]; exact k1) (by rw [efun]; exact k2)
  ·rw [show (fun k => (l.setIfInBounds i true).getD k false) = setF (fun k => l.getD k false) i from efun]
   have := unl_set (f := fun k => l.getD k false) hfi hi'
   omega
  ·rw [show (∀ i_1 j, Region.waitsFor .any ops i_1 j = true -> (l.setIfInBounds i true).getD i_1 false = true -> (l.setIfInBounds i true).getD j false = true) ↔ (∀ x y, Region.waitsFor .any ops x y = true -> (fun k => (l.setIfInBounds i true).getD k false) x = true -> (fun k => (l.setIfInBounds i true).getD k false) y = true) from Iff.rfl, efun]
   intro x y hxy hx
   by_cases ey : y = i
   ·subst ey; exact setF_same _ _
   ·rw [setF_ne _ ey]
    rcases setF_inv hx with rfl | hx'
    ·exact hd y hxy
    ·exact hc x y hxy hx'
theorem wp_region_inv {id : Nat} (g0 : A) (hm : P.follows .mixedOrders = true) (hk : Kn a n L0) (hJ : J g0 (fun _ => false) w.drew) (he : (Region.early ops && dstOk ops n) = true) (hob : Obs P ops Q n L0 V J 0 ops.size)
  (hend : ∀ g f a w, (∀ k, k < ops.size -> f k = true) -> Kr ops n L0 (V g) f a -> J g f w -> Q .normal a w) : (Code.region id ops true).wp P Q a w := by
 have e : (fun k => (Array.replicate ops.size false).getD k false) = (fun _ => false) := by
  funext k
  by_cases h : k < ops.size <;> simp [Array.getD, h]
 refine wp_region_any hm (wpAny_inv he hob hend _ _ g0 a w.drew (by simp) (unl_le _ _) ?_ ?_ (by rw [e]; exact hJ))
 ·intro i j _ h
  have := congrFun e i
  exact absurd (h.symm.trans this) (by decide)
 ·rw [e]
  exact ⟨(Bool.and_eq_true _ _ ▸ he).2, hk.size, hk.defers, fun s v h _ => hk.has s v h, fun k d h => by cases h⟩
theorem getD_other {l l' : List Value} {i k : Nat} (h : l.set i undef = l'.set i undef) (hk : k ≠ i) : l.getD k undef = l'.getD k undef := by
 have h1 := congrArg (fun m => m[k]?) h
 simp only [List.getElem?_set, if_neg (Ne.symm hk)] at h1
 simp [List.getD_eq_getElem?_getD, h1]
def Leads (P : Program) (ev : Operand -> Value) (o : Oper) (w : World) (R : Value -> World -> Prop) : Prop :=
 (∃ v w', (execOp ev o).run P w = .ok (.value v) w' /\ R v w') ∨ (∃ w', (execOp ev o).run P w = .ok .skip w' /\ R undef w') ∨
  ∃ fn args, (execOp ev o).run P w = .ok (.enter fn args) w /\ Calls P fn args w fun e w' => ∃ v, e = .returned v /\ R v w'
def Wants (ops : Array Oper) (V : A -> Nat -> Value) (i : Nat) (o : Oper) (b : Bool) : Prop :=
 (o.guard = none /\ b = true) ∨ (∃ j c, o.guard = some (j, c) /\ Region.waitsFor .any ops i j = true /\ (∃ d, (ops[j]?).bind (·.dst) = some d) /\ ∀ g, ∃ x, V g j = .bool x /\ (x == c) = b) ∨
  ∃ j c, o.guard = some (j, c) /\ Region.waitsFor .any ops i j = true /\ (∃ d, (ops[j]?).bind (·.dst) = some d) /\ (∀ g, V g j = undef) /\ b = false
theorem Wants.eq {b : Bool} (h : Wants ops V i o b) (hk : Kr ops n L0 (V g) f a) (hd : ∀ j, Region.waitsFor .any ops i j = true -> f j = true) : Region.wanted o (yielded ops a.tmps) = b := by
 rcases h with ⟨h1, rfl⟩ | ⟨j, c, h1, h2, ⟨d, h3⟩, h4⟩ | ⟨j, c, h1, h2, ⟨d, h3⟩, h4, rfl⟩
 ·simp [Region.wanted, h1]
 ·obtain ⟨x, h5, h6⟩ := h4 g
  have := hk.has j d (hd j h2) h3
  rw [h5] at this
  subst h6
  simp [Region.wanted, h1, yielded, h3, this]
 ·have := hk.has j d (hd j h2) h3
  rw [h4 g] at this
  simp [Region.wanted, h1, yielded, h3, this, undef]
theorem Kr.set {g' : A} {o : Oper} (hk : Kr ops n L0 (V g) f a) (hi : ops[i]? = some o)
  (hnot : ∀ k, Region.waitsFor .any ops k i = true -> f k = false) (hV : ∀ k, k = i ∨ Region.waitsFor .any ops k i = true ∨ V g' k = V g k) (hv : o.dst = none ∨ V g' i = v) (hfi : f i = false) : Kr ops n L0 (V g') (setF f i) (a.put o.dst v) := by
 have hx : ∀ d, o.dst = some d -> Nat.blt d n = true /\ ((List.range ops.size).all fun k => Nat.beq k i || !((ops[k]?).bind (·.dst) == some d)) = true := fun d hd => by
  have q := List.all_eq_true.1 hk.ok i (List.mem_range.2 (Array.getElem?_eq_some_iff.1 hi).1)
  simp only [hi, Option.bind_some, hd] at q
  rw [Bool.and_eq_true] at q
  exact q
 have old : ∀ k d, f k = true -> (ops[k]?).bind (·.dst) = some d -> a.tmps[d]? = some (V g' k) := fun k d h1 h2 => by
  rcases hV k with rfl | h | h
  ·rw [hfi] at h1; cases h1
  ·rw [hnot k h] at h1; cases h1
  ·rw [h]; exact hk.has k d h1 h2
 cases hdst : o.dst with
 | none =>
  refine ⟨hk.ok, hk.size, hk.defers, hk.base, fun k d h1 h2 => ?_⟩
  rcases setF_inv h1 with rfl | h
  ·rw [hi] at h2; simp [hdst] at h2
  ·exact old k d h h2
 | some d =>
  obtain ⟨x1, x2⟩ := hx d hdst
  have hdn : d < n := by simpa [Nat.blt_eq] using x1
  have hv' : V g' i = v := by rcases hv with h | h; (rw [hdst] at h; cases h); exact h
  refine ⟨hk.ok, by simp [Act.put, hk.size], hk.defers, fun s u h1 h2 => ?_, fun k e h1 h2 => ?_⟩
  ·have hm := Array.all_eq_true_iff_forall_mem.1 h2 o (Array.mem_of_getElem? hi)
   rw [hdst] at hm
   have hne : d ≠ s := fun e => by subst e; simp at hm
   have := hk.base s u h1 h2
   simpa [Act.put, Array.getElem?_setIfInBounds, hne] using this
  ·rcases setF_inv h1 with rfl | h
   ·rw [hi] at h2
    simp [hdst] at h2
    subst h2
    simp [Act.put, hk.size, hdn, hv']
   ·have hki : k ≠ i := fun e => by subst e; rw [hfi] at h; cases h
    have hks : k < ops.size := by
     rcases Nat.lt_or_ge k ops.size with c | c
     ·exact c
     ·rw [Array.getElem?_eq_none c] at h2; cases h2
    have q := List.all_eq_true.1 x2 k (List.mem_range.2 hks)
    have hb : Nat.beq k i = false := by cases c : Nat.beq k i; rfl; exact absurd (Nat.eq_of_beq_eq_true c) hki
    rw [hb, h2] at q
    have hne : d ≠ e := fun c => by subst c; simp at q
    have := old k e h h2
    simpa [Act.put, Array.getElem?_setIfInBounds, hne] using this
theorem ob_run (hi : ops[i]? = some o)
  (LL : A -> List (Nat × Value)) (hL : ∀ g, Uses ops i L0 (V g) (LL g)) (hw : Wants ops V i o true)
  (hy : ∀ g f w ev, J g f w -> f i = false -> (∀ j, Region.waitsFor .any ops i j = true -> f j = true) -> (∀ k, Region.waitsFor .any ops k i = true -> f k = false) -> Sees (LL g) ev →
   Leads P ev o w fun v w' => ∃ g', (o.dst = none ∨ V g' i = v) /\ (∀ k, k = i ∨ Region.waitsFor .any ops k i = true ∨ V g' k = V g k) /\ J g' (setF f i) w') : Ob P ops Q n L0 V J i := fun g f a w hk hj hd hn hf => by
 have hwt := hw.eq hk hd
 have hs := (hL g).sees hk hd
 refine wpOp_step hi (fun K hK => ?_)
 rw [if_pos hwt]
 unfold Oper.wp
 rcases hy g f w _ hj hf hd hn hs with ⟨v, w', h1, g', h2, h3, h4⟩ | ⟨w', h1, g', h2, h3, h4⟩ | ⟨fn, args, h1, h2⟩
 ·rw [h1, Oper.upon_value]
  exact hK _ _ ⟨g', hk.set hi hn h3 h2 hf, h4⟩
 ·rw [h1, Oper.upon_skip]
  exact hK _ _ ⟨g', hk.set hi hn h3 h2 hf, h4⟩
 ·rw [h1, Oper.upon_enter]
  refine h2.mono ?_
  rintro e w' ⟨v, rfl, g', h2, h3, h4⟩
  exact hK _ _ ⟨g', hk.set hi hn h3 h2 hf, h4⟩
theorem ob_look (hi : ops[i]? = some o)
  (LL : A -> List (Nat × Value)) (hL : ∀ g, Uses ops i L0 (V g) (LL g)) (hw : Wants ops V i o true) (hJ : ∀ g f w, J g f w -> J g (setF f i) w)
  (hy : ∀ g f w ev, J g f w -> (∀ j, Region.waitsFor .any ops i j = true -> f j = true) -> (∀ k, Region.waitsFor .any ops k i = true -> f k = false) -> Sees (LL g) ev -> (execOp ev o).run P w = .ok (.value (V g i)) w) : Ob P ops Q n L0 V J i :=
 ob_run hi LL hL hw fun g f w ev hj _ hd hn hs => .inl ⟨_, _, hy g f w ev hj hd hn hs, g, .inr rfl, fun _ => .inr (.inr rfl), hJ g f w hj⟩
theorem ob_skip (hi : ops[i]? = some o)
  (hw : Wants ops V i o false) (hJ : ∀ g f w, J g f w -> J g (setF f i) w) (hu : ∀ g, V g i = undef) : Ob P ops Q n L0 V J i := fun g f a w hk hj hd hn hf => by
 have hwt := hw.eq hk hd
 refine wpOp_step hi (fun K hK => ?_)
 rw [if_neg (by rw [hwt]; simp)]
 exact hK _ _ ⟨g, hk.set hi hn (fun _ => .inr (.inr rfl)) (.inr (hu g)) hf, hJ g f w hj⟩
def copies (o : Oper) (u : Nat) : Bool := match o.op with
 | .move (.tmp k) => Nat.beq k u
 | .assign (.tmp k) => Nat.beq k u
 | _ => false
theorem ob_copy {u : Nat} (hi : ops[i]? = some o) (hop : copies o u = true) (hL : ∀ g, Uses ops i L0 (V g) [(u, V g i)]) (hw : Wants ops V i o true) (hJ : ∀ g f w, J g f w -> J g (setF f i) w) : Ob P ops Q n L0 V J i :=
 ob_look hi (fun g => [(u, V g i)]) hL hw hJ fun g f w ev _ _ _ E => by
  have e := E.tmp u (V g i) (by simp [look])
  unfold copies at hop
  split at hop
  ·rename_i k hk
   rw [Nat.eq_of_beq_eq_true hop] at hk
   simp [execOp, hk, e, go_sem]
  ·rename_i k hk
   rw [Nat.eq_of_beq_eq_true hop] at hk
   simp [execOp, hk, e, go_sem]
  ·cases hop
theorem obsC {i j m q : Nat} (hj : j = i + 1) (hq : q = m + 1) (h : Ob P ops Q n L0 V J i) (h2 : Obs P ops Q n L0 V J j m) : Obs P ops Q n L0 V J i q := by
 subst hj hq; exact ⟨h, h2⟩
theorem wp_region_once {id : Nat} (g0 : A) (m : Nat) (hm : P.follows .mixedOrders = true) (hs : ops.size = m) (hk : Kn a n L0) (hJ : J g0 (fun _ => false) w.drew) (he : (Region.early ops && dstOk ops n) = true) (hob : Obs P ops Q n L0 V J 0 m)
  (hend : ∀ g f a w, (∀ k, Nat.blt k m = true -> f k = true) -> Kr ops n L0 (V g) f a -> J g f w -> Q .normal a w) : (Code.region id ops true).wp P Q a w := by
 subst hs
 exact wp_region_inv g0 hm hk hJ he hob fun g f a w hf => hend g f a w fun k hb => hf k (by simpa [Nat.blt_eq] using hb)
theorem Kr.kn' {m : Nat} (hs : ops.size = m) (hk : Kr ops n L0 (V g) f a) (hf : ∀ k, Nat.blt k m = true -> f k = true) {L : List (Nat × Value)} (h : Ends ops L0 (V g) L) : Kn a n L := by
 subst hs
 exact hk.kn (fun k hb => hf k (by simpa [Nat.blt_eq] using hb)) h
end
end Go.Arb
