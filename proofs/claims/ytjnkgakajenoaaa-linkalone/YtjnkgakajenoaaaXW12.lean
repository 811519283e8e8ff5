/- PlainAlone: a node by itself, twice. -/
import Derived.Test.YtjnkgakajenoaaaL11
namespace Go.Proofs.Ytjnkgakajenoaaa
open Go.RowKit Go.Arb
set_option linter.unusedVariables false
set_option linter.unusedSimpArgs false

set_option maxRecDepth 100000 in
set_option maxHeartbeats 4000000 in
theorem alone_walk (a x y : Int) (w : World) (h0 : 0 ≤ a) (h1 : a ≤ 255) (hx0 : -32768 ≤ x) (hx1 : x ≤ 32767) (hy0 : -32768 ≤ y) (hy1 : y ≤ 32767) :
    Calls Try.prog 12 #[.int .u8 a, .agg #[.int .i16 x, .int .i16 y]] w fun e w' => e = .returned (.bool true) ∧ Below w.heap.size w w' := by
  obtain ⟨a, rfl⟩ := Int.eq_ofNat_of_zero_le h0
  have hbx := hide ((Below.refl w.heap.size w).alloc (Nat.le_refl _) (.cells #[.int .i16 x, .int .i16 y] 62))
  have X := hide (BoxAt.new w #[.int .i16 x, .int .i16 y] 62)
  have hsz : w.heap.size < (w.alloc (.cells #[.int .i16 x, .int .i16 y] 62)).heap.size := by simp
  go_enter Try.func12, Try.ntmps12
  go_wp2_with fail
  rw [show ((a : Int) % 30) = ((a % 30 : Nat) : Int) from by omega]
  have hk : a % 30 < 30 := by omega
  generalize a % 30 = k at *
  generalize w.alloc (.cells #[.int .i16 x, .int .i16 y] 62) = W at *
  have HWH := hide (rfl : w.heap.size = w.heap.size)
  refine (oNew (js := [w.heap.size]) 30 W (unhide hbx) (by simpa using hsz) (by decide)).mono ?_
  rintro e W0 ⟨p, rfl, h, kk⟩
  have H0 := hide h
  replace X := hide ((unhide X).kept kk (by simp))
  have g1 := new_has 30 (k : Int)
  have g2 : (Tr.new 30).evertI (k : Int) = Tr.new 30 := evertI_no g1
  have g3 := new_cut 30 (k : Int)
  have g4 : (Tr.new 30).cutI (k : Int) = Tr.new 30 := cutI_no g3
  clear h kk hbx hsz HWH
  go_wp2_with fail
  refine ((unhide H0).call fun _ ha => aHas _ ha).mono ?_
  rw [g1]
  rintro e W1 ⟨rfl, h, k⟩
  have H1 := hide h
  replace X := hide ((unhide X).kept k (by simp))
  clear h k H0
  go_wp2_with fail
  refine ((unhide H1).call fun _ ha => aEvert _ ha).mono ?_
  rw [g1, g2]
  rintro e W2 ⟨rfl, h, k⟩
  have H2 := hide h
  replace X := hide ((unhide X).kept k (by simp))
  clear h k H1
  go_wp2_with fail
  refine ((unhide H2).call fun _ ha => aCut _ ha).mono ?_
  rw [g3, g4]
  rintro e W3 ⟨rfl, h, k⟩
  have H3 := hide h
  replace X := hide ((unhide X).kept k (by simp))
  clear h k H2
  go_wp2
  go_loopw [7] (fun i w' => ∃ m : Nat, m ≤ 2 ∧ i = .int .i64 (m : Int) ∧ Hid (Ob w w' p (Tr.new 30) [w.heap.size]) ∧ Hid (BoxAt w' w.heap.size #[.int .i16 x, .int .i16 y] 62)) (fun i _ => 2 - (intOf i).toNat)
  case atStart => exact ⟨0, by omega, rfl, H3, X⟩
  case round =>
    clear X H3
    obtain ⟨m, hm, rfl, H0, X⟩ := hrel
    by_cases hlt : m < 2
    · obtain ⟨z, hz0, hz1, dz⟩ : ∃ z : Int, -32768 ≤ z ∧ z ≤ 32767 ∧ wr.cell? ⟨w.heap.size, m, none⟩ = some (.int .i16 z) := by
        rcases (by omega : m = 0 ∨ m = 1) with rfl | rfl
        · exact ⟨x, hx0, hx1, ((unhide X).cell rfl).1⟩
        · exact ⟨y, hy0, hy1, ((unhide X).cell rfl).1⟩
      have fz : fitB z = true := by simp [fitB]; omega
      have e1 : (m : Int) < 2 := by omega
      have e2 : (0 : Int) ≤ (m : Int) := by omega
      have f1 : (Tr.new 30).addB (k : Int) z = true := new_add hk fz
      have t1 : (Tr.new 30).addI (k : Int) z = lone 30 k z := addI_yes f1
      have f2 : (lone 30 k z).addB (k : Int) z = false := lone_add
      have t2 : (lone 30 k z).addI (k : Int) z = lone 30 k z := addI_no f2
      have f3 : (lone 30 k z).pathI (k : Int) (k : Int) = ⟨1, z, z, z⟩ := lone_path hk
      have f4 : (lone 30 k z).sameI (k : Int) (k : Int) = true := lone_same hk
      have f5 : (lone 30 k z).subI (k : Int) = ⟨1, z, z, z⟩ := lone_sub hk
      have f6 : (lone 30 k z).hasI (k : Int) = true := lone_has
      have f7 : (lone 30 k z).getI (k : Int) = z := lone_get
      have f8 : (lone 30 k z).rootI (k : Int) = k := lone_root hk
      have f9 : (lone 30 k z).parI (k : Int) = -1 := lone_parI
      have f10 : (lone 30 k z).lcaI (k : Int) (k : Int) = k := lone_lca hk
      have f11 : (lone 30 k z).sizeI (k : Int) = 1 := lone_size hk
      have f12 : (lone 30 k z).linkB (k : Int) (k : Int) = false := lone_link hk
      have t12 : (lone 30 k z).linkI (k : Int) (k : Int) = lone 30 k z := linkI_no f12
      have f13 : (lone 30 k z).cutB (k : Int) = false := lone_cut
      have t13 : (lone 30 k z).cutI (k : Int) = lone 30 k z := cutI_no f13
      have t14 : (lone 30 k z).evertI (k : Int) = lone 30 k z := (evertI_yes f6).trans (lone_evert hk)
      have f15 : (lone 30 k z).goB (k : Int) = true := lone_go hk
      have t15 : (lone 30 k z).dropI (k : Int) = Tr.new 30 := (dropI_yes f15).trans lone_drop
      have f16 := new_go 30 (k : Int)
      have t16 : (Tr.new 30).dropI (k : Int) = Tr.new 30 := dropI_no f16
      generalize lone 30 k z = L at *
      go_wp2_with fail
      refine ((unhide H0).call fun _ ha => aAdd _ _ ha).mono ?_
      rw [f1, t1]
      rintro e W1 ⟨rfl, h, k⟩
      have H1 := hide h
      replace X := hide ((unhide X).kept k (by simp))
      clear h k H0
      clear dz
      go_wp2_with fail
      refine ((unhide H1).call fun _ ha => aAdd _ _ ha).mono ?_
      rw [f2, t2]
      rintro e W2 ⟨rfl, h, k⟩
      have H2 := hide h
      replace X := hide ((unhide X).kept k (by simp))
      clear h k H1
      go_wp2_with fail
      refine ((unhide H2).call fun _ ha => aPath _ _ ha).mono ?_
      rw [f3, f4]
      unfold smV
      dsimp only
      rintro e W3 ⟨rfl, h, k⟩
      have H3 := hide h
      replace X := hide ((unhide X).kept k (by simp))
      clear h k H2
      have S := hide (SumAt.new W3 34 1 z z z)
      replace X := hide ((unhide X).kept (kept_alloc (unhide H3) (.cells #[.int .i64 1, .int .i64 z, .int .i64 z, .int .i64 z] 34)) (by simp))
      replace H3 := hide ((unhide H3).push (.cells #[.int .i64 1, .int .i64 z, .int .i64 z, .int .i64 z] 34))
      go_wp2_with fail
      generalize W3.alloc (.cells #[.int .i64 1, .int .i64 z, .int .i64 z, .int .i64 z] 34) = WW3 at *
      generalize W3.heap.size = b at *
      refine ((unhide H3).call fun _ ha => aSub _ ha).mono ?_
      rw [f5, f6]
      dsimp only
      rintro e W4 ⟨rfl, h, k⟩
      have H4 := hide h
      replace X := hide ((unhide X).kept k (by simp))
      replace S := hide ((unhide S).kept k (by simp))
      clear h k H3
      obtain ⟨⟨q0, q1, q2, q3⟩, _⟩ := unhide S
      dsimp only at q0 q1 q2 q3
      have S0 := S
      clear q0 q1 q2 q3
      go_wp2_with fail
      refine ((unhide H4).call fun _ ha => aGet _ ha).mono ?_
      rw [f7, f6]
      rintro e W5 ⟨rfl, h, k⟩
      have H5 := hide h
      replace X := hide ((unhide X).kept k (by simp))
      replace S := hide ((unhide S).kept k (by simp))
      clear h k H4
      clear S0
      obtain ⟨⟨q0, q1, q2, q3⟩, _⟩ := unhide S
      dsimp only at q0 q1 q2 q3
      go_wp2_with fail
      refine ((unhide H5).call fun _ ha => aRoot _ ha).mono ?_
      rw [f8]
      rintro e W6 ⟨rfl, h, k⟩
      have H6 := hide h
      replace X := hide ((unhide X).kept k (by simp))
      replace S := hide ((unhide S).kept k (by simp))
      clear h k H5
      clear q0 q1 q2 q3
      go_wp2_with fail
      refine ((unhide H6).call fun _ ha => aParent _ ha).mono ?_
      rw [f9]
      rintro e W7 ⟨rfl, h, k⟩
      have H7 := hide h
      replace X := hide ((unhide X).kept k (by simp))
      replace S := hide ((unhide S).kept k (by simp))
      clear h k H6
      go_wp2_with fail
      refine ((unhide H7).call fun _ ha => aLca _ _ ha).mono ?_
      rw [f10]
      rintro e W8 ⟨rfl, h, k⟩
      have H8 := hide h
      replace X := hide ((unhide X).kept k (by simp))
      replace S := hide ((unhide S).kept k (by simp))
      clear h k H7
      go_wp2_with fail
      refine ((unhide H8).call fun _ ha => aSize _ ha).mono ?_
      rw [f11]
      rintro e W9 ⟨rfl, h, k⟩
      have H9 := hide h
      replace X := hide ((unhide X).kept k (by simp))
      replace S := hide ((unhide S).kept k (by simp))
      clear h k H8
      go_wp2_with fail
      refine ((unhide H9).call fun _ ha => aSame _ _ ha).mono ?_
      rw [f4]
      rintro e W10 ⟨rfl, h, k⟩
      have H10 := hide h
      replace X := hide ((unhide X).kept k (by simp))
      replace S := hide ((unhide S).kept k (by simp))
      clear h k H9
      go_wp2_with fail
      refine ((unhide H10).call fun _ ha => aLink _ _ ha).mono ?_
      rw [f12, t12]
      rintro e W11 ⟨rfl, h, k⟩
      have H11 := hide h
      replace X := hide ((unhide X).kept k (by simp))
      replace S := hide ((unhide S).kept k (by simp))
      clear h k H10
      go_wp2_with fail
      refine ((unhide H11).call fun _ ha => aCut _ ha).mono ?_
      rw [f13, t13]
      rintro e W12 ⟨rfl, h, k⟩
      have H12 := hide h
      replace X := hide ((unhide X).kept k (by simp))
      replace S := hide ((unhide S).kept k (by simp))
      clear h k H11
      go_wp2_with fail
      refine ((unhide H12).call fun _ ha => aEvert _ ha).mono ?_
      rw [f6, t14]
      rintro e W13 ⟨rfl, h, k⟩
      have H13 := hide h
      replace X := hide ((unhide X).kept k (by simp))
      replace S := hide ((unhide S).kept k (by simp))
      clear h k H12
      go_wp2_with fail
      refine ((unhide H13).call fun _ ha => aDrop _ ha).mono ?_
      rw [f15, t15]
      rintro e W14 ⟨rfl, h, k⟩
      have H14 := hide h
      replace X := hide ((unhide X).kept k (by simp))
      replace S := hide ((unhide S).kept k (by simp))
      clear h k H13
      go_wp2_with fail
      refine ((unhide H14).call fun _ ha => aDrop _ ha).mono ?_
      rw [f16, t16]
      rintro e W15 ⟨rfl, h, k⟩
      have H15 := hide h
      replace X := hide ((unhide X).kept k (by simp))
      replace S := hide ((unhide S).kept k (by simp))
      clear h k H14
      go_wp2
      go_roundw
      case rel => exact ⟨m + 1, by omega, by go_num, hide ((unhide H15).less (by simp)), X⟩
      case measure => simp [intOf]; omega
    · obtain rfl : m = 2 := by omega
      go_wp2_with fail
      refine (awake_any _).mono ?_
      rintro e W1 ⟨rfl, hb⟩
      obtain ⟨h, k⟩ := (unhide H0).below hb
      have H1 := hide h
      replace X := hide ((unhide X).kept k (by simp))
      clear h k hb H0
      go_wp2_with fail
      refine ((unhide H1).call fun _ ha => aCheck ha).mono ?_
      rintro e W2 ⟨rfl, h, k⟩
      have H2 := hide h
      replace X := hide ((unhide X).kept k (by simp))
      clear h k H1
      go_wp2
      go_ret
      exact ⟨rfl, (unhide H2).bel⟩
end Go.Proofs.Ytjnkgakajenoaaa
