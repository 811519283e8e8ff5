/- TableOrder. -/
import Derived.Test.YtakgacahaennoaaDoorW
import Derived.Test.YtakgacahaennoaaDoorM3
namespace Go.Proofs.YtakgacahaennoaaDoor
open Go.RowKit Go.Arb

/-- What came in: a row of numbers of a kind, up to a bound. -/
def NRow (k : IntKind) (bd : Nat) (w : World) (x : Option Addr) (len : Nat) (zs : List Int) : Prop := zs.length = len ∧ (0 < len → ∃ b o, x = some ⟨b, o, none⟩ ∧ b < w.heap.size ∧ ∀ i, i < len → w.cell? ⟨b, o + i, none⟩ = some (.int k (zs.getD i 0))) ∧ ∀ n ∈ zs, 0 ≤ n ∧ n ≤ bd
theorem NRow.get {k : IntKind} {bd : Nat} {w W : World} {x : Option Addr} {len : Nat} {zs : List Int} (h : NRow k bd w x len zs) (hb : Below w.heap.size w W) (m : Nat) (hm : m < len) : ∃ b o y, x = some ⟨b, o, none⟩ ∧ W.cell? ⟨b, o + m, none⟩ = some (.int k ((y : Nat) : Int)) ∧ y ≤ bd ∧ zs.getD m 0 = (y : Int) := by
  obtain ⟨h1, h2, h3⟩ := h
  obtain ⟨b, o, hx, hlt, hc⟩ := h2 (by omega)
  have hz := h3 (zs.getD m 0) (by rw [List.getD_eq_getElem?_getD, List.getElem?_eq_getElem (by omega)]; simp)
  obtain ⟨y, hy⟩ := Int.eq_ofNat_of_zero_le hz.1
  refine ⟨b, o, y, hx, ?_, by omega, hy⟩
  rw [hb.cell (p := ⟨b, o + m, none⟩) hlt, hc m hm, hy]

/-- A table of the call's own, and a row beside it. -/
structure Bw (w W : World) (p : Nat) (S : List Cell) (ks : List Nat) (B : Nat) (u : Value) (l : List Int) : Prop where
  aw : Aw w W p S ks
  row : IRow B W u l
  off : Off (own u) ks
section
variable {w W W' : World} {p B : Nat} {S S' : List Cell} {ks ks' : List Nat} {u : Value} {l : List Int}
theorem Bw.put (h : Bw w W p S ks B u l) (hk : Keep ks W W') (ha : TbAt W' p S' ks') (hg : Grew W ks ks') : Bw w W' p S' ks' B u l :=
  ⟨h.aw.put hk ha hg, row_keep h.row hk h.off, h.off.grew (row_lt h.row) hg⟩
theorem Bw.below (h : Bw w W p S ks B u l) (hb : Below W.heap.size W W') : Bw w W' p S ks B u l :=
  ⟨h.aw.below hb, row_keep h.row (Keep.ofBelow hb []) (fun _ _ => by simp), h.off⟩
theorem Bw.drewN (h : Bw w W p S ks B u l) (m : Nat) : Bw w (W.drewN m) p S ks B u l := h.below (below_drewN (Below.refl _ _) m)
theorem Aw.list (h : Aw w W p S ks) (hb : Below W.heap.size W W') (hr : IRow W.heap.size W' u l) : Bw w W' p S ks W.heap.size u l :=
  ⟨h.below hb, hr, fun k hk hm => by have := row_ge hr k hk; have := h.tb.lt k hm; omega⟩
end

/-- What the first loop keeps. -/
def Fst (S : List Cell) (z0 : Int) (m : Nat) : Prop := 0 < m → (z0, 0) ∈ S
theorem Fst.next {S : List Cell} {z0 z : Int} {m : Nat} (h : Fst S z0 m) (hm : m = 0 → z = z0 ∧ putB S z = true) : Fst (putZ S z m) z0 (m + 1) := fun _ => by
  by_cases h0 : 0 < m
  · exact mem_putZ _ _ (h h0)
  · obtain ⟨rfl, hb⟩ := hm (by omega)
    obtain rfl : m = 0 := by omega
    rw [putZ_yes _ hb]
    exact mem_putS.2 (.inl rfl)

set_option maxRecDepth 100000 in
set_option maxHeartbeats 4000000 in
theorem order_walk (x : Option Addr) (len cap : Nat) (zs : List Int) (n : Int) (w : World) (hT : Tab w) (hx : NRow .u16 65535 w x len zs) (hlen : len ≤ maxLen) :
    Calls Tryd.prog 6 #[.slice x len cap, .int .i64 n] w fun e w' => e = .returned (.bool true) ∧ Below w.heap.size w w' := by
  have HT := hide hT
  have HX := hide hx
  clear hT hx
  unfold maxLen at hlen
  by_cases h300 : (300 : Int) < (len : Int)
  · go_enter Tryd.func6, Tryd.ntmps6
    go_wp2_with (go_at_call 20; refine (awake_any _ (unhide HT)).mono ?_; rintro e w2 ⟨rfl, b2⟩)
    go_ret
    exact ⟨rfl, b2⟩
  · go_enter Tryd.func6, Tryd.ntmps6
    go_wp2_with fail
    refine (tNew _ (unhide HT)).mono ?_
    rintro e w1 ⟨rfl, a1, b1, z1⟩
    have H1 : Hid (Aw w w1 w.heap.size [] [w.heap.size] ∧ Fst [] (zs.getD 0 0) 0) := ⟨⟨b1, a1, by simp⟩, fun h => by omega⟩
    clear a1 b1 z1
    go_wp2
    go_loopw [6, 7] (fun c i w' => ∃ (m : Nat) (S : List Cell) (ks : List Nat), m ≤ len ∧ i = .int .i64 (m : Int) ∧ c = .int .i64 (S.length : Int) ∧ S.length ≤ m ∧ Hid (Aw w w' w.heap.size S ks ∧ Fst S (zs.getD 0 0) m)) (fun _ i _ => len - (intOf i).toNat)
    case atStart => exact ⟨0, [], _, Nat.zero_le _, rfl, rfl, Nat.le_refl _, H1⟩
    case round =>
      obtain ⟨m, S, ks, hm, rfl, rfl, hSm, HM⟩ := hrel
      clear H1
      by_cases hml : m < len
      · obtain ⟨b, o, y, rfl, hc, hy, hzy⟩ := (unhide HX).get (unhide HM).1.bel m hml
        have e1 : (0 : Int) ≤ (m : Int) := by omega
        have e2 : (m : Int) < (len : Int) := by omega
        have HY := hide hzy
        clear hzy
        go_wp2_with fail
        refine (tPut _ _ _ _ _ _ (unhide HM).1.tb).mono ?_
        rintro e w2 ⟨rfl, ks2, a2, k2, g2⟩
        cases hpb : putB S (y : Int) with
        | true =>
          have H2 := hide (And.intro ((unhide HM).1.put k2 a2 g2) ((unhide HM).2.next (z := y) (fun h0 => ⟨by subst h0; exact (unhide HY).symm, hpb⟩)))
          rw [putZ_yes _ hpb] at H2
          have hln := putS_len S y m
          clear HM a2 k2 g2 hc
          go_wp2
          go_roundw
          case rel => exact ⟨m + 1, _, ks2, by omega, by go_num, by rw [hln]; go_num, by omega, H2⟩
          case measure => simp [intOf]; omega
        | false =>
          have h0' : m = 0 → (y : Int) = zs.getD 0 0 ∧ putB S y = true := fun h0 => by
            have : S = [] := List.length_eq_zero_iff.1 (by omega)
            subst this
            rw [putB_true (by omega) (by omega) (by simp) rfl] at hpb
            cases hpb
          have H2 := hide (And.intro ((unhide HM).1.put k2 a2 g2) ((unhide HM).2.next (z := y) h0'))
          rw [putZ_no _ hpb] at H2
          clear HM a2 k2 g2 hc h0'
          go_wp2
          go_roundw
          case rel => exact ⟨m + 1, S, ks2, by omega, by go_num, rfl, by omega, H2⟩
          case measure => simp [intOf]; omega
      · have hlm : m = len := by omega
        subst hlm
        have e2 : ¬ (m : Int) < (m : Int) := by omega
        go_wp2_with fail
        refine (tList _ _ _ _ (unhide HM).1.tb).mono ?_
        rintro e w2 ⟨⟨u, rfl, r2⟩, b2⟩
        have H2 := hide (And.intro ((unhide HM).1.list b2 r2) (And.intro (unhide HM).2 (unhide HM).1.tb.ris))
        clear HM r2 b2
        obtain ⟨xu, capu, hu, hu1, hu2, _⟩ := row_form (unhide H2).1.row
        rw [idsS_len] at hu hu1
        subst hu
        unfold maxLen at hu2
        generalize hB : wr.heap.size = B at *
        clear hB
        go_wp2
        go_loopw [9] (fun i w' => ∃ t : Nat, (t + 1 ≤ S.length ∨ t = 0) ∧ i = .int .i64 ((t : Int) + 1) ∧ Hid (Bw w w' w.heap.size S ks B (.slice xu S.length capu) (idsS S))) (fun i _ => S.length - (intOf i).toNat)
        case atStart => exact ⟨0, .inr rfl, rfl, (unhide H2).1⟩
        case round =>
          obtain ⟨t, ht, rfl, HR⟩ := hrel
          by_cases htl : t + 1 < S.length
          · obtain ⟨g, capg, hgu, hg1, hg2, hg3, hg4, d0⟩ := (unhide HR).row.at t (by rw [idsS_len]; omega)
            obtain ⟨g', capg', hgu', _, _, _, _, d1⟩ := (unhide HR).row.at (t + 1) (by rw [idsS_len]; omega)
            rw [hgu] at hgu'
            simp only [Value.slice.injEq, Option.some.injEq, Addr.mk.injEq, and_true, true_and] at hgu'
            obtain ⟨rfl, rfl⟩ := hgu'
            simp only [Value.slice.injEq] at hgu
            obtain ⟨rfl, hle, rfl⟩ := hgu
            clear hle
            have hlt := idsS_lt (unhide H2).2.2 t (by rw [idsS_len]; omega)
            generalize (idsS S)[t]'(by rw [idsS_len]; omega) = za at *
            generalize (idsS S)[t + 1]'(by rw [idsS_len]; omega) = zb at *
            have e3 : (t : Int) + 1 < (S.length : Int) := by omega
            have e4 : (0 : Int) ≤ (t : Int) := by omega
            have e5 : (0 : Int) ≤ (t : Int) + 1 := by omega
            have e6 : (t : Int) < (S.length : Int) := by omega
            have W1 : IntKind.i64.wrap ((t : Int) + 1 - 1) = (t : Int) := by rw [show (t : Int) + 1 - 1 = (t : Int) from by omega]; exact IntWalk.i64_in _ (by omega)
            have k1 : ¬ zb ≤ za := by omega
            have k2 : decide (zb ≤ za) = false := by simpa using k1
            go_wp2
            go_quiet (fail)
            go_wp2
            go_roundw
            case rel => exact ⟨t + 1, .inl (by omega), by go_num, (unhide HR).drewN _⟩
            case measure => simp [intOf]; omega
          · have e3 : ¬ (t : Int) + 1 < (S.length : Int) := by omega
            by_cases h0 : m = 0
            · subst h0
              obtain rfl : S = [] := List.length_eq_zero_iff.1 (by omega)
              go_wp2_with fail
              refine (awake_any _ (unhide HR).aw.tb.tab).mono ?_
              rintro e w4 ⟨rfl, b4⟩
              have H4 := hide ((unhide HR).below b4)
              clear HR b4
              go_wp2_with (go_at_call 15; refine (tLen _ _ _ _ (unhide H4).aw.tb).mono ?_; rintro e w' ⟨rfl, rfl⟩)
              go_ret
              exact ⟨rfl, (unhide H4).aw.bel⟩
            · obtain ⟨b, o, y, rfl, hc, hy, hzy⟩ := (unhide HX).get (unhide HR).aw.bel 0 (by omega)
              have hin : ((y : Int), (0 : Int)) ∈ S := by rw [← hzy]; exact (unhide H2).2.1 (by omega)
              have hg := mem_getS (unhide H2).2.2 hin
              have hpb := putB_there hg
              have hgd := getS_drop_self (unhide H2).2.2 (y : Int)
              have hdl := dropS_len hg
              have hpb2 := putB_true (S := dropS S y) (id := y) (by omega) (by omega) (by omega) hgd
              have hg3 : getS (putS (dropS S y) y n) y = some n := mem_getS (((unhide H2).2.2.drop y).put n (by omega) (by omega) (by omega) hgd) (mem_putS.2 (.inl rfl))
              have hpl := putS_len (dropS S y) y n
              have HG := hide (And.intro hg (And.intro hpb (And.intro hpb2 (And.intro hg3 (And.intro hdl hpl)))))
              clear hin hg hpb hgd hdl hpb2 hg3 hpl hzy
              have e7 : (0 : Int) < (m : Int) := by omega
              have hc' : wr.cell? ⟨b, o, none⟩ = some (.int .u16 (y : Int)) := hc
              clear hc
              go_wp2_with fail
              refine (tGet _ _ _ _ _ (unhide HR).aw.tb).mono ?_
              rw [(unhide HG).1]
              rintro e w4 ⟨rfl, hw⟩
              subst hw
              clear hc'
              dsimp only [Option.getD, Option.isSome]
              go_wp2_with fail
              refine (tPut _ _ _ _ _ _ (unhide HR).aw.tb).mono ?_
              rw [(unhide HG).2.1, putZ_no _ (unhide HG).2.1]
              rintro e w5 ⟨rfl, ks5, a5, k5, g5⟩
              have H5 := hide ((unhide HR).put k5 a5 g5)
              clear HR a5 k5 g5
              go_wp2_with fail
              refine (tDrop _ _ _ _ _ (unhide H5).aw.tb).mono ?_
              rw [(unhide HG).1]
              rintro e w6 ⟨rfl, a6, k6⟩
              have H6 := hide ((unhide H5).put k6 a6 (Grew.refl _ _))
              dsimp only [Option.isSome]
              clear H5 a6 k6
              go_wp2_with fail
              refine (tPut _ _ _ _ _ _ (unhide H6).aw.tb).mono ?_
              rw [(unhide HG).2.2.1, putZ_yes _ (unhide HG).2.2.1]
              rintro e w7 ⟨rfl, ks7, a7, k7, g7⟩
              have H7 := hide ((unhide H6).put k7 a7 g7)
              clear H6 a7 k7 g7
              go_wp2_with fail
              refine (tGet _ _ _ _ _ (unhide H7).aw.tb).mono ?_
              rw [(unhide HG).2.2.2.1]
              rintro e w8 ⟨rfl, hw⟩
              subst hw
              dsimp only [Option.getD, Option.isSome]
              go_wp2_with fail
              refine (awake_any _ (unhide H7).aw.tb.tab).mono ?_
              rintro e w9 ⟨rfl, b9⟩
              have H9 := hide ((unhide H7).below b9)
              clear H7 b9
              have hl9 : (putS (dropS S y) y n).length = S.length := by have := unhide HG; omega
              go_wp2_with (go_at_call 15; refine (tLen _ _ _ _ (unhide H9).aw.tb).mono ?_; rw [hl9]; rintro e w' ⟨rfl, rfl⟩)
              go_ret
              exact ⟨rfl, (unhide H9).aw.bel⟩
end Go.Proofs.YtakgacahaennoaaDoor
