/- TableKeeps. -/
import Derived.Test.YtakgacahaennoaaDoorW3
import Derived.Test.YtakgacahaennoaaDoorM4
namespace Go.Proofs.YtakgacahaennoaaDoor
open Go.RowKit Go.Arb

theorem Tryd.info4 : (Tryd.prog.info? 4).map (fun i => (i.zero, i.size, i.bytes)) = some (some (.bool false), 1, 1) := by kernel_rfl

/-- A table of the call's own, and a row of flags beside it. -/
structure Kw (w W : World) (p : Nat) (S : List Cell) (ks : List Nat) (v : Value) (out : List Bool) : Prop where
  aw : Aw w W p S ks
  row : W.ownsRow w.heap.size 4 1 v out.length (out.map Value.bool)
  off : Off (own v) ks
  two : 1 < w.heap.size
section
variable {w W W' : World} {p : Nat} {S S' : List Cell} {ks ks' : List Nat} {v : Value} {out : List Bool}
theorem Kw.put (h : Kw w W p S ks v out) (hk : Keep ks W W') (ha : TbAt W' p S' ks') (hg : Grew W ks ks') : Kw w W' p S' ks' v out :=
  ⟨h.aw.put hk ha hg, row_keep h.row hk h.off, h.off.grew (row_lt h.row) hg, h.two⟩
theorem Kw.below (h : Kw w W p S ks v out) (hb : Below W.heap.size W W') : Kw w W' p S ks v out :=
  ⟨h.aw.below hb, row_keep h.row (Keep.ofBelow hb []) (fun _ _ => by simp), h.off, h.two⟩
theorem Kw.drew (h : Kw w W p S ks v out) : Kw w W.drew p S ks v out := h.below (Below.refl _ _).drew
theorem Kw.at (h : Kw w W p S ks v out) (i : Nat) (hi : i < out.length) :
    ∃ g cap, v = .slice (some ⟨g, 0, none⟩) out.length cap ∧ out.length ≤ cap ∧ cap ≤ maxLen ∧ g < W.heap.size ∧ W.cell? ⟨g, i, none⟩ = some (.bool out[i]) ∧ W.frozen? ⟨g, i, none⟩ = false := by
  obtain ⟨x, cap, hv, h1, h2, h3⟩ := row_form h.row
  obtain ⟨g, rfl, hg, how, hc⟩ := h3 (by omega)
  have := hc i (by omega)
  exact ⟨g, cap, hv, h1, h2, hg, by rw [this.1]; simp [hi], this.2⟩
theorem Kw.cellAt {g n cap : Nat} (h : Kw w W p S ks (.slice (some ⟨g, 0, none⟩) n cap) out) (i : Nat) (hi : i < out.length) (b : Bool) (hb : out[i] = b) : W.cell? ⟨g, i, none⟩ = some (.bool b) ∧ W.frozen? ⟨g, i, none⟩ = false ∧ g < W.heap.size := by
  obtain ⟨g', cap', hv, _, _, h1, h2, h3⟩ := h.at i hi
  simp only [Value.slice.injEq, Option.some.injEq, Addr.mk.injEq, and_true] at hv
  obtain ⟨rfl, _⟩ := hv
  rw [← hb]
  exact ⟨h2, h3, h1⟩
theorem Kw.set {g n cap : Nat} (h : Kw w W p S ks (.slice (some ⟨g, 0, none⟩) n cap) out) (hn : n = out.length) (i : Nat) : Kw w (W.setCell ⟨g, i, none⟩ (.bool true)) p S ks (.slice (some ⟨g, 0, none⟩) n cap) (out.set i true) := by
  subst hn
  have hg : g ∈ own (.slice (some ⟨g, 0, none⟩) out.length cap) := by simp [own, Value.ownBlock]
  have hge := row_ge h.row g hg
  have hk : Keep [g] W (W.setCell ⟨g, i, none⟩ (.bool true)) := Keep.setCell (ks := [g]) (Keep.refl _ _) (p := ⟨g, i, none⟩) (by simp) _
  refine ⟨⟨hk.below h.aw.bel h.aw.bel.size (fun k hk => by simp at hk; omega), h.aw.tb.keep hk (fun k hk' hm => by simp at hm; subst hm; exact h.off _ hg hk') (by have := h.two; simp; omega), h.aw.ge⟩, ?_, h.off, h.two⟩
  have := (h.row.stored i (.bool true)).1
  simpa using this
end

set_option maxRecDepth 100000 in
set_option maxHeartbeats 4000000 in
theorem keeps_walk (a0 a1 : Int) (x : Option Addr) (len cap : Nat) (zs : List Int) (w : World) (hT : Tab w) (ha0 : 0 ≤ a0) (ha0' : a0 ≤ 65535) (ha1 : 0 ≤ a1) (ha1' : a1 ≤ 4294967295) (hx : NRow .u8 255 w x len zs) (hlen : len ≤ maxLen) :
    Calls Tryd.prog 4 #[.int .u16 a0, .int .u32 a1, .slice x len cap] w fun e w' => e = .returned (.bool true) ∧ Below w.heap.size w w' := by
  obtain ⟨n0, rfl⟩ := Int.eq_ofNat_of_zero_le ha0
  obtain ⟨n1, rfl⟩ := Int.eq_ofNat_of_zero_le ha1
  have HT := hide hT
  have HX := hide hx
  clear hT hx
  unfold maxLen at hlen
  go_enter Tryd.func4, Tryd.ntmps4
  go_wp2_with fail
  refine (tNew _ (unhide HT)).mono ?_
  rintro e w1 ⟨rfl, a1, b1, z1⟩
  obtain ⟨k, hk⟩ : ∃ k, k = n0 % 300 := ⟨_, rfl⟩
  obtain ⟨d', hd'⟩ : ∃ d', d' = n1 % 7000000 := ⟨_, rfl⟩
  have hk3 : k < 300 := by omega
  have hd3 : d' < 7000000 := by omega
  have hkm : (n0 : Int) % 300 = (k : Int) := by omega
  have hdm : (n1 : Int) % 7000000 = (d' : Int) := by omega
  obtain ⟨d, hd⟩ : ∃ d : Nat, d = 1 + d' := ⟨_, rfl⟩
  have hdd : (1 : Int) + (d' : Int) = (d : Int) := by omega
  have hd0 : 0 < d := by omega
  have hd7 : d ≤ 7000000 := by omega
  have H1 : Hid (Aw w w1 w.heap.size [] [w.heap.size] ∧ Kn [] 0 d []) := ⟨⟨b1, a1, by simp⟩, kn_new _⟩
  clear a1 b1 z1 hk hd'
  have HDD := hide hdd
  clear hdd hd
  go_wp2
  generalize hD : (1 : Int) + (d' : Int) = D at *
  obtain rfl : D = (d : Int) := unhide HDD
  clear HDD hD hkm hdm
  go_loopw [10] (fun i w' => ∃ (m : Nat) (S : List Cell) (ks : List Nat), m ≤ k ∧ i = .int .i64 (m : Int) ∧ Hid (Aw w w' w.heap.size S ks ∧ Kn S m d [])) (fun i _ => k - (intOf i).toNat)
  case atStart => exact ⟨0, [], _, Nat.zero_le _, rfl, H1⟩
  case round =>
    obtain ⟨m, S, ks, hm, rfl, HM⟩ := hrel
    clear H1
    by_cases hmk : m < k
    · have hqb : m * d ≤ 299 * 7000000 := Nat.mul_le_mul (by omega) hd7
      obtain ⟨pb, kn⟩ := (unhide HM).2.put hd0 (by omega) (by omega)
      have hq : (m : Int) * (d : Int) = ((m * d : Nat) : Int) := by simp
      generalize m * d = q at *
      have HP := hide (And.intro pb kn)
      clear pb kn
      have e1 : (m : Int) < (k : Int) := by omega
      have e2 : (q : Int) ≤ 2093000000 := by omega
      have W1 : IntKind.i64.wrap ((m : Int) * (d : Int)) = (q : Int) := by rw [hq]; exact IntWalk.i64_in _ (by omega)
      go_wp2_with fail
      refine (tPut _ _ _ _ _ _ (unhide HM).1.tb).mono ?_
      rw [(unhide HP).1, putZ_yes _ (unhide HP).1]
      rintro e w2 ⟨rfl, ks2, a2, k2, g2⟩
      have H2 := hide (And.intro ((unhide HM).1.put k2 a2 g2) (unhide HP).2)
      clear HM HP a2 k2 g2
      go_wp2
      go_roundw
      case rel => exact ⟨m + 1, _, ks2, by omega, by go_num, H2⟩
      case measure => simp [intOf]; omega
    · have hlm : m = k := by omega
      subst hlm
      have e2 : ¬ (m : Int) < (m : Int) := by omega
      have hmb := run_make_row' (P := Tryd.prog) 42 4 (.bool false) 1 Tryd.underlying42 Tryd.info4 rfl .i64 .i64 m (by omega) (by omega)
      have hK : Kw w (wr.alloc (.cells (madeCells #[.bool false] m) 4)) w.heap.size S ks (.slice (some ⟨wr.heap.size, 0, none⟩) m m) (List.replicate m false) := by
        have hb : Below wr.heap.size wr (wr.alloc (.cells (madeCells #[.bool false] m) 4)) := (Below.refl _ _).alloc (Nat.le_refl _) _
        refine ⟨(unhide HM).1.below hb, ?_, fun k hk hm => ?_, (unhide HT).2⟩
        · refine ⟨by simp, .inr ⟨wr.heap.size, m, madeCells #[.bool false] m, by simp, (unhide HM).1.bel.size, heap_alloc_new _ _, by simp, by unfold maxLen; omega, by simp [size_madeCells], by rw [toList_madeCells_one]; simp⟩⟩
        · simp [own, Value.ownBlock] at hk
          have := (unhide HM).1.tb.lt k hm
          omega
      have HK := hide (And.intro hK (unhide HM).2.made)
      clear hK HM
      go_wp2
      generalize wr.alloc (.cells (madeCells #[.bool false] m) 4) = W0 at *
      generalize hv0 : Value.slice (some ⟨wr.heap.size, 0, none⟩) m m = v0 at *
      clear hmb hv0
      rcases Nat.eq_zero_or_pos m with hm0 | hm0
      · subst hm0
        have hS : S = [] := by
          have := (unhide HK).2.len
          exact List.length_eq_zero_iff.1 (by omega)
        subst hS
        have HK2 := hide (unhide HK).1
        clear HK
        go_loopw [12] (fun i w' => i = .int .i64 0 ∧ Hid (Kw w w' w.heap.size [] ks v0 (List.replicate 0 false))) (fun _ _ => 0)
        case atStart => exact ⟨rfl, HK2⟩
        case round =>
          obtain ⟨rfl, HR⟩ := hrel
          clear HK2
          have hcases : (len : Int) ≤ 0 ∨ 0 < (len : Int) := by omega
          rcases hcases with hc | hc
          all_goals
            go_wp2
            go_loopw [14, 15] (fun l i w' => l = .int .i64 0 ∧ i = .int .i64 0 ∧ Hid (Kw w w' w.heap.size [] ks v0 (List.replicate 0 false))) (fun _ _ _ => 0)
            case atStart => exact ⟨rfl, rfl, HR⟩
            case round =>
              obtain ⟨rfl, rfl, HL⟩ := hrel
              clear HR
              go_wp2_with fail
              refine (tGet _ _ _ _ _ (unhide HL).aw.tb).mono ?_
              rw [show getS [] _ = none from rfl]
              rintro e w4 ⟨rfl, hw⟩
              subst hw
              dsimp only [Option.getD, Option.isSome]
              go_wp2_with fail
              refine (awake_any _ (unhide HL).aw.tb.tab).mono ?_
              rintro e w5 ⟨rfl, b5⟩
              have H5 := hide ((unhide HL).below b5)
              clear HL b5
              go_wp2_with fail
              refine (tLen _ _ _ _ (unhide H5).aw.tb).mono ?_
              rintro e w6 ⟨rfl, hw⟩
              subst hw
              go_wp2_with fail
              refine (tList _ _ _ _ (unhide H5).aw.tb).mono ?_
              rintro e w7 ⟨⟨u, rfl, r7⟩, b7⟩
              have H7 := hide ((unhide H5).below b7)
              obtain ⟨xu, capu, hu, hu1, hu2, _⟩ := row_form r7
              rw [idsS_len] at hu
              subst hu
              clear H5 b7 r7
              go_wp2
              go_ret
              exact ⟨rfl, (unhide H7).aw.bel⟩
      go_loopw [12] (fun i w' => ∃ (t : Nat) (S : List Cell) (ks : List Nat) (out : List Bool), t ≤ len ∧ t ≤ 300 ∧ out.length = m ∧ i = .int .i64 (t : Int) ∧ Hid (Kw w w' w.heap.size S ks v0 out ∧ Kn S m d out)) (fun i _ => 300 - (intOf i).toNat)
      case atStart => exact ⟨0, S, ks, _, Nat.zero_le _, Nat.zero_le _, by simp, rfl, HK⟩
      case round =>
        obtain ⟨t, S, ks, out, htl, ht3, hol, rfl, HR⟩ := hrel
        clear HK
        by_cases hcont : t < len ∧ t < 300 ∧ 0 < m
        · obtain ⟨hc1, hc2, hc3⟩ := hcont
          obtain ⟨b, o, y, rfl, hcy, hy255, _⟩ := (unhide HX).get (unhide HR).1.aw.bel t hc1
          obtain ⟨j, hj⟩ : ∃ j : Nat, j = (y + t * 7) % m := ⟨_, rfl⟩
          have hjm : j < m := by rw [hj]; exact Nat.mod_lt _ hc3
          have hmod : ((y : Int) + (t : Int) * 7) % (m : Int) = (j : Int) := by rw [hj]; simp
          have HMOD := hide hmod
          clear hj hmod
          have hqb : j * d ≤ 299 * 7000000 := Nat.mul_le_mul (by omega) hd7
          have hget := (unhide HR).2.get hd0 hjm
          have hkn := (unhide HR).2.drop hd0 hjm hol
          have hjo : j < out.length := by omega
          obtain ⟨g, capg, hgv, hg1, hg2, hg3, d0, f0⟩ := (unhide HR).1.at j hjo
          have hgo : out.getD j false = out[j] := by simp [List.getD_eq_getElem?_getD, hjo]
          rw [hgo] at hget
          generalize hob : out[j] = ob at *
          have HOB := hide hob
          have hq : (j : Int) * (d : Int) = ((j * d : Nat) : Int) := by simp
          generalize j * d = q at *
          have hgs : (getS S (q : Int)).isSome = !ob := by rw [hget]; cases ob <;> rfl
          have HG := hide (And.intro hgs hkn)
          clear hgs
          have hne : ((!ob) == ob) = false := by cases ob <;> rfl
          have HOL := hide hol
          have HD := hide (unhide HR).1.drew
          have hdc : wr.drew.cell? ⟨g, j, none⟩ = some (.bool ob) := d0
          clear hget hkn hgo hob
          rw [hol] at hgv hg1
          subst hgv
          unfold maxLen at hg2
          have e1 : (t : Int) < (len : Int) := by omega
          have e2 : (t : Int) < 300 := by omega
          have e3 : (0 : Int) < (m : Int) := by omega
          have e4 : (0 : Int) ≤ (t : Int) := by omega
          have e5 : (0 : Int) ≤ (j : Int) := by omega
          have e6 : (j : Int) < (m : Int) := by omega
          have e7 : (q : Int) ≤ 2093000000 := by omega
          have W1 : IntKind.i64.wrap (q : Int) = (q : Int) := IntWalk.i64_in _ (by omega)
          clear hol
          go_wp2
          generalize hJ : ((y : Int) + (t : Int) * 7) % (m : Int) = J at *
          obtain rfl : J = (j : Int) := unhide HMOD
          clear HMOD hJ d0
          go_region_held3 (fun w' => w'.cell? ⟨g, j, none⟩ = some (.bool ob))
            (simp [go_sem, *])
            (first
              | (go_at_call 11; refine (tDrop _ _ _ _ _ (unhide HD).aw.tb).mono ?_; rw [(unhide HG).1]; rintro e w3 ⟨rfl, a3, k3⟩; have H3 := hide ((unhide HD).put k3 a3 (Grew.refl _ _)); obtain ⟨dj, fj, gj⟩ := (unhide H3).cellAt j hjo ob (unhide HOB); clear a3 k3))
          have H4 := hide (And.intro ((unhide H3).set (unhide HOL).symm j) (unhide HG).2)
          have HOL2 : Hid ((out.set j true).length = m) := by have := unhide HOL; simpa [Hid] using this
          clear H3 HD HG HR hdc HOB
          go_wp2
          go_roundw
          case rel => exact ⟨t + 1, _, ks, _, by omega, by omega, unhide HOL2, by go_num, H4⟩
          case measure => simp [intOf]; omega
        · have hcases : (len : Int) ≤ (t : Int) ∨ ((t : Int) < (len : Int) ∧ 300 ≤ (t : Int)) := by omega
          have e3 : (0 : Int) < (m : Int) := by omega
          have HOL := hide hol
          clear hcont hol
          rcases hcases with hc | ⟨hc, hc'⟩
          all_goals
            go_wp2
            go_loopw [14, 15] (fun l i w' => ∃ r : Nat, r ≤ m ∧ i = .int .i64 (r : Int) ∧ l = .int .i64 (((out.take r).countP (fun b => !b) : Nat) : Int) ∧ (out.take r).countP (fun b => !b) ≤ r ∧ Hid (Kw w w' w.heap.size S ks v0 out ∧ Kn S m d out)) (fun _ i _ => m - (intOf i).toNat)
            case atStart => exact ⟨0, Nat.zero_le _, rfl, rfl, by simp, HR⟩
            case round =>
              obtain ⟨r, hrm, rfl, rfl, hrc, HL⟩ := hrel
              clear HR
              by_cases hrl : r < m
              · have hqb : r * d ≤ 299 * 7000000 := Nat.mul_le_mul (by omega) hd7
                have hget := (unhide HL).2.get hd0 hrl
                have hro : r < out.length := by have := unhide HOL; omega
                obtain ⟨g, capg, hgv, hg1, hg2, hg3, d0, f0⟩ := (unhide HL).1.at r hro
                have hgo : out.getD r false = out[r] := by simp [List.getD_eq_getElem?_getD, hro]
                have hct := count_take hro
                rw [hgo] at hget
                generalize hob : out[r] = ob at *
                have hq : (r : Int) * (d : Int) = ((r * d : Nat) : Int) := by simp
                generalize r * d = q at *
                rw [unhide HOL] at hgv hg1
                subst hgv
                unfold maxLen at hg2
                have HG := hide hget
                clear hget hob hgo
                generalize hcn : (out.take r).countP (fun b => !b) = cn at *
                generalize hcn2 : (out.take (r + 1)).countP (fun b => !b) = cn2 at *
                have HCT := hide (And.intro hct hcn2)
                clear hct hcn hcn2
                have e1 : (r : Int) < (m : Int) := by omega
                have e4 : (0 : Int) ≤ (r : Int) := by omega
                have e7 : (q : Int) ≤ 2093000000 := by omega
                have e8 : (cn : Int) ≤ 300 := by omega
                cases ob with
                | true =>
                  go_wp2_with fail
                  refine (tGet _ _ _ _ _ (unhide HL).1.aw.tb).mono ?_
                  rw [unhide HG]
                  rintro e w4 ⟨rfl, hw⟩
                  subst hw
                  dsimp only [Option.getD, Option.isSome]
                  clear HG
                  go_wp2
                  go_roundw
                  case rel =>
                    have hcc := unhide HCT
                    simp only [if_true, Nat.add_zero] at hcc
                    exact ⟨r + 1, by omega, by go_num, by rw [hcc.2, hcc.1], by rw [hcc.2, hcc.1]; omega, HL⟩
                  case measure => simp [intOf]; omega
                | false =>
                  go_wp2_with fail
                  refine (tGet _ _ _ _ _ (unhide HL).1.aw.tb).mono ?_
                  rw [unhide HG]
                  rintro e w4 ⟨rfl, hw⟩
                  subst hw
                  dsimp only [Option.getD, Option.isSome, Bool.false_eq_true, if_false]
                  clear HG
                  go_wp2
                  go_roundw
                  case rel =>
                    have hcc := unhide HCT
                    simp only [Bool.false_eq_true, if_false] at hcc
                    exact ⟨r + 1, by omega, by go_num, by rw [hcc.2, hcc.1]; go_num, by rw [hcc.2, hcc.1]; omega, HL⟩
                  case measure => simp [intOf]; omega
              · obtain rfl : r = m := by omega
                have hleft := (unhide HL).2.left (unhide HOL)
                have hto : out.take r = out := List.take_of_length_le (by have := unhide HOL; omega)
                rw [hto, hleft] at *
                have hqb : r * d ≤ 299 * 7000000 := Nat.mul_le_mul (by omega) hd7
                have hnone := (unhide HL).2.none hd0 (id := ((r * d : Nat) : Int) + 1) (by omega)
                have hq : (r : Int) * (d : Int) = ((r * d : Nat) : Int) := by simp
                generalize r * d = q at *
                have HG := hide hnone
                clear hnone hto hleft
                have e1 : ¬ (r : Int) < (r : Int) := by omega
                have e7 : (q : Int) ≤ 2093000000 := by omega
                go_wp2_with fail
                refine (tGet _ _ _ _ _ (unhide HL).1.aw.tb).mono ?_
                rw [unhide HG]
                rintro e w4 ⟨rfl, hw⟩
                subst hw
                dsimp only [Option.getD, Option.isSome]
                go_wp2_with fail
                refine (awake_any _ (unhide HL).1.aw.tb.tab).mono ?_
                rintro e w5 ⟨rfl, b5⟩
                have H5 := hide ((unhide HL).1.below b5)
                clear HL b5
                go_wp2_with fail
                refine (tLen _ _ _ _ (unhide H5).aw.tb).mono ?_
                rintro e w6 ⟨rfl, hw⟩
                subst hw
                go_wp2_with fail
                refine (tList _ _ _ _ (unhide H5).aw.tb).mono ?_
                rintro e w7 ⟨⟨u, rfl, r7⟩, b7⟩
                have H7 := hide ((unhide H5).below b7)
                obtain ⟨xu, capu, hu, hu1, hu2, _⟩ := row_form r7
                rw [idsS_len] at hu
                subst hu
                clear H5 b7 r7
                go_wp2
                go_ret
                exact ⟨rfl, (unhide H7).aw.bel⟩
end Go.Proofs.YtakgacahaennoaaDoor
