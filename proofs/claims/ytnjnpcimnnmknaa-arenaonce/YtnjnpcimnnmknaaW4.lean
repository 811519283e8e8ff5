/- ArenaPlays: the two arenas side by side. -/
import Derived.Test.YtnjnpcimnnmknaaW3
import Derived.Test.YtnjnpcimnnmknaaG
namespace Go.Proofs.Ytnjnpcimnnmknaa
open Go.RowKit Go.Arb

structure B3 (w W : World) (p q : Nat) (A A' : Ab) (ks js : List Nat) (v : Value) (hs : List (Int × Int)) : Prop where
  bel : Below w.heap.size w W
  ar : ArAt W p A ks
  rf : RfAt W q A' js
  row : HRow W v hs
  sep : Sep w.heap.size W [ks, js, own v]

section
variable {w W W' W1 W2 : World} {p q : Nat} {A A' A2 : Ab} {ks ks' js js' : List Nat} {v : Value} {hs : List (Int × Int)}
theorem B3.fst (h : B3 w W p q A A' ks js v hs) (hk : Keep ks W W') (ha : ArAt W' p A2 ks') (hg : Grew W ks ks') : B3 w W' p q A2 A' ks' js v hs :=
  ⟨hk.below h.bel h.bel.size (h.sep.ge (by simp)), ha, h.rf.keep hk (h.sep.off (by simp)), h.row.keep hk (h.sep.off (by simp)), h.sep.step h.bel.size hk hg ha.lt⟩
theorem B3.snd (h : B3 w W p q A A' ks js v hs) (hk : Keep js W W') (ha : RfAt W' q A2 js') (hg : Grew W js js') : B3 w W' p q A A2 ks js' v hs := by
  have hs' := h.sep.perm (List.Perm.swap _ _ _)
  exact ⟨hk.below h.bel h.bel.size (h.sep.ge (by simp)), h.ar.keep hk (hs'.off (by simp)), ha, h.row.keep hk (hs'.off (by simp)), (hs'.step h.bel.size hk hg ha.lt).perm (List.Perm.swap _ _ _)⟩
theorem B3.below (h : B3 w W p q A A' ks js v hs) (hb : Below W.heap.size W W') : B3 w W' p q A A' ks js v hs :=
  ⟨h.bel.trans (hb.mono h.bel.size), h.ar.below hb, h.rf.below hb, h.row.keep (Keep.ofBelow hb []) (fun _ _ => by simp), h.sep.up hb.size⟩
theorem B3.alloc (h : B3 w W p q A A' ks js v hs) (o : Obj) : B3 w (W.alloc o) p q A A' ks js v hs := h.below ((Below.refl _ _).alloc (Nat.le_refl _) _)
theorem B3.drewN (h : B3 w W p q A A' ks js v hs) (m : Nat) : B3 w (W.drewN m) p q A A' ks js v hs := h.below (below_drewN (Below.refl _ _) m)
theorem B3.drew (h : B3 w W p q A A' ks js v hs) : B3 w W.drew p q A A' ks js v hs := h.below (Below.refl _ _).drew
/-- A store into a block that is none of theirs. -/
theorem B3.other (h : B3 w W p q A A' ks js v hs) {b : Nat} (o : Nat) (u : Value) (hb : w.heap.size ≤ b) (h1 : b ∉ ks) (h2 : b ∉ js) (h3 : b ∉ own v) : B3 w (W.setCell ⟨b, o, none⟩ u) p q A A' ks js v hs :=
  ⟨h.bel.setCell (p := ⟨b, o, none⟩) hb u, h.ar.keep (keep_cell _ _ _ _) (off_one h1), h.rf.keep (keep_cell _ _ _ _) (off_one h2), h.row.keep (keep_cell _ _ _ _) (off_one h3), h.sep.up (by simp [World.setCell])⟩
theorem B3.push (h : B3 w W p q A A' ks js v hs) {g H n cap : Nat} (x : Int × Int) (hk : Keep [] W W1) (hgrow : W1.grownBy W2 v.ownBlock) (hat : v.ownBlock = some g ∨ g = H) (hH : W.heap.size ≤ H) (hlt : g < W2.heap.size)
    (hn : n = hs.length) (hown : W2.ownsRow 0 29 2 (.slice (some ⟨g, 0, none⟩) (n + 1) cap) (n + 1) (flat hdC hs ++ hdC x)) : B3 w W2 p q A A' ks js (.slice (some ⟨g, 0, none⟩) (n + 1) cap) (hs ++ [x]) := by
  subst hn
  obtain ⟨k1, k2, k3⟩ := app_keep hk hgrow hat hH hlt
  have hp : [ks, js, own v].Perm [own v, ks, js] := List.perm_append_comm (l₁ := [ks, js]) (l₂ := [own v])
  have hp' : [own (.slice (some ⟨g, 0, none⟩) (hs.length + 1) cap), ks, js].Perm [ks, js, own (.slice (some ⟨g, 0, none⟩) (hs.length + 1) cap)] := List.perm_append_comm (l₁ := [_]) (l₂ := [ks, js])
  have hs' := h.sep.perm hp
  refine ⟨k1.below h.bel h.bel.size (h.sep.ge (by simp)), h.ar.keep k1 (hs'.off (by simp)), h.rf.keep k1 (hs'.off (by simp)), ?_, (hs'.step h.bel.size k1 k2 k3).perm hp'⟩
  unfold HRow
  rw [flat_append, flat_one]
  simpa using hown
/-- A block that is laid now is none of theirs. -/
theorem B3.new (h : B3 w W p q A A' ks js v hs) {b : Nat} (hb : W.heap.size ≤ b) : b ∉ ks ∧ b ∉ js ∧ b ∉ own v :=
  ⟨fun hm => by have := (h.sep.bd ks (by simp) b hm).2; omega, fun hm => by have := (h.sep.bd js (by simp) b hm).2; omega, fun hm => by have := (h.sep.bd (own v) (by simp) b hm).2; omega⟩
end

/-- What came in: a row of steps. -/
def ARow (w : World) (x : Option Addr) (len : Nat) (zs : List (Int × Int × Int × Int)) : Prop := zs.length = len ∧ (0 < len → ∃ b o, x = some ⟨b, o, none⟩ ∧ b < w.heap.size ∧ ∀ i, i < len → ∃ k a s g, zs[i]? = some (k, a, s, g) ∧
    w.cell? ⟨b, o + i * 4, none⟩ = some (.int .i64 k) ∧ w.cell? ⟨b, o + i * 4 + 1, none⟩ = some (.int .i64 a) ∧ w.cell? ⟨b, o + i * 4 + 2, none⟩ = some (.int .i64 s) ∧ w.cell? ⟨b, o + i * 4 + 3, none⟩ = some (.int .i64 g) ∧ (-9223372036854775808 ≤ a ∧ a ≤ 9223372036854775807))

theorem ARow.get {w W : World} {x : Option Addr} {len : Nat} {zs : List (Int × Int × Int × Int)} (h : ARow w x len zs) (hb : Below w.heap.size w W) (i : Nat) (hi : i < len) :
    ∃ b o k a s g, x = some ⟨b, o, none⟩ ∧ W.cell? ⟨b, o + i * 4, none⟩ = some (.int .i64 k) ∧ W.cell? ⟨b, o + i * 4 + 1, none⟩ = some (.int .i64 a) ∧ W.cell? ⟨b, o + i * 4 + 2, none⟩ = some (.int .i64 s) ∧ W.cell? ⟨b, o + i * 4 + 3, none⟩ = some (.int .i64 g) ∧ b < W.heap.size ∧ b < w.heap.size ∧ (-9223372036854775808 ≤ a ∧ a ≤ 9223372036854775807) := by
  obtain ⟨h1, h2⟩ := h
  obtain ⟨b, o, hx, hlt, hc⟩ := h2 (by omega)
  obtain ⟨k, a, s, g, _, c0, c1, c2, c3, hbd⟩ := hc i hi
  refine ⟨b, o, k, a, s, g, hx, ?_, ?_, ?_, ?_, Nat.lt_of_lt_of_le hlt hb.size, hlt, hbd⟩
  · rw [hb.cell (p := ⟨b, _, none⟩) hlt]; exact c0
  · rw [hb.cell (p := ⟨b, _, none⟩) hlt]; exact c1
  · rw [hb.cell (p := ⟨b, _, none⟩) hlt]; exact c2
  · rw [hb.cell (p := ⟨b, _, none⟩) hlt]; exact c3

theorem takeA_t (A : Ab) : (takeA A).t ≤ A.t + 1 := by
  unfold takeA
  split
  · simp
  · split <;> simp
theorem giveZ_t (A : Ab) (s g : Int) : (giveZ A s g).t = A.t := by unfold giveZ; split <;> rfl

set_option maxRecDepth 100000 in
set_option maxHeartbeats 4000000 in
theorem plays_walk (a0 : Int) (x : Option Addr) (len cap : Nat) (zs : List (Int × Int × Int × Int)) (w : World) (h0 : 0 ≤ a0) (h1 : a0 ≤ 255) (hx : ARow w x len zs) (hlen : len ≤ maxLen) :
    Calls Try.prog 3 #[.int .u8 a0, .slice x len cap] w fun e w' => e = .returned (.bool true) ∧ Below w.heap.size w w' := by
  obtain ⟨i0, hi, hz0, hz1, hz2⟩ := info_parts Try.info29
  obtain ⟨a, rfl⟩ := Int.eq_ofNat_of_zero_le h0
  have HX := hide hx
  clear hx
  unfold maxLen at hlen
  go_enter Try.func3, Try.ntmps3
  go_wp2_with fail
  rw [show ((a : Int) % 61) = ((a % 61 : Nat) : Int) from by omega]
  have hk : a % 61 < 61 := by omega
  generalize a % 61 = k at *
  refine (aNew k _ (by omega)).mono ?_
  rintro e w1 ⟨rfl, n1, nb1, nz1⟩
  go_wp2_with fail
  refine (rNew k _ (by omega)).mono ?_
  rintro e w2 ⟨rfl, ⟨js, m1, m2⟩, nb2⟩
  generalize w1.heap.size + 1 + 1 = q at *
  have HB : Hid (B3 w w2 w.heap.size q (newA k) (newA k) [w.heap.size] js (.slice none 0 0) []) := by
    have s1 : Sep w.heap.size w1 [[w.heap.size], []] := (Sep.nil _ _).none.join (W := w) (Nat.le_refl _) nb1.size (by simp; omega)
    exact ⟨nb1.trans (nb2.mono nb1.size), n1.below nb2, m1, HRow.nil _, (s1.join (a := js) nb1.size nb2.size (fun k hk => ⟨m2 k hk, m1.lt k hk⟩)).perm (List.Perm.swap _ _ _)⟩
  clear n1 nb1 nz1 m1 m2 nb2
  go_wp2
  go_loopw [8, 9] (fun v i w' => ∃ (m : Nat) (A : Ab) (ks js : List Nat) (hs : List (Int × Int)), m ≤ 200 ∧ m ≤ len ∧ i = .int .i64 m ∧ A.t ≤ m ∧ hs.length ≤ m ∧ Hid (B3 w w' w.heap.size q A A ks js v hs)) (fun _ i _ => 200 - (intOf i).toNat)
  case atStart => exact ⟨0, newA k, _, js, [], by omega, by omega, rfl, by simp [newA], by simp, HB⟩
  case round =>
    obtain ⟨m, A, ks, js, hs, hm, hml, rfl, hAt, hhs, HM⟩ := hrel
    clear HB
    by_cases hcont : m < len ∧ m < 200
    · obtain ⟨hc1, hc2⟩ := hcont
      obtain ⟨b, o, kd, at', s, g, rfl, y0, y1, y2, y3, hb1, hb2, hbd0, hbd1⟩ := (unhide HX).get (unhide HM).bel m hc1
      have e1 : (m : Int) < (len : Int) := by omega
      have e2 : (m : Int) < 200 := by omega
      have e6 : (0 : Int) ≤ (m : Int) := by omega
      by_cases hk0 : kd = 0
      · subst hk0
        go_wp2_with fail
        have H0 := ((unhide HM).alloc (.cells #[.int .i64 0, .int .i64 at', .int .i64 s, .int .i64 g] 31))
        have hn0 := H0.new (Nat.le_refl _)
        have H0' := H0.alloc (.cells #[.int .i64 s, .int .i64 g] 29)
        have hd0 : HdAt ((wr.alloc (.cells #[.int .i64 0, .int .i64 at', .int .i64 s, .int .i64 g] 31)).alloc (.cells #[.int .i64 s, .int .i64 g] 29)) (wr.heap.size + 1) s g := by
          have := heap_alloc_new (wr.alloc (.cells #[.int .i64 0, .int .i64 at', .int .i64 s, .int .i64 g] 31)) (.cells #[.int .i64 s, .int .i64 g] 29)
          simpa [HdAt] using this
        rw [show (wr.alloc (.cells #[.int .i64 0, .int .i64 at', .int .i64 s, .int .i64 g] 31)).heap.size = wr.heap.size + 1 from by simp] at hn0
        generalize (wr.alloc (.cells #[.int .i64 0, .int .i64 at', .int .i64 s, .int .i64 g] 31)).alloc (.cells #[.int .i64 s, .int .i64 g] 29) = W0 at *
        generalize wr.heap.size + 1 = R at *
        have HH := hide (And.intro H0' (And.intro hd0 hn0))
        clear H0 H0' hd0 hn0 HM y0 y1 y2 y3
        refine (aTake _ _ _ _ (unhide HH).1.ar (by omega)).mono ?_
        rintro e w3 ⟨rfl, ks3, a3, k3, g3⟩
        have HT := hide (rfl : takeR A = takeR A)
        generalize hr : takeR A = r at *
        have HR := hide hr
        obtain ⟨rs, rg, rb⟩ := r
        dsimp only
        have H3 := (unhide HH).1.fst k3 a3 g3
        have d3 := (unhide HH).2.1.keep k3 (unhide HH).2.2.1
        have n3 : R ∉ ks3 := fun hm => by rcases g3 R hm with h | h; exact (unhide HH).2.2.1 h; have := (unhide HH).2.1.lt; omega
        have H3' := hide (And.intro (H3.alloc (.cells #[.int .i64 rs, .int .i64 rg] 29)) (And.intro (d3.keep ((Keep.refl [] _).alloc (.cells #[.int .i64 rs, .int .i64 rg] 29)) (by simp)) (And.intro n3 (unhide HH).2.2.2)))
        have x3 : HdAt (w3.alloc (.cells #[.int .i64 rs, .int .i64 rg] 29)) w3.heap.size rs rg := heap_alloc_new w3 _
        have nx3 := H3.new (Nat.le_refl w3.heap.size)
        have HX3 := hide (And.intro x3 nx3)
        clear H3 d3 n3 HH a3 k3 g3 x3 nx3 hr HT
        go_wp2_with fail
        generalize w3.alloc (.cells #[.int .i64 rs, .int .i64 rg] 29) = W3 at *
        generalize w3.heap.size = X at *
        refine (rTake _ _ _ _ (unhide H3').1.rf (by omega)).mono ?_
        rw [unhide HR]
        rintro e w4 ⟨rfl, js4, a4, k4, g4⟩
        dsimp only
        have H4 := (unhide H3').1.snd k4 a4 g4
        have d4 := (unhide H3').2.1.keep k4 (unhide H3').2.2.2.1
        have x4 := (unhide HX3).1.keep k4 (unhide HX3).2.2.1
        have n4 : R ∉ js4 := fun hm => by rcases g4 R hm with h | h; exact (unhide H3').2.2.2.1 h; have := (unhide H3').2.1.lt; omega
        have H4' := hide (And.intro (H4.alloc (.cells #[.int .i64 rs, .int .i64 rg] 29)) (And.intro (d4.keep ((Keep.refl [] _).alloc (.cells #[.int .i64 rs, .int .i64 rg] 29)) (by simp)) (And.intro (unhide H3').2.2.1 (And.intro n4 (unhide H3').2.2.2.2))))
        obtain ⟨cx0, cx1⟩ := x4.cells
        have hXl := x4.lt
        have hrow := (unhide H4').1.row
        unfold HRow at hrow
        clear H3' HX3 H4 d4 x4 n4 a4 k4 g4
        have HHL := hide (rfl : hs.length = hs.length)
        go_wp2_with (at_builtin; refine wpList_append_lies _ rfl _ _ 27 rfl 0 29 i0 (.agg #[.int .i64 0, .int .i64 0]) 2 16 Try.underlying27 hi hz0 hz1 hz2 rfl (by decide) _ _ _ rfl (hrow.alloc _) ⟨w4.heap.size + 1, 0, none⟩ 1 1 [.int .i64 rs, .int .i64 rg] rfl rfl (news_at _ _ _ _ (by simp)) (one2 _ _) (by omega) (by unfold maxLen; omega) (by omega) (Nat.zero_le _) (w4.heap.size + 2) (by simp) ?_)
        intro g' cap' w5 hown hgrow hat hlt'
        have H5 := (unhide H4').1.push (rs, rg) ((Keep.refl [] _).alloc _) hgrow hat (by simp) hlt' rfl hown
        have d5 := (unhide H4').2.1.keep (app_keep ((Keep.refl [] _).alloc _) hgrow hat (by simp) hlt').1 (unhide H4').2.2.2.2
        have H5' := hide (And.intro H5 d5)
        clear hown hgrow hat hlt' H5 d5 H4' hrow cx0 cx1 hXl
        have HD := hide (unhide H5').1.drew
        have hdd : HdAt w5.drew R s g := (unhide H5').2
        obtain ⟨q0, q1⟩ := hdd.cells
        have HDD := hide hdd
        clear hdd
        go_wp2
        go_region_held3 (fun w' => w'.cell? ⟨R, 0, none⟩ = some (.int .i64 s) ∧ w'.cell? ⟨R, 1, none⟩ = some (.int .i64 g))
          (simp [go_sem, *])
          (first
            | (go_at_call 13; refine (aLive _ _ _ _ _ _ (unhide HD).ar).mono ?_; rintro e w6 ⟨rfl, b6⟩; have H6 := hide ((unhide HD).below b6); have hd6 := hide ((unhide HDD).keep (Keep.ofBelow b6 []) (by simp)); obtain ⟨r0, r1⟩ := (unhide hd6).cells)
            | (go_at_call 14; refine (rLive _ _ _ _ _ _ (unhide H6).rf).mono ?_; rintro e w7 ⟨rfl, b7⟩; have H7 := hide ((unhide H6).below b7); obtain ⟨v0, v1⟩ := ((unhide hd6).keep (Keep.ofBelow b7 []) (by simp)).cells)
            | (go_at_call 15; refine (aLen _ _ _ _ (unhide H7).ar).mono ?_; rintro e w8 ⟨rfl, hw8⟩; subst hw8)
            | (go_at_call 16; refine (rLen _ _ _ _ (unhide H7).rf).mono ?_; rintro e w9 ⟨rfl, n9, hw9⟩; subst hw9))
        go_wp2
        go_roundw
        case rel => exact ⟨m + 1, takeA A, ks3, js4, hs ++ [(rs, rg)], by omega, by omega, by go_num, Nat.le_trans (takeA_t A) (by omega), by simp; omega, (unhide H7).drewN n9⟩
        case measure => simp [intOf]; omega
      · have hkz : (kd == 0) = false := by rw [beq_eq_false_iff_ne]; exact hk0
        obtain ⟨xu, capu, hu8, hul, hum, _⟩ := row_form (unhide HM).row
        unfold maxLen at hum
        by_cases hA : kd = 1 ∧ 0 < hs.length
        · obtain ⟨rfl, hpos⟩ := hA
          have hposI : (0 : Int) < (hs.length : Int) := by omega
          obtain ⟨z, hzl, hix⟩ := u64_index at' hs.length hpos (by omega)
          obtain ⟨gu, capu', hgu, _, _, hgl, dz0, dz1⟩ := (unhide HM).row.at z hzl
          rw [hu8] at hgu
          simp only [Value.slice.injEq, true_and] at hgu
          obtain ⟨rfl, rfl⟩ := hgu
          subst hu8
          generalize hs[z].1 = s' at *
          generalize hs[z].2 = g' at *
          have f1 : (0 : Int) ≤ (z : Int) := by omega
          have f2 : (z : Int) < (hs.length : Int) := by omega
          go_wp2_with fail
          clear dz0 dz1 hix
          have H0 := ((unhide HM).alloc (.cells #[.int .i64 1, .int .i64 at', .int .i64 s, .int .i64 g] 31))
          have hn0 := H0.new (Nat.le_refl _)
          have H0' := H0.alloc (.cells #[.int .i64 s', .int .i64 g'] 29)
          have hd0 : HdAt ((wr.alloc (.cells #[.int .i64 1, .int .i64 at', .int .i64 s, .int .i64 g] 31)).alloc (.cells #[.int .i64 s', .int .i64 g'] 29)) (wr.heap.size + 1) s' g' := by
            have := heap_alloc_new (wr.alloc (.cells #[.int .i64 1, .int .i64 at', .int .i64 s, .int .i64 g] 31)) (.cells #[.int .i64 s', .int .i64 g'] 29)
            simpa [HdAt] using this
          rw [show (wr.alloc (.cells #[.int .i64 1, .int .i64 at', .int .i64 s, .int .i64 g] 31)).heap.size = wr.heap.size + 1 from by simp] at hn0
          generalize (wr.alloc (.cells #[.int .i64 1, .int .i64 at', .int .i64 s, .int .i64 g] 31)).alloc (.cells #[.int .i64 s', .int .i64 g'] 29) = W0 at *
          generalize wr.heap.size + 1 = R at *
          have HD := hide H0'.drew
          have hdd : HdAt W0.drew R s' g' := hd0
          obtain ⟨q0, q1⟩ := hdd.cells
          have HDD := hide (And.intro hdd hn0)
          clear H0 H0' hd0 hn0 HM y0 y1 y2 y3 hdd
          go_region_held3 (fun w' => w'.cell? ⟨R, 0, none⟩ = some (.int .i64 s') ∧ w'.cell? ⟨R, 1, none⟩ = some (.int .i64 g'))
            (simp [go_sem, *])
            (first
              | (go_at_call 11; refine (aGive _ _ _ _ _ _ (unhide HD).ar).mono ?_; rintro e w3 ⟨rfl, a3, k3⟩; have H3 := hide ((unhide HD).fst k3 a3 (Grew.refl _ _)); have hd3 := hide ((unhide HDD).1.keep k3 (unhide HDD).2.1); obtain ⟨s0, s1⟩ := (unhide hd3).cells; clear a3 k3)
              | (go_at_call 12; refine (rGive _ _ _ _ _ _ (unhide H3).rf).mono ?_; rintro e w5 ⟨rfl, js5, a5, k5, g5⟩; have H5' := hide (And.intro ((unhide H3).snd k5 a5 g5) ((unhide hd3).keep k5 (unhide HDD).2.2.1)); obtain ⟨t0, t1⟩ := (unhide H5').2.cells; clear a5 k5 g5))
          clear q0 q1 s0 s1 t0 t1 HD H3 hd3 HDD
          have HD := hide (unhide H5').1.drew
          have hdd : HdAt w5.drew R s' g' := (unhide H5').2
          obtain ⟨q0, q1⟩ := hdd.cells
          have HDD := hide hdd
          clear hdd
          go_wp2
          go_region_held3 (fun w' => w'.cell? ⟨R, 0, none⟩ = some (.int .i64 s') ∧ w'.cell? ⟨R, 1, none⟩ = some (.int .i64 g'))
            (simp [go_sem, *])
            (first
              | (go_at_call 13; refine (aLive _ _ _ _ _ _ (unhide HD).ar).mono ?_; rintro e w6 ⟨rfl, b6⟩; have H6 := hide ((unhide HD).below b6); have hd6 := hide ((unhide HDD).keep (Keep.ofBelow b6 []) (by simp)); obtain ⟨r0, r1⟩ := (unhide hd6).cells)
              | (go_at_call 14; refine (rLive _ _ _ _ _ _ (unhide H6).rf).mono ?_; rintro e w7 ⟨rfl, b7⟩; have H7 := hide ((unhide H6).below b7); obtain ⟨v0, v1⟩ := ((unhide hd6).keep (Keep.ofBelow b7 []) (by simp)).cells)
              | (go_at_call 15; refine (aLen _ _ _ _ (unhide H7).ar).mono ?_; rintro e w8 ⟨rfl, hw8⟩; subst hw8)
              | (go_at_call 16; refine (rLen _ _ _ _ (unhide H7).rf).mono ?_; rintro e w9 ⟨rfl, n9, hw9⟩; subst hw9))
          go_wp2
          go_roundw
          case rel => exact ⟨m + 1, giveZ A s' g', ks, js5, hs, by omega, by omega, by go_num, by rw [giveZ_t]; omega, by omega, (unhide H7).drewN n9⟩
          case measure => simp [intOf]; omega
        · have hB : (kd == 1) = false ∨ (kd = 1 ∧ (hs.length : Int) ≤ 0) := by
            by_cases h1 : kd = 1
            · right; exact ⟨h1, by omega⟩
            · left; rw [beq_eq_false_iff_ne]; exact h1
          clear hA
          subst hu8
          rcases hB with hB | ⟨rfl, hB⟩
          · go_wp2_with fail
            have H0 := ((unhide HM).alloc (.cells #[.int .i64 kd, .int .i64 at', .int .i64 s, .int .i64 g] 31))
            have hn0 := H0.new (Nat.le_refl _)
            have H0' := H0.alloc (.cells #[.int .i64 s, .int .i64 g] 29)
            have hd0 : HdAt ((wr.alloc (.cells #[.int .i64 kd, .int .i64 at', .int .i64 s, .int .i64 g] 31)).alloc (.cells #[.int .i64 s, .int .i64 g] 29)) (wr.heap.size + 1) s g := by
              have := heap_alloc_new (wr.alloc (.cells #[.int .i64 kd, .int .i64 at', .int .i64 s, .int .i64 g] 31)) (.cells #[.int .i64 s, .int .i64 g] 29)
              simpa [HdAt] using this
            rw [show (wr.alloc (.cells #[.int .i64 kd, .int .i64 at', .int .i64 s, .int .i64 g] 31)).heap.size = wr.heap.size + 1 from by simp] at hn0
            generalize (wr.alloc (.cells #[.int .i64 kd, .int .i64 at', .int .i64 s, .int .i64 g] 31)).alloc (.cells #[.int .i64 s, .int .i64 g] 29) = W0 at *
            generalize wr.heap.size + 1 = R at *
            have HD := hide H0'.drew
            have hdd : HdAt W0.drew R s g := hd0
            obtain ⟨q0, q1⟩ := hdd.cells
            have HDD := hide (And.intro hdd hn0)
            clear H0 H0' hd0 hn0 HM y0 y1 y2 y3 hdd
            go_region_held3 (fun w' => w'.cell? ⟨R, 0, none⟩ = some (.int .i64 s) ∧ w'.cell? ⟨R, 1, none⟩ = some (.int .i64 g))
              (simp [go_sem, *])
              (first
                | (go_at_call 11; refine (aGive _ _ _ _ _ _ (unhide HD).ar).mono ?_; rintro e w3 ⟨rfl, a3, k3⟩; have H3 := hide ((unhide HD).fst k3 a3 (Grew.refl _ _)); have hd3 := hide ((unhide HDD).1.keep k3 (unhide HDD).2.1); obtain ⟨s0, s1⟩ := (unhide hd3).cells; clear a3 k3)
                | (go_at_call 12; refine (rGive _ _ _ _ _ _ (unhide H3).rf).mono ?_; rintro e w5 ⟨rfl, js5, a5, k5, g5⟩; have H5' := hide (And.intro ((unhide H3).snd k5 a5 g5) ((unhide hd3).keep k5 (unhide HDD).2.2.1)); obtain ⟨t0, t1⟩ := (unhide H5').2.cells; clear a5 k5 g5))
            clear q0 q1 s0 s1 t0 t1 HD H3 hd3 HDD
            have HD := hide (unhide H5').1.drew
            have hdd : HdAt w5.drew R s g := (unhide H5').2
            obtain ⟨q0, q1⟩ := hdd.cells
            have HDD := hide hdd
            clear hdd
            go_wp2
            go_region_held3 (fun w' => w'.cell? ⟨R, 0, none⟩ = some (.int .i64 s) ∧ w'.cell? ⟨R, 1, none⟩ = some (.int .i64 g))
              (simp [go_sem, *])
              (first
                | (go_at_call 13; refine (aLive _ _ _ _ _ _ (unhide HD).ar).mono ?_; rintro e w6 ⟨rfl, b6⟩; have H6 := hide ((unhide HD).below b6); have hd6 := hide ((unhide HDD).keep (Keep.ofBelow b6 []) (by simp)); obtain ⟨r0, r1⟩ := (unhide hd6).cells)
                | (go_at_call 14; refine (rLive _ _ _ _ _ _ (unhide H6).rf).mono ?_; rintro e w7 ⟨rfl, b7⟩; have H7 := hide ((unhide H6).below b7); obtain ⟨v0, v1⟩ := ((unhide hd6).keep (Keep.ofBelow b7 []) (by simp)).cells)
                | (go_at_call 15; refine (aLen _ _ _ _ (unhide H7).ar).mono ?_; rintro e w8 ⟨rfl, hw8⟩; subst hw8)
                | (go_at_call 16; refine (rLen _ _ _ _ (unhide H7).rf).mono ?_; rintro e w9 ⟨rfl, n9, hw9⟩; subst hw9))
            go_wp2
            go_roundw
            case rel => exact ⟨m + 1, giveZ A s g, ks, js5, hs, by omega, by omega, by go_num, by rw [giveZ_t]; omega, by omega, (unhide H7).drewN n9⟩
            case measure => simp [intOf]; omega
          · go_wp2_with fail
            have H0 := ((unhide HM).alloc (.cells #[.int .i64 1, .int .i64 at', .int .i64 s, .int .i64 g] 31))
            have hn0 := H0.new (Nat.le_refl _)
            have H0' := H0.alloc (.cells #[.int .i64 s, .int .i64 g] 29)
            have hd0 : HdAt ((wr.alloc (.cells #[.int .i64 1, .int .i64 at', .int .i64 s, .int .i64 g] 31)).alloc (.cells #[.int .i64 s, .int .i64 g] 29)) (wr.heap.size + 1) s g := by
              have := heap_alloc_new (wr.alloc (.cells #[.int .i64 1, .int .i64 at', .int .i64 s, .int .i64 g] 31)) (.cells #[.int .i64 s, .int .i64 g] 29)
              simpa [HdAt] using this
            rw [show (wr.alloc (.cells #[.int .i64 1, .int .i64 at', .int .i64 s, .int .i64 g] 31)).heap.size = wr.heap.size + 1 from by simp] at hn0
            generalize (wr.alloc (.cells #[.int .i64 1, .int .i64 at', .int .i64 s, .int .i64 g] 31)).alloc (.cells #[.int .i64 s, .int .i64 g] 29) = W0 at *
            generalize wr.heap.size + 1 = R at *
            have HD := hide H0'.drew
            have hdd : HdAt W0.drew R s g := hd0
            obtain ⟨q0, q1⟩ := hdd.cells
            have HDD := hide (And.intro hdd hn0)
            clear H0 H0' hd0 hn0 HM y0 y1 y2 y3 hdd
            go_region_held3 (fun w' => w'.cell? ⟨R, 0, none⟩ = some (.int .i64 s) ∧ w'.cell? ⟨R, 1, none⟩ = some (.int .i64 g))
              (simp [go_sem, *])
              (first
                | (go_at_call 11; refine (aGive _ _ _ _ _ _ (unhide HD).ar).mono ?_; rintro e w3 ⟨rfl, a3, k3⟩; have H3 := hide ((unhide HD).fst k3 a3 (Grew.refl _ _)); have hd3 := hide ((unhide HDD).1.keep k3 (unhide HDD).2.1); obtain ⟨s0, s1⟩ := (unhide hd3).cells; clear a3 k3)
                | (go_at_call 12; refine (rGive _ _ _ _ _ _ (unhide H3).rf).mono ?_; rintro e w5 ⟨rfl, js5, a5, k5, g5⟩; have H5' := hide (And.intro ((unhide H3).snd k5 a5 g5) ((unhide hd3).keep k5 (unhide HDD).2.2.1)); obtain ⟨t0, t1⟩ := (unhide H5').2.cells; clear a5 k5 g5))
            clear q0 q1 s0 s1 t0 t1 HD H3 hd3 HDD
            have HD := hide (unhide H5').1.drew
            have hdd : HdAt w5.drew R s g := (unhide H5').2
            obtain ⟨q0, q1⟩ := hdd.cells
            have HDD := hide hdd
            clear hdd
            go_wp2
            go_region_held3 (fun w' => w'.cell? ⟨R, 0, none⟩ = some (.int .i64 s) ∧ w'.cell? ⟨R, 1, none⟩ = some (.int .i64 g))
              (simp [go_sem, *])
              (first
                | (go_at_call 13; refine (aLive _ _ _ _ _ _ (unhide HD).ar).mono ?_; rintro e w6 ⟨rfl, b6⟩; have H6 := hide ((unhide HD).below b6); have hd6 := hide ((unhide HDD).keep (Keep.ofBelow b6 []) (by simp)); obtain ⟨r0, r1⟩ := (unhide hd6).cells)
                | (go_at_call 14; refine (rLive _ _ _ _ _ _ (unhide H6).rf).mono ?_; rintro e w7 ⟨rfl, b7⟩; have H7 := hide ((unhide H6).below b7); obtain ⟨v0, v1⟩ := ((unhide hd6).keep (Keep.ofBelow b7 []) (by simp)).cells)
                | (go_at_call 15; refine (aLen _ _ _ _ (unhide H7).ar).mono ?_; rintro e w8 ⟨rfl, hw8⟩; subst hw8)
                | (go_at_call 16; refine (rLen _ _ _ _ (unhide H7).rf).mono ?_; rintro e w9 ⟨rfl, n9, hw9⟩; subst hw9))
            go_wp2
            go_roundw
            case rel => exact ⟨m + 1, giveZ A s g, ks, js5, hs, by omega, by omega, by go_num, by rw [giveZ_t]; omega, by omega, (unhide H7).drewN n9⟩
            case measure => simp [intOf]; omega
    · have hcases : (len : Int) ≤ (m : Int) ∨ ((m : Int) < (len : Int) ∧ 200 ≤ (m : Int)) := by omega
      clear hcont
      rcases hcases with hc | ⟨hc, hc'⟩
      all_goals
        go_wp2_with fail
        refine (awake_any _).mono ?_
        rintro e w6 ⟨rfl, b6⟩
        have H6 := hide ((unhide HM).below b6)
        clear HM b6
        go_wp2
        go_ret
        exact ⟨rfl, (unhide H6).bel⟩
end Go.Proofs.Ytnjnpcimnnmknaa
