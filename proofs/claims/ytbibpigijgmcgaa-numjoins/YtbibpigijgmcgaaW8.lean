import Derived.Test.YtbibpigijgmcgaaW7
import Derived.Test.YtbibpigijgmcgaaApp
import Derived.Test.YtbibpigijgmcgaaM2
namespace Go.Proofs.Ytbibpigijgmcgaa
open Go.RowKit Go.Arb

theorem take_snoc (zs : List Int) (k : Nat) (h : k < zs.length) : zs.take (k + 1) = zs.take k ++ [zs.getD k 0] := by
  rw [List.take_succ_eq_append_getElem h, List.getD_eq_getElem?_getD, List.getElem?_eq_getElem h]; rfl

/-- One number more, behind an append. -/
theorem row_snoc {w : World} {base : Nat} {v : Value} {l : List Int} {k : Nat} {n : Int} (hk : l.length = k) (h : w.ownsRow base 3 1 v (k + 1) (rowOf l ++ [Value.int .i64 n])) :
    w.ownsRow base 3 1 v (l ++ [n]).length (rowOf (l ++ [n])) := by
  simpa [rowOf, hk] using h

theorem new_cell (w : World) (n : Int) : ∀ (j : Nat) (u : Value), [Value.int IntKind.i64 n][j]? = some u → (w.alloc (Obj.cells #[Value.int IntKind.i64 n] 3)).cell? ((⟨w.heap.size, 0, none⟩ : Addr).add j) = some u := by
  intro j u hj
  match j, hj with
  | 0, hj => simp at hj; subst hj; simp [Addr.add]
theorem one_cell (n : Int) : ∀ u ∈ [Value.int IntKind.i64 n], u.oneCell' = true := by intro u hu; simp at hu; subst hu; rfl

theorem row_one (l : List Int) : ∀ u ∈ rowOf l, u.oneCell' = true := by
  intro u hu
  obtain ⟨n, _, rfl⟩ := List.mem_map.1 hu
  rfl

/-- Each raised. -/
def upBy (l : List Int) (d : Int) : List Int := l.map (· + d)
theorem upBy_length (l : List Int) (d : Int) : (upBy l d).length = l.length := by simp [upBy]
theorem upBy_snoc (l : List Int) (n d : Int) : upBy (l ++ [n]) d = upBy l d ++ [n + d] := by simp [upBy]

/-- What one append of one number leaves. -/
theorem app_step {w wr w1 : World} {v v' : Value} {l : List Int} {k : Nat} {n : Int} (hk : l.length = k) (hbel : Below w.heap.size w wr) (hown : wr.ownsRow w.heap.size 3 1 v k (rowOf l))
    (hown' : w1.ownsRow w.heap.size 3 1 v' (k + 1) (rowOf l ++ [Value.int .i64 n])) (hgrow : (wr.alloc (.cells #[Value.int .i64 n] 3)).grownBy w1 v.ownBlock) (hat : v'.ownBlock = v.ownBlock ∨ v'.ownBlock = some (wr.heap.size + 1)) :
    Below w.heap.size w w1 ∧ w1.ownsRow w.heap.size 3 1 v' (l ++ [n]).length (rowOf (l ++ [n])) ∧
      ∀ (u : Value) (m : Nat) (ys : List Value), wr.ownsRow w.heap.size 3 1 u m ys → Apart u v → w1.ownsRow w.heap.size 3 1 u m ys ∧ Apart u v' := by
  refine ⟨?_, row_snoc hk hown', fun u m ys hu ha => ?_⟩
  · exact Below.grown (hbel.alloc hbel.size _) hgrow (by have := hbel.size; simp; omega) (fun g hg => ((hown.alloc (.cells #[Value.int IntKind.i64 n] 3)).lt g hg).1)
  · exact ha.grown (hu.alloc _) hgrow (by simpa using hat)

theorem small_row {l : List Int} (h : ∀ n ∈ l, -100000 ≤ n ∧ n ≤ 100000) (hl : l.length ≤ 1000) : SmallRow l :=
  ⟨by omega, fun n hn => by have := h n hn; omega⟩

theorem mem_both {zs ms : List Int} (h : ∀ n ∈ zs, -32768 ≤ n ∧ n ≤ 32767) (h' : ∀ n ∈ ms, -32768 ≤ n ∧ n ≤ 32767) : ∀ n ∈ zs ++ ms, -32768 ≤ n ∧ n ≤ 32767 := by
  intro n hn
  rcases List.mem_append.1 hn with g | g
  · exact h n g
  · exact h' n g

/-- All that the end of NumJoins asks of the numbers. -/
structure JoinFacts (zs ms : List Int) (d : Int) (k j : Nat) : Prop where
  sa : SmallRow zs
  sb : SmallRow ms
  su : SmallRow (upBy zs d)
  sl : SmallRow (zs ++ ms)
  e : ofL (zs ++ ms) = jn (ofL zs) (ofL ms)
  c : jn (ofL ms) (ofL zs) = jn (ofL zs) (ofL ms)
  u : ofL (upBy zs d) = lf (ofL zs) d
  n : (jn (ofL zs) (ofL ms)).c = ((k + j : Nat) : Int)
  b : lf (lf (jn (ofL zs) (ofL ms)) d) (-d) = jn (ofL zs) (ofL ms)
  j1 : (-4611686018427387904 ≤ (ofL zs).c + (ofL ms).c ∧ (ofL zs).c + (ofL ms).c ≤ 4611686018427387904) ∧ (-4611686018427387904 ≤ (ofL zs).s + (ofL ms).s ∧ (ofL zs).s + (ofL ms).s ≤ 4611686018427387904)
  j2 : (-4611686018427387904 ≤ (ofL ms).c + (ofL zs).c ∧ (ofL ms).c + (ofL zs).c ≤ 4611686018427387904) ∧ (-4611686018427387904 ≤ (ofL ms).s + (ofL zs).s ∧ (ofL ms).s + (ofL zs).s ≤ 4611686018427387904)
  l1 : LiftOk (ofL zs) d
  l2 : LiftOk (jn (ofL zs) (ofL ms)) d
  l3 : LiftOk (lf (jn (ofL zs) (ofL ms)) d) (-d)

theorem joinFacts {zs ms : List Int} {d : Int} {k j : Nat} (hz : zs.length = k) (hz1 : ms.length = j) (hk : k ≤ 500) (hj : j ≤ 500) (h : ∀ n ∈ zs, -32768 ≤ n ∧ n ≤ 32767) (h' : ∀ n ∈ ms, -32768 ≤ n ∧ n ≤ 32767) (hd : -32768 ≤ d) (hd' : d ≤ 32767) : JoinFacts zs ms d k j := by
  have hm := mem_both h h'
  have ta : Tame (ofL zs) := tame_ofL zs h (by omega)
  have tb : Tame (ofL ms) := tame_ofL ms h' (by omega)
  have tl : Tame (ofL (zs ++ ms)) := tame_ofL (zs ++ ms) hm (by rw [List.length_append]; omega)
  have he := ofL_append zs ms
  rw [he] at tl
  exact { sa := small_row (fun n hn => by have := h n hn; omega) (by omega), sb := small_row (fun n hn => by have := h' n hn; omega) (by omega), su := small_row (fun n hn => by obtain ⟨m, hm, rfl⟩ := List.mem_map.1 hn; have := h m hm; omega) (by rw [upBy_length]; omega),
          sl := small_row (fun n hn => by have := hm n hn; omega) (by rw [List.length_append]; omega), e := he, c := ofL_comm ms zs, u := (lf_ofL zs d).symm, n := by rw [← he, ofL_c, List.length_append, hz, hz1], b := lf_back _ _, j1 := joinOk ta tb, j2 := joinOk tb ta,
          l1 := liftOk_tame ta d (by omega) (by omega), l2 := liftOk_tame tl d (by omega) (by omega), l3 := liftOk_back tl d (by omega) (by omega) }

/-- A sum as a value. -/
abbrev sumV (x : Sm) : Value := .agg #[.int .i64 x.c, .int .i64 x.s, .int .i64 x.a, .int .i64 x.b]

theorem lift_ok {W : World} (x : Sm) (n : Int) (w : World) (h : LiftOk x n) (hb : Below W.heap.size W w) :
    Calls Try.prog 16 #[sumV x, .int .i64 n] w fun r w' => r = .returned (sumV (lf x n)) ∧ Below W.heap.size W w' :=
  lift_on x n w h.1.1 h.1.2 h.2.1.1 h.2.1.2 h.2.2.1.1 h.2.2.1.2 h.2.2.2.1 h.2.2.2.2 hb

/-- The calls at the end of NumJoins. -/
structure JoinCalls (W : World) (k j : Nat) (xa xb xu xl : Option Addr) (ca cb cu cl : Nat) (A M y z : Sm) (d : Int) : Prop where
  all : ∀ w, Below W.heap.size W w → Calls Try.prog 15 #[.slice xl (k + j) cl] w fun r w' => r = .returned (sumV y) ∧ Below W.heap.size W w'
  b : ∀ w, Below W.heap.size W w → Calls Try.prog 15 #[.slice xb j cb] w fun r w' => r = .returned (sumV M) ∧ Below W.heap.size W w'
  a : ∀ w, Below W.heap.size W w → Calls Try.prog 15 #[.slice xa k ca] w fun r w' => r = .returned (sumV A) ∧ Below W.heap.size W w'
  u : ∀ w, Below W.heap.size W w → Calls Try.prog 15 #[.slice xu k cu] w fun r w' => r = .returned (sumV (lf A d)) ∧ Below W.heap.size W w'
  j : ∀ w, Below W.heap.size W w → Calls Try.prog 14 #[sumV M, sumV A] w fun r w' => r = .returned (sumV y) ∧ Below W.heap.size W w'
  la : ∀ w, Below W.heap.size W w → Calls Try.prog 16 #[sumV A, .int .i64 d] w fun r w' => r = .returned (sumV (lf A d)) ∧ Below W.heap.size W w'
  ly : ∀ w, Below W.heap.size W w → Calls Try.prog 16 #[sumV y, .int .i64 d] w fun r w' => r = .returned (sumV z) ∧ Below W.heap.size W w'
  lz : ∀ w, Below W.heap.size W w → Calls Try.prog 16 #[sumV z, .int .i64 (-d)] w fun r w' => r = .returned (sumV y) ∧ Below W.heap.size W w'

theorem joinCalls {W : World} {zs ms : List Int} {d : Int} {k j : Nat} {xa xb xu xl : Option Addr} {ca cb cu cl : Nat} (h : JoinFacts zs ms d k j) (hz : zs.length = k) (hz1 : ms.length = j)
    (ra : RowAt W xa zs) (rb : RowAt W xb ms) (ru : RowAt W xu (upBy zs d)) (rl : RowAt W xl (zs ++ ms)) :
    JoinCalls W k j xa xb xu xl ca cb cu cl (ofL zs) (ofL ms) (jn (ofL zs) (ofL ms)) (lf (jn (ofL zs) (ofL ms)) d) d where
  all := fun w hb => by rw [← h.e]; exact of_row xl (k + j) cl (zs ++ ms) w rl (by rw [List.length_append, hz, hz1]) h.sl hb
  b := fun w hb => of_row xb j cb ms w rb hz1 h.sb hb
  a := fun w hb => of_row xa k ca zs w ra hz h.sa hb
  u := fun w hb => by rw [← h.u]; exact of_row xu k cu (upBy zs d) w ru (by rw [upBy_length, hz]) h.su hb
  j := fun w hb => by rw [← h.c]; exact join_on (ofL ms) (ofL zs) w h.j2.1.1 h.j2.1.2 h.j2.2.1 h.j2.2.2 hb
  la := fun w hb => lift_ok (ofL zs) d w h.l1 hb
  ly := fun w hb => lift_ok (jn (ofL zs) (ofL ms)) d w h.l2 hb
  lz := fun w hb => by have := lift_ok (lf (jn (ofL zs) (ofL ms)) d) (-d) w h.l3 hb; rw [h.b] at this; exact this

theorem apart_nil (u : Value) : Apart u (.slice none 0 0) := Apart.symm (.inl rfl)

set_option maxHeartbeats 8000000 in
theorem numJoins_walk (x : Option Addr) (len cap : Nat) (zs : List Int) (x1 : Option Addr) (len1 cap1 : Nat) (ms : List Int) (d : Int) (w : World)
    (hz : zs.length = len) (hlen : len ≤ 500) (hx : 0 < len → ∃ b o, x = some ⟨b, o, none⟩ ∧ b < w.heap.size ∧ ∀ i, i < len → w.cell? ⟨b, o + i, none⟩ = some (.int .i16 (zs.getD i 0)))
    (hz1 : ms.length = len1) (hlen1 : len1 ≤ 500) (hx1 : 0 < len1 → ∃ b o, x1 = some ⟨b, o, none⟩ ∧ b < w.heap.size ∧ ∀ i, i < len1 → w.cell? ⟨b, o + i, none⟩ = some (.int .i16 (ms.getD i 0)))
    (hb : ∀ n ∈ zs, -32768 ≤ n ∧ n ≤ 32767) (hb1 : ∀ n ∈ ms, -32768 ≤ n ∧ n ≤ 32767) (hd : -32768 ≤ d) (hd' : d ≤ 32767) :
    Calls Try.prog 4 #[.slice x len cap, .slice x1 len1 cap1, .int .i16 d] w fun e w' => e = .returned (.bool true) ∧ Below w.heap.size w w' := by
  obtain ⟨i0, hi, hi0, hi1, hi2⟩ := info_parts Try.info3
  go_enter Try.func4, Try.ntmps4
  go_wp2
  go_loopw [7, 10, 11] (fun v u i w' => ∃ k : Nat, k ≤ len ∧ i = .int .i64 k ∧ w'.ownsRow w.heap.size 3 1 v (zs.take k).length (rowOf (zs.take k)) ∧ w'.ownsRow w.heap.size 3 1 u (upBy (zs.take k) d).length (rowOf (upBy (zs.take k) d)) ∧ Apart v u ∧ Below w.heap.size w w') (fun _ _ i _ => len - (intOf i).toNat)
  case atStart => exact ⟨0, Nat.zero_le _, rfl, World.ownsRow_nil _ _ _ _, World.ownsRow_nil _ _ _ _, .inl rfl, Below.refl _ _⟩
  case round =>
    obtain ⟨k, hk, rfl, hown, hup, hap, hbel⟩ := hrel
    by_cases hlt : k < len
    · obtain ⟨b, o, rfl, hbl, hcells⟩ := hx (by omega)
      have hck : wr.cell? ⟨b, o + k, none⟩ = some (.int .i16 (zs.getD k 0)) := by rw [hbel.cell (p := ⟨b, o + k, none⟩) hbl]; exact hcells k hlt
      have HC : Hid (b < w.heap.size ∧ w.cell? ⟨b, o + k, none⟩ = some (.int .i16 (zs.getD k 0))) := ⟨hbl, hcells k hlt⟩
      have hn := hb (zs.getD k 0) (by rw [List.getD_eq_getElem?_getD, List.getElem?_eq_getElem (by omega)]; simp)
      obtain ⟨hn1, hn2⟩ := hn
      have htk : (zs.take k).length = k := by simp; omega
      have hsn : Hid (zs.take (k + 1) = zs.take k ++ [zs.getD k 0]) := take_snoc zs k (by omega)
      have HT : Hid ((zs.take k).length = k) := htk
      rw [htk] at hown
      rw [upBy_length, htk] at hup
      clear hx hx1 hcells htk hb hb1
      generalize zs.getD k 0 = n at *
      have hk0 : (0 : Int) ≤ (k : Int) := by omega
      have hkl : (k : Int) < (len : Int) := by omega
      go_wp2_with (first
        | (at_builtin; refine wpList_append_own_at _ rfl (.tmp 29) (.tmp 35) 32 rfl w.heap.size 3 i0 (.int .i64 0) 1 8 Try.underlying32 hi hi0 hi1 hi2 rfl (by decide) _ _ _ rfl (hown.alloc _) ⟨wr.heap.size, 0, none⟩ 1 1 [.int .i64 n] rfl rfl (new_cell _ _) (one_cell _) (by unfold maxLen; omega) (by omega) (by (have := hbel.size; simp; omega)) ?_))
      intro v' w1 hown' hgrow _ hat
      have HR : Hid (_ ∧ _ ∧ _) := app_step HT.out hbel hown hown' hgrow hat
      obtain ⟨hbel1, hv1, hoth⟩ := HR.out
      obtain ⟨hup1, hap1⟩ := hoth _ _ _ hup hap.symm
      have hck1 : w1.cell? ⟨b, o + k, none⟩ = some (.int .i16 n) := by rw [hbel1.cell (p := ⟨b, o + k, none⟩) HC.out.1]; exact HC.out.2
      have HV1 : Hid (w1.ownsRow w.heap.size 3 1 v' (zs.take k ++ [n]).length (rowOf (zs.take k ++ [n]))) := hv1
      clear hown hown' hgrow hat hup hap hbel hck hoth hv1 HR
      go_wp2_with (first
        | (at_builtin; refine wpList_append_own_at _ rfl (.tmp 37) (.tmp 46) 32 rfl w.heap.size 3 i0 (.int .i64 0) 1 8 Try.underlying32 hi hi0 hi1 hi2 rfl (by decide) _ _ _ rfl (hup1.alloc _) ⟨w1.heap.size, 0, none⟩ 1 1 [.int .i64 (n + d)] rfl rfl (new_cell _ _) (one_cell _) (by unfold maxLen; omega) (by omega) (by (have := hbel1.size; simp; omega)) ?_))
      intro u' w2 hown' hgrow _ hat
      have HR : Hid (_ ∧ _ ∧ _) := app_step (by rw [upBy_length]; exact HT.out) hbel1 hup1 hown' hgrow hat
      obtain ⟨hbel2, hu2, hoth⟩ := HR.out
      obtain ⟨hv2, hap2⟩ := hoth _ _ _ HV1.out hap1.symm
      have HF : Hid (w2.ownsRow w.heap.size 3 1 v' (zs.take (k + 1)).length (rowOf (zs.take (k + 1))) ∧ w2.ownsRow w.heap.size 3 1 u' (upBy (zs.take (k + 1)) d).length (rowOf (upBy (zs.take (k + 1)) d)) ∧ Apart v' u' ∧ Below w.heap.size w w2) := by
        rw [hsn.out, upBy_snoc]
        exact ⟨hv2, hu2, hap2, hbel2⟩
      clear hown' hgrow hat hup1 hap1 hbel1 hck1 hoth HR HV1 hv2 hu2 hap2 hbel2
      go_wp2
      go_roundw
      case rel => exact ⟨k + 1, by omega, by go_num, HF.out⟩
      case measure => simp [intOf]; omega
    · have hkl : k = len := by omega
      subst hkl
      rw [show zs.take k = zs from List.take_of_length_le (by omega)] at hown hup
      clear hx
      have HA : Hid (wr.ownsRow w.heap.size 3 1 u7 zs.length (rowOf zs) ∧ wr.ownsRow w.heap.size 3 1 u10 (upBy zs d).length (rowOf (upBy zs d)) ∧ Apart u7 u10) := ⟨hown, hup, hap⟩
      clear hown hup hap hk hlt
      go_wp2
      go_loopw [8, 12] (fun v i w' => ∃ j : Nat, j ≤ len1 ∧ i = .int .i64 j ∧ w'.ownsRow w.heap.size 3 1 v (ms.take j).length (rowOf (ms.take j)) ∧ (w'.ownsRow w.heap.size 3 1 u7 zs.length (rowOf zs) ∧ w'.ownsRow w.heap.size 3 1 u10 (upBy zs d).length (rowOf (upBy zs d))) ∧ (Apart u7 v ∧ Apart u10 v) ∧ Below w.heap.size w w') (fun _ i _ => len1 - (intOf i).toNat)
      case atStart => exact ⟨0, Nat.zero_le _, rfl, World.ownsRow_nil _ _ _ _, ⟨HA.out.1, HA.out.2.1⟩, ⟨Apart.symm (.inl rfl), Apart.symm (.inl rfl)⟩, hbel⟩
      case round =>
        clear HA hbel
        obtain ⟨j, hj, rfl, hown, HO0, HP0, hbel⟩ := hrel
        have HO : Hid _ := HO0
        have HP : Hid _ := HP0
        clear HO0 HP0
        by_cases hlt : j < len1
        · obtain ⟨b, o, rfl, hbl, hcells⟩ := hx1 (by omega)
          have hck : wr.cell? ⟨b, o + j, none⟩ = some (.int .i16 (ms.getD j 0)) := by rw [hbel.cell (p := ⟨b, o + j, none⟩) hbl]; exact hcells j hlt
          have hn := hb1 (ms.getD j 0) (by rw [List.getD_eq_getElem?_getD, List.getElem?_eq_getElem (by omega)]; simp)
          obtain ⟨hn1, hn2⟩ := hn
          have htk : (ms.take j).length = j := by simp; omega
          have hsn : Hid (ms.take (j + 1) = ms.take j ++ [ms.getD j 0]) := take_snoc ms j (by omega)
          have HT : Hid ((ms.take j).length = j) := htk
          rw [htk] at hown
          clear hx1 hcells htk hb hb1
          generalize ms.getD j 0 = n at *
          have hk0 : (0 : Int) ≤ (j : Int) := by omega
          have hkl : (j : Int) < (len1 : Int) := by omega
          go_wp2_with (first
            | (at_builtin; refine wpList_append_own_at _ rfl (.tmp 54) (.tmp 60) 32 rfl w.heap.size 3 i0 (.int .i64 0) 1 8 Try.underlying32 hi hi0 hi1 hi2 rfl (by decide) _ _ _ rfl (hown.alloc _) ⟨wr.heap.size, 0, none⟩ 1 1 [.int .i64 n] rfl rfl (new_cell _ _) (one_cell _) (by unfold maxLen; omega) (by omega) (by (have := hbel.size; simp; omega)) ?_))
          intro v' w1 hown' hgrow _ hat
          have HR : Hid (_ ∧ _ ∧ _) := app_step HT.out hbel hown hown' hgrow hat
          have HF : Hid (w1.ownsRow w.heap.size 3 1 v' (ms.take (j + 1)).length (rowOf (ms.take (j + 1))) ∧ (w1.ownsRow w.heap.size 3 1 u7 zs.length (rowOf zs) ∧ w1.ownsRow w.heap.size 3 1 u10 (upBy zs d).length (rowOf (upBy zs d))) ∧ (Apart u7 v' ∧ Apart u10 v') ∧ Below w.heap.size w w1) := by
            rw [hsn.out]
            obtain ⟨hbel1, hv1, hoth⟩ := HR.out
            obtain ⟨o1, o2⟩ := HO.out
            obtain ⟨p1, p2⟩ := HP.out
            obtain ⟨o1, p1⟩ := hoth _ _ _ o1 p1
            obtain ⟨o2, p2⟩ := hoth _ _ _ o2 p2
            exact ⟨hv1, ⟨o1, o2⟩, ⟨p1, p2⟩, hbel1⟩
          clear hown hown' hgrow hat hbel hck HR HO HP
          go_wp2
          go_roundw
          case rel => exact ⟨j + 1, by omega, by go_num, HF.out⟩
          case measure => simp [intOf]; omega
        · have hkl : j = len1 := by omega
          subst hkl
          rw [show ms.take j = ms from List.take_of_length_le (by omega)] at hown
          clear hx1 hj hlt
          have HBB : Hid ((∀ n ∈ zs, -32768 ≤ n ∧ n ≤ 32767) ∧ (∀ n ∈ ms, -32768 ≤ n ∧ n ≤ 32767)) := ⟨hb, hb1⟩
          clear hb hb1
          obtain ⟨o1, o2⟩ := HO.out
          have HW : Hid (wr.ownsRow w.heap.size 3 1 u8 ms.length (rowOf ms) ∧ wr.ownsRow w.heap.size 3 1 u10 (upBy zs d).length (rowOf (upBy zs d))) := ⟨hown, o2⟩
          clear HO hown o2
          rw [hz] at o1
          go_wp2_with (first
            | (at_builtin; refine wpList_append_row _ rfl (.tmp 62) (.tmp 63) 32 rfl w.heap.size w.heap.size 3 i0 (.int .i64 0) 8 Try.underlying32 hi hi0 hi1 hi2 rfl _ 0 [] rfl (World.ownsRow_nil _ _ _ _) _ _ _ rfl o1 (row_one _) (by unfold maxLen; omega) (by omega) hbel.size ?_))
          intro v1 w1 hv1 hg1 hat1
          have HK : Hid ((w1.ownsRow w.heap.size 3 1 u7 k (rowOf zs) ∧ Apart u7 v1) ∧ (w1.ownsRow w.heap.size 3 1 u8 ms.length (rowOf ms) ∧ Apart u8 v1) ∧ (w1.ownsRow w.heap.size 3 1 u10 (upBy zs d).length (rowOf (upBy zs d)) ∧ Apart u10 v1) ∧ Below w.heap.size w w1) :=
            ⟨(apart_nil u7).grown o1 hg1 hat1, (apart_nil u8).grown HW.out.1 hg1 hat1, (apart_nil u10).grown HW.out.2 hg1 hat1, Below.grown hbel hg1 hbel.size (fun _ h => by cases h)⟩
          clear o1 hg1 hat1 hbel HW HP
          have o2 := HK.out.2.1.1
          have hbel := HK.out.2.2.2
          rw [hz1] at o2
          go_wp2_with (first
            | (at_builtin; refine wpList_append_row _ rfl (.tmp 64) (.tmp 65) 32 rfl w.heap.size w.heap.size 3 i0 (.int .i64 0) 8 Try.underlying32 hi hi0 hi1 hi2 rfl _ k _ rfl hv1 _ _ _ rfl o2 (row_one _) (by unfold maxLen; omega) (by omega) hbel.size ?_))
          intro v2 w2 hv2 hg2 hat2
          have HL : Hid (w2.ownsRow w.heap.size 3 1 u7 zs.length (rowOf zs) ∧ w2.ownsRow w.heap.size 3 1 u8 ms.length (rowOf ms) ∧ w2.ownsRow w.heap.size 3 1 u10 (upBy zs d).length (rowOf (upBy zs d)) ∧ w2.ownsRow w.heap.size 3 1 v2 (zs ++ ms).length (rowOf (zs ++ ms)) ∧ Below w.heap.size w w2) := by
            obtain ⟨⟨a1, a2⟩, ⟨b1, b2⟩, ⟨c1, c2⟩, _⟩ := HK.out
            refine ⟨?_, (b2.grown b1 hg2 hat2).1, (c2.grown c1 hg2 hat2).1, ?_, Below.grown hbel hg2 hbel.size (fun g h => (hv1.lt g h).1)⟩
            · rw [hz]; exact (a2.grown a1 hg2 hat2).1
            · simpa [rowOf, hz, hz1] using hv2
          clear HK hv1 o2 hbel hv2 hg2 hat2
          have HM : Hid ((∃ x c, u7 = .slice x zs.length c ∧ RowAt w2 x zs) ∧ (∃ x c, u8 = .slice x ms.length c ∧ RowAt w2 x ms) ∧ (∃ x c, u10 = .slice x (upBy zs d).length c ∧ RowAt w2 x (upBy zs d)) ∧ (∃ x c, v2 = .slice x (zs ++ ms).length c ∧ RowAt w2 x (zs ++ ms)) ∧ Below w.heap.size w w2) :=
            ⟨owned_cells HL.out.1, owned_cells HL.out.2.1, owned_cells HL.out.2.2.1, owned_cells HL.out.2.2.2.1, HL.out.2.2.2.2⟩
          clear HL
          obtain ⟨⟨xa, ca, rfl, ra⟩, ⟨xb, cb, rfl, rb⟩, ⟨xu, cu, rfl, ru⟩, ⟨xl, cl, rfl, rl⟩, hbel⟩ := HM.out
          have HR : Hid (RowAt w2 xa zs ∧ RowAt w2 xb ms ∧ RowAt w2 xu (upBy zs d) ∧ RowAt w2 xl (zs ++ ms) ∧ Below w.heap.size w w2) := ⟨ra, rb, ru, rl, hbel⟩
          clear HM ra rb ru rl hbel
          rw [upBy_length, List.length_append, hz, hz1]
          have HF : Hid (JoinFacts zs ms d k j) := joinFacts hz hz1 hlen hlen1 HBB.out.1 HBB.out.2 hd hd'
          clear HBB
          have HRa : Hid (RowAt w2 xa zs) := HR.out.1
          have HRb : Hid (RowAt w2 xb ms) := HR.out.2.1
          have HRu : Hid (RowAt w2 xu (upBy zs d)) := HR.out.2.2.1
          have HRl : Hid (RowAt w2 xl (zs ++ ms)) := HR.out.2.2.2.1
          have HB : Hid (Below w.heap.size w w2) := HR.out.2.2.2.2
          have HZ : Hid (zs.length = k ∧ ms.length = j) := ⟨hz, hz1⟩
          clear HR hz hz1
          go_wp2_with fail
          refine (of_row xa k ca zs _ HRa.out HZ.out.1 HF.out.sa (Below.refl _ _)).mono ?_
          rintro e w3 ⟨rfl, hb3⟩
          go_wp2_with fail
          refine (of_row xb j cb ms _ HRb.out HZ.out.2 HF.out.sb hb3).mono ?_
          rintro e w4 ⟨rfl, hb4⟩
          go_wp2_with fail
          refine (join_on (ofL zs) (ofL ms) _ HF.out.j1.1.1 HF.out.j1.1.2 HF.out.j1.2.1 HF.out.j1.2.2 hb4).mono ?_
          rintro e w5 ⟨rfl, hb5⟩
          go_wp2_with fail
          generalize hW : w5.alloc (.cells #[.int .i64 (jn (ofL zs) (ofL ms)).c, .int .i64 (jn (ofL zs) (ofL ms)).s, .int .i64 (jn (ofL zs) (ofL ms)).a, .int .i64 (jn (ofL zs) (ofL ms)).b] 27) = W
          have hq : SumAt W w5.heap.size (jn (ofL zs) (ofL ms)) := by subst hW; simp [SumAt, go_sem]
          have hsz : w5.heap.size < W.heap.size := by subst hW; simp
          have hb6 : Below w2.heap.size w2 W := by subst hW; exact hb5.alloc hb5.size _
          have HB6 : Hid (Below w.heap.size w W) := HB.out.trans (hb6.mono HB.out.size)
          have HJ : Hid (JoinCalls W k j xa xb xu xl ca cb cu cl (ofL zs) (ofL ms) (jn (ofL zs) (ofL ms)) (lf (jn (ofL zs) (ofL ms)) d) d) := joinCalls HF.out HZ.out.1 HZ.out.2 (HRa.out.below hb6) (HRb.out.below hb6) (HRu.out.below hb6) (HRl.out.below hb6)
          have HN : Hid ((jn (ofL zs) (ofL ms)).c = (k : Int) + (j : Int)) := by rw [Hid, HF.out.n]; omega
          clear HF HRa HRb HRu HRl HB HZ hb3 hb4 hb5 hb6 hW
          generalize w5.heap.size = B at *
          generalize ofL zs = A at *
          generalize ofL ms = M at *
          generalize lf (jn A M) d = z at *
          generalize jn A M = y at *
          obtain ⟨yc, ys, ya, yb⟩ := y
          obtain rfl : yc = (k : Int) + (j : Int) := HN.out
          clear HN
          have HS : Hid (∀ w', Below W.heap.size W w' → (w'.cell? ⟨B, 0, none⟩ = some (.int .i64 ((k : Int) + (j : Int))) ∧ w'.cell? ⟨B, 1, none⟩ = some (.int .i64 ys) ∧ w'.cell? ⟨B, 2, none⟩ = some (.int .i64 ya) ∧ w'.cell? ⟨B, 3, none⟩ = some (.int .i64 yb))) := fun w' hb' => (hq.below hb' hsz).1
          have h0 : Below W.heap.size W W.drew := (Below.refl _ _).drew
          clear hq
          have hneg : IntKind.i64.wrap (-d) = -d := IntWalk.i64_in _ (by omega)
          have hdw : IntKind.i64.wrap d = d := IntWalk.i64_in _ (by omega)
          dsimp only
          go_region_held3 (fun w' => w'.cell? ⟨B, 0, none⟩ = some (.int .i64 ((k : Int) + (j : Int))) ∧ w'.cell? ⟨B, 1, none⟩ = some (.int .i64 ys) ∧ w'.cell? ⟨B, 2, none⟩ = some (.int .i64 ya) ∧ w'.cell? ⟨B, 3, none⟩ = some (.int .i64 yb))
            (exact HS.out _ (by assumption))
            (first
              | (go_at_call 9; refine (awake_on _ (by assumption)).mono ?_; rintro e wn ⟨rfl, hbn⟩)
              | (go_at_call_of 15 (Value.slice xl (k + j) cl); refine (HJ.out.all _ (by assumption)).mono ?_; rintro e wn ⟨rfl, hbn⟩)
              | (go_at_call_of 15 (Value.slice xb j cb); refine (HJ.out.b _ (by assumption)).mono ?_; rintro e wn ⟨rfl, hbn⟩)
              | (go_at_call_of 15 (Value.slice xa k ca); refine (HJ.out.a _ (by assumption)).mono ?_; rintro e wn ⟨rfl, hbn⟩)
              | (go_at_call_of 15 (Value.slice xu k cu); refine (HJ.out.u _ (by assumption)).mono ?_; rintro e wn ⟨rfl, hbn⟩)
              | (go_at_call 14; refine (HJ.out.j _ (by assumption)).mono ?_; rintro e wn ⟨rfl, hbn⟩)
              | (go_at_call_of 16 (sumV A); refine (HJ.out.la _ (by assumption)).mono ?_; rintro e wn ⟨rfl, hbn⟩)
              | (go_at_call_of 16 (sumV z); refine (HJ.out.lz _ (by assumption)).mono ?_; rintro e wn ⟨rfl, hbn⟩)
              | (go_at_call 16; refine (HJ.out.ly _ (by assumption)).mono ?_; rintro e wn ⟨rfl, hbn⟩))
          go_wp2
          go_ret
          refine ⟨rfl, ?_⟩
          have hlast : Below W.heap.size W wn := by assumption
          exact HB6.out.trans (hlast.mono HB6.out.size)
end Go.Proofs.Ytbibpigijgmcgaa
