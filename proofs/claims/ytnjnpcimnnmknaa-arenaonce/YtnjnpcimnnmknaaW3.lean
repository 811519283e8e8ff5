/- ArenaAll. -/
import Derived.Test.YtnjnpcimnnmknaaW
import Derived.Test.YtnjnpcimnnmknaaF2
import Derived.Test.YtnjnpcimnnmknaaM2
import Derived.Test.YtnjnpcimnnmknaaE
namespace Go.Proofs.Ytnjnpcimnnmknaa
open Go.RowKit Go.Arb

def hdC (h : Int × Int) : List Value := [.int .i64 h.1, .int .i64 h.2]
theorem hdC_len (h : Int × Int) : (hdC h).length = 2 := rfl
/-- A row of handles. -/
def HRow (w : World) (v : Value) (hs : List (Int × Int)) : Prop := w.ownsRow 0 29 2 v hs.length (flat hdC hs)
theorem HRow.keep {w w' : World} {v : Value} {hs : List (Int × Int)} {ks : List Nat} (h : HRow w v hs) (hk : Keep ks w w') (ho : Off (own v) ks) : HRow w' v hs := row_keep h hk ho
theorem HRow.nil (w : World) : HRow w (.slice none 0 0) [] := World.ownsRow_nil _ _ _ _
theorem HRow.at {w : World} {v : Value} {hs : List (Int × Int)} (h : HRow w v hs) (i : Nat) (hi : i < hs.length) :
    ∃ g cap, v = .slice (some ⟨g, 0, none⟩) hs.length cap ∧ hs.length ≤ cap ∧ cap ≤ maxLen ∧ g < w.heap.size ∧ w.cell? ⟨g, i * 2, none⟩ = some (.int .i64 hs[i].1) ∧ w.cell? ⟨g, i * 2 + 1, none⟩ = some (.int .i64 hs[i].2) := by
  obtain ⟨x, cap, hv, h1, h2, h3⟩ := row_form h
  obtain ⟨g, rfl, hg, how, hc⟩ := h3 (by omega)
  have hf := fun j hj => flat_get hdC_len hs i j hj
  have hi' : hs[i]? = some hs[i] := List.getElem?_eq_getElem hi
  refine ⟨g, cap, hv, h1, h2, hg, ?_, ?_⟩
  · rw [(hc _ (by omega)).1]; have := hf 0 (by omega); rw [hi'] at this; simpa [hdC] using this
  · rw [(hc _ (by omega)).1]; have := hf 1 (by omega); rw [hi'] at this; simpa [hdC] using this
theorem Try.info29 : (Try.prog.info? 29).map (fun i => (i.zero, i.size, i.bytes)) = some (some (.agg #[.int .i64 0, .int .i64 0]), 2, 16) := by kernel_rfl
theorem one2 (a b : Int) : ∀ u ∈ [Value.int .i64 a, Value.int .i64 b], u.oneCell' = true := by
  intro u hu; simp at hu; rcases hu with rfl | rfl <;> rfl

/-- The arena and the row of handles. -/
structure B1 (w W : World) (p : Nat) (A : Ab) (ks : List Nat) (v : Value) (hs : List (Int × Int)) : Prop where
  bel : Below w.heap.size w W
  ar : ArAt W p A ks
  row : HRow W v hs
  sep : Sep w.heap.size W [ks, own v]
theorem B1.take {w W W' : World} {p : Nat} {A A' : Ab} {ks ks' : List Nat} {v : Value} {hs : List (Int × Int)} (h : B1 w W p A ks v hs) (hk : Keep ks W W') (ha : ArAt W' p A' ks') (hg : Grew W ks ks') : B1 w W' p A' ks' v hs :=
  ⟨hk.below h.bel h.bel.size (h.sep.ge (by simp)), ha, h.row.keep hk (h.sep.off (by simp)), h.sep.step h.bel.size hk hg ha.lt⟩
theorem B1.alloc {w W : World} {p : Nat} {A : Ab} {ks : List Nat} {v : Value} {hs : List (Int × Int)} (h : B1 w W p A ks v hs) (o : Obj) : B1 w (W.alloc o) p A ks v hs :=
  ⟨h.bel.alloc h.bel.size _, h.ar.below ((Below.refl _ _).alloc (Nat.le_refl _) _), h.row.keep ((Keep.refl [] _).alloc _) (fun _ _ => by simp), h.sep.up (by simp)⟩
theorem B1.push {w W W1 W2 : World} {p : Nat} {A : Ab} {ks : List Nat} {v : Value} {hs : List (Int × Int)} (h : B1 w W p A ks v hs) {g H n cap : Nat} (x : Int × Int) (hk : Keep [] W W1) (hgrow : W1.grownBy W2 v.ownBlock) (hat : v.ownBlock = some g ∨ g = H) (hH : W.heap.size ≤ H) (hlt : g < W2.heap.size)
    (hn : n = hs.length) (hown : W2.ownsRow 0 29 2 (.slice (some ⟨g, 0, none⟩) (n + 1) cap) (n + 1) (flat hdC hs ++ hdC x)) : B1 w W2 p A ks (.slice (some ⟨g, 0, none⟩) (n + 1) cap) (hs ++ [x]) := by
  subst hn
  obtain ⟨k1, k2, k3⟩ := app_keep hk hgrow hat hH hlt
  have hs' := h.sep.perm (List.Perm.swap _ _ _)
  refine ⟨k1.below h.bel h.bel.size (h.sep.ge (by simp)), h.ar.keep k1 (hs'.off (by simp)), ?_, (hs'.step h.bel.size k1 k2 k3).perm (List.Perm.swap _ _ _)⟩
  unfold HRow
  rw [flat_append, flat_one]
  simpa using hown

/-- A row of numbers. -/
def nums (l : List Nat) : List Value := l.map fun (n : Nat) => Value.int .i64 (n : Int)
def IRow (w : World) (u : Value) (l : List Nat) : Prop := w.ownsRow 0 3 1 u l.length (nums l)
theorem IRow.nil (w : World) : IRow w (.slice none 0 0) [] := World.ownsRow_nil _ _ _ _

/-- .. and a row of numbers. -/
structure B2 (w W : World) (p : Nat) (A : Ab) (ks : List Nat) (v : Value) (hs : List (Int × Int)) (u : Value) (wl : List Nat) : Prop where
  bel : Below w.heap.size w W
  ar : ArAt W p A ks
  row : HRow W v hs
  irow : IRow W u wl
  sep : Sep w.heap.size W [ks, own v, own u]
theorem B1.two {w W : World} {p : Nat} {A : Ab} {ks : List Nat} {v : Value} {hs : List (Int × Int)} (h : B1 w W p A ks v hs) : B2 w W p A ks v hs (.slice none 0 0) [] :=
  ⟨h.bel, h.ar, h.row, IRow.nil _, (h.sep.none).perm (List.perm_append_comm (l₁ := [[]]) (l₂ := [ks, own v]))⟩
theorem B2.take {w W W' : World} {p : Nat} {A A' : Ab} {ks ks' : List Nat} {v u : Value} {hs : List (Int × Int)} {wl : List Nat} (h : B2 w W p A ks v hs u wl) (hk : Keep ks W W') (ha : ArAt W' p A' ks') (hg : Grew W ks ks') : B2 w W' p A' ks' v hs u wl :=
  ⟨hk.below h.bel h.bel.size (h.sep.ge (by simp)), ha, h.row.keep hk (h.sep.off (by simp)), row_keep h.irow hk (h.sep.off (by simp)), h.sep.step h.bel.size hk hg ha.lt⟩
theorem B2.give {w W W' : World} {p : Nat} {A A' : Ab} {ks : List Nat} {v u : Value} {hs : List (Int × Int)} {wl : List Nat} (h : B2 w W p A ks v hs u wl) (hk : Keep ks W W') (ha : ArAt W' p A' ks) : B2 w W' p A' ks v hs u wl := h.take hk ha (Grew.refl _ _)
theorem B2.alloc {w W : World} {p : Nat} {A : Ab} {ks : List Nat} {v u : Value} {hs : List (Int × Int)} {wl : List Nat} (h : B2 w W p A ks v hs u wl) (o : Obj) : B2 w (W.alloc o) p A ks v hs u wl :=
  ⟨h.bel.alloc h.bel.size _, h.ar.below ((Below.refl _ _).alloc (Nat.le_refl _) _), h.row.keep ((Keep.refl [] _).alloc _) (fun _ _ => by simp), row_keep h.irow ((Keep.refl [] _).alloc _) (fun _ _ => by simp), h.sep.up (by simp)⟩
theorem B2.drewN {w W : World} {p : Nat} {A : Ab} {ks : List Nat} {v u : Value} {hs : List (Int × Int)} {wl : List Nat} (h : B2 w W p A ks v hs u wl) (m : Nat) : B2 w (W.drewN m) p A ks v hs u wl :=
  ⟨below_drewN h.bel m, h.ar.keep (Keep.ofBelow (below_drewN (Below.refl _ _) m) []) (fun _ _ => by simp), h.row, h.irow, h.sep.up (by simp)⟩
theorem B2.push {w W W1 W2 : World} {p : Nat} {A : Ab} {ks : List Nat} {v u : Value} {hs : List (Int × Int)} {wl : List Nat} (h : B2 w W p A ks v hs u wl) {g H n cap : Nat} (x : Nat) (hk : Keep [] W W1) (hgrow : W1.grownBy W2 u.ownBlock) (hat : u.ownBlock = some g ∨ g = H) (hH : W.heap.size ≤ H) (hlt : g < W2.heap.size)
    (hn : n = wl.length) (hown : W2.ownsRow 0 3 1 (.slice (some ⟨g, 0, none⟩) (n + 1) cap) (n + 1) (nums wl ++ [.int .i64 (x : Int)])) : B2 w W2 p A ks v hs (.slice (some ⟨g, 0, none⟩) (n + 1) cap) (wl ++ [x]) := by
  subst hn
  obtain ⟨k1, k2, k3⟩ := app_keep hk hgrow hat hH hlt
  have hp : [ks, own v, own u].Perm [own u, ks, own v] := List.perm_append_comm (l₁ := [ks, own v]) (l₂ := [own u])
  have hp' : [own (.slice (some ⟨g, 0, none⟩) (wl.length + 1) cap), ks, own v].Perm [ks, own v, own (.slice (some ⟨g, 0, none⟩) (wl.length + 1) cap)] := List.perm_append_comm (l₁ := [_]) (l₂ := [ks, own v])
  have hs' := h.sep.perm hp
  refine ⟨k1.below h.bel h.bel.size (h.sep.ge (by simp)), h.ar.keep k1 (hs'.off (by simp)), h.row.keep k1 (hs'.off (by simp)), ?_, (hs'.step h.bel.size k1 k2 k3).perm hp'⟩
  unfold IRow
  simpa [nums] using hown

theorem one1' (x : Int) : ∀ u ∈ [Value.int .i64 x], u.oneCell' = true := by
  intro u hu; simp at hu; subst hu; rfl

/-- What came in: a row of bytes. -/
def BRow (w : World) (x : Option Addr) (len : Nat) (zs : List Int) : Prop := zs.length = len ∧ (0 < len → ∃ b o, x = some ⟨b, o, none⟩ ∧ b < w.heap.size ∧ ∀ i, i < len → w.cell? ⟨b, o + i, none⟩ = some (.int .u8 (zs.getD i 0))) ∧ ∀ n ∈ zs, 0 ≤ n ∧ n ≤ 255

theorem B2.below {w W W' : World} {p : Nat} {A : Ab} {ks : List Nat} {v u : Value} {hs : List (Int × Int)} {wl : List Nat} (h : B2 w W p A ks v hs u wl) (hb : Below W.heap.size W W') : B2 w W' p A ks v hs u wl :=
  ⟨h.bel.trans (hb.mono h.bel.size), h.ar.below hb, h.row.keep (Keep.ofBelow hb []) (fun _ _ => by simp), row_keep h.irow (Keep.ofBelow hb []) (fun _ _ => by simp), h.sep.up hb.size⟩
theorem BRow.get {w W : World} {x : Option Addr} {len : Nat} {zs : List Int} (h : BRow w x len zs) (hb : Below w.heap.size w W) (m : Nat) (hm : m < len) : ∃ b o y, x = some ⟨b, o, none⟩ ∧ W.cell? ⟨b, o + m, none⟩ = some (.int .u8 ((y : Nat) : Int)) ∧ y ≤ 255 := by
  obtain ⟨h1, h2, h3⟩ := h
  obtain ⟨b, o, hx, hlt, hc⟩ := h2 (by omega)
  have hz := h3 (zs.getD m 0) (by rw [List.getD_eq_getElem?_getD, List.getElem?_eq_getElem (by omega)]; simp)
  obtain ⟨y, hy⟩ := Int.eq_ofNat_of_zero_le hz.1
  refine ⟨b, o, y, hx, ?_, by omega⟩
  rw [hb.cell (p := ⟨b, o + m, none⟩) hlt, hc m hm, hy]
theorem liveA_not {A : Ab} {i : Nat} {g g' : Int} (h : A.sl[i]? = some (g', false)) : liveA A i g = false := by
  cases hl : liveA A i g with
  | false => rfl
  | true => rw [liveA_nat, h] at hl; simp at hl
theorem lt_snoc {wl : List Nat} {q j : Nat} (h : ∀ x ∈ wl, x < j) (hq : q < j) : ∀ x ∈ wl ++ [q], x < j := fun x hx => by
  rcases List.mem_append.1 hx with hx | hx
  · exact h x hx
  · simp at hx; subst hx; exact hq
theorem nodup_snoc {wl : List Nat} {x : Nat} (h : wl.Nodup) (hn : x ∉ wl) : (wl ++ [x]).Nodup := by
  rw [List.nodup_append]
  exact ⟨h, by simp, fun a ha b hb => by simp at hb; subst hb; rintro rfl; exact hn ha⟩

theorem IRow.at {w : World} {u : Value} {l : List Nat} (h : IRow w u l) (i : Nat) (hi : i < l.length) :
    ∃ g cap, u = .slice (some ⟨g, 0, none⟩) l.length cap ∧ l.length ≤ cap ∧ cap ≤ maxLen ∧ g < w.heap.size ∧ w.cell? ⟨g, i, none⟩ = some (.int .i64 ((l[i] : Nat) : Int)) := by
  obtain ⟨g, cap, h1, h2, h3, h4, _, h6, _⟩ := row1 (f := fun (n : Nat) => Value.int .i64 (n : Int)) h i hi
  exact ⟨g, cap, h1, h2, h3, h4, h6⟩

set_option maxHeartbeats 4000000 in
theorem all_walk (a0 : Int) (x : Option Addr) (len cap : Nat) (zs : List Int) (w : World) (h0 : 0 ≤ a0) (h1 : a0 ≤ 255) (hx : BRow w x len zs) (hlen : len ≤ maxLen) :
    Calls Try.prog 6 #[.int .u8 a0, .slice x len cap] w fun e w' => e = .returned (.bool true) ∧ Below w.heap.size w w' := by
  obtain ⟨i0, hi, hz0, hz1, hz2⟩ := info_parts Try.info29
  obtain ⟨i1, hi1, hy0, hy1, hy2⟩ := info_parts Try.info3
  obtain ⟨a, rfl⟩ := Int.eq_ofNat_of_zero_le h0
  have HX := hide hx
  clear hx
  unfold maxLen at hlen
  go_enter Try.func6, Try.ntmps6
  go_wp2_with fail
  rw [show ((a : Int) % 100) = ((a % 100 : Nat) : Int) from by omega]
  have hk : a % 100 < 100 := by omega
  generalize a % 100 = k at *
  refine (aNew k _ (by omega)).mono ?_
  rintro e w1 ⟨rfl, n1, nb1, nz1⟩
  have HB : Hid (B1 w w1 w.heap.size (allA k 0) [w.heap.size] (.slice none 0 0) []) := ⟨nb1, n1, HRow.nil _, (Sep.nil _ _).none.join (W := w) (Nat.le_refl _) nb1.size (by simp; omega)⟩
  clear n1 nb1 nz1
  go_wp2
  go_loopw [7, 8] (fun v i w' => ∃ (j : Nat) (ks : List Nat), j ≤ k ∧ i = .int .i64 j ∧ Hid (B1 w w' w.heap.size (allA k j) ks v (allH j))) (fun _ i _ => k - (intOf i).toNat)
  case atStart => exact ⟨0, _, Nat.zero_le _, rfl, HB⟩
  case round =>
    obtain ⟨j, ks, hj, rfl, HJ⟩ := hrel
    clear HB
    by_cases hlt : j < k
    · have hltI : (j : Int) < (k : Int) := by omega
      obtain ⟨t1, t2⟩ := allA_take k j hlt
      have HT := hide (And.intro t1 t2)
      clear t1 t2
      go_wp2_with fail
      refine (aTake _ _ _ _ (unhide HJ).ar (by simp [allA]; omega)).mono ?_
      rw [(unhide HT).1, (unhide HT).2]
      rintro e w2 ⟨rfl, ks2, a2, k2, g2⟩
      dsimp only
      have H2 := ((unhide HJ).take k2 a2 g2).alloc (.cells #[.int .i64 (j : Int), .int .i64 1] 29)
      have H2' := hide H2
      have hrow := H2.row
      unfold HRow at hrow
      rw [allH_len] at hrow
      clear HJ a2 k2 g2 H2 HT
      go_wp2_with (at_builtin; refine wpList_append_lies _ rfl _ _ 27 rfl 0 29 i0 (.agg #[.int .i64 0, .int .i64 0]) 2 16 Try.underlying27 hi hz0 hz1 hz2 rfl (by decide) _ _ _ rfl (hrow.alloc _) ⟨w2.heap.size + 1, 0, none⟩ 1 1 [.int .i64 (j : Int), .int .i64 1] rfl rfl (news_at _ _ _ _ (by simp)) (one2 _ _) (by omega) (by unfold maxLen; omega) (by omega) (Nat.zero_le _) (w2.heap.size + 2) (by simp) ?_)
      intro g cap' w3 hown hgrow hat hlt'
      have H3 := (unhide H2').push ((j : Int), 1) ((Keep.refl [] _).alloc _) hgrow hat (by simp) hlt' (allH_len j).symm hown
      rw [← allH_succ] at H3
      have H3' := hide H3
      clear hown hgrow hat hlt' H3 H2' hrow
      go_wp2
      go_roundw
      case rel => exact ⟨j + 1, ks2, by omega, by go_num, H3'⟩
      case measure => simp [intOf]; omega
    · obtain rfl : j = k := by omega
      have HT := hide (allA_full j)
      go_wp2_with fail
      refine (aTake _ _ _ _ (unhide HJ).ar (by simp [allA]; omega)).mono ?_
      rw [(unhide HT).1, (unhide HT).2]
      rintro e w2 ⟨rfl, ks2, a2, k2, g2⟩
      dsimp only
      have H2 := (((unhide HJ).take k2 a2 g2).alloc (.cells #[.int .i64 0, .int .i64 0] 29)).two
      rw [outA_nil] at H2
      have H2' := hide H2
      clear HJ a2 k2 g2 H2 HT
      go_wp2
      go_loopw [13, 14] (fun u i w' => ∃ (m : Nat) (ks : List Nat) (wl : List Nat), m ≤ 100 ∧ m ≤ len ∧ i = .int .i64 m ∧ wl.length ≤ m ∧ Hid (B2 w w' w.heap.size (outA j wl wl.length) ks u7 (allH j) u wl ∧ wl.Nodup ∧ ∀ x ∈ wl, x < j)) (fun _ i _ => 100 - (intOf i).toNat)
      case atStart => exact ⟨0, ks2, [], by omega, by omega, rfl, by simp, H2', by simp, by simp⟩
      case round =>
        obtain ⟨m, ks3, wl, hm, hml, rfl, hwm, HM⟩ := hrel
        clear H2'
        by_cases hcont : m < len ∧ m < 100 ∧ 0 < j
        · obtain ⟨hc1, hc2, hc3⟩ := hcont
          obtain ⟨b, o, y, rfl, hcy, hy255⟩ := (unhide HX).get (unhide HM).1.bel m hc1
          obtain ⟨q, hq⟩ : ∃ q : Nat, q = y % j := ⟨_, rfl⟩
          have hqj : q < j := by rw [hq]; exact Nat.mod_lt _ hc3
          have hmod : (y : Int) % (j : Int) = (q : Int) := by rw [hq]; simp
          clear hq
          obtain ⟨g, capg, hu7, hg1, hg2, hg3, d0, d1⟩ := (unhide HM).1.row.at q (by rw [allH_len]; exact hqj)
          rw [allH_get] at d0 d1
          rw [allH_len] at hu7 hg1
          dsimp only at d0 d1
          unfold maxLen at hg2
          subst hu7
          have e1 : (m : Int) < (len : Int) := by omega
          have e2 : (m : Int) < 100 := by omega
          have e3 : (0 : Int) < (j : Int) := by omega
          have e4 : (0 : Int) ≤ (q : Int) := by omega
          have e5 : (q : Int) < (j : Int) := by omega
          have e6 : (0 : Int) ≤ (m : Int) := by omega
          by_cases hqw : q ∈ wl
          · have hl : (outA j wl wl.length).sl[q]? = some (1, false) := by rw [outA_get j wl q hqj]; simp [hqw]
            have HL := hide (liveA_not (g := 1) hl)
            clear hl
            go_wp2_with fail
            refine (aGive_no _ _ _ _ _ _ (unhide HM).1.ar (unhide HL)).mono ?_
            rintro e w4 ⟨rfl, b4⟩
            have H4 := hide (And.intro ((unhide HM).1.below b4) (unhide HM).2)
            clear HM b4 HL hcy d0 d1
            go_wp2
            go_roundw
            case rel => exact ⟨m + 1, ks3, wl, by omega, by omega, by go_num, by omega, H4⟩
            case measure => simp [intOf]; omega
          · have hl : (outA j wl wl.length).sl[q]? = some (1, true) := by rw [outA_get j wl q hqj]; simp [hqw]
            have HL := hide hl
            clear hl
            go_wp2_with fail
            refine (aGive_yes _ _ _ _ _ _ (unhide HM).1.ar (unhide HL)).mono ?_
            rintro e w4 ⟨rfl, a4, k4⟩
            rw [outA_give j wl q hqj hqw] at a4
            have H4 := hide (And.intro ((unhide HM).1.give k4 a4) (And.intro (nodup_snoc (unhide HM).2.1 hqw) (unhide HM).2.2))
            have hrow := (unhide H4).1.irow
            unfold IRow at hrow
            clear HM a4 k4 HL hcy d0 d1
            have HWL := hide hwm
            generalize hwl : wl.length = n at hrow hwm
            have HW := hide hwl
            clear hwl
            go_wp2_with (at_builtin; refine wpList_append_lies _ rfl _ _ 41 rfl 0 3 i1 (.int .i64 0) 1 8 Try.underlying41 hi1 hy0 hy1 hy2 rfl (by decide) _ _ _ rfl (hrow.alloc _) ⟨w4.heap.size, 0, none⟩ 1 1 [.int .i64 (q : Int)] rfl rfl (news_at _ _ _ _ (by simp)) (one1' _) (by omega) (by unfold maxLen; omega) (by omega) (Nat.zero_le _) (w4.heap.size + 1) (by simp) ?_)
            intro g' cap' w5 hown hgrow hat hlt'
            have H5 := (unhide H4).1.push q ((Keep.refl [] _).alloc _) hgrow hat (by simp) hlt' (unhide HW).symm hown
            have H5' := hide (And.intro H5 (And.intro (unhide H4).2.1 (lt_snoc (unhide H4).2.2 hqj)))
            clear hown hgrow hat hlt' H5 H4 hrow
            go_wp2
            go_roundw
            case rel => exact ⟨m + 1, ks3, wl ++ [q], by omega, by omega, by go_num, by have := unhide HWL; simp; omega, H5'⟩
            case measure => simp [intOf]; omega
        · obtain ⟨hb2, hnd, hwj⟩ := unhide HM
          have HW := hide (And.intro hb2 (And.intro hnd hwj))
          obtain ⟨xu, capu, hu, hul, hum, _⟩ := row_form hb2.irow
          clear HM hb2 hnd hwj
          unfold maxLen at hum
          subst hu
          have hcases : (len : Int) ≤ (m : Int) ∨ ((m : Int) < (len : Int) ∧ 100 ≤ (m : Int)) ∨ ((m : Int) < (len : Int) ∧ (m : Int) < 100 ∧ (j : Int) ≤ 0) := by omega
          clear hcont
          rcases hcases with hc | ⟨hc, hc'⟩ | ⟨hc, hc', hc''⟩
          all_goals
            go_wp2
            go_loopw [16] (fun i w' => ∃ (t : Nat) (ks : List Nat), t ≤ wl.length ∧ i = .int .i64 t ∧ Hid (B2 w w' w.heap.size (outA j wl t) ks u7 (allH j) (.slice xu wl.length capu) wl)) (fun i _ => (intOf i).toNat)
            case atStart => exact ⟨wl.length, ks3, Nat.le_refl _, rfl, (unhide HW).1⟩
            case round =>
              obtain ⟨t, ks4, ht, rfl, HR⟩ := hrel
              rcases t with _ | t
              · have HL := hide (outA_len j wl)
                go_wp2_with fail
                refine (awake_any _).mono ?_
                rintro e w6 ⟨rfl, b6⟩
                have H6 := hide ((unhide HR).below b6)
                clear HR b6
                go_wp2_with fail
                refine (aLen _ _ _ _ (unhide H6).ar).mono ?_
                rw [unhide HL]
                rintro e w7 ⟨rfl, hw⟩
                subst hw
                go_wp2
                go_ret
                exact ⟨rfl, (unhide H6).bel⟩
              · have htl : t < wl.length := by omega
                obtain ⟨t1, t2⟩ := outA_take j wl (unhide HW).2.1 (unhide HW).2.2 t htl
                have HT := hide (And.intro t1 t2)
                clear t1 t2
                go_wp2_with fail
                refine (aTake _ _ _ _ (unhide HR).ar (by simp [outA]; omega)).mono ?_
                rw [(unhide HT).1, (unhide HT).2]
                rintro e w6 ⟨rfl, ks6, a6, k6, g6⟩
                dsimp only
                have H6 := hide ((unhide HR).take k6 a6 g6)
                obtain ⟨gu, capu', hgu, _, _, hgl, dc⟩ := (unhide H6).irow.at t htl
                simp only [Value.slice.injEq, true_and] at hgu
                obtain ⟨rfl, rfl⟩ := hgu
                clear HR a6 k6 g6 HT
                generalize wl[t] = z at *
                have f1 : (t : Int) < (wl.length : Int) := by omega
                have f2 : (0 : Int) ≤ (t : Int) := by omega
                go_wp2
                go_quiet (fail)
                go_wp2
                go_roundw
                case rel => exact ⟨t, ks6, by omega, by go_num, ((unhide H6).alloc _).drewN _⟩
                case measure => simp [intOf]
end Go.Proofs.Ytnjnpcimnnmknaa
