import Derived.Test.YtakgacahaennoaaDoorC7
import Derived.Test.YtakgacahaennoaaDoorF2
import Derived.Sort.OwnSortedInts
namespace Go.Proofs.YtakgacahaennoaaDoor
open Go.RowKit Go.Arb

theorem Tryd.info3 : (Tryd.prog.info? 3).map (fun i => (i.zero, i.size, i.bytes)) = some (some (.int .i64 0), 1, 8) := by kernel_rfl
theorem one1 (x : Int) : ∀ u ∈ [Value.int .i64 x], u.oneCell' = true := by
  intro u hu; simp at hu; subst hu; rfl
theorem make_ints (k : Nat) (hk : k ≤ 4194304) (w : World) :
    (Instr.makeSlice 35 (.int .i64 0) (.int .i64 (k : Int))).run Tryd.prog w = .ok (.slice (some ⟨w.heap.size, 0, none⟩) 0 k) (w.alloc (.cells (madeCells #[.int .i64 0] k) 3)) := by
  obtain ⟨i, hi, hz, hs, hb⟩ := info_parts Tryd.info3
  have hr := run_make (P := Tryd.prog) w 35 3 i _ Tryd.underlying35 hi hz .i64 .i64 0 k (by omega) (by omega) (by rw [hb]; omega) (by omega)
  simp only [Int.toNat_zero, Int.toNat_natCast, hs, Nat.mul_one] at hr
  exact hr

def IRow (B : Nat) (W : World) (u : Value) (l : List Int) : Prop := W.ownsRow B 3 1 u l.length (l.map (Value.int .i64))

set_option maxHeartbeats 400000 in
theorem list_nil (w : World) : Calls Tryd.prog 18 #[.pointer none] w fun e w' => e = .returned (.slice none 0 0) ∧ w = w' := by
  go_enter Tryd.func18, Tryd.ntmps18
  go_wp2
  go_ret
  exact ⟨rfl, rfl⟩

/-- What List's loop has come to. -/
structure Ls (w W : World) (p : Nat) (v u : Value) (C : Tc) (m : Nat) : Prop where
  bel : Below w.heap.size w W
  tc : TcIn W p v C
  row : IRow w.heap.size W u (idsS (live (C.cells.take m)))
  two : 1 < w.heap.size

theorem Ls.alloc {w W : World} {p : Nat} {v u : Value} {C : Tc} {m : Nat} (h : Ls w W p v u C m) (o : Obj) : Ls w (W.alloc o) p v u C m := by
  have hk : Keep [] W (W.alloc o) := (Keep.refl [] W).alloc o
  exact ⟨h.bel.alloc h.bel.size o, h.tc.keep hk (fun _ _ => by simp) (by simp), row_keep h.row hk (fun _ _ => by simp), h.two⟩
theorem Ls.pass {w W : World} {p : Nat} {v u : Value} {C : Tc} {m : Nat} (h : Ls w W p v u C m) (hm : m < C.cells.length) (hk : ¬ 0 < C.cells[m].1) : Ls w W p v u C (m + 1) := by
  have e : live (C.cells.take (m + 1)) = live (C.cells.take m) := by rw [live_take_succ hm, live_no hk]; simp
  exact ⟨h.bel, h.tc, by rw [e]; exact h.row, h.two⟩
theorem Ls.push {w W W2 : World} {p g cap : Nat} {v u : Value} {C : Tc} {m : Nat} {o1 o2 : Obj} (h : Ls w W p v u C m) (hw : ∀ k ∈ fp p v, k < w.heap.size) (hm : m < C.cells.length) (hk : 0 < C.cells[m].1)
    (hown : W2.ownsRow w.heap.size 3 1 (.slice (some ⟨g, 0, none⟩) ((idsS (live (C.cells.take m))).length + 1) cap) ((idsS (live (C.cells.take m))).length + 1) ((idsS (live (C.cells.take m))).map (Value.int .i64) ++ [.int .i64 (C.cells[m].1 - 1)]))
    (hgrow : ((W.alloc o1).alloc o2).grownBy W2 u.ownBlock) : Ls w W2 p v (.slice (some ⟨g, 0, none⟩) ((idsS (live (C.cells.take m))).length + 1) cap) C (m + 1) := by
  have h2 := (h.alloc o1).alloc o2
  have hu : ∀ k, u.ownBlock = some k → w.heap.size ≤ k := fun k hk => (h2.row.lt k hk).1
  have e : live (C.cells.take (m + 1)) = live (C.cells.take m) ++ [(C.cells[m].1 - 1, C.cells[m].2)] := by rw [live_take_succ hm, live_one hk]
  have hK : Keep u.ownBlock.toList ((W.alloc o1).alloc o2) W2 := (Keep.refl _ _).grown hgrow (fun k hk => .inl (by simp [hk]))
  refine ⟨h2.bel.grown hgrow h2.bel.size hu, h2.tc.keep hK (fun k hk hn => ?_) (fun hn => ?_), ?_, ?_⟩
  · have := hw k hk
    have := hu k (by simpa using hn)
    omega
  · have h3 := hu 1 (by simpa using hn)
    have := h.two
    omega
  · unfold IRow
    rw [e]
    simpa [idsS] using hown
  · exact h.two

set_option maxHeartbeats 1000000 in
theorem list_core (w : World) (p : Nat) (v : Value) (C : Tc) (S : List Cell) (h : TcIn w p v C) (ha : Abs C S) :
    Calls Tryd.prog 18 #[.pointer (some ⟨p, 0, none⟩)] w fun e w' => (∃ u, e = .returned u ∧ IRow w.heap.size w' u (idsS S)) ∧ Below w.heap.size w w' := by
  obtain ⟨i0, hi, hz0, hz1, hz2⟩ := info_parts Tryd.info3
  obtain ⟨c0, c1, c2, f0, f1, f2⟩ := h.cells3
  obtain ⟨x, cap, hv, hcap, hmax⟩ := h.len
  have hp := blk_lt h.blk
  have hids := ha.ids
  have hsl := ha.ris.len
  have hmk := make_ints S.length (by omega)
  have HH := hide (And.intro h ha)
  have HLT := hide h.lt
  have HV := hide hv
  rw [hv] at c0
  rw [hids] at c1
  have HL0 : Hid (Ls w (w.alloc (.cells (madeCells #[.int .i64 0] S.length) 3)) p v (.slice (some ⟨w.heap.size, 0, none⟩) 0 S.length) C 0) := by
    have hb : Below w.heap.size w (w.alloc (.cells (madeCells #[.int .i64 0] S.length) 3)) := (Below.refl _ _).alloc (Nat.le_refl _) _
    exact ⟨hb, h.keep (Keep.ofBelow hb []) (fun _ _ => by simp) (by simp), World.ownsRow_made w _ _ (Nat.le_refl _) (by unfold maxLen; omega) (by rw [size_madeCells]; omega), h.tab.2⟩
  clear h ha hv hids
  generalize hN : C.cells.length = N at *
  generalize S.length = K at *
  unfold maxLen at hmax
  go_enter Tryd.func18, Tryd.ntmps18
  go_wp2
  generalize w.alloc (.cells (madeCells #[.int .i64 0] K) 3) = W0 at *
  clear c0 c1 c2 f0 f1 f2 hmk
  go_loopw [3, 18] (fun u i w' => ∃ m : Nat, m ≤ N ∧ i = .int .i64 (m : Int) ∧ Hid (Ls w w' p v u C m)) (fun _ i _ => N - (intOf i).toNat)
  case atStart => exact ⟨0, Nat.zero_le _, rfl, HL0⟩
  case round =>
    obtain ⟨m, hm, rfl, HM⟩ := hrel
    clear HL0
    by_cases hml : m < N
    · have hml' : m < C.cells.length := by omega
      obtain ⟨g, cap', hv', hc1, hc2, hgl, hgp, d0, d1, _, _⟩ := (unhide HM).tc.at m hml'
      rw [unhide HV, hN] at hv'
      simp only [Value.slice.injEq, true_and] at hv'
      obtain ⟨rfl, rfl⟩ := hv'
      have e1 : (0 : Int) ≤ (m : Int) := by omega
      have e2 : (m : Int) < (N : Int) := by omega
      have HML := hide hml'
      by_cases hk : 0 < C.cells[m].1
      · have hpush := fun (g' cap'' : Nat) (W2 : World) (o1 o2 : Obj) h1 h2 => (unhide HM).push (W2 := W2) (g := g') (cap := cap'') (o1 := o1) (o2 := o2) (unhide HLT) hml' hk h1 h2
        have HP := hide hpush
        have hrow := (unhide HM).row
        unfold IRow at hrow
        have hbs := (unhide HM).bel.size
        have hbd : C.cells[m].1 - 1 ≤ 2147483647 := ((unhide HH).2.ris.bd _ ((unhide HH).2.live.1.mem_iff.1 (live_at hml' hk))).2
        have hlb : (idsS (live (C.cells.take m))).length ≤ 4194304 := by
          have q1 := (unhide HH).2.ris.len
          have q2 := (unhide HH).2.live.1.length_eq
          have q3 : (live (C.cells.take m)).length ≤ (live C.cells).length := ((List.take_sublist m C.cells).filterMap liveF).length_le
          unfold idsS; rw [List.length_map]; omega
        clear hpush
        generalize C.cells[m].1 = ky at *
        generalize C.cells[m].2 = nm at *
        generalize hzl : idsS (live (C.cells.take m)) = zl at *
        clear hzl
        go_wp2_with (at_builtin; refine wpList_append_lies _ rfl _ _ 35 rfl w.heap.size 3 i0 (.int .i64 0) 1 8 Tryd.underlying35 hi hz0 hz1 hz2 rfl (by decide) _ _ _ rfl ((hrow.alloc _).alloc _) ⟨wr.heap.size + 1, 0, none⟩ 1 1 [.int .i64 (ky - 1)] rfl rfl (news_at _ _ _ _ (by simp)) (one1 _) (by omega) (by unfold maxLen; omega) (by omega) (by simp; omega) (wr.heap.size + 1 + 1) (by simp) ?_)
        intro g' cap' w5 hown hgrow hat hlt'
        have H5 := hide (unhide HP g' cap' w5 _ _ hown hgrow)
        clear hown hgrow hat hlt' HP HM hrow d0 d1
        go_wp2
        go_roundw
        case rel => exact ⟨m + 1, by omega, by go_num, H5⟩
        case measure => simp [intOf]; omega
      · have HA := hide (((unhide HM).pass hml' hk).alloc (.cells #[.int .i64 C.cells[m].1, .int .i64 C.cells[m].2] 54))
        clear HM
        generalize C.cells[m].1 = ky at *
        generalize C.cells[m].2 = nm at *
        go_wp2
        go_roundw
        case rel => exact ⟨m + 1, by omega, by go_num, HA⟩
        case measure => simp [intOf]; omega
    · have e2 : (N : Int) ≤ (m : Int) := by omega
      have hrow := (unhide HM).row
      rw [List.take_of_length_le (by omega : C.cells.length ≤ m)] at hrow
      have hbel := (unhide HM).bel
      have hsort := sort_ids (unhide HH).2.ris (unhide HH).2.live.1
      have hlen : (idsS (live C.cells)).length ≤ 4194304 := by
        have q1 := (unhide HH).2.ris.len
        have q2 := (unhide HH).2.live.1.length_eq
        unfold idsS; rw [List.length_map]; omega
      unfold IRow at hrow
      rcases hrow.2 with ⟨hnil, h0⟩ | ⟨g, cap', cur, hu, hbase, hb, h1, h2, h3, h4⟩
      · subst hnil
        have hz : idsS (live C.cells) = [] := List.length_eq_zero_iff.1 h0
        rw [hz, List.mergeSort_nil] at hsort
        have HS := hide (And.intro hbel hsort)
        clear hbel hsort hrow HM
        go_wp2_with (go_at_call 26; refine (Tryd.slices_Sort_int_none none 0 _).mono ?_; rintro e w' ⟨rfl, hw'⟩; rw [hw'])
        go_ret
        refine ⟨⟨_, rfl, ?_⟩, (unhide HS).1⟩
        rw [← (unhide HS).2]
        exact World.ownsRow_nil _ _ _ _
      · subst hu
        have hcall := Tryd.slices_Sort_int g 0 cap' (idsS (live C.cells)) wr (holds_of_blockI hb (by simpa using h4)) (Array.getElem?_eq_some_iff.1 hb).1 (by omega)
        rw [hsort] at hcall
        have hres : ∀ n os, IRow w.heap.size (Sort.grow (Sort.putRow (Value.int .i64) (Sort.ahead wr n) g 0 (idsS S).toArray) os) (.slice (some ⟨g, 0, none⟩) (idsS (live C.cells)).length cap') (idsS S) ∧ Below w.heap.size w (Sort.grow (Sort.putRow (Value.int .i64) (Sort.ahead wr n) g 0 (idsS S).toArray) os) := by
          intro n os
          have hl : (idsS S).length = (idsS (live C.cells)).length := by
            unfold idsS; rw [List.length_map, List.length_map, (unhide HH).2.live.1.length_eq]
          refine ⟨?_, hbel.grown (grownBy_sortedI _) hbel.size (fun k hk => ?_)⟩
          · have := ownsRow_sortedI (n := n) (os := os) hl hbase hb h1 h2 h3
            unfold IRow
            rw [hl]
            exact this
          · cases hk; exact hbase
        have HC := hide hcall
        have HR := hide hres
        clear hcall hres hbel hsort hrow HM hb h4
        generalize (idsS (live C.cells)).length = q at *
        go_wp2_with (go_at_call 26; refine (unhide HC).mono ?_; rintro e w' ⟨rfl, n, os, hw'⟩; rw [hw'])
        go_ret
        exact ⟨⟨_, rfl, (unhide HR n os).1⟩, (unhide HR n os).2⟩

theorem tList (w : World) (p : Nat) (S : List Cell) (ks : List Nat) (h : TbAt w p S ks) :
    Calls Tryd.prog 18 #[.pointer (some ⟨p, 0, none⟩)] w fun e w' => (∃ u, e = .returned u ∧ IRow w.heap.size w' u (idsS S)) ∧ Below w.heap.size w w' := by
  obtain ⟨v, C, h1, h2, rfl⟩ := h
  exact list_core w p v C S h1 h2
end Go.Proofs.YtakgacahaennoaaDoor
