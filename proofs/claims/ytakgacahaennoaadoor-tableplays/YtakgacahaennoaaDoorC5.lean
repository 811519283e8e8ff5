import Derived.Test.YtakgacahaennoaaDoorC4
namespace Go.Proofs.YtakgacahaennoaaDoor
open Go.RowKit Go.Arb

theorem pow_lt22 {s : Nat} {I : Int} (h : ((2 ^ s : Nat) : Int) < 4 * I) (hI : I ≤ 1048576) : s < 22 := by
  apply Classical.byContradiction
  intro hn
  have h1 : 4194304 ≤ 2 ^ s := Nat.pow_le_pow_right (n := 2) (by omega) (by omega : 22 ≤ s)
  omega

theorem live_at {old : List Cell} {m : Nat} (h : m < old.length) (hk : 0 < old[m].1) : (old[m].1 - 1, old[m].2) ∈ live old := by
  unfold live
  rw [List.mem_filterMap]
  exact ⟨old[m], List.getElem_mem h, by unfold liveF; rw [if_pos hk]⟩

/-- What grow's second loop has come to. -/
structure Gr (w W : World) (p : Nat) (v vn : Value) (old : List Cell) (i N : Nat) (C : Tc) : Prop where
  tc : TcIn W p vn C
  good : Good C (live (old.take i)).reverse
  len : C.cells.length = N
  busy : busy C.cells = (live (old.take i)).length
  row : W.ownsRow 0 54 2 v old.length (flat cC old)
  off : Off (own v) (fp p vn)
  one : 1 ∉ fp p v
  keep : Keep (fp p v) w W
  grew : Grew w (fp p v) (fp p vn)

section
variable {w W W' : World} {p : Nat} {v vn : Value} {old : List Cell} {i N : Nat} {C C' : Tc}
theorem Gr.alloc (h : Gr w W p v vn old i N C) (o : Obj) : Gr w (W.alloc o) p v vn old i N C := by
  have hk : Keep [] W (W.alloc o) := (Keep.refl [] W).alloc o
  exact ⟨h.tc.keep hk (fun _ _ => by simp) (by simp), h.good, h.len, h.busy, row_keep h.row hk (fun _ _ => by simp), h.off, h.one, h.keep.alloc o, h.grew⟩
theorem Gr.pass (h : Gr w W p v vn old i N C) (hi : i < old.length) (hk : ¬ 0 < old[i].1) : Gr w W p v vn old (i + 1) N C := by
  have e : live (old.take (i + 1)) = live (old.take i) := by rw [live_take_succ hi, live_no hk]; simp
  exact ⟨h.tc, by rw [e]; exact h.good, h.len, by rw [e]; exact h.busy, h.row, h.off, h.one, h.keep, h.grew⟩
theorem Gr.lay (h : Gr w W p v vn old i N C) (hi : i < old.length) (hk : 0 < old[i].1) (h1 : TcIn W' p vn C') (hg : Good C' ((old[i].1 - 1, old[i].2) :: (live (old.take i)).reverse)) (hl : C'.cells.length = C.cells.length) (hb : Arb.busy C'.cells = Arb.busy C.cells + 1) (hK : Keep (fp p vn) W W') : Gr w W' p v vn old (i + 1) N C' := by
  have e : live (old.take (i + 1)) = live (old.take i) ++ [(old[i].1 - 1, old[i].2)] := by rw [live_take_succ hi, live_one hk]
  refine ⟨h1, by rw [e]; simpa using hg, by rw [hl]; exact h.len, by rw [e, hb, h.busy]; simp, row_keep h.row hK h.off, h.off, h.one, h.keep.trans hK (fun k hk => ?_), h.grew⟩
  rcases h.grew k hk with h2 | h2
  · exact .inl h2
  · exact .inr h2
end

theorem Gr.layCall {w W : World} {p : Nat} {v vn : Value} {old : List Cell} {m N : Nat} {C : Tc} (h : Gr w W p v vn old m N C) (hm : m < old.length) (hk : 0 < old[m].1) (hb : 0 ≤ old[m].1 - 1 ∧ old[m].1 - 1 ≤ 2147483647) (hbz : Arb.busy C.cells < C.cells.length) :
    Calls Tryd.prog 24 #[.pointer (some ⟨p, 0, none⟩), .int .i64 (old[m].1 - 1), .int .i64 old[m].2] W fun e w' => e = .returned (.tuple #[]) ∧ ∃ C2, Gr w w' p v vn old (m + 1) N C2 := by
  have hc := lay_good (old[m].1 - 1).toNat old[m].2 W p vn C _ h.tc h.good hbz (by omega)
  rw [Int.toNat_of_nonneg hb.1] at hc
  refine hc.mono ?_
  rintro e w' ⟨rfl, ⟨C2, a1, a2, a3, a4⟩, a5⟩
  exact ⟨rfl, C2, h.lay hm hk a1 a2 a3 a4 a5⟩

theorem old_at {W : World} {v : Value} {old : List Cell} (h : W.ownsRow 0 54 2 v old.length (flat cC old)) (i : Nat) (hi : i < old.length) :
    ∃ g cap, v = .slice (some ⟨g, 0, none⟩) old.length cap ∧ old.length ≤ cap ∧ cap ≤ maxLen ∧ g < W.heap.size ∧ W.cell? ⟨g, i * 2, none⟩ = some (.int .i64 old[i].1) ∧ W.cell? ⟨g, i * 2 + 1, none⟩ = some (.int .i64 old[i].2) := by
  obtain ⟨x, cap, hv, h1, h2, h3⟩ := row_form h
  obtain ⟨g, rfl, hg, how, hc⟩ := h3 (by omega)
  have hf := fun j hj => flat_get cC_len old i j hj
  have hi' : old[i]? = some old[i] := List.getElem?_eq_getElem hi
  refine ⟨g, cap, hv, h1, h2, hg, ?_, ?_⟩
  · rw [(hc _ (by omega)).1]; have := hf 0 (by omega); rw [hi'] at this; simpa [cC] using this
  · rw [(hc _ (by omega)).1]; have := hf 1 (by omega); rw [hi'] at this; simpa [cC] using this

set_option maxHeartbeats 2000000 in
theorem grow_any (w : World) (p : Nat) (v : Value) (C : Tc) (h : TcIn w p v C) (hids : C.ids = (live C.cells).length) (hI : C.ids ≤ 1048576) (hbd : ∀ c ∈ live C.cells, 0 ≤ c.1 ∧ c.1 ≤ 2147483647) :
    Calls Tryd.prog 23 #[.pointer (some ⟨p, 0, none⟩)] w fun e w' => e = .returned (.tuple #[]) ∧
      (∃ vn C', TcIn w' p vn C' ∧ Good C' (live C.cells) ∧ 8 ≤ C'.cells.length ∧ 4 * (busy C'.cells : Int) ≤ C'.cells.length ∧ Keep (fp p v) w w' ∧ Grew w (fp p v) (fp p vn)) := by
  obtain ⟨c0, c1, c2, f0, f1, f2⟩ := h.cells3
  have hp := blk_lt h.blk
  obtain ⟨x, cap, hv, hcap, hmax⟩ := h.len
  have HH := hide h
  have HB := hide hbd
  have HI := hide hids
  have hI0 : 0 ≤ C.ids := by rw [hids]; omega
  have HV := hide hv
  rw [hv] at c0
  clear h hbd hids hv
  generalize hcl : C.cells = old at *
  generalize hi : C.ids = I at *
  unfold maxLen at hmax
  go_enter Tryd.func23, Tryd.ntmps23
  go_wp2
  go_loopw [3] (fun a w' => ∃ s : Nat, 3 ≤ s ∧ s ≤ 22 ∧ a = .int .i64 ((2 ^ s : Nat) : Int) ∧ w' = w) (fun a _ => (4 * I - intOf a).toNat)
  case atStart => exact ⟨3, by omega, by omega, rfl, rfl⟩
  case round =>
    obtain ⟨s, hs3, hs, rfl, rfl⟩ := hrel
    have hle : 2 ^ s ≤ 4194304 := Nat.pow_le_pow_right (n := 2) (by omega) hs
    have hge : 8 ≤ 2 ^ s := Nat.pow_le_pow_right (n := 2) (by omega) hs3
    by_cases hlt : ((2 ^ s : Nat) : Int) < 4 * I
    · have h22 := pow_lt22 hlt hI
      have HN := hide (Nat.pow_succ 2 s)
      generalize 2 ^ s = N at *
      go_wp2
      go_roundw
      case rel => exact ⟨s + 1, by omega, by omega, by rw [unhide HN]; go_num, trivial⟩
      case measure => simp [intOf]; omega
    · have HP := hide hs3
      have HP2 := hide hs
      have hN := hash_new hs3 hs
      generalize hNN : 2 ^ s = N at *
      have hmk := make_cells N hle
      obtain ⟨t1, t2⟩ := (unhide HH).anew N hle
      have hG0 : Gr wr ((((wr.setCell ⟨p, 0, none⟩ (.slice (some ⟨wr.heap.size, 0, none⟩) N N)).setCell ⟨p, 1, none⟩ (.int .i64 0)).setCell ⟨p, 2, none⟩ (.int .i64 0)).alloc (.cells (madeCells #[.int .i64 0, .int .i64 0] (N * 2)) 54)) p v (.slice (some ⟨wr.heap.size, 0, none⟩) N N) old 0 N ⟨List.replicate N (0, 0), 0, 0⟩ := by
        have h0 := unhide HH
        have hr := h0.row
        rw [hcl] at hr
        refine ⟨t1, ⟨by simpa [live] using hN, by simp [live], by simp [busy_replicate]⟩, by simp, by simp [busy_replicate, live], row_keep hr t2 (fun k hk hkp => ?_), fun k hk hkn => ?_, h0.one, t2.mono (by simp [fp]), fun k hk => ?_⟩
        · simp at hkp; subst hkp; exact h0.ne hk
        · have hkl := row_lt h0.row k hk
          simp [fp, own, Value.ownBlock] at hkn
          rcases hkn with e | e
          · subst e; exact h0.ne hk
          · omega
        · simp only [fp, own, Value.ownBlock, Option.toList, List.mem_cons, List.not_mem_nil, or_false] at hk ⊢
          rcases hk with e | e
          · exact .inl (.inl e)
          · right; omega
      have HG := hide hG0
      clear hN t1 t2 hG0
      go_wp2
      generalize (((wr.setCell ⟨p, 0, none⟩ (.slice (some ⟨wr.heap.size, 0, none⟩) N N)).setCell ⟨p, 1, none⟩ (.int .i64 0)).setCell ⟨p, 2, none⟩ (.int .i64 0)).alloc (.cells (madeCells #[.int .i64 0, .int .i64 0] (N * 2)) 54) = W0 at *
      generalize hvn : Value.slice (some ⟨wr.heap.size, 0, none⟩) N N = vn at *
      clear hvn
      have HW := hide hmax
      clear c0 c1 c2 f0 f1 f2
      go_loopw [26] (fun i w' => ∃ (m : Nat) (C' : Tc), m ≤ old.length ∧ i = .int .i64 (m : Int) ∧ Hid (Gr wr w' p v vn old m N C')) (fun i _ => old.length - (intOf i).toNat)
      case atStart => exact ⟨0, _, Nat.zero_le _, rfl, HG⟩
      case round =>
        obtain ⟨m, C', hm, rfl, HM⟩ := hrel
        clear HG
        by_cases hml : m < old.length
        · obtain ⟨g, cap', hv', hc1, hc2, hgl, d0, d1⟩ := old_at (unhide HM).row m hml
          rw [unhide HV] at hv'
          simp only [Value.slice.injEq, true_and] at hv'
          obtain ⟨rfl, rfl⟩ := hv'
          have HMM := hide hml
          have e1 : (0 : Int) ≤ (m : Int) := by omega
          have e2 : (m : Int) < (old.length : Int) := by omega
          by_cases hk : 0 < old[m].1
          · have hin := live_at hml hk
            have hb := unhide HB _ hin
            have hbz : busy C'.cells < C'.cells.length := by
              have q1 := (unhide HM).busy
              have q2 := (unhide HM).len
              have q3 : (live (old.take m)).length ≤ (live old).length := ((List.take_sublist m old).filterMap liveF).length_le
              have q4 := unhide HI
              rw [q1, q2]; omega
            have hb2 : 0 ≤ old[m].1 - 1 ∧ old[m].1 - 1 ≤ 2147483647 := hb
            have HA := hide ((unhide HM).alloc (.cells #[.int .i64 old[m].1, .int .i64 old[m].2] 54))
            have HL := hide ((unhide HA).layCall hml hk hb2 hbz)
            have hb1 : old[m].1 ≤ 2147483648 := by have := hb2.2; omega
            clear hin hb hb2 HM
            generalize old[m].1 = ky at *
            generalize old[m].2 = nm at *
            go_wp2_with fail
            refine (unhide HL).mono ?_
            rintro e w2 ⟨rfl, C2, g2⟩
            have HG2 := hide g2
            clear g2 HA HL d0 d1
            go_wp2
            go_roundw
            case rel => exact ⟨m + 1, C2, by omega, by go_num, HG2⟩
            case measure => simp [intOf]; omega
          · have HA := hide (((unhide HM).pass hml hk).alloc (.cells #[.int .i64 old[m].1, .int .i64 old[m].2] 54))
            clear HM
            generalize old[m].1 = ky at *
            generalize old[m].2 = nm at *
            go_wp2
            go_roundw
            case rel => exact ⟨m + 1, C', by omega, by go_num, HA⟩
            case measure => simp [intOf]; omega
        · have e2 : (old.length : Int) ≤ (m : Int) := by omega
          go_wp2
          go_end0
          have hG := unhide HM
          have em : old.take m = old := List.take_of_length_le (by omega)
          have q1 := hG.busy
          have q2 := hG.good
          have q4 := unhide HI
          rw [em] at q1 q2
          refine ⟨rfl, vn, C', hG.tc, ⟨q2.hash.perm' (List.reverse_perm _), by rw [q2.ids]; simp, q2.used⟩, by rw [hG.len]; exact hge, by rw [hG.len, q1]; omega, hG.keep, hG.grew⟩
end Go.Proofs.YtakgacahaennoaaDoor
