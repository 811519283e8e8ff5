import Derived.Test.YtkfboficcdiojaaD4
import Derived.Test.YtkfboficcdiojaaK7
namespace Go.Proofs.Ytkfboficcdiojaa
open Go.RowKit Go.Arb
set_option linter.unusedVariables false
set_option linter.unusedSimpArgs false

section
variable {w w' : World} {p g n cap : Nat} {S S' : Ss} {A : Se}
theorem Se.part_slc (A : Se) (a b : Int) (ha : 0 ≤ A.rankI a) (hb : 0 ≤ A.rankI b) : A.part a b = slc (A.rankI a) (A.rankI b + 1) (A.seqI a) := by
  unfold Se.part slc
  rw [show (A.rankI b + 1).toNat = (A.rankI b).toNat + 1 by omega]
theorem Se.sameI_yes {a b : Int} (h : A.sameI a b = true) : ∃ u v : Nat, a = u ∧ b = v ∧ u ∈ A.L.flatten ∧ v ∈ A.L.flatten ∧ v ∈ A.seq u := by
  simp only [Se.sameI, Bool.and_eq_true, decide_eq_true_eq] at h
  obtain ⟨⟨h1, h2⟩, h3⟩ := h
  obtain ⟨u, rfl, hu⟩ := Se.hasI_true h1
  obtain ⟨v, rfl, hv⟩ := Se.hasI_true h2
  rw [Se.seqI_nat hu] at h3
  exact ⟨u, v, rfl, rfl, hu, hv, by simpa using h3⟩

set_option maxHeartbeats 1000000 in
theorem same_nil (a b : Int) (w : World) : Calls Try.prog 37 #[.pointer none, .int .i64 a, .int .i64 b] w fun e w' => e = .returned (.bool false) ∧ w = w' := by
  go_enter Try.func37, Try.ntmps37
  go_wp2_with (go_at_call 29; refine (has_nil _ _).mono ?_; rintro e w' ⟨rfl, rfl⟩)
  go_ret
  exact ⟨rfl, rfl⟩
set_option maxHeartbeats 4000000 in
theorem same_any (a b : Int) (h : PA w p g n cap S A) : Calls Try.prog 37 #[.pointer (some ⟨p, 0, none⟩), .int .i64 a, .int .i64 b] w fun e w' => e = .returned (.bool (A.sameI a b)) ∧ w = w' := by
  have HA := hide (has_any a h)
  have HB := hide (has_any b h)
  cases ca : A.hasI a
  · rw [show A.sameI a b = false from by simp [Se.sameI, ca]]
    rw [ca] at HA
    clear h ca HB
    go_enter Try.func37, Try.ntmps37
    go_wp2_with (go_at_call 29; refine (unhide HA).mono ?_; rintro e w' ⟨rfl, rfl⟩)
    go_ret
    exact ⟨rfl, rfl⟩
  cases cb : A.hasI b
  · rw [show A.sameI a b = false from by simp [Se.sameI, cb]]
    rw [ca] at HA
    rw [cb] at HB
    clear h ca cb
    go_enter Try.func37, Try.ntmps37
    go_wp2_with fail
    refine (unhide HA).mono ?_
    rintro e w' ⟨rfl, rfl⟩
    go_wp2_with fail
    refine (unhide HB).mono ?_
    rintro e w' ⟨rfl, rfl⟩
    go_wp2
    go_ret
    exact ⟨rfl, rfl⟩
  have FA := hide (find_any a h)
  have FB := hide (find_any b h)
  rw [ca] at HA
  rw [cb] at HB
  obtain ⟨u, rfl, hu⟩ := Se.hasI_true ca
  obtain ⟨v, rfl, hv⟩ := Se.hasI_true cb
  rw [show A.findI u = u + 1 from by simp [Se.findI, ca]] at FA
  rw [show A.findI v = v + 1 from by simp [Se.findI, cb]] at FB
  obtain ⟨r, t⟩ := h.iv.tree hu
  have TA := hide (top_any (u + 1) r _ A.n h.po h.iv.z t.pt t.up t.mem)
  by_cases hm : v ∈ A.seq u
  · rw [show A.sameI u v = true from by simp [Se.sameI, ca, cb, Se.seqI_nat hu, hm]]
    have TB := hide (top_any (v + 1) r _ A.n h.po h.iv.z t.pt t.up (mem_its.2 hm))
    clear h ca cb t hu hv hm
    go_enter Try.func37, Try.ntmps37
    go_wp2_with fail
    refine (unhide HA).mono ?_
    rintro e w' ⟨rfl, rfl⟩
    go_wp2_with fail
    refine (unhide HB).mono ?_
    rintro e w' ⟨rfl, rfl⟩
    go_wp2_with fail
    refine (unhide FA).mono ?_
    rintro e w' ⟨rfl, rfl⟩
    go_wp2_with fail
    refine (unhide TA).mono ?_
    rintro e w' ⟨rfl, rfl⟩
    go_wp2_with fail
    refine (unhide FB).mono ?_
    rintro e w' ⟨rfl, rfl⟩
    go_wp2_with fail
    refine (unhide TB).mono ?_
    rintro e w' ⟨rfl, rfl⟩
    go_wp2
    go_ret
    exact ⟨rfl, rfl⟩
  · rw [show A.sameI u v = false from by simp [Se.sameI, ca, cb, Se.seqI_nat hu, hm]]
    obtain ⟨r', t'⟩ := h.iv.tree hv
    have TB := hide (top_any (v + 1) r' _ A.n h.po h.iv.z t'.pt t'.up t'.mem)
    have hne : r ≠ r' := fun e => by
      have m1 := t.pt.mem t.r0
      have m2 := t'.pt.mem t'.r0
      rw [← e] at m2
      rw [ids_its] at m1 m2
      obtain ⟨x, hx, ex⟩ := List.mem_map.1 m1
      obtain ⟨y, hy, ey⟩ := List.mem_map.1 m2
      have : x = y := by omega
      subst this
      have := one_list h.iv.nd (Se.seq_mem hu).1 (Se.seq_mem hv).1 hx hy
      exact hm (by rw [this]; exact (Se.seq_mem hv).2)
    have hq : ((r : Int) == (r' : Int)) = false := by rw [beq_eq_false_iff_ne]; omega
    clear h ca cb t t' hu hv hm hne
    go_enter Try.func37, Try.ntmps37
    go_wp2_with fail
    refine (unhide HA).mono ?_
    rintro e w' ⟨rfl, rfl⟩
    go_wp2_with fail
    refine (unhide HB).mono ?_
    rintro e w' ⟨rfl, rfl⟩
    go_wp2_with fail
    refine (unhide FA).mono ?_
    rintro e w' ⟨rfl, rfl⟩
    go_wp2_with fail
    refine (unhide TA).mono ?_
    rintro e w' ⟨rfl, rfl⟩
    go_wp2_with fail
    refine (unhide FB).mono ?_
    rintro e w' ⟨rfl, rfl⟩
    go_wp2_with fail
    refine (unhide TB).mono ?_
    rintro e w' ⟨rfl, rfl⟩
    go_wp2
    go_ret
    exact ⟨rfl, rfl⟩

theorem Se.rankI_bd (h : Inv S A) (x : Int) : -1 ≤ A.rankI x ∧ A.rankI x ≤ 4194304 := by
  unfold Se.rankI
  split
  · rename_i hh
    obtain ⟨v, rfl, hv⟩ := Se.hasI_true hh
    have := h.len (Se.seq_mem hv).1
    have := h.n
    have := List.idxOf_le_length (a := v) (l := A.seq v)
    simp only [Int.toNat_natCast]
    omega
  · omega
/-- The places that a span tells. -/
structure Spn (S : Ss) (A : Se) (a b : Int) (u r : Nat) : Prop where
  hu : a = u
  tr : Tree S A u r
  f0 : 0 ≤ A.rankI a
  fe : A.rankI a ≤ A.rankI b
  el : A.rankI b < ((A.seq u).length : Int)
  sq : A.seqI a = A.seq u
  mem : u ∈ A.L.flatten
theorem Inv.span (h : Inv S A) {a b : Int} (ho : A.okR a b = true) : ∃ u r, Spn S A a b u r := by
  simp only [Se.okR, Bool.and_eq_true, decide_eq_true_eq] at ho
  obtain ⟨hs, hr⟩ := ho
  obtain ⟨u, v, rfl, rfl, hu, hv, hm⟩ := Se.sameI_yes hs
  obtain ⟨r, t⟩ := h.tree hu
  have e : A.seq v = A.seq u := h.seq_eq (Se.seq_mem hu).1 hm
  refine ⟨u, r, rfl, t, ?_, hr, ?_, Se.seqI_nat hu, hu⟩
  · rw [Se.rankI, A.hasI_nat, if_pos (by simpa using hu)]; omega
  · rw [Se.rankI, A.hasI_nat, if_pos (by simpa using hv), Int.toNat_natCast, e]
    have := List.idxOf_lt_length_of_mem hm
    omega

set_option maxHeartbeats 4000000 in
theorem span_nil (a b : Int) (w : World) : Calls Try.prog 56 #[.pointer none, .int .i64 a, .int .i64 b] w fun e w' => e = .returned (.tuple #[.int .i64 0, .int .i64 0, .int .i64 0]) ∧ w = w' := by
  go_enter Try.func56, Try.ntmps56
  go_wp2_with (first
    | (go_at_call 33; refine (rank_nil _ _).mono ?_; rintro e w' ⟨rfl, rfl⟩)
    | (go_at_call 37; refine (same_nil _ _ _).mono ?_; rintro e w' ⟨rfl, rfl⟩))
  exact bodyPost_ret (v := .tuple #[.int .i64 0, .int .i64 0, .int .i64 0]) (by simp [results, Try.results56]) rfl ⟨rfl, rfl⟩
set_option maxHeartbeats 4000000 in
theorem span_no (a b : Int) (h : PA w p g n cap S A) (ho : A.okR a b = false) : Calls Try.prog 56 #[.pointer (some ⟨p, 0, none⟩), .int .i64 a, .int .i64 b] w fun e w' => e = .returned (.tuple #[.int .i64 0, .int .i64 0, .int .i64 0]) ∧ Below w.heap.size w w' := by
  have R1 := hide (rank_any a h)
  have R2 := hide (fun W (hW : PA W p g n cap S A) => rank_any b hW)
  have SM := hide (fun W (hW : PA W p g n cap S A) => same_any a b hW)
  obtain ⟨b1, b2⟩ := Se.rankI_bd h.iv a
  obtain ⟨b3', b4⟩ := Se.rankI_bd h.iv b
  have HH := hide h
  simp only [Se.okR, Bool.and_eq_false_iff, decide_eq_false_iff_not] at ho
  clear h
  generalize A.rankI a = ra at *
  generalize A.rankI b = rb at *
  by_cases hc : rb + 1 ≤ ra
  · clear SM ho
    go_enter Try.func56, Try.ntmps56
    go_wp2_with fail
    refine (unhide R1).mono ?_
    rintro e w1 ⟨rfl, hb1⟩
    have H1 := hide (And.intro ((unhide HH).below hb1) hb1)
    clear hb1 R1
    go_wp2_with fail
    refine (unhide R2 _ (unhide H1).1).mono ?_
    rintro e w2 ⟨rfl, hb2⟩
    have H2 := hide ((unhide H1).2.trans (hb2.mono (unhide H1).2.size))
    clear hb2 R2
    go_wp2
    exact bodyPost_ret (v := .tuple #[.int .i64 0, .int .i64 0, .int .i64 0]) (by simp [results, Try.results56]) rfl ⟨rfl, unhide H2⟩
  · have hs : A.sameI a b = false := by
      rcases ho with h' | h'
      · exact h'
      · omega
    rw [hs] at SM
    clear ho hs
    go_enter Try.func56, Try.ntmps56
    go_wp2_with fail
    refine (unhide R1).mono ?_
    rintro e w1 ⟨rfl, hb1⟩
    have H1 := hide (And.intro ((unhide HH).below hb1) hb1)
    clear hb1 R1
    go_wp2_with fail
    refine (unhide R2 _ (unhide H1).1).mono ?_
    rintro e w2 ⟨rfl, hb2⟩
    have H2 := hide (And.intro ((unhide H1).1.below hb2) ((unhide H1).2.trans (hb2.mono (unhide H1).2.size)))
    clear hb2 R2
    go_wp2_with fail
    refine (unhide SM _ (unhide H2).1).mono ?_
    rintro e w' ⟨rfl, rfl⟩
    go_wp2
    exact bodyPost_ret (v := .tuple #[.int .i64 0, .int .i64 0, .int .i64 0]) (by simp [results, Try.results56]) rfl ⟨rfl, (unhide H2).2⟩
set_option maxHeartbeats 4000000 in
theorem span_yes (a b : Int) (u r : Nat) (h : PA w p g n cap S A) (ho : A.okR a b = true) (sp : Spn S A a b u r) : Calls Try.prog 56 #[.pointer (some ⟨p, 0, none⟩), .int .i64 a, .int .i64 b] w fun e w' => e = .returned (.tuple #[.int .i64 (r : Int), .int .i64 (A.rankI a), .int .i64 (A.rankI b + 1)]) ∧ Below w.heap.size w w' := by
  have R1 := hide (rank_any a h)
  have R2 := hide (fun W (hW : PA W p g n cap S A) => rank_any b hW)
  have SM := hide (fun W (hW : PA W p g n cap S A) => same_any a b hW)
  have F := hide (fun W (hW : PA W p g n cap S A) => find_any a hW)
  have T := hide (fun W (hW : PA W p g n cap S A) => top_any (u + 1) r _ A.n hW.po h.iv.z sp.tr.pt sp.tr.up sp.tr.mem)
  obtain ⟨b1, b2⟩ := Se.rankI_bd h.iv a
  obtain ⟨b3', b4⟩ := Se.rankI_bd h.iv b
  rw [show A.findI a = u + 1 from by rw [sp.hu, Se.findI, A.hasI_nat, if_pos (by simpa using sp.mem)]; simp] at F
  have fe := sp.fe
  have hs : A.sameI a b = true := by simp only [Se.okR, Bool.and_eq_true] at ho; exact ho.1
  rw [hs] at SM
  have HH := hide h
  clear h ho sp hs
  generalize A.rankI a = ra at *
  generalize A.rankI b = rb at *
  have hc : ¬ rb + 1 ≤ ra := by omega
  go_enter Try.func56, Try.ntmps56
  go_wp2_with fail
  refine (unhide R1).mono ?_
  rintro e w1 ⟨rfl, hb1⟩
  have H1 := hide (And.intro ((unhide HH).below hb1) hb1)
  clear hb1 R1
  go_wp2_with fail
  refine (unhide R2 _ (unhide H1).1).mono ?_
  rintro e w2 ⟨rfl, hb2⟩
  have H2 := hide (And.intro ((unhide H1).1.below hb2) ((unhide H1).2.trans (hb2.mono (unhide H1).2.size)))
  clear hb2 R2
  go_wp2_with fail
  refine (unhide SM _ (unhide H2).1).mono ?_
  rintro e w' ⟨rfl, rfl⟩
  go_wp2_with fail
  refine (unhide F _ (unhide H2).1).mono ?_
  rintro e w' ⟨rfl, rfl⟩
  go_wp2_with fail
  refine (unhide T _ (unhide H2).1).mono ?_
  rintro e w' ⟨rfl, rfl⟩
  go_wp2
  exact bodyPost_ret (v := .tuple #[.int .i64 (r : Int), .int .i64 ra, .int .i64 (rb + 1)]) (by simp [results, Try.results56]) rfl ⟨rfl, (unhide H2).2⟩
end
end Go.Proofs.Ytkfboficcdiojaa
