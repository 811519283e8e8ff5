import Derived.Test.YtkfboficcdiojaaD3
namespace Go.Proofs.Ytkfboficcdiojaa
open Go.RowKit Go.Arb
set_option linter.unusedVariables false
set_option linter.unusedSimpArgs false

section
variable {w w' : World} {p g n cap : Nat} {S : Ss} {A : Se}
theorem wt_mem {W : Nat → Int} {l : List Nat} {v : Nat} {c : Int} (h : ((v + 1, c) : It) ∈ its W l) : c = W v := by
  obtain ⟨u, hu, e⟩ := List.mem_map.1 h
  simp at e
  obtain ⟨rfl, rfl⟩ := e
  rfl
set_option maxHeartbeats 1000000 in
theorem get_nil (x : Int) (w : World) : Calls Try.prog 27 #[.pointer none, .int .i64 x] w fun e w' => e = .returned (.tuple #[.int .i64 0, .bool false]) ∧ w = w' := by
  go_enter Try.func27, Try.ntmps27
  go_wp2_with (go_at_call 51; refine (find_nil _ _).mono ?_; rintro e w' ⟨rfl, rfl⟩)
  go_ret2
  exact ⟨rfl, rfl⟩
set_option maxRecDepth 100000 in
set_option maxHeartbeats 4000000 in
theorem get_any (x : Int) (h : PA w p g n cap S A) : Calls Try.prog 27 #[.pointer (some ⟨p, 0, none⟩), .int .i64 x] w fun e w' => e = .returned (.tuple #[.int .i64 (A.getI x), .bool (A.hasI x)]) ∧ w = w' := by
  have F := hide (find_any x h)
  cases hh : A.hasI x
  · rw [show A.getI x = 0 from by simp [Se.getI, hh]]
    rw [show A.findI x = 0 from by simp [Se.findI, hh]] at F
    clear h hh
    go_enter Try.func27, Try.ntmps27
    go_wp2_with (go_at_call 51; refine (unhide F).mono ?_; rintro e w' ⟨rfl, rfl⟩)
    go_ret2
    exact ⟨rfl, rfl⟩
  · obtain ⟨v, rfl, hv⟩ := Se.hasI_true hh
    rw [show A.findI v = v + 1 from by simp [Se.findI, hh]] at F
    rw [show A.getI v = A.W v from by simp [Se.getI, hh]]
    obtain ⟨r, t⟩ := h.iv.tree hv
    obtain ⟨k, xs, hs⟩ := Sub.ex t.pt (v + 1) t.mem
    have t0 : v + 1 ≠ 0 := by omega
    have htn := h.ltn hv
    obtain ⟨xl, xr, p1, p2, nd⟩ := (hs.pt t.pt).node t0
    obtain ⟨_, c1, _, _, k1, k2⟩ := h.po.head
    obtain ⟨e0, _, _, _, e4, _⟩ := h.po.slot htn
    have i1 : (0 : Int) ≤ (v : Int) + 1 := by omega
    have i2 : (v : Int) + 1 < (n : Int) := by omega
    have nz : ((v : Int) + 1 == 0) = false := by rw [beq_eq_false_iff_ne]; omega
    have TT := hide (And.intro t (And.intro h.iv.z h.po))
    have SB := hide (And.intro hs (show ((v + 1, (S (v + 1)).wt) : It) ∈ xs from by rw [nd.eq]; simp))
    clear h hh hv t nd p1 p2 hs
    go_enter Try.func27, Try.ntmps27
    go_wp2_with fail
    refine (unhide F).mono ?_
    rintro e w' ⟨rfl, rfl⟩
    clear F
    go_wp2
    go_loopg [7, 8] k (fun gk a c w' => ∃ (y up : Nat) (ww : Int) (l : List It), a = .int .i64 ww ∧ c = .int .i64 (up : Int) ∧ w' = w ∧ Hid (Sub S false r (its A.W (A.seq v)) gk y l ∧ ((v + 1, ww) : It) ∈ l ∧ up = (S y).up ∧ y ≠ 0))
    case atStart => exact ⟨v + 1, (S (v + 1)).up, _, xs, rfl, rfl, rfl, (unhide SB).1, (unhide SB).2, rfl, by omega⟩
    case round =>
      obtain ⟨y, up, ww, l, rfl, rfl, hw, HK⟩ := hrel
      obtain rfl : w = wr := hw.symm
      obtain ⟨hy, hkk, hup, y0⟩ := unhide HK
      obtain ⟨t, z, hW⟩ := unhide TT
      cases gk with
      | zero =>
        have hup0 : up = 0 := by rw [hup, hy.up0 t.up]
        subst hup0
        obtain ⟨_, rfl⟩ := hy
        have RR := hide (wt_mem hkk)
        clear hW hkk hup y0 t z HK hw
        go_wp2
        go_ret2
        exact ⟨by rw [← unhide RR]; rfl, rfl⟩
      | succ j =>
        obtain ⟨u, zs, yl, yr, e1', u0, k0, nd, p1, p2, h1, _, _⟩ := hy.up
        rw [e1'] at hup
        subst hup
        have hun := (t.pt.ltn hW z up (k0.mem t.pt u0))
        have up1 : ((up : Int) == 0) = false := by rw [beq_eq_false_iff_ne]; omega
        have i3 : (0 : Int) ≤ (up : Int) := by omega
        have i4 : (up : Int) < (n : Int) := by omega
        obtain ⟨v0, _, _, _, _, v5, _⟩ := hW.slot hun
        have hmem : ((v + 1, ww + (S up).wa) : It) ∈ zs := by
          rw [nd.eq]
          rcases h1 with ⟨_, hz⟩ | ⟨_, hz⟩
          · rw [hz] at hkk
            exact List.mem_append_left _ (List.mem_map.2 ⟨_, hkk, rfl⟩)
          · rw [hz] at hkk
            exact List.mem_append_right _ (List.mem_cons_of_mem _ (List.mem_map.2 ⟨_, hkk, rfl⟩))
        have f1 := (hy.pt t.pt).fit _ hkk
        have f2 := (k0.pt t.pt).fit _ hmem
        have f3 := nd.wabd p1 p2
        dsimp only at f1 f2
        have hadd : addV ww (S up).wa = ww + (S up).wa := by rw [addV, if_pos]; simp [addB, fitB, inB]; omega
        have NX := hide (And.intro k0 (And.intro hmem hadd))
        clear hW hkk t z HK nd p1 p2 hy e1' h1 hmem hadd f1 f2 f3 hw k0
        go_wp2_with fail
        refine (heavier_any _ _ _).mono ?_
        rw [(unhide NX).2.2]
        rintro e w' ⟨rfl, rfl⟩
        go_wp2
        go_roundg j
        case rel => exact ⟨up, (S up).up, _, zs, rfl, rfl, rfl, (unhide NX).1, (unhide NX).2.1, rfl, u0⟩
        all_goals omega

set_option maxHeartbeats 1000000 in
theorem at_nil (x k : Int) (w : World) : Calls Try.prog 35 #[.pointer none, .int .i64 x, .int .i64 k] w fun e w' => e = .returned (.int .i64 (-1)) ∧ Below w.heap.size w w' := by
  by_cases h0 : k < 0
  · go_enter Try.func35, Try.ntmps35
    go_wp2
    go_ret
    exact ⟨rfl, Below.refl _ _⟩
  · have h0' : (0 : Int) ≤ k := by omega
    go_enter Try.func35, Try.ntmps35
    go_wp2_with (go_at_call 31; refine (len_nil _ _).mono ?_; rintro e w' ⟨rfl, hb⟩)
    go_ret
    exact ⟨rfl, hb⟩
theorem at_left {xl xr zs : List It} {u k c : Nat} (nd : Nd S u xl xr zs) (hk : k < xl.length) (h : (ids zs)[k]? = some c) : (ids xl)[k]? = some c := by
  rw [nd.idl, List.getElem?_append_left (by simpa [ids] using hk)] at h; exact h
theorem at_right {xl xr zs : List It} {u k c : Nat} (nd : Nd S u xl xr zs) (hk : xl.length < k) (h : (ids zs)[k]? = some c) : (ids xr)[k - (xl.length + 1)]? = some c := by
  rw [nd.idl, List.getElem?_append_right (by simp [ids]; omega)] at h
  have : k - (ids xl).length = (k - (xl.length + 1)) + 1 := by simp [ids]; omega
  rw [this, List.getElem?_cons_succ] at h; exact h
set_option maxRecDepth 100000 in
set_option maxHeartbeats 4000000 in
theorem at_any (x k : Int) (h : PA w p g n cap S A) : Calls Try.prog 35 #[.pointer (some ⟨p, 0, none⟩), .int .i64 x, .int .i64 k] w fun e w' => e = .returned (.int .i64 (A.atI x k)) ∧ Below w.heap.size w w' := by
  by_cases h0 : k < 0
  · rw [show A.atI x k = -1 from by rw [Se.atI, if_neg]; omega]
    clear h
    go_enter Try.func35, Try.ntmps35
    go_wp2
    go_ret
    exact ⟨rfl, Below.refl _ _⟩
  obtain ⟨i, rfl⟩ := Int.eq_ofNat_of_zero_le (by omega : 0 ≤ k)
  have L := hide (len_any x h)
  by_cases h1 : A.lenI x ≤ (i : Int)
  · rw [show A.atI x i = -1 from by rw [Se.atI, if_neg]; omega]
    generalize A.lenI x = len at *
    clear h
    go_enter Try.func35, Try.ntmps35
    go_wp2_with (go_at_call 31; refine (unhide L).mono ?_; rintro e w' ⟨rfl, hb⟩)
    go_ret
    exact ⟨rfl, hb⟩
  · have hpos : 0 < A.lenI x := by omega
    cases hh : A.hasI x
    · rw [Se.lenI, Se.seqI, hh] at hpos; simp at hpos
    obtain ⟨v, rfl, hv⟩ := Se.hasI_true hh
    have hseq := Se.seqI_nat hv
    have hlt : i < (A.seq v).length := by rw [Se.lenI, hseq] at h1; omega
    rw [show A.atI v i = ((A.seq v)[i] : Int) from by rw [Se.atI, if_pos (by omega), hseq]; simp [List.getD_eq_getElem?_getD, hlt]]
    have F := hide (fun W (hW : PA W p g n cap S A) => find_any v hW)
    rw [show A.findI v = v + 1 from by simp [Se.findI, hh]] at F
    obtain ⟨r, t⟩ := h.iv.tree hv
    have T := hide (fun W (hW : PA W p g n cap S A) => top_any (v + 1) r _ A.n hW.po h.iv.z t.pt t.up t.mem)
    have st : (ids (its A.W (A.seq v)))[i]? = some ((A.seq v)[i] + 1) := by rw [ids_its]; simp [hlt]
    have hnx : ((A.seq v)[i] : Int) ≤ 4194304 := by have h2 := h.iv.lt ((A.seq v)[i]) (List.mem_flatten.2 ⟨_, (Se.seq_mem hv).1, List.getElem_mem hlt⟩); have := h.iv.n; omega
    generalize (A.seq v)[i] = c at *
    have ST := hide (And.intro t.pt (And.intro st t.r0))
    have LE := hide t.len
    have HH := hide h
    have h1' : ¬ A.lenI v ≤ (i : Int) := h1
    generalize A.lenI v = len at *
    have CN := hide (fun W (hW : PA W p g n cap S A) u (hu : u < n) => count_any u W p g n cap A.n S hW.po hu)
    clear h hh hv t hseq hlt st h1 hpos
    go_enter Try.func35, Try.ntmps35
    go_wp2_with fail
    refine (unhide L).mono ?_
    rintro e w1 ⟨rfl, hb⟩
    have H1 := hide ((unhide HH).below hb)
    have HB := hide hb
    clear hb L HH
    go_wp2_with (first
      | (go_at_call 51; refine (unhide F _ (unhide H1)).mono ?_; rintro e w' ⟨rfl, rfl⟩)
      | (go_at_call 53; refine (unhide T _ (unhide H1)).mono ?_; rintro e w' ⟨rfl, rfl⟩))
    clear F T
    go_loopg [2, 7] 4194304 (fun gk a b w' => ∃ (y kk : Nat) (l : List It), a = .int .i64 (kk : Int) ∧ b = .int .i64 (y : Int) ∧ w' = w1 ∧ Hid (Pt S y l ∧ (ids l)[kk]? = some (c + 1) ∧ y ≠ 0 ∧ l.length ≤ gk ∧ l.length ≤ 4194304))
    case atStart => exact ⟨r, i, _, rfl, rfl, rfl, (unhide ST).1, (unhide ST).2.1, (unhide ST).2.2, unhide LE, unhide LE⟩
    case round =>
      obtain ⟨y, kk, l, rfl, rfl, hw, HK⟩ := hrel
      obtain rfl : w1 = wr := hw.symm
      obtain ⟨hy, hkk, y0, hlen, hlen2⟩ := unhide HK
      have pa := unhide H1
      have hyn := hy.ltn pa.po pa.iv.z y (hy.mem y0)
      obtain ⟨xl, xr, p1, p2, nd⟩ := hy.node y0
      have hln := p1.lt pa.po pa.iv.z pa.n0
      have C2 := hide (unhide CN w1 pa _ hln)
      rw [p1.c pa.iv.z] at C2
      have hll := nd.length
      obtain ⟨_, c1, _, _, k1, k2⟩ := pa.po.head
      obtain ⟨_, v1, v2, _⟩ := pa.po.slot hyn
      have i3 : (0 : Int) ≤ (y : Int) := by omega
      have i4 : (y : Int) < (n : Int) := by omega
      have kb1 : (xl.length : Int) ≤ 4194304 := by omega
      have kb2 : (kk : Int) ≤ 4194304 := by have := (List.getElem?_eq_some_iff.1 hkk).1; simp [ids] at this; omega
      by_cases ce : kk = xl.length
      · subst ce
        rw [rank_here nd] at hkk
        simp at hkk
        subst hkk
        clear nd p1 p2 hy HK pa hw hlen
        go_wp2_with fail
        refine (unhide C2).mono ?_
        rintro e w' ⟨rfl, rfl⟩
        go_wp2
        go_ret
        exact ⟨rfl, unhide HB⟩
      · have ce1 : ((kk : Int) == (xl.length : Int)) = false := by rw [beq_eq_false_iff_ne]; omega
        by_cases cl : kk < xl.length
        · have cl' : (kk : Int) < (xl.length : Int) := by omega
          have q0 : (S y).l ≠ 0 := fun e => by rw [e] at p1; rw [p1.of0] at cl; simp at cl
          have NX := hide (And.intro p1 (And.intro (at_left nd cl hkk) (And.intro q0 (And.intro (show xl.length ≤ gk - 1 by omega) (show xl.length ≤ 4194304 by omega)))))
          have gk0 : 0 < gk := by omega
          clear nd p1 p2 hy HK pa hw hlen hll hkk q0 ce
          go_wp2_with fail
          refine (unhide C2).mono ?_
          rintro e w' ⟨rfl, rfl⟩
          go_wp2
          go_roundg (gk - 1)
          case rel => exact ⟨_, kk, xl, rfl, rfl, rfl, unhide NX⟩
          all_goals omega
        · have cl' : ¬ (kk : Int) < (xl.length : Int) := by omega
          have hat := at_right nd (by omega) hkk
          have q0 : (S y).r ≠ 0 := fun e => by rw [e] at p2; rw [p2.of0] at hat; simp [ids] at hat
          have NX := hide (And.intro p2 (And.intro hat (And.intro q0 (And.intro (show xr.length ≤ gk - 1 by omega) (show xr.length ≤ 4194304 by omega)))))
          have gk0 : 0 < gk := by omega
          have hki : (kk : Int) - ((xl.length : Int) + 1) = ((kk - (xl.length + 1) : Nat) : Int) := by omega
          have HKI := hide hki
          clear nd p1 p2 hy HK pa hw hlen hll hkk q0 ce hat hki
          go_wp2_with fail
          refine (unhide C2).mono ?_
          rintro e w' ⟨rfl, rfl⟩
          go_wp2
          go_roundg (gk - 1)
          case rel => exact ⟨_, kk - (xl.length + 1), xr, by rw [unhide HKI], rfl, rfl, unhide NX⟩
          all_goals omega
end
end Go.Proofs.Ytkfboficcdiojaa
