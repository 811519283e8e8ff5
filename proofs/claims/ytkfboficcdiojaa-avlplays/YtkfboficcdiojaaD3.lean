import Derived.Test.YtkfboficcdiojaaD2
namespace Go.Proofs.Ytkfboficcdiojaa
open Go.RowKit Go.Arb
set_option linter.unusedVariables false
set_option linter.unusedSimpArgs false

section
variable {w w' : World} {p g n cap : Nat} {S : Ss} {A : Se}
/-- The place of an item, told by its list. -/
theorem idx_of {l : List Nat} {v k : Nat} (hn : l.Nodup) (h : (l.map (· + 1))[k]? = some (v + 1)) : l.idxOf v = k := by
  rw [List.getElem?_map] at h
  cases e : l[k]? with
  | none => rw [e] at h; simp at h
  | some u =>
    rw [e] at h
    simp at h
    subst h
    obtain ⟨hk, e'⟩ := List.getElem?_eq_some_iff.1 e
    rw [← e']
    exact hn.idxOf_getElem k hk
theorem rank_step1 {xl xr zs : List It} {u k t0 : Nat} (nd : Nd S u xl xr zs) (h : (ids xl)[k]? = some t0) : (ids zs)[k]? = some t0 := by
  rw [nd.idl, List.getElem?_append_left (by have := (List.getElem?_eq_some_iff.1 h).1; omega)]; exact h
theorem rank_step2 {xl xr zs : List It} {u k t0 : Nat} (nd : Nd S u xl xr zs) (h : (ids xr)[k]? = some t0) : (ids zs)[k + (xl.length + 1)]? = some t0 := by
  rw [nd.idl, List.getElem?_append_right (by simp [ids]; omega)]
  have : k + (xl.length + 1) - (ids xl).length = k + 1 := by simp [ids]; omega
  rw [this, List.getElem?_cons_succ]; exact h
theorem rank_here {xl xr zs : List It} {u : Nat} (nd : Nd S u xl xr zs) : (ids zs)[xl.length]? = some u := by
  rw [nd.idl, List.getElem?_append_right (by simp [ids])]
  simp [ids]

set_option maxHeartbeats 1000000 in
theorem rank_nil (x : Int) (w : World) : Calls Try.prog 33 #[.pointer none, .int .i64 x] w fun e w' => e = .returned (.int .i64 (-1)) ∧ w = w' := by
  go_enter Try.func33, Try.ntmps33
  go_wp2_with (go_at_call 51; refine (find_nil _ _).mono ?_; rintro e w' ⟨rfl, rfl⟩)
  go_ret
  exact ⟨rfl, rfl⟩
set_option maxRecDepth 100000 in
set_option maxHeartbeats 4000000 in
theorem rank_any (x : Int) (h : PA w p g n cap S A) : Calls Try.prog 33 #[.pointer (some ⟨p, 0, none⟩), .int .i64 x] w fun e w' => e = .returned (.int .i64 (A.rankI x)) ∧ Below w.heap.size w w' := by
  have F := hide (find_any x h)
  cases hh : A.hasI x
  · rw [show A.rankI x = -1 from by simp [Se.rankI, hh]]
    rw [show A.findI x = 0 from by simp [Se.findI, hh]] at F
    clear h hh
    go_enter Try.func33, Try.ntmps33
    go_wp2_with (go_at_call 51; refine (unhide F).mono ?_; rintro e w' ⟨rfl, rfl⟩)
    go_ret
    exact ⟨rfl, Below.refl _ _⟩
  · obtain ⟨v, rfl, hv⟩ := Se.hasI_true hh
    rw [show A.findI v = v + 1 from by simp [Se.findI, hh]] at F
    rw [show A.rankI v = ((A.seq v).idxOf v : Int) from by simp [Se.rankI, hh]]
    obtain ⟨r, t⟩ := h.iv.tree hv
    obtain ⟨k, xs, hs⟩ := Sub.ex t.pt (v + 1) t.mem
    have t0 : v + 1 ≠ 0 := by omega
    have htn := h.ltn hv
    obtain ⟨xl, xr, p1, p2, nd⟩ := (hs.pt t.pt).node t0
    have cl := p1.c h.iv.z
    have hln := p1.lt h.po h.iv.z h.n0
    have CN := hide (fun W (hW : Pool W p g n cap A.n S) u (hu : u < n) => count_any u W p g n cap A.n S hW hu)
    obtain ⟨_, c1, _, _, k1, k2⟩ := h.po.head
    obtain ⟨e0, e1, _⟩ := h.po.slot htn
    have i1 : (0 : Int) ≤ (v : Int) + 1 := by omega
    have i2 : (v : Int) + 1 < (n : Int) := by omega
    have nz : ((v : Int) + 1 == 0) = false := by rw [beq_eq_false_iff_ne]; omega
    have hxl : xl.length ≤ 4194304 := by have := nd.length; have := hs.len; have := t.len; omega
    have CL := hide cl
    have TT := hide (And.intro t (And.intro h.iv.z h.n0))
    have SB := hide (And.intro hs (rank_here nd))
    have LE := hide (And.intro t.len (nodup_flatten h.iv.nd (Se.seq_mem hv).1))
    have HP := hide h.po
    clear h hh hv t nd p1 p2 hs cl
    go_enter Try.func33, Try.ntmps33
    go_wp2_with fail
    refine (unhide F).mono ?_
    rintro e w' ⟨rfl, rfl⟩
    clear F
    go_wp2_with fail
    refine (unhide CN w (unhide HP) _ hln).mono ?_
    rw [unhide CL]
    rintro e w' ⟨rfl, rfl⟩
    go_wp2
    go_loopg [5, 6, 7] k (fun gk a b c w' => ∃ (y kk up : Nat) (l : List It), a = .int .i64 (y : Int) ∧ b = .int .i64 (kk : Int) ∧ c = .int .i64 (up : Int) ∧ Hid (Pool w' p g n cap A.n S ∧ Below w.heap.size w w' ∧ Sub S false r (its A.W (A.seq v)) gk y l ∧ (ids l)[kk]? = some (v + 1) ∧ up = (S y).up ∧ y ≠ 0))
    case atStart => exact ⟨v + 1, xl.length, (S (v + 1)).up, xs, rfl, rfl, rfl, unhide HP, Below.refl _ _, (unhide SB).1, (unhide SB).2, rfl, by omega⟩
    case round =>
      obtain ⟨y, kk, up, l, rfl, rfl, rfl, HK⟩ := hrel
      obtain ⟨hW, hb, hy, hkk, hup, y0⟩ := unhide HK
      obtain ⟨t, z, n0⟩ := unhide TT
      cases gk with
      | zero =>
        have hup0 : up = 0 := by rw [hup, hy.up0 t.up]
        subst hup0
        obtain ⟨_, rfl⟩ := hy
        rw [ids_its] at hkk
        have RR := hide (And.intro (idx_of (unhide LE).2 hkk) hb)
        clear hW hb hkk hup y0 t z n0 HK
        go_wp2
        go_ret
        exact ⟨by rw [(unhide RR).1]; rfl, (unhide RR).2⟩
      | succ j =>
        obtain ⟨u, zs, yl, yr, e1', u0, k0, nd, p1, p2, h1, _, _⟩ := hy.up
        rw [e1'] at hup
        subst hup
        have hun := (t.pt.ltn hW z up (k0.mem t.pt u0))
        have hle := nd.length
        have hsl := k0.len
        have hl4 := (unhide LE).1
        have up1 : ((up : Int) == 0) = false := by rw [beq_eq_false_iff_ne]; omega
        have i3 : (0 : Int) ≤ (up : Int) := by omega
        have i4 : (up : Int) < (n : Int) := by omega
        have hkb := (List.getElem?_eq_some_iff.1 hkk).1
        have hkb' : kk < l.length := by simpa [ids] using hkb
        obtain ⟨_, d1, _⟩ := hW.head
        obtain ⟨v0, v1, v2, _⟩ := hW.slot hun
        rcases h1 with ⟨hb1, hz⟩ | ⟨hb1, hz⟩
        · have hne : (S up).r ≠ y := fun e => by
            have ap := nd.ap (k0.nd t.nd)
            exact ap.lr y (by rw [hb1]; exact p1.mem (by rw [← hb1]; exact y0)) (by rw [← e]; exact p2.mem (by rw [e]; exact y0))
          have hq : (((S up).r : Int) == (y : Int)) = false := by rw [beq_eq_false_iff_ne]; omega
          have NX := hide (And.intro k0 (rank_step1 nd (by rw [← hz]; exact hkk)))
          have WW := hide (And.intro hW hb)
          clear hW hb hkk t z n0 HK nd p1 p2 hy hb1 hz hne e1' hle hsl hl4 hkb
          go_wp2
          go_quiet (fail)
          go_wp2
          go_roundg j
          case rel => exact ⟨up, kk, (S up).up, zs, rfl, rfl, rfl, (unhide WW).1.drewN nq, below_drewN (unhide WW).2 nq, (unhide NX).1, (unhide NX).2, rfl, u0⟩
          all_goals omega
        · have hq : (((S up).r : Int) == (y : Int)) = true := by rw [beq_iff_eq, hb1]
          have hln' := p1.lt hW z n0
          have C2 := hide (unhide CN wr hW _ hln')
          rw [p1.c z] at C2
          have NX := hide (And.intro k0 (rank_step2 nd (by rw [← hz]; exact hkk)))
          have WW := hide (And.intro hW hb)
          have kb1 : (kk : Int) ≤ 4194304 := by rw [hz] at hkb'; omega
          have kb2 : (yl.length : Int) ≤ 4194304 := by omega
          have hyr : (S up).r = y := hb1.symm
          rw [hyr] at v2
          clear hW hb hkk t z n0 HK nd p1 p2 hy hb1 hz e1' hle hsl hl4 hkb hyr hq
          go_wp2_with fail
          refine (unhide C2).mono ?_
          rintro e w' ⟨rfl, rfl⟩
          go_wp2
          go_quiet (fail)
          go_wp2
          go_roundg j
          case rel => exact ⟨up, kk + (yl.length + 1), (S up).up, zs, rfl, by go_num, rfl, (unhide WW).1.drewN nq, below_drewN (unhide WW).2 nq, (unhide NX).1, (unhide NX).2, rfl, u0⟩
          all_goals omega
end
end Go.Proofs.Ytkfboficcdiojaa
