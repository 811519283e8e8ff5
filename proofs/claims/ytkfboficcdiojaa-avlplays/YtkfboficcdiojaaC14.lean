import Derived.Test.YtkfboficcdiojaaC13
namespace Go.Proofs.Ytkfboficcdiojaa
open Go.RowKit Go.Arb
set_option linter.unusedVariables false
set_option linter.unusedSimpArgs false

set_option maxRecDepth 100000 in
set_option maxHeartbeats 4000000 in
theorem cut_any (t r : Nat) (ys : List It) (w : World) (p g n cap room : Nat) (S : Ss) (h : Pool w p g n cap room S) (z : Z S) (hp : Pt S r ys) (hnd : (ids ys).Nodup) (hu : (S r).up = 0) (hm : t ∈ ids ys) (hlen : ys.length ≤ 4194304) :
    Calls Try.prog 50 #[.pointer (some ⟨p, 0, none⟩), .int .i64 (t : Int)] w fun e w' => e = .returned (.tuple #[]) ∧ ∃ S' a b xa xb, Pool w' p g n cap room S' ∧ Keep [g] w w' ∧ Cut S S' ys t a b xa xb := by
  obtain ⟨k, xs0, hs⟩ := Sub.ex hp t hm
  have t0 : t ≠ 0 := hp.ne0 t hm
  have htn := hp.ltn h z t hm
  have n0 : 0 < n := by omega
  have i1 : (0 : Int) ≤ (t : Int) := by omega
  have i2 : (t : Int) < (n : Int) := by omega
  have A := hide (settleAbove_any p g n cap room r ys hnd hlen k t xs0 S hs hp z hu t0 w h)
  have T := hide (fun S' xs' (a : Ab S S' r ys k t xs') => settle_to (p := p) (g := g) (n := n) (cap := cap) (room := room) a.z (a.sub.pt a.pt) (a.sub.nd hnd) (by have := a.sub.len; omega) t0)
  -- behind the two settlings
  have M : Hid (∀ S' xs', Ab S S' r ys k t xs' → ∃ xl xr, Sub (settleS S' t) true r ys k t xs' ∧ Pt (settleS S' t) r ys ∧ Z (settleS S' t) ∧ (∀ u, u ∉ ids ys → settleS S' t u = S u) ∧ (settleS S' t t).wa = 0 ∧ Pt (settleS S' t) (settleS S' t t).l xl ∧ Pt (settleS S' t) (settleS S' t t).r xr ∧ Nd (settleS S' t) t xl xr xs' ∧ xs' = xl ++ (t, (settleS S' t t).wt) :: xr ∧ Ap (settleS S' t) t xl xr ∧ (settleS S' t r).up = 0) := by
    intro S' xs' a
    have st := (a.sub.pt a.pt).settle a.z (a.sub.nd hnd) t0
    obtain ⟨q1, q2⟩ := a.sub.congr hnd (by rw [st.z, a.z]) st.off (st.hh t) (st.sh t).2.1 st.pt
    obtain ⟨xl', xr', r1, r2, nd', eq', ap'⟩ := st.pt.still (a.sub.nd hnd) t0 (by rw [st.at'])
    exact ⟨xl', xr', q1, q2, st.z, fun v hv => by rw [st.off v (fun hx => hv (a.sub.sub v hx)), a.off v hv], by rw [st.at'], r1, r2, nd', eq', ap', by rw [(st.sh r).2.1, (a.sh r).2.1, hu]⟩
  have HND := hide (And.intro hnd (And.intro hlen (fun u hu => hp.ltn h z u hu)))
  clear h z hp hnd hu hm hs hlen
  go_enter Try.func50, Try.ntmps50
  go_wp2_with fail
  refine (unhide A).mono ?_
  rintro e w1 ⟨rfl, S', xs', hP, hK, ha⟩
  have K1 := hide hK
  have T1 := hide (unhide T S' xs' ha w1 hP)
  obtain ⟨xl, xr, m1, m2, m3, m4, m5, m6, m7, m8, m9, m10, m11⟩ := M.out S' xs' ha
  clear hP hK ha A T M
  generalize settleS S' t = S2 at *
  go_wp2_with fail
  refine (unhide T1).mono ?_
  rintro e w2 ⟨rfl, hP, hK⟩
  have K2 := hide ((unhide K1).tr hK)
  obtain ⟨_, c1, _, _, k1, k2⟩ := hP.head
  obtain ⟨v0, v1, v2, v3, v4, v5, v6, v7, v8, v9⟩ := hP.slot htn
  have G1 := hide (Gw.new hP (unhide K2) (S2 t)).drew
  clear hP hK T1 K1
  have hln := m6.lt (unhide G1).po m3 n0
  have hle : xs'.length = xl.length + xr.length + 1 := by rw [m9]; simp; omega
  have hsl := m1.len
  have BT := hide (between_any p g n cap room t t0 htn _ 0 (S2 t).r [] xr S2 (Nat.le_refl _) m3 Pt.nil m7 ⟨by simp [ids], m10.nr, by simp [ids], m10.tr, by simp [ids]⟩ m5 m8.fitl.2.2 (by have := (unhide HND).2.1; simp; omega))
  have MM := hide (And.intro m1 (And.intro m2 (And.intro m3 (And.intro m4 (And.intro m6 (And.intro m9 (And.intro m10 m11)))))))
  clear m1 m2 m3 m4 m5 m6 m7 m8 m9 m10 m11 hsl hle
  go_wp2
  obtain ⟨s0, s1, s2, _⟩ := (unhide G1).b.at'
  clear v0 v1 v2 v3 v4 v5 v6 v7 v8 v9 c1
  go_region_held3 (fun w' => w'.cell? ⟨w2.heap.size, 1, none⟩ = some (.int .i64 ((S2 t).l : Int)) ∧ w'.cell? ⟨w2.heap.size, 2, none⟩ = some (.int .i64 ((S2 t).r : Int)))
    (simp [go_sem, *])
    (first
      | (go_at_call 55; refine (unhide BT _ (unhide G1).po).mono ?_; rintro e w3 ⟨b, S3, rfl, hP, hK, hj⟩; have G2 := hide ((unhide G1).step hK hP); have J := hide hj; (obtain ⟨s0', s1', s2', _⟩ := (unhide G2).b.at'); clear hP hK hj BT))
  all_goals
    go_wp2
    go_quiet (fail)
    have G3 := hide ((unhide G2).drewN nq)
    clear G1 G2 s0' s1' s2' s0 s1 s2
    have C0 : Hid (Cu S2 S3 r ys k t xs' (S2 t).l b xl ((t, (S2 t).wt) :: xr) t) := by
      obtain ⟨m1, m2, m3, m4, m6, m9, m10, m11⟩ := unhide MM
      have j := unhide J
      refine ⟨m1, m9, m6.frame (by rw [j.z, m3]) m10.nl (fun u hu => j.off u ?_), j.pt, fun u hu => j.off u ?_, j.z, _, _, rfl⟩
      · rw [List.nil_append, ids_cons]
        simp only [List.mem_cons, not_or]
        exact ⟨fun e => m10.tl (e ▸ hu), m10.lr u hu⟩
      · rw [m9, ids_append] at hu
        simp only [List.mem_append, not_or] at hu
        exact hu.2
    have M0 := hide (And.intro (unhide MM).2.1 (And.intro (unhide MM).2.2.1 (And.intro (unhide MM).2.2.2.1 (unhide MM).2.2.2.2.2.2.2)))
    clear MM J
    go_wp2
    go_loopg [5, 6, 7, 8] k (fun gk a b c d w' => ∃ (ah be bl up : Nat) (zs xa xb : List It) (S : Ss) (x : Sl), a = .int .i64 (ah : Int) ∧ b = .int .i64 (be : Int) ∧ c = .int .i64 (bl : Int) ∧ d = .int .i64 (up : Int) ∧ Hid (Gw w w' p g n cap room S w2.heap.size x ∧ Cu S2 S r ys gk bl zs ah be xa xb t ∧ up = (S2 bl).up))
    case atStart => exact ⟨(S2 t).l, b, t, (S2 t).up, xs', xl, _, S3, S2 t, rfl, rfl, rfl, rfl, unhide G3, unhide C0, rfl⟩
    case round =>
      obtain ⟨ah, be, bl, up, zs, xa, xb, S4, x, rfl, rfl, rfl, rfl, HK⟩ := hrel
      obtain ⟨gw, cu, hup⟩ := unhide HK
      obtain ⟨m2, m3, m4, m11⟩ := unhide M0
      cases gk with
      | zero =>
        have hup0 : up = 0 := by rw [hup, cu.sub.up0 m11]
        subst hup0
        have FF := hide (cu.cut (unhide HND).1 m4)
        have ahn := cu.pa.lt gw.po cu.z n0
        have ben := cu.pb.lt gw.po cu.z n0
        have X1 := hide (crown_any ah wr p g n cap room S4 gw.po ahn)
        have X2 := hide (fun W (hW : Pool W p g n cap room (setUp S4 ah 0)) => crown_any be W p g n cap room _ hW ben)
        have GG := hide gw.kp
        clear gw cu hup HK m2 m3 m4 m11 G3 C0
        go_wp2_with fail
        refine (unhide X1).mono ?_
        rintro e w4 ⟨rfl, hP, hK⟩
        have GG2 := hide ((unhide GG).tr hK)
        have X3 := hide (unhide X2 w4 hP)
        clear hP hK X1 X2
        go_wp2_with fail
        refine (unhide X3).mono ?_
        rintro e w5 ⟨rfl, hP, hK⟩
        have R := hide (And.intro hP ((unhide GG2).tr hK))
        clear hP hK X3
        go_wp2
        go_end0
        exact ⟨rfl, _, ah, be, xa, xb, (unhide R).1, (unhide R).2, unhide FF⟩
      | succ j =>
        obtain ⟨u, vs, yl, yr, e1, u0, k0, nd, p1, p2, h1, bl0, wu⟩ := cu.sub.up
        rw [e1] at hup
        subst hup
        have hvn := k0.nd (unhide HND).1
        have hun : up < n := (unhide HND).2.2 up (k0.mem m2 u0)
        have hvl := k0.len
        have ndl := nd.length
        have hl0 := (unhide HND).2.1
        have up1 : ((up : Int) == 0) = false := by rw [beq_eq_false_iff_ne]; omega
        have i3 : (0 : Int) ≤ (up : Int) := by omega
        have i4 : (up : Int) < (n : Int) := by omega
        have zle : zs.length = xa.length + xb.length := by rw [cu.eq]; simp
        rcases h1 with ⟨hb, hz⟩ | ⟨hb, hz⟩
        · have su := (cu.left (S' := S4) (m := 0) hvn nd k0 p2 hz m3).1
          have ap := (cu.left (S' := S4) (m := 0) hvn nd k0 p2 hz m3).2.1
          have q := (cu.left (S' := S4) (m := 0) hvn nd k0 p2 hz m3).2.2.1
          have FIN := hide (fun S' m => (cu.left (S' := S') (m := m) hvn nd k0 p2 hz m3).2.2.2)
          have WU := hide (wu rfl)
          have B2 := hide (between_any p g n cap room up u0 hun _ be (S2 up).r xb yr S4 (Nat.le_refl _) cu.z cu.pb q ap (by rw [su]; exact wu rfl) (by rw [su]; exact nd.fitl.2.2) (by rw [hz] at zle; omega))
          obtain ⟨_, c1, _, _, _, _⟩ := gw.po.head
          obtain ⟨v0, v1, v2, v3, v4, v5, v6, v7, v8, v9⟩ := gw.po.slot hun
          obtain ⟨f0, f1, f2, f3, f4, f5, f6, f7, f8, f9⟩ := gw.b.soft
          obtain ⟨x0, x1, x2, x3, x4, x5, x6, x7, x8, x9⟩ := gw.b.at'
          have hB := gw.nb
          have hB' := gw.np
          have G4 := hide (gw.put (S4 up))
          have HUP := hide (show (S4 up).up = (S2 up).up from by rw [su])
          rw [← su] at hb B2 FIN WU
          clear gw cu HK m2 m3 m4 m11 G3 C0 su ap q nd p1 p2 hz wu e1 k0 hvn hvl ndl hl0 zle
          generalize hy : S4 up = y at *
          obtain ⟨yu, yl', yr', yh, yw, ya, ⟨yc, ys', ym, yM⟩⟩ := y
          dsimp only at *
          subst hb
          clear hy
          have hbb : ((bl : Int) == (bl : Int)) = true := by simp
          go_wp2_with fail
          refine (unhide B2 _ (unhide G4).po).mono ?_
          rintro e w4 ⟨m, S5, rfl, hP, hK, hj⟩
          have G5 := hide ((unhide G4).step hK hP)
          have J := hide hj
          clear hP hK hj B2 v0 v1 v2 v3 v4 v5 v6 v7 v8 v9 f0 f1 f2 f3 f4 f5 f6 f7 f8 f9 x0 x1 x2 x3 x4 x5 x6 x7 x8 x9 c1 G4
          obtain ⟨s0, _⟩ := (unhide G5).b.at'
          dsimp only at s0
          go_wp2
          go_quiet (fail)
          have G6 := hide ((unhide G5).drewN nq)
          clear s0 G5
          go_wp2
          go_roundg j
          case rel => exact ⟨ah, m, up, yu, vs, xa, _, S5, _, rfl, rfl, rfl, rfl, unhide G6, unhide FIN S5 m (unhide J) (unhide WU), unhide HUP⟩
          all_goals omega
        · have su := (cu.right (S' := S4) (m := 0) hvn nd k0 p1 hz m3).1
          have ap := (cu.right (S' := S4) (m := 0) hvn nd k0 p1 hz m3).2.1
          have q := (cu.right (S' := S4) (m := 0) hvn nd k0 p1 hz m3).2.2.1
          have FIN := hide (fun S' m => (cu.right (S' := S') (m := m) hvn nd k0 p1 hz m3).2.2.2)
          have WU := hide (wu rfl)
          have B2 := hide (between_any p g n cap room up u0 hun _ (S2 up).l ah yl xa S4 (Nat.le_refl _) cu.z q cu.pa ap (by rw [su]; exact wu rfl) (by rw [su]; exact nd.fitl.2.2) (by rw [hz] at zle; omega))
          have hne : (S2 up).l ≠ bl := fun e => by
            have apx := nd.ap hvn
            have e0 : (S2 up).l ≠ 0 := fun e' => bl0 (e.symm.trans e')
            exact apx.lr _ (p1.mem e0) (by rw [e, hb]; exact p2.mem (by rw [← hb]; exact bl0))
          obtain ⟨_, c1, _, _, _, _⟩ := gw.po.head
          obtain ⟨v0, v1, v2, v3, v4, v5, v6, v7, v8, v9⟩ := gw.po.slot hun
          obtain ⟨f0, f1, f2, f3, f4, f5, f6, f7, f8, f9⟩ := gw.b.soft
          obtain ⟨x0, x1, x2, x3, x4, x5, x6, x7, x8, x9⟩ := gw.b.at'
          have hB := gw.nb
          have hB' := gw.np
          have G4 := hide (gw.put (S4 up))
          have HUP := hide (show (S4 up).up = (S2 up).up from by rw [su])
          rw [← su] at hb B2 hne FIN WU
          clear gw cu HK m2 m3 m4 m11 G3 C0 su ap q nd p1 p2 hz wu e1 k0 hvn hvl ndl hl0 zle
          generalize hy : S4 up = y at *
          obtain ⟨yu, yl', yr', yh, yw, ya, ⟨yc, ys', ym, yM⟩⟩ := y
          dsimp only at *
          clear hy hb
          have hbb : ((yl' : Int) == (bl : Int)) = false := by rw [beq_eq_false_iff_ne]; omega
          clear hne
          go_wp2_with fail
          refine (unhide B2 _ (unhide G4).po).mono ?_
          rintro e w4 ⟨m, S5, rfl, hP, hK, hj⟩
          have G5 := hide ((unhide G4).step hK hP)
          have J := hide hj
          clear hP hK hj B2 v0 v1 v2 v3 v4 v5 v6 v7 v8 v9 f0 f1 f2 f3 f4 f5 f6 f7 f8 f9 x0 x1 x2 x3 x4 x5 x6 x7 x8 x9 c1 G4
          obtain ⟨s0, _⟩ := (unhide G5).b.at'
          dsimp only at s0
          go_wp2
          go_quiet (fail)
          have G6 := hide ((unhide G5).drewN nq)
          clear s0 G5
          go_wp2
          go_roundg j
          case rel => exact ⟨m, be, up, yu, vs, _, xb, S5, _, rfl, rfl, rfl, rfl, unhide G6, unhide FIN S5 m (unhide J) (unhide WU), unhide HUP⟩
          all_goals omega
end Go.Proofs.Ytkfboficcdiojaa
