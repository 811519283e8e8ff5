import Derived.Test.YtkfboficcdiojaaC11
import Derived.Test.YtkfboficcdiojaaK5
namespace Go.Proofs.Ytkfboficcdiojaa
open Go.RowKit Go.Arb
set_option linter.unusedVariables false
set_option linter.unusedSimpArgs false

section
variable {S S1 S2 S3 S4 : Ss} {t f r t' : Nat} {xs xl xr ys : List It}
theorem Bh.fin (st : Settled S S1 t xs) (p2 : Pt S1 (S1 t).r xr) (nd : Nd S1 t xl xr xs) (eq : xs = xl ++ (t, (S1 t).wt) :: xr) (ap : Ap S1 t xl xr) (b : Bh S1 S2 (S1 t).l f r ys xl) :
    Pt S2 (S1 t).r xr ∧ Ap S2 t ys xr ∧ S2 t = S1 t ∧ (S2 (S1 t).r).h = (S1 (S1 t).r).h := by
  have sub : ∀ u ∈ ids ys, u ∈ ids xl := fun u hu => by rw [b.eq, ids_cons]; simp [hu]
  have q := p2.frame (S' := S2) (by rw [b.z, st.z]) ap.nr (fun u hu => b.off u (fun hx => ap.lr u hx hu))
  have nl := ap.nl
  rw [b.eq, ids_cons, List.nodup_cons] at nl
  refine ⟨q, ⟨nl.2, ap.nr, fun hx => ap.tl (sub t hx), ap.tr, fun u hu => ap.lr u (sub u hu)⟩, b.off t ap.tl, ?_⟩
  by_cases e0 : (S1 t).r = 0
  · rw [e0, b.z, st.z]
  · rw [b.off _ (fun hx => ap.lr _ hx (p2.mem e0))]
theorem Bh.done (st : Settled S S1 t xs) (p2 : Pt S1 (S1 t).r xr) (nd : Nd S1 t xl xr xs) (eq : xs = xl ++ (t, (S1 t).wt) :: xr) (ap : Ap S1 t xl xr) (b : Bh S1 S2 (S1 t).l f r ys xl) (hd : Held S2 S3 t r (S1 t).r ys xr)
    (ba : Bal S3 S4 t t' (ys ++ (t, (S3 t).wt) :: xr)) (bh : (S3 (S3 t).l).h ≤ (S3 (S3 t).r).h + 1 → (S3 (S3 t).r).h ≤ (S3 (S3 t).l).h + 1 → (S4 t').h = (S3 t).h) : Bh S S4 t f t' (ys ++ (t, (S3 t).wt) :: xr) xs := by
  obtain ⟨q, ap2, e1, e2⟩ := Bh.fin st p2 nd eq ap b
  have el := b.pt.top_ne nd.ne ap2.tl
  have er := q.top_ne nd.ne ap2.tr
  rw [hd.fl, hd.fr, hd.hs _ el, hd.hs _ er, e2] at bh
  have hdh := hd.h
  rw [e2] at hdh
  have g1 := nd.h
  have g2 := nd.b1
  have g3 := nd.b2
  have gh := st.hh t
  have l1 := b.lo
  have l2 := b.hi
  have l3 := ba.lo
  have l4 := ba.hi
  have fl : f ∈ ids xl := by rw [b.eq, ids_cons]; simp
  have fy : f ∉ ids ys := by
    have := ap.nl
    rw [b.eq, ids_cons, List.nodup_cons] at this
    exact this.1
  have ft : f ≠ t := fun e => ap.tl (e ▸ fl)
  have fr : f ∉ ids xr := ap.lr f fl
  have sf : S4 f = S2 f := by
    rw [ba.off f (by rw [ids_append, ids_cons]; simp [fy, ft, fr]), hd.off f ft fy fr]
  refine ⟨?_, ba.pt, by rw [sf]; exact b.wa, ?_, ?_, fun u hu => ?_, ba.z, b.f0⟩
  · rw [sf, eq, b.eq, hd.wt, e1]; simp
  · by_cases c1 : (S2 r).h ≤ (S1 (S1 t).r).h + 1
    · by_cases c2 : (S1 (S1 t).r).h ≤ (S2 r).h + 1
      · have := bh c1 c2; omega
      · omega
    · omega
  · by_cases c1 : (S2 r).h ≤ (S1 (S1 t).r).h + 1
    · by_cases c2 : (S1 (S1 t).r).h ≤ (S2 r).h + 1
      · have := bh c1 c2; omega
      · omega
    · omega
  · have hu' := hu
    rw [eq, ids_append, ids_cons] at hu
    simp only [List.mem_append, List.mem_cons, not_or] at hu
    have hy : u ∉ ids ys := fun hx => hu.1 (by rw [b.eq, ids_cons]; simp [hx])
    rw [ba.off u (by rw [ids_append, ids_cons]; simp [hy, hu.2.1, hu.2.2]), hd.off u hu.2.1 hy hu.2.2, b.off u hu.1, st.off u hu']
end

def BeheadTo (p g n cap room : Nat) (t : Nat) (S : Ss) (xs : List It) : Prop := ∀ W, Pool W p g n cap room S → Calls Try.prog 52 #[.pointer (some ⟨p, 0, none⟩), .int .i64 (t : Int)] W fun e w' => ∃ (f r : Nat) (ys : List It) (S' : Ss), e = .returned (.tuple #[.int .i64 (f : Int), .int .i64 (r : Int)]) ∧ Pool w' p g n cap room S' ∧ Keep [g] W w' ∧ Bh S S' t f r ys xs

set_option maxRecDepth 100000 in
set_option maxHeartbeats 4000000 in
theorem behead_any (p g n cap room : Nat) (n0 : 0 < n) : ∀ (k t : Nat) (xs : List It) (S : Ss), (S t).h ≤ k → Z S → Pt S t xs → (ids xs).Nodup → t ≠ 0 → xs.length ≤ 4194304 → BeheadTo p g n cap room t S xs := by
  intro k
  induction k with
  | zero =>
    intro t xs S hk z hp nd t0
    exact absurd ((hp.h0 z).1 (by omega)) t0
  | succ k ih =>
    intro t xs S hk z hp ndx t0 hlen w h
    have htn := hp.ltn h z t (hp.mem t0)
    have i1 : (0 : Int) ≤ (t : Int) := by omega
    have i2 : (t : Int) < (n : Int) := by omega
    have st := hp.settle z ndx t0
    have T := hide (settle_to (p := p) (g := g) (n := n) (cap := cap) (room := room) z hp ndx hlen t0)
    generalize settleS S t = S1 at *
    have wt : (S1 t).wa = 0 := by rw [st.at']
    obtain ⟨xl, xr, p1, p2, nd, eq, ap⟩ := st.pt.still ndx t0 wt
    have hle : xs.length = xl.length + xr.length + 1 := by rw [eq]; simp; omega
    have HP := hide h
    have g1 := nd.h
    have g2 := nd.b1
    have g3 := nd.b2
    have gh := st.hh t
    by_cases l0 : (S1 t).l = 0
    · have hxl : xl = [] := by rw [l0] at p1; exact p1.of0
      have hz0 : (S1 0).h = 0 := by rw [st.z]; rfl
      have F : Bh S S1 t t (S1 t).r xr xs := ⟨by rw [eq, hxl]; rfl, p2, wt, by omega, by rw [l0] at g1 g3; omega, st.off, st.z, t0⟩
      have FF := hide F
      clear h z hp ndx p1 p2 nd ap F eq st wt hk g1 g2 g3 gh hz0 ih
      go_enter Try.func52, Try.ntmps52
      go_wp2_with fail
      refine (unhide T _ (unhide HP)).mono ?_
      rintro e w1 ⟨rfl, hP, hK⟩
      have K1 := hide hK
      have P2 := hide hP
      clear hP hK T
      obtain ⟨_, c1, _, _, _, _⟩ := (unhide P2).head
      obtain ⟨v0, v1, v2, v3, v4, v5, v6, v7, v8, v9⟩ := (unhide P2).slot htn
      have G1 := hide (Gs.new (unhide P2) (S1 t))
      rw [l0] at v1
      go_wp2
      go_quiet (fail)
      go_wp2
      go_ret2
      refine ⟨t, (S1 t).r, xr, S1, rfl, ?_, ?_, unhide FF⟩
      · have := (unhide G1).po.drewN nq
        rw [l0] at this
        exact this
      · have := (unhide K1).tr ((unhide G1).kp.tr (keep_drewN [g] nq))
        rw [l0] at this
        exact this
    · have I := hide (ih (S1 t).l xl S1 (by omega) st.z p1 ap.nl l0 (by omega))
      have kf : -1099511627776 ≤ (S1 t).wt ∧ (S1 t).wt ≤ 1099511627776 := nd.fitl.2.2
      have HO := hide (fun S2 f r ys (b : Bh S1 S2 (S1 t).l f r ys xl) W (hW : Pool W p g n cap room S2) => hold_any t r (S1 t).r ys xr W p g n cap room S2 hW b.z b.pt (Bh.fin st p2 nd eq ap b).1 t0 htn (Bh.fin st p2 nd eq ap b).2.1 (by rw [(Bh.fin st p2 nd eq ap b).2.2.1]; exact kf) (by have : xl.length = ys.length + 1 := (by rw [b.eq]; simp); omega))
      have HD := hide (fun S2 f r ys (b : Bh S1 S2 (S1 t).l f r ys xl) => hold_ok b.pt (Bh.fin st p2 nd eq ap b).1 b.z t0 (Bh.fin st p2 nd eq ap b).2.1 (by rw [(Bh.fin st p2 nd eq ap b).2.2.1]; exact wt))
      have BA := hide (fun S2 S3 f r ys (b : Bh S1 S2 (S1 t).l f r ys xl) (hd : Held S2 S3 t r (S1 t).r ys xr) W (hW : Pool W p g n cap room S3) => by
        have bf := Bh.fin st p2 nd eq ap b
        have hb := hd.hb t0 b.pt bf.1 bf.2.1 (by rw [bf.2.2.1]; exact kf)
        have el := b.pt.top_ne t0 bf.2.1.tl
        have er := bf.1.top_ne t0 bf.2.1.tr
        have j1 := b.lo
        have j2 := b.hi
        have e2 := bf.2.2.2
        exact balance_any t ys xr W p g n cap room S3 hW hb (by have : xl.length = ys.length + 1 := (by rw [b.eq]; simp); omega) htn (by rw [hd.fl, hd.fr, hd.hs _ el, hd.hs _ er, e2]; omega) (by rw [hd.fl, hd.fr, hd.hs _ el, hd.hs _ er, e2]; omega))
      have FIN := hide (fun S2 S3 S4 f r t' ys (b : Bh S1 S2 (S1 t).l f r ys xl) hd ba bh => Bh.done (S3 := S3) (S4 := S4) (t' := t') st p2 nd eq ap b hd ba bh)
      have l0' : (((S1 t).l : Int) == 0) = false := by rw [beq_eq_false_iff_ne]; omega
      clear h z hp ndx p1 p2 nd ap eq st wt hk g1 g2 g3 gh ih hle kf
      go_enter Try.func52, Try.ntmps52
      go_wp2_with fail
      refine (unhide T _ (unhide HP)).mono ?_
      rintro e w1 ⟨rfl, hP, hK⟩
      have K1 := hide hK
      have P2 := hide hP
      clear hP hK T
      obtain ⟨_, c1, _, _, _, _⟩ := (unhide P2).head
      obtain ⟨v0, v1, v2, v3, v4, v5, v6, v7, v8, v9⟩ := (unhide P2).slot htn
      have G1 := hide (Gs.new (unhide P2) (S1 t))
      go_wp2_with fail
      clear v0 v1 v2 v3 v4 v5 v6 v7 v8 v9 c1
      refine (unhide I _ (unhide G1).po).mono ?_
      rintro e w3 ⟨f, r, ys, S2, rfl, hP, hK, hj⟩
      have G2 := hide ((unhide G1).step hK hP)
      have J := hide hj
      obtain ⟨_, s1, s2, _⟩ := (unhide G2).b
      clear hP hK hj I G1
      go_wp2_with fail
      refine (unhide HO S2 f r ys (unhide J) _ (unhide G2).po).mono ?_
      rintro e w4 ⟨rfl, hP, hK⟩
      have D := hide (unhide HD S2 f r ys (unhide J))
      have G3 := hide ((unhide G2).step hK hP)
      clear hP hK HO HD G2 s1 s2
      generalize holdS S2 t r (S1 t).r = S3 at *
      have B := hide (unhide BA S2 S3 f r ys (unhide J) (unhide D) _ (unhide G3).po)
      clear BA
      go_wp2_with fail
      refine (unhide B).mono ?_
      rintro e w5 ⟨t', S4, rfl, hP, hK, hB, hh⟩
      have F := hide (And.intro hP (And.intro ((unhide K1).tr ((unhide G3).kp.tr hK)) (And.intro hB hh)))
      clear hP hK hB hh B G3
      go_wp2
      go_ret2
      obtain ⟨f1, f2, f3, f4⟩ := unhide F
      exact ⟨f, t', _, S4, rfl, f1, f2, unhide FIN S2 S3 S4 f r t' ys (unhide J) (unhide D) f3 f4⟩

/-- What settling the way up leaves. -/
structure Ab (S S' : Ss) (r : Nat) (ys : List It) (n t : Nat) (xs : List It) : Prop where
  sub : Sub S' true r ys n t xs
  pt : Pt S' r ys
  z : Z S'
  off : ∀ u, u ∉ ids ys → S' u = S u
  sh : ∀ u, (S' u).h = (S u).h ∧ (S' u).up = (S u).up ∧ (S' u).l = (S u).l ∧ (S' u).r = (S u).r

set_option maxHeartbeats 4000000 in
theorem settleAbove_any (p g n cap room : Nat) (r : Nat) (ys : List It) (hnd : (ids ys).Nodup) (hlen : ys.length ≤ 4194304) : ∀ (k t : Nat) (xs : List It) (S : Ss), Sub S false r ys k t xs → Pt S r ys → Z S → (S r).up = 0 → t ≠ 0 → ∀ W, Pool W p g n cap room S →
    Calls Try.prog 68 #[.pointer (some ⟨p, 0, none⟩), .int .i64 (t : Int)] W fun e w' => e = .returned (.tuple #[]) ∧ ∃ S' xs', Pool w' p g n cap room S' ∧ Keep [g] W w' ∧ Ab S S' r ys k t xs' := by
  intro k
  induction k with
  | zero =>
    intro t xs S hs hp z hu t0 w h
    have htn := hp.ltn h z t (hs.mem hp t0)
    have i1 : (0 : Int) ≤ (t : Int) := by omega
    have i2 : (t : Int) < (n : Int) := by omega
    obtain ⟨_, c1, _, _, k1, k2⟩ := h.head
    obtain ⟨e0, _⟩ := h.slot htn
    rw [hs.up0 hu] at e0
    have HP := hide h
    have FF := hide (show Ab S S r ys 0 t ys from ⟨by obtain ⟨rfl, rfl⟩ := hs; exact ⟨rfl, rfl⟩, hp, z, fun _ _ => rfl, fun _ => ⟨rfl, rfl, rfl, rfl⟩⟩)
    clear h hs hp z hu
    go_enter Try.func68, Try.ntmps68
    go_wp2
    go_end0
    exact ⟨rfl, S, ys, unhide HP, Keep.refl _ _, unhide FF⟩
  | succ k ih =>
    intro t xs S hs hp z hu t0 w h
    have htn := hp.ltn h z t (hs.mem hp t0)
    obtain ⟨u, zs, xl, xr, e1, u0, k0, nd, p1, p2, h1, _, _⟩ := hs.up
    have i1 : (0 : Int) ≤ (t : Int) := by omega
    have i2 : (t : Int) < (n : Int) := by omega
    obtain ⟨_, c1, _, _, k1, k2⟩ := h.head
    obtain ⟨e0, _⟩ := h.slot htn
    rw [e1] at e0
    have u0' : ((u : Int) == 0) = false := by rw [beq_eq_false_iff_ne]; omega
    have HP := hide h
    have I := hide (ih u zs S k0 hp z hu u0 w h)
    have T := hide (fun S' xs' (a : Ab S S' r ys k u xs') => settle_to (p := p) (g := g) (n := n) (cap := cap) (room := room) a.z (a.sub.pt a.pt) (a.sub.nd hnd) (by have := a.sub.len; omega) u0)
    have FIN : Hid (∀ S' xs', Ab S S' r ys k u xs' → ∃ xs'', Ab S (settleS S' u) r ys (k + 1) t xs'') := by
      intro S' xs' a
      have st := (a.sub.pt a.pt).settle a.z (a.sub.nd hnd) u0
      obtain ⟨q1, q2⟩ := a.sub.congr hnd (by rw [st.z, a.z]) st.off (st.hh u) (st.sh u).2.1 st.pt
      obtain ⟨xl', xr', r1, r2, nd', eq', ap'⟩ := st.pt.still (a.sub.nd hnd) u0 (by rw [st.at'])
      have el : (settleS S' u u).l = (S u).l := by rw [(st.sh u).2.2.1, (a.sh u).2.2.1]
      have er : (settleS S' u u).r = (S u).r := by rw [(st.sh u).2.2.2, (a.sh u).2.2.2]
      have hoff : ∀ v, v ∉ ids ys → settleS S' u v = S v := fun v hv => by rw [st.off v (fun hx => hv (a.sub.sub v hx)), a.off v hv]
      have hsh : ∀ v, (settleS S' u v).h = (S v).h ∧ (settleS S' u v).up = (S v).up ∧ (settleS S' u v).l = (S v).l ∧ (settleS S' u v).r = (S v).r := fun v => by
        have x1 := st.sh v
        have x2 := a.sh v
        exact ⟨x1.1.trans x2.1, x1.2.1.trans x2.2.1, x1.2.2.1.trans x2.2.2.1, x1.2.2.2.trans x2.2.2.2⟩
      rcases h1 with ⟨rfl, _⟩ | ⟨rfl, _⟩
      · exact ⟨xl', ⟨u, xs', xl', xr', q1, nd', r1, r2, .inl ⟨el.symm, rfl⟩, t0, fun _ => by rw [st.at']⟩, q2, st.z, hoff, hsh⟩
      · exact ⟨xr', ⟨u, xs', xl', xr', q1, nd', r1, r2, .inr ⟨er.symm, rfl⟩, t0, fun _ => by rw [st.at']⟩, q2, st.z, hoff, hsh⟩
    clear h hs hp z hu nd p1 p2 h1 k0 ih e1
    go_enter Try.func68, Try.ntmps68
    go_wp2_with fail
    refine (unhide I).mono ?_
    rintro e w1 ⟨rfl, S', xs', hP, hK, ha⟩
    have A := hide ha
    have K1 := hide hK
    have T' := hide (unhide T S' xs' ha w1 hP)
    clear hP hK ha I T
    go_wp2_with fail
    refine (unhide T').mono ?_
    rintro e w2 ⟨rfl, hP, hK⟩
    have R := hide (And.intro hP ((unhide K1).tr hK))
    clear hP hK T'
    go_wp2
    go_end0
    obtain ⟨xs'', f⟩ := FIN.out S' xs' (unhide A)
    exact ⟨rfl, _, xs'', (unhide R).1, (unhide R).2, f⟩
end Go.Proofs.Ytkfboficcdiojaa
