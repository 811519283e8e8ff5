import Derived.Test.YtkfboficcdiojaaC7
namespace Go.Proofs.Ytkfboficcdiojaa
open Go.RowKit Go.Arb
set_option linter.unusedVariables false
set_option linter.unusedSimpArgs false

/-- Behind the first of two turns. -/
structure Half (S S3 : Ss) (m c : Nat) (y1 y2 xs : List It) : Prop where
  hb : Hb S3 m y1 y2
  eq : xs = y1 ++ (m, (S3 m).wt) :: y2
  off : ∀ u, u ∉ ids xs → S3 u = S u
  mh : (S3 m).h = (S c).h + 2

theorem dblR1 (t : Nat) (xl xr : List It) (w : World) (p g n cap room : Nat) (S : Ss) (h : Pool w p g n cap room S) (hb : Hb S t xl xr) (hlen : xl.length + xr.length + 1 ≤ 4194304)
    (h2 : (S (S t).l).h = (S (S t).r).h + 2) (h3 : (S (S (S t).l).l).h < (S (S (S t).l).r).h) :
    Calls Try.prog 81 #[.pointer (some ⟨p, 0, none⟩), .int .i64 ((S t).l : Int)] w fun e w' => ∃ (m : Nat) (S3 : Ss) (y1 y2 : List It), e = .returned (.int .i64 (m : Int)) ∧ Pool w' p g n cap room S3 ∧ Keep [g] w w' ∧ Half S S3 m (S t).r y1 y2 xl ∧ m < n ∧
      (S3 (S3 m).l).h = (S (S t).r).h + 1 ∧ (S3 (S3 m).r).h ≤ (S (S t).r).h ∧ (S (S t).r).h ≤ (S3 (S3 m).r).h + 1 := by
  have a0 : (S t).l ≠ 0 := fun e => by rw [e, hb.z] at h2; simp [Sl.zero] at h2
  obtain ⟨x1, x2, pr⟩ := hb.preR a0
  have han := hb.pl.ltn h hb.z _ (hb.pl.mem a0)
  obtain ⟨g1, g2, g3⟩ := hb.pl.nodeH a0
  have hle : xl.length = x1.length + x2.length + 1 := by rw [pr.eq]; simp; omega
  have ap : Ap S t xl xr := ap_of hb.nd
  have hpl := hb.pl
  generalize ha : (S t).l = a at *
  generalize hS0 : settleS S a = S0 at *
  have sa : S0 a = { S a with wa := 0 } := pr.st.at'
  have hra : (S0 a).r = (S a).r := by rw [sa]
  have hla : (S0 a).l = (S a).l := by rw [sa]
  have ap2 : Ap S0 a x1 x2 := ap_of (by have := ap.nl; rw [pr.eq, ids_append, ids_cons] at this; exact this)
  have p2 := pr.p2
  have p1 := pr.p1
  generalize hm : (S0 a).r = m at *
  have m0 : m ≠ 0 := fun e => by rw [← hra, e, hb.z] at h3; simp [Sl.zero] at h3
  have mx2 := p2.mem m0
  have hmn : m < n := hb.pl.ltn h hb.z m (by rw [pr.eq, ids_append, ids_cons]; simp [mx2])
  have st1 := p2.settle pr.st.z ap2.nr m0
  generalize hS1 : settleS S0 m = S1 at *
  have wm : (S1 m).wa = 0 := by rw [st1.at']
  obtain ⟨y1, y2, r1, r2, nd2, eq2, ap3⟩ := st1.pt.still ap2.nr m0 wm
  have s1a : S1 a = S0 a := st1.off a ap2.tr
  have z1 : S1 0 = S0 0 := by rw [st1.z, pr.st.z]
  have r3 : Pt S1 (S1 a).l x1 := by rw [s1a]; exact p1.frame z1 ap2.nl (fun u hu => st1.off u (ap2.lr u hu))
  have hll : (S1 (S1 a).l).h = (S (S a).l).h := by rw [st1.hh, pr.st.hh, s1a, hla]
  have hm1 : (S1 m).h = (S m).h := by rw [st1.hh, pr.st.hh]
  obtain ⟨i1, i2, i3⟩ := st1.pt.nodeH m0
  rw [← hra] at g1 g2 g3 h3
  have ndd : (ids x1 ++ a :: (ids y1 ++ m :: ids y2)).Nodup := by
    have := ap.nl
    rw [pr.eq, eq2, ids_append, ids_cons, ids_append, ids_cons] at this
    exact this
  have hlen2 : x2.length = y1.length + y2.length + 1 := by rw [eq2]; simp; omega
  have T0 := hide (settle_to (p := p) (g := g) (n := n) (cap := cap) (room := room) hb.z hpl ap.nl (by omega) (by exact pr.a0))
  rw [hS0] at T0
  have T1 := hide (settle_to (p := p) (g := g) (n := n) (cap := cap) (room := room) pr.st.z p2 ap2.nr (by omega) m0)
  rw [hS1] at T1
  refine (turnLeft_any a m x1 y1 y2 w p g n cap room S S0 S1 h (unhide T0) (unhide T1) hm han hmn st1.z (by rw [s1a]; exact pr.wa) wm r3 r1 r2 pr.a0 m0 ndd (by rw [s1a]; exact pr.fa) nd2.fitl.2.2 (by omega) (by omega) (by omega)).mono ?_
  rintro e w' ⟨rfl, S2, S3, q1, q2, q3, q4, q5, q6, q7⟩
  have T := turnedL q3 q4 q5 q6 q7 r2 st1.z m0 (by have := ndd; simpa using this) nd2.fitl.2.2
  have hh := T.hb.h
  rw [T.fl, T.fr, T.hl, T.hr] at hh
  refine ⟨m, S3, _, y2, rfl, q1, q2, ⟨T.hb, ?_, fun u hu => ?_, by omega⟩, hmn, by rw [T.fl, T.hl]; omega, by rw [T.fr, T.hr]; omega, by rw [T.fr, T.hr]; omega⟩
  · rw [pr.eq, eq2, T.wt, s1a]; simp
  · rw [pr.eq, eq2, ids_append, ids_cons, ids_append, ids_cons] at hu
    simp only [List.mem_append, List.mem_cons, not_or] at hu
    rw [T.off u (by rw [ids_append, ids_cons]; simp [hu.1, hu.2.1, hu.2.2.1]) hu.2.2.2.1 hu.2.2.2.2, st1.off u (by rw [eq2, ids_append, ids_cons]; simp [hu.2.2.1, hu.2.2.2.1, hu.2.2.2.2]), pr.st.off u (by rw [pr.eq, eq2, ids_append, ids_cons, ids_append, ids_cons]; simp [hu.1, hu.2.1, hu.2.2.1, hu.2.2.2.1, hu.2.2.2.2])]
/-- The hold between the turns. -/
theorem dblR2 (t m : Nat) (y1 y2 xl xr : List It) (w : World) (p g n cap room : Nat) (S S3 : Ss) (h : Pool w p g n cap room S3) (hb : Hb S t xl xr) (hf : Half S S3 m (S t).r y1 y2 xl) (hlen : xl.length + xr.length + 1 ≤ 4194304) (htn : t < n) (hmn : m < n) (hrn : (S t).r < n) :
    (Calls Try.prog 70 #[.pointer (some ⟨p, 0, none⟩), .int .i64 (t : Int), .int .i64 (m : Int), .int .i64 ((S t).r : Int)] w fun e w' => e = .returned (.tuple #[]) ∧ Pool w' p g n cap room (holdS S3 t m (S t).r) ∧ Keep [g] w w') ∧ MidR S S3 (holdS S3 t m (S t).r) t m y1 y2 xr := by
  have ap : Ap S t xl xr := ap_of hb.nd
  have subm : m ∈ ids xl := by rw [hf.eq, ids_append, ids_cons]; simp
  have mt : m ≠ t := fun e => ap.tl (e ▸ subm)
  have ct := hb.pr.top_ne hb.ne ap.tr
  have z3 : S3 0 = S 0 := by rw [hf.hb.z, hb.z]
  have c3 : S3 (S t).r = S (S t).r := by
    by_cases e0 : (S t).r = 0
    · rw [e0, z3]
    · exact hf.off _ (fun hx => ap.lr _ hx (hb.pr.mem e0))
  have t3 : S3 t = S t := hf.off t ap.tl
  have hr := hb.pr.h_le hb.z
  have hbh := hf.hb.h
  have hl1 := hf.mh
  refine ⟨hold_weak t m (S t).r xl xr w p g n cap room S3 h htn hmn hrn mt ct (fun _ e => ?_) ?_ (by rw [c3]; exact hb.pr.sm hb.z) hb.pl.fit hb.pr.fit ?_ (by rw [c3]; omega) (by rw [t3]; exact hb.ft) hlen, hb.midR hf.hb hf.eq hf.off (holdw_ok hb.ne mt ct)⟩
  · by_cases e0 : (S t).r = 0
    · exact hf.hb.ne (e.trans e0)
    · exact ap.lr m subm (e ▸ hb.pr.mem e0)
  · rw [hf.hb.sm, ← hf.eq]
  · have : (S (S t).r).h ≤ xr.length := hr
    have : 1 ≤ xl.length := by rw [hf.eq]; simp; omega
    omega
/-- The second turn. -/
theorem dblR3 (t m : Nat) (y1 y2 xl xr : List It) (w : World) (p g n cap room : Nat) (S S3 S4 : Ss) (h : Pool w p g n cap room S4) (hb : Hb S t xl xr) (hf : Half S S3 m (S t).r y1 y2 xl) (md : MidR S S3 S4 t m y1 y2 xr) (hlen : xl.length + xr.length + 1 ≤ 4194304) (htn : t < n) (hmn : m < n)
    (h2 : (S (S t).l).h = (S (S t).r).h + 2) (k1 : (S3 (S3 m).l).h = (S (S t).r).h + 1) (k2 : (S3 (S3 m).r).h ≤ (S (S t).r).h) (k3 : (S (S t).r).h ≤ (S3 (S3 m).r).h + 1) :
    Calls Try.prog 82 #[.pointer (some ⟨p, 0, none⟩), .int .i64 (t : Int)] w fun e w' => ∃ (t' : Nat) (S' : Ss), e = .returned (.int .i64 (t' : Int)) ∧ Pool w' p g n cap room S' ∧ Keep [g] w w' ∧ Bal S S' t t' (xl ++ (t, (S t).wt) :: xr) := by
  have hle : xl.length = y1.length + y2.length + 1 := by rw [hf.eq]; simp; omega
  refine (turnRight_any t m y1 y2 xr w p g n cap room S4 S4 S4 h (settle_none htn md.wt) (settle_none hmn md.wa) md.tl htn hmn md.z md.wt md.wa md.p1 md.p2 md.p3 hb.ne hf.hb.ne md.nd md.ft md.fa (by omega) (by rw [md.h2, md.h3]; omega) (by rw [md.h2, md.h3]; omega)).mono ?_
  rintro e w' ⟨rfl, S5, S6, q1, q2, q3, q4, q5, q6, q7⟩
  have T := turnedR q3 q4 q5 q6 q7 md.p1 md.z hf.hb.ne md.nd md.fa
  refine ⟨m, S6, rfl, q1, q2, ?_⟩
  have hh := T.hb.h
  have i1 := md.h1
  have i2 := md.h2
  have i3 := md.h3
  rw [T.fl, T.fr, T.hl, T.hr] at hh
  have Q := T.hb.pt (by rw [T.fl, T.fr, T.hl, T.hr]; omega) (by rw [T.fl, T.fr, T.hl, T.hr]; omega)
  have eqx : xl ++ (t, (S t).wt) :: xr = y1 ++ (m, (S6 m).wt) :: (y2 ++ (t, (S4 t).wt) :: xr) := by rw [hf.eq, T.wt, md.wtm, md.wtt]; simp
  have hbh := hb.h
  refine ⟨by rw [eqx]; exact Q, hf.hb.ne, by omega, by omega, fun u hu => ?_, T.hb.z⟩
  rw [eqx, ids_append, ids_cons] at hu
  simp only [List.mem_append, List.mem_cons, not_or] at hu
  rw [T.off u hu.1 hu.2.1 hu.2.2]
  have hu2 := hu.2.2
  rw [ids_append, ids_cons] at hu2
  simp only [List.mem_append, List.mem_cons, not_or] at hu2
  exact md.off u hu.1 hu.2.1 hu2.1 hu2.2.1 hu2.2.2

theorem dblL1 (t : Nat) (xl xr : List It) (w : World) (p g n cap room : Nat) (S : Ss) (h : Pool w p g n cap room S) (hb : Hb S t xl xr) (hlen : xl.length + xr.length + 1 ≤ 4194304)
    (h2 : (S (S t).r).h = (S (S t).l).h + 2) (h3 : (S (S (S t).r).r).h < (S (S (S t).r).l).h) :
    Calls Try.prog 82 #[.pointer (some ⟨p, 0, none⟩), .int .i64 ((S t).r : Int)] w fun e w' => ∃ (m : Nat) (S3 : Ss) (y1 y2 : List It), e = .returned (.int .i64 (m : Int)) ∧ Pool w' p g n cap room S3 ∧ Keep [g] w w' ∧ Half S S3 m (S t).l y1 y2 xr ∧ m < n ∧
      (S3 (S3 m).r).h = (S (S t).l).h + 1 ∧ (S3 (S3 m).l).h ≤ (S (S t).l).h ∧ (S (S t).l).h ≤ (S3 (S3 m).l).h + 1 := by
  have a0 : (S t).r ≠ 0 := fun e => by rw [e, hb.z] at h2; simp [Sl.zero] at h2
  obtain ⟨x1, x2, pr⟩ := hb.preL a0
  have han := hb.pr.ltn h hb.z _ (hb.pr.mem a0)
  obtain ⟨g1, g2, g3⟩ := hb.pr.nodeH a0
  have hle : xr.length = x1.length + x2.length + 1 := by rw [pr.eq]; simp; omega
  have ap : Ap S t xl xr := ap_of hb.nd
  have hpl := hb.pr
  generalize ha : (S t).r = a at *
  generalize hS0 : settleS S a = S0 at *
  have sa : S0 a = { S a with wa := 0 } := pr.st.at'
  have hra : (S0 a).r = (S a).r := by rw [sa]
  have hla : (S0 a).l = (S a).l := by rw [sa]
  have ap2 : Ap S0 a x1 x2 := ap_of (by have := ap.nr; rw [pr.eq, ids_append, ids_cons] at this; exact this)
  have p2 := pr.p2
  have p1 := pr.p3
  generalize hm : (S0 a).l = m at *
  have m0 : m ≠ 0 := fun e => by rw [← hla, e, hb.z] at h3; simp [Sl.zero] at h3
  have mx2 := p2.mem m0
  have hmn : m < n := hb.pr.ltn h hb.z m (by rw [pr.eq, ids_append]; simp [mx2])
  have st1 := p2.settle pr.st.z ap2.nl m0
  generalize hS1 : settleS S0 m = S1 at *
  have wm : (S1 m).wa = 0 := by rw [st1.at']
  obtain ⟨y1, y2, r1, r2, nd2, eq2, ap3⟩ := st1.pt.still ap2.nl m0 wm
  have s1a : S1 a = S0 a := st1.off a ap2.tl
  have z1 : S1 0 = S0 0 := by rw [st1.z, pr.st.z]
  have r3 : Pt S1 (S1 a).r x2 := by rw [s1a]; exact p1.frame z1 ap2.nr (fun u hu => st1.off u (fun hx => ap2.lr u hx hu))
  have hll : (S1 (S1 a).r).h = (S (S a).r).h := by rw [st1.hh, pr.st.hh, s1a, hra]
  have hm1 : (S1 m).h = (S m).h := by rw [st1.hh, pr.st.hh]
  obtain ⟨i1, i2, i3⟩ := st1.pt.nodeH m0
  rw [← hla] at g1 g2 g3 h3
  have ndd : (ids y1 ++ m :: (ids y2 ++ a :: ids x2)).Nodup := by
    have := ap.nr
    rw [pr.eq, eq2, ids_append, ids_cons, ids_append, ids_cons] at this
    simpa using this
  have hlen2 : x1.length = y1.length + y2.length + 1 := by rw [eq2]; simp; omega
  have T0 := hide (settle_to (p := p) (g := g) (n := n) (cap := cap) (room := room) hb.z hpl ap.nr (by omega) (by exact pr.a0))
  rw [hS0] at T0
  have T1 := hide (settle_to (p := p) (g := g) (n := n) (cap := cap) (room := room) pr.st.z p2 ap2.nl (by omega) m0)
  rw [hS1] at T1
  refine (turnRight_any a m y1 y2 x2 w p g n cap room S S0 S1 h (unhide T0) (unhide T1) hm han hmn st1.z (by rw [s1a]; exact pr.wa) wm r1 r2 r3 pr.a0 m0 ndd (by rw [s1a]; exact pr.fa) nd2.fitl.2.2 (by omega) (by omega) (by omega)).mono ?_
  rintro e w' ⟨rfl, S2, S3, q1, q2, q3, q4, q5, q6, q7⟩
  have T := turnedR q3 q4 q5 q6 q7 r1 st1.z m0 ndd nd2.fitl.2.2
  have hh := T.hb.h
  rw [T.fl, T.fr, T.hl, T.hr] at hh
  refine ⟨m, S3, y1, _, rfl, q1, q2, ⟨T.hb, ?_, fun u hu => ?_, by omega⟩, hmn, by rw [T.fr, T.hr]; omega, by rw [T.fl, T.hl]; omega, by rw [T.fl, T.hl]; omega⟩
  · rw [pr.eq, eq2, T.wt, s1a]; simp
  · rw [pr.eq, eq2, ids_append, ids_cons, ids_append, ids_cons] at hu
    simp only [List.mem_append, List.mem_cons, not_or] at hu
    rw [T.off u hu.1.1 hu.1.2.1 (by rw [ids_append, ids_cons]; simp [hu.1.2.2, hu.2.1, hu.2.2]), st1.off u (by rw [eq2, ids_append, ids_cons]; simp [hu.1.1, hu.1.2.1, hu.1.2.2]), pr.st.off u (by rw [pr.eq, eq2, ids_append, ids_cons, ids_append, ids_cons]; simp [hu.1.1, hu.1.2.1, hu.1.2.2, hu.2.1, hu.2.2])]
theorem dblL2 (t m : Nat) (y1 y2 xl xr : List It) (w : World) (p g n cap room : Nat) (S S3 : Ss) (h : Pool w p g n cap room S3) (hb : Hb S t xl xr) (hf : Half S S3 m (S t).l y1 y2 xr) (hlen : xl.length + xr.length + 1 ≤ 4194304) (htn : t < n) (hmn : m < n) (hln : (S t).l < n) :
    (Calls Try.prog 70 #[.pointer (some ⟨p, 0, none⟩), .int .i64 (t : Int), .int .i64 ((S t).l : Int), .int .i64 (m : Int)] w fun e w' => e = .returned (.tuple #[]) ∧ Pool w' p g n cap room (holdS S3 t (S t).l m) ∧ Keep [g] w w') ∧ MidL S S3 (holdS S3 t (S t).l m) t m y1 y2 xl := by
  have ap : Ap S t xl xr := ap_of hb.nd
  have subm : m ∈ ids xr := by rw [hf.eq, ids_append, ids_cons]; simp
  have mt : m ≠ t := fun e => ap.tr (e ▸ subm)
  have ct := hb.pl.top_ne hb.ne ap.tl
  have z3 : S3 0 = S 0 := by rw [hf.hb.z, hb.z]
  have c3 : S3 (S t).l = S (S t).l := by
    by_cases e0 : (S t).l = 0
    · rw [e0, z3]
    · exact hf.off _ (fun hx => ap.lr _ (hb.pl.mem e0) hx)
  have t3 : S3 t = S t := hf.off t ap.tr
  have hr := hb.pl.h_le hb.z
  have hbh := hf.hb.h
  have hl1 := hf.mh
  refine ⟨hold_weak t (S t).l m xl xr w p g n cap room S3 h htn hln hmn ct mt (fun e0 e => ?_) (by rw [c3]; exact hb.pl.sm hb.z) ?_ hb.pl.fit hb.pr.fit (by rw [c3]; omega) ?_ (by rw [t3]; exact hb.ft) hlen, hb.midL hf.hb hf.eq hf.off (holdw_ok hb.ne ct mt)⟩
  · exact ap.lr _ (hb.pl.mem e0) (e ▸ subm)
  · rw [hf.hb.sm, ← hf.eq]
  · have : (S (S t).l).h ≤ xl.length := hr
    have : 1 ≤ xr.length := by rw [hf.eq]; simp; omega
    omega
theorem dblL3 (t m : Nat) (y1 y2 xl xr : List It) (w : World) (p g n cap room : Nat) (S S3 S4 : Ss) (h : Pool w p g n cap room S4) (hb : Hb S t xl xr) (hf : Half S S3 m (S t).l y1 y2 xr) (md : MidL S S3 S4 t m y1 y2 xl) (hlen : xl.length + xr.length + 1 ≤ 4194304) (htn : t < n) (hmn : m < n)
    (h2 : (S (S t).r).h = (S (S t).l).h + 2) (k1 : (S3 (S3 m).r).h = (S (S t).l).h + 1) (k2 : (S3 (S3 m).l).h ≤ (S (S t).l).h) (k3 : (S (S t).l).h ≤ (S3 (S3 m).l).h + 1) :
    Calls Try.prog 81 #[.pointer (some ⟨p, 0, none⟩), .int .i64 (t : Int)] w fun e w' => ∃ (t' : Nat) (S' : Ss), e = .returned (.int .i64 (t' : Int)) ∧ Pool w' p g n cap room S' ∧ Keep [g] w w' ∧ Bal S S' t t' (xl ++ (t, (S t).wt) :: xr) := by
  have hle : xr.length = y1.length + y2.length + 1 := by rw [hf.eq]; simp; omega
  refine (turnLeft_any t m xl y1 y2 w p g n cap room S4 S4 S4 h (settle_none htn md.wt) (settle_none hmn md.wa) md.tr htn hmn md.z md.wt md.wa md.p1 md.p2 md.p3 hb.ne hf.hb.ne md.nd md.ft md.fa (by omega) (by rw [md.h1, md.h2]; omega) (by rw [md.h1, md.h2]; omega)).mono ?_
  rintro e w' ⟨rfl, S5, S6, q1, q2, q3, q4, q5, q6, q7⟩
  have T := turnedL q3 q4 q5 q6 q7 md.p3 md.z hf.hb.ne (by have := md.nd; simpa using this) md.fa
  refine ⟨m, S6, rfl, q1, q2, ?_⟩
  have hh := T.hb.h
  have i1 := md.h1
  have i2 := md.h2
  have i3 := md.h3
  rw [T.fl, T.fr, T.hl, T.hr] at hh
  have Q := T.hb.pt (by rw [T.fl, T.fr, T.hl, T.hr]; omega) (by rw [T.fl, T.fr, T.hl, T.hr]; omega)
  have eqx : xl ++ (t, (S t).wt) :: xr = (xl ++ (t, (S4 t).wt) :: y1) ++ (m, (S6 m).wt) :: y2 := by rw [hf.eq, T.wt, md.wtm, md.wtt]; simp
  have hbh := hb.h
  refine ⟨by rw [eqx]; exact Q, hf.hb.ne, by omega, by omega, fun u hu => ?_, T.hb.z⟩
  rw [eqx, ids_append, ids_cons] at hu
  simp only [List.mem_append, List.mem_cons, not_or] at hu
  rw [T.off u hu.1 hu.2.1 hu.2.2]
  have hu2 := hu.1
  rw [ids_append, ids_cons] at hu2
  simp only [List.mem_append, List.mem_cons, not_or] at hu2
  exact md.off u hu2.2.2 hu.2.1 hu.2.2 hu2.2.1 hu2.1
end Go.Proofs.Ytkfboficcdiojaa
