/- Part 17 of the texts. -/
import Derived.Test.YtjnkgakajenoaaaS1
import Derived.Test.YtjnkgakajenoaaaS16
namespace Go.Proofs.Ytjnkgakajenoaaa
open Go.RowKit Go.Arb
set_option linter.unusedVariables false
set_option linter.unusedSimpArgs false
def RfAt (w : World) (q : Nat) (T : Tr) (ks : List Nat) : Prop := ∃ bt bu bw n ft fu fw, RIn w q bt bu bw n ft fu fw /\ Says T n ft fu fw /\ ks = [q, bt, bu, bw]
theorem rfits_any' (n : Int) (w : World) : Calls Try.prog 55 #[zi n] w fun r w' => r = .returned (.bool (fitB n)) /\ w = w' := (rfits_any n w).mono fun e w' h => ⟨h.1, h.2.symm⟩
theorem Tr.Wf.same_iff' {T : Tr} (h : T.Wf) {u : Nat} {y : Int} (hu : T.par u ≠ -2) : T.sameI u y = (T.rootI u == T.rootI y) := by
 unfold Tr.sameI
 rw [show (T.rootI u != -1) = true from by simpa using h.root_has hu, Bool.true_and]
set_option maxHeartbeats 1000000 in
theorem rsame_any (x y : Int) (w : World) (q bt bu bw n : Nat) (ft : Nat -> Bool) (fu fw : Nat -> Int) (T : Tr) (h : RIn w q bt bu bw n ft fu fw) (hs : Says T n ft fu fw) :
  Calls Try.prog 44 #[zp q 0, zi x, zi y] w fun e w' => e = .returned (.bool (T.sameI x y)) /\ w = w' := by
 have h1 := hide (rhas_any x w q bt bu bw n ft fu fw T h hs)
 have h2 := hide (rhas_any y w q bt bu bw n ft fu fw T h hs)
 have h3 := hide (rroot_any x w q bt bu bw n ft fu fw T h hs)
 have h4 := hide (rroot_any y w q bt bu bw n ft fu fw T h hs)
 cases hx : T.hasI x
 ·rw [show T.sameI x y = false from by simp [Tr.sameI, Tr.rootI_gone hx]]
  rw [hx] at h1
  clear h hs hx
  go_enter Try.func44, Try.ntmps44
  go_wp2_with fail
  refine (unhide h1).mono ?_
  rintro e w' ⟨rfl, rfl⟩
  go_wp2
  go_ret
  exact ⟨rfl, rfl⟩
 ·obtain ⟨i, rfl, hi⟩ := Tr.hasI_true hx
  rw [hx] at h1
  cases hy : T.hasI y
  ·rw [show T.sameI i y = false from by
    rw [hs.wf.same_iff' hi, Tr.rootI_gone hy]
    exact beq_eq_false_iff_ne.2 (hs.wf.root_has hi)]
   rw [hy] at h2
   clear h hs hx hy hi
   go_enter Try.func44, Try.ntmps44
   go_wp2_with fail
   refine (unhide h1).mono ?_
   rintro e w' ⟨rfl, rfl⟩
   go_wp2_with fail
   refine (unhide h2).mono ?_
   rintro e w' ⟨rfl, rfl⟩
   go_wp2
   go_ret
   exact ⟨rfl, rfl⟩
  ·rw [hy] at h2
   rw [hs.wf.same_iff' hi]
   clear h hs hx hy hi
   generalize T.rootI i = a at *
   generalize T.rootI y = b at *
   go_enter Try.func44, Try.ntmps44
   go_wp2_with fail
   refine (unhide h1).mono ?_
   rintro e w' ⟨rfl, rfl⟩
   go_wp2_with fail
   refine (unhide h2).mono ?_
   rintro e w' ⟨rfl, rfl⟩
   go_wp2_with fail
   refine (unhide h3).mono ?_
   rintro e w' ⟨rfl, rfl⟩
   go_wp2_with fail
   refine (unhide h4).mono ?_
   rintro e w' ⟨rfl, rfl⟩
   go_wp2
   go_ret
   exact ⟨rfl, rfl⟩
theorem Says.cut {T : Tr} {n : Nat} {ft : Nat -> Bool} {fu fw : Nat -> Int} (h : Says T n ft fu fw) {c : Nat} (hc : T.par c ≠ -2) : Says (T.cut c) n ft (updF fu c (-1)) fw := by
 refine ⟨h.nn, fun v hv => ?_, fun v hv => ?_, fun v hv => ?_, h.wf.cut hc, h.fit.cut hc⟩
 ·rw [h.th v hv]
  rw [Bool.eq_iff_iff]
  simp only [bne_iff_ne, ne_eq, Tr.cut_gone hc]
 ·show updF fu c (-1) v = updF T.par c (-1) v
  by_cases e : v = c
  ·subst e; rw [updF_same, updF_same]
  ·rw [updF_other _ _ e, updF_other _ _ e]; exact h.up v (fun e' => hv ((Tr.cut_gone hc).2 e'))
 ·exact h.wt v (fun e' => hv ((Tr.cut_gone hc).2 e'))
theorem Says.link {T : Tr} {n : Nat} {ft : Nat -> Bool} {fu fw : Nat -> Int} (h : Says T n ft fu fw) {c p : Nat} (hc : T.par c = -1) (hp : T.par p ≠ -2) (hr : c ∉ T.up p) : Says (T.link c p) n ft (updF fu c (p : Int)) fw := by
 have hc' : T.par c ≠ -2 := by omega
 refine ⟨h.nn, fun v hv => ?_, fun v hv => ?_, fun v hv => ?_, h.wf.link hc hp hr, h.fit.link hc'⟩
 ·rw [h.th v hv]
  rw [Bool.eq_iff_iff]
  simp only [bne_iff_ne, ne_eq, Tr.link_gone hc']
 ·show updF fu c (p : Int) v = updF T.par c (p : Int) v
  by_cases e : v = c
  ·subst e; rw [updF_same, updF_same]
  ·rw [updF_other _ _ e, updF_other _ _ e]; exact h.up v (fun e' => hv ((Tr.link_gone hc').2 e'))
 ·exact h.wt v (fun e' => hv ((Tr.link_gone hc').2 e'))
theorem Says.set {T : Tr} {n : Nat} {ft : Nat -> Bool} {fu fw : Nat -> Int} (h : Says T n ft fu fw) {c : Nat} {x : Int} (hc : T.par c ≠ -2) (hx : fitB x = true) : Says (T.set c x) n ft fu (updF fw c x) := by
 refine ⟨h.nn, h.th, h.up, fun v hv => ?_, h.wf.set, h.fit.set hc (by simpa [fitB] using hx)⟩
 show updF fw c x v = updF T.wt c x v
 by_cases e : v = c
 ·subst e; rw [updF_same, updF_same]
 ·rw [updF_other _ _ e, updF_other _ _ e]; exact h.wt v hv
theorem Says.add {T : Tr} {n : Nat} {ft : Nat -> Bool} {fu fw : Nat -> Int} (h : Says T n ft fu fw) {c : Nat} {x : Int} (hc : T.par c = -2) (hn : c < n) (hx : fitB x = true) : Says (T.add c x) n (updF ft c true) (updF fu c (-1)) (updF fw c x) := by
 refine ⟨h.nn, fun v hv => ?_, fun v hv => ?_, fun v hv => ?_, h.wf.add hc (by rw [← h.nn]; exact hn), h.fit.add (by simpa [fitB] using hx)⟩
 ·show _ = (updF T.par c (-1) v != -2)
  by_cases e : v = c
  ·subst e; simp [updF]
  ·rw [updF_other _ _ e, updF_other _ _ e]; exact h.th v hv
 ·show updF fu c (-1) v = updF T.par c (-1) v
  have hv' : updF T.par c (-1) v ≠ -2 := hv
  by_cases e : v = c
  ·subst e; rw [updF_same, updF_same]
  ·rw [updF_other _ _ e] at hv' ⊢
   rw [updF_other _ _ e]; exact h.up v hv'
 ·show updF fw c x v = updF T.wt c x v
  have hv' : updF T.par c (-1) v ≠ -2 := hv
  by_cases e : v = c
  ·subst e; rw [updF_same, updF_same]
  ·rw [updF_other _ _ e] at hv' ⊢
   rw [updF_other _ _ e]; exact h.wt v hv'
theorem Says.drop {T : Tr} {n : Nat} {ft : Nat -> Bool} {fu fw : Nat -> Int} (h : Says T n ft fu fw) {c : Nat} (hk : ∀ y, T.par y ≠ (c : Int)) : Says (T.drop c) n (updF ft c false) fu fw := by
 have k : ∀ v, (T.drop c).par v ≠ -2 -> v ≠ c /\ T.par v ≠ -2 := fun v hv => by
  have hv' : updF T.par c (-2) v ≠ -2 := hv
  by_cases e : v = c
  ·subst e; rw [updF_same] at hv'; exact absurd rfl hv'
  ·rw [updF_other _ _ e] at hv'; exact ⟨e, hv'⟩
 refine ⟨h.nn, fun v hv => ?_, fun v hv => ?_, fun v hv => ?_, h.wf.drop hk, h.fit.drop⟩
 ·show _ = (updF T.par c (-2) v != -2)
  by_cases e : v = c
  ·subst e; simp [updF]
  ·rw [updF_other _ _ e, updF_other _ _ e]; exact h.th v hv
 ·show fu v = updF T.par c (-2) v
  rw [updF_other _ _ (k v hv).1]; exact h.up v (k v hv).2
 ·show fw v = updF T.wt c 0 v
  rw [updF_other _ _ (k v hv).1]; exact h.wt v (k v hv).2
theorem turn_congr {u : Nat} : ∀ {l : List Nat} {b : Int} {f g : Nat -> Int}, f u = g u -> turn f b l u = turn g b l u
 | [], _, _, _, h => h
 | v :: l, b, f, g, h => by
  refine turn_congr (l := l) ?_
  by_cases e : u = v
  ·subst e; rw [updF_same, updF_same]
  ·rw [updF_other _ _ e, updF_other _ _ e]; exact h
theorem Says.evert {T : Tr} {n : Nat} {ft : Nat -> Bool} {fu fw : Nat -> Int} (h : Says T n ft fu fw) {c : Nat} (hc : T.par c ≠ -2) : Says (T.evert c) n ft (turn fu (-1) (T.up c)) fw := by
 refine ⟨h.nn, fun v hv => ?_, fun v hv => ?_, fun v hv => ?_, h.wf.evert hc, h.fit.evert h.wf hc⟩
 ·rw [h.th v hv]
  rw [Bool.eq_iff_iff]
  simp only [bne_iff_ne, ne_eq, h.wf.evert_there hc]
 ·exact turn_congr (f := fu) (g := T.par) (h.up v (fun e => hv ((h.wf.evert_there hc).2 e)))
 ·exact h.wt v (fun e => hv ((h.wf.evert_there hc).2 e))
set_option maxHeartbeats 1000000 in
theorem rcut_any (x : Int) (w : World) (q bt bu bw n : Nat) (ft : Nat -> Bool) (fu fw : Nat -> Int) (T : Tr) (h : RIn w q bt bu bw n ft fu fw) (hs : Says T n ft fu fw) :
  Calls Try.prog 24 #[zp q 0, zi x] w fun e w' => e = .returned (.bool (T.cutB x)) /\ ∃ fu', RIn w' q bt bu bw n ft fu' fw /\ Says (T.cutI x) n ft fu' fw /\ Keep [q, bt, bu, bw] w w' := by
 have h1 := hide (rparent_any x w q bt bu bw n ft fu fw T h hs)
 have hn := hs.le
 cases hb : T.cutB x
 ·have hp : T.parI x = -1 := by simpa [Tr.cutB] using hb
  rw [cutI_no hb]
  rw [hp] at h1
  have R := hide (And.intro h hs)
  clear h hs hb hp
  go_enter Try.func24, Try.ntmps24
  go_wp2_with fail
  refine (unhide h1).mono ?_
  rintro e w' ⟨rfl, rfl⟩
  go_wp2
  go_ret
  exact ⟨rfl, fu, (unhide R).1, (unhide R).2, Keep.refl _ _⟩
 ·have hb' : T.parI x ≠ -1 := by simpa [Tr.cutB] using hb
  cases hh : T.hasI x
  ·exact absurd (by simp [Tr.parI, hh]) hb'
  obtain ⟨i, rfl, hi⟩ := Tr.hasI_true hh
  rw [parI_nat hi] at hb' h1
  obtain h3 | ⟨z, hz, _⟩ := hs.wf.par_cases hi
  ·exact absurd h3 hb'
  rw [hz] at h1
  rw [cutI_yes hb, Int.toNat_natCast]
  obtain ⟨c0, c1, c2⟩ := h.cells
  have hlt := hs.lt hi
  have d := h.ru.cell hlt
  have f := h.ru.frozen i
  unfold inV at d
  have R1 := h.setU i (-1)
  have R := hide (And.intro R1.1 (And.intro (hs.cut hi) R1.2))
  generalize fu i = y at *
  have e1 : (0 : Int) <= (i : Int) := by omega
  have e2 : (i : Int) < (n : Int) := by omega
  have e3 : ¬ (z : Int) < 0 := by omega
  clear h hs hb hb' hh hi hz R1
  go_enter Try.func24, Try.ntmps24
  go_wp2_with fail
  refine (unhide h1).mono ?_
  rintro e w' ⟨rfl, rfl⟩
  go_wp2
  go_ret
  exact ⟨rfl, _, (unhide R).1, (unhide R).2.1, (unhide R).2.2⟩
set_option maxHeartbeats 1000000 in
theorem rset_any (x y : Int) (w : World) (q bt bu bw n : Nat) (ft : Nat -> Bool) (fu fw : Nat -> Int) (T : Tr) (h : RIn w q bt bu bw n ft fu fw) (hs : Says T n ft fu fw) :
  Calls Try.prog 28 #[zp q 0, zi x, zi y] w fun e w' => e = .returned (.bool (T.hasI x && fitB y)) /\ ∃ fw', RIn w' q bt bu bw n ft fu fw' /\ Says (T.setI x y) n ft fu fw' /\ Keep [q, bt, bu, bw] w w' := by
 have h1 := hide (rhas_any x w q bt bu bw n ft fu fw T h hs)
 have h2 := hide (rfits_any' y w)
 have hn := hs.le
 cases hb : T.hasI x && fitB y
 ·rw [setI_no hb]
  have R := hide (And.intro h hs)
  clear h hs
  generalize T.hasI x = a at *
  generalize fitB y = b at *
  cases a
  ·clear hb
   go_enter Try.func28, Try.ntmps28
   go_wp2_with fail
   refine (unhide h1).mono ?_
   rintro e w' ⟨rfl, rfl⟩
   go_wp2
   go_ret
   exact ⟨rfl, fw, (unhide R).1, (unhide R).2, Keep.refl _ _⟩
  ·simp at hb
   subst hb
   go_enter Try.func28, Try.ntmps28
   go_wp2_with fail
   refine (unhide h1).mono ?_
   rintro e w' ⟨rfl, rfl⟩
   go_wp2_with fail
   refine (unhide h2).mono ?_
   rintro e w' ⟨rfl, rfl⟩
   go_wp2
   go_ret
   exact ⟨rfl, fw, (unhide R).1, (unhide R).2, Keep.refl _ _⟩
 ·have hb' := hb
  rw [Bool.and_eq_true] at hb'
  obtain ⟨i, rfl, hi⟩ := Tr.hasI_true hb'.1
  rw [hb'.1] at h1
  rw [hb'.2] at h2
  have ht : T.setI i y = T.set i y := by rw [Tr.setI, hb]; rfl
  rw [ht]
  obtain ⟨c0, c1, c2⟩ := h.cells
  have hlt := hs.lt hi
  have d := h.rw.cell hlt
  have f := h.rw.frozen i
  unfold inV at d
  have R1 := h.setW i y
  have R := hide (And.intro R1.1 (And.intro (hs.set hi hb'.2) R1.2))
  generalize fw i = z at *
  have e1 : (0 : Int) <= (i : Int) := by omega
  have e2 : (i : Int) < (n : Int) := by omega
  clear h hs hb hb' hi R1 ht
  go_enter Try.func28, Try.ntmps28
  go_wp2_with fail
  refine (unhide h1).mono ?_
  rintro e w' ⟨rfl, rfl⟩
  go_wp2_with fail
  refine (unhide h2).mono ?_
  rintro e w' ⟨rfl, rfl⟩
  go_wp2
  go_ret
  exact ⟨rfl, _, (unhide R).1, (unhide R).2.1, (unhide R).2.2⟩
set_option maxHeartbeats 1000000 in
theorem revert_any (x : Int) (w : World) (q bt bu bw n : Nat) (ft : Nat -> Bool) (fu fw : Nat -> Int) (T : Tr) (h : RIn w q bt bu bw n ft fu fw) (hs : Says T n ft fu fw) :
  Calls Try.prog 26 #[zp q 0, zi x] w fun e w' => e = .returned (.bool (T.hasI x)) /\ ∃ fu', RIn w' q bt bu bw n ft fu' fw /\ Says (T.evertI x) n ft fu' fw /\ Keep [q, bt, bu, bw] w w' := by
 have h1 := hide (rhas_any x w q bt bu bw n ft fu fw T h hs)
 have hn := hs.le
 cases hb : T.hasI x
 ·rw [evertI_no hb]
  rw [hb] at h1
  have R := hide (And.intro h hs)
  clear h hs hb
  go_enter Try.func26, Try.ntmps26
  go_wp2_with fail
  refine (unhide h1).mono ?_
  rintro e w' ⟨rfl, rfl⟩
  go_wp2
  go_ret
  exact ⟨rfl, fu, (unhide R).1, (unhide R).2, Keep.refl _ _⟩
 ·obtain ⟨i, rfl, hi⟩ := Tr.hasI_true hb
  rw [hb] at h1
  rw [evertI_yes hb, Int.toNat_natCast]
  have HE := hide (hs.evert hi)
  have HU := hide (hs.wf.spec hi)
  have HS := hide hs
  have HF := hide h
  have HL := hide (show hdI (T.up i) = i from by obtain ⟨t, e⟩ := (hs.wf.spec hi).head; rw [e]; rfl)
  clear h hs hb
  generalize T.up i = l0 at *
  go_enter Try.func26, Try.ntmps26
  go_wp2_with fail
  refine (unhide h1).mono ?_
  rintro e w' ⟨rfl, rfl⟩
  go_wp2
  go_loopg [1, 5] l0.length (fun gk a b w' => ∃ (fu' : Nat -> Int) (l : List Nat) (z : Int), a = zi (hdI l) /\ b = zi z /\ l.length = gk /\ Hid (RIn w' q bt bu bw n ft fu' fw /\ Keep [q, bt, bu, bw] w w' /\ turn fu' z l = turn fu (-1) l0 /\ (∀ x ∈ l, fu' x = T.par x) /\ (l = [] ∨ ∃ y, Up T.par y l)))
  case atStart => exact ⟨fu, l0, -1, by rw [unhide HL], rfl, rfl, unhide HF, Keep.refl _ _, rfl, fun x hx => (unhide HS).up x ((unhide HU).mem x hx), .inr ⟨i, unhide HU⟩⟩
  case round =>
   obtain ⟨fu', l, z, rfl, rfl, hgk, HK⟩ := hrel
   obtain ⟨r1, r2, r3, r4, r5⟩ := unhide HK
   cases l with
   | nil =>
    have R := hide (And.intro r1 (And.intro r2 (show fu' = turn fu (-1) l0 from r3)))
    clear r1 r2 r3 r4 r5 HK hgk
    rw [show hdI [] = -1 from rfl]
    go_wp2
    go_ret
    obtain ⟨r1, r2, r3⟩ := unhide R
    exact ⟨rfl, fu', r1, by rw [r3]; exact unhide HE, r2⟩
   | cons y t =>
    have hu : Up T.par y (y :: t) := by
     rcases r5 with e | ⟨y', hu⟩
     ·simp at e
     ·obtain ⟨t', e⟩ := hu.head
      simp at e
      rw [← e.1] at hu
      exact hu
    have nd := List.nodup_cons.1 hu.nodup
    have hyn := (unhide HS).lt hu.there
    have hpy : T.par y = hdI t := by
     rcases hu.next with ⟨e, rfl⟩ | ⟨p, e, hp⟩
     ·exact e
     ·obtain ⟨t', rfl⟩ := hp.head
      exact e
    obtain ⟨c0, c1, c2⟩ := r1.cells
    have d := r1.ru.cell hyn
    have f := r1.ru.frozen y
    unfold inV at d
    rw [r4 y (by simp), hpy] at d
    have R1 := r1.setU y z
    have R : Hid (RIn (wr.setCell ⟨bu, y, none⟩ (zi z)) q bt bu bw n ft (updF fu' y z) fw /\ Keep [q, bt, bu, bw] w (wr.setCell ⟨bu, y, none⟩ (zi z)) /\ turn (updF fu' y z) (y : Int) t = turn fu (-1) l0 /\ (∀ x ∈ t, updF fu' y z x = T.par x) /\ (t = [] ∨ ∃ y, Up T.par y t)) :=
     ⟨R1.1, r2.trans R1.2 (fun _ hk => .inl hk), r3, fun x hx => by rw [updF_other _ _ (show x ≠ y from fun e => nd.1 (e ▸ hx))]; exact r4 x (by simp [hx]), by
      rcases hu.next with ⟨_, e⟩ | ⟨p, _, hp⟩
      ·exact .inl e
      ·exact .inr ⟨p, hp⟩⟩
    clear r1 r2 r3 r4 r5 HK hu nd hpy R1
    rw [show hdI (y :: t) = (y : Int) from rfl]
    have e1 : (0 : Int) <= (y : Int) := by omega
    have e2 : (y : Int) < (n : Int) := by omega
    have HG := hide hgk
    clear hgk
    generalize hq : hdI t = z2 at *
    have HQ := hide hq
    clear hq
    go_wp2
    go_roundg (gk - 1)
    case rel => exact ⟨_, t, y, by rw [unhide HQ], rfl, by have := unhide HG; simp at this; omega, unhide R⟩
    all_goals
     have := unhide HG
     simp at this
     omega
set_option maxHeartbeats 1000000 in
theorem rlink_any (x y : Int) (w : World) (q bt bu bw n : Nat) (ft : Nat -> Bool) (fu fw : Nat -> Int) (T : Tr) (h : RIn w q bt bu bw n ft fu fw) (hs : Says T n ft fu fw) :
  Calls Try.prog 22 #[zp q 0, zi x, zi y] w fun e w' => e = .returned (.bool (T.linkB x y)) /\ ∃ fu', RIn w' q bt bu bw n ft fu' fw /\ Says (T.linkI x y) n ft fu' fw /\ Keep [q, bt, bu, bw] w w' := by
 have h1 := hide (rhas_any x w q bt bu bw n ft fu fw T h hs)
 have h2 := hide (rhas_any y w q bt bu bw n ft fu fw T h hs)
 have h3 := hide (rsame_any x y w q bt bu bw n ft fu fw T h hs)
 have hn := hs.le
 obtain ⟨c0, c1, c2⟩ := h.cells
 cases hx : T.hasI x
 ·have hb : T.linkB x y = false := by simp [Tr.linkB, hx]
  rw [hb, linkI_no hb]
  rw [hx] at h1
  have R := hide (And.intro h hs)
  clear h hs hx hb
  go_enter Try.func22, Try.ntmps22
  go_wp2_with fail
  refine (unhide h1).mono ?_
  rintro e w' ⟨rfl, rfl⟩
  go_wp2
  go_ret
  exact ⟨rfl, fu, (unhide R).1, (unhide R).2, Keep.refl _ _⟩
 ·rw [hx] at h1
  obtain ⟨i, rfl, hi⟩ := Tr.hasI_true hx
  cases hy : T.hasI y
  ·have hb : T.linkB i y = false := by simp [Tr.linkB, hy]
   rw [hb, linkI_no hb]
   rw [hy] at h2
   have R := hide (And.intro h hs)
   clear h hs hx hb hy hi
   go_enter Try.func22, Try.ntmps22
   go_wp2_with fail
   refine (unhide h1).mono ?_
   rintro e w' ⟨rfl, rfl⟩
   go_wp2_with fail
   refine (unhide h2).mono ?_
   rintro e w' ⟨rfl, rfl⟩
   go_wp2
   go_ret
   exact ⟨rfl, fu, (unhide R).1, (unhide R).2, Keep.refl _ _⟩
  ·rw [hy] at h2
   obtain ⟨j, rfl, hj⟩ := Tr.hasI_true hy
   have hlt := hs.lt hi
   have d := h.ru.cell hlt
   have f := h.ru.frozen i
   unfold inV at d
   rw [hs.up i hi] at d
   have e1 : (0 : Int) <= (i : Int) := by omega
   have e2 : (i : Int) < (n : Int) := by omega
   rcases hs.wf.par_cases hi with hr | ⟨p, hp, _⟩
   ·rw [hr] at d
    have hbi := hs.wf.linkB_iff hr hj
    cases hsm : T.sameI i j
    ·rw [hsm] at hbi h3
     have hb : T.linkB i j = true := hbi
     rw [hb, linkI_yes hb, Int.toNat_natCast, Int.toNat_natCast]
     have R1 := h.setU i (j : Int)
     have R := hide (And.intro R1.1 (And.intro (hs.link hr hj ((hs.wf.same_root hr hj).1 hsm)) R1.2))
     clear h hs hx hy hi hj hr hbi hb hsm R1
     go_enter Try.func22, Try.ntmps22
     go_wp2_with fail
     refine (unhide h1).mono ?_
     rintro e w' ⟨rfl, rfl⟩
     go_wp2_with fail
     refine (unhide h2).mono ?_
     rintro e w' ⟨rfl, rfl⟩
     go_wp2_with fail
     refine (unhide h3).mono ?_
     rintro e w' ⟨rfl, rfl⟩
     go_wp2
     go_ret
     exact ⟨rfl, _, (unhide R).1, (unhide R).2.1, (unhide R).2.2⟩
    ·rw [hsm] at hbi h3
     have hb : T.linkB i j = false := hbi
     rw [hb, linkI_no hb]
     have R := hide (And.intro h hs)
     clear h hs hx hy hi hj hr hbi hb hsm
     go_enter Try.func22, Try.ntmps22
     go_wp2_with fail
     refine (unhide h1).mono ?_
     rintro e w' ⟨rfl, rfl⟩
     go_wp2_with fail
     refine (unhide h2).mono ?_
     rintro e w' ⟨rfl, rfl⟩
     go_wp2_with fail
     refine (unhide h3).mono ?_
     rintro e w' ⟨rfl, rfl⟩
     go_wp2
     go_ret
     exact ⟨rfl, fu, (unhide R).1, (unhide R).2, Keep.refl _ _⟩
   ·rw [hp] at d
    have hb : T.linkB i j = false := by
     have : (T.par (i : Int).toNat == -1) = false := by rw [Int.toNat_natCast, hp, beq_eq_false_iff_ne]; omega
     rw [Tr.linkB, this, Bool.and_false, Bool.false_and, Bool.false_and]
    rw [hb, linkI_no hb]
    have e3 : (0 : Int) <= (p : Int) := by omega
    have R := hide (And.intro h hs)
    clear h hs hx hy hi hj hp hb
    go_enter Try.func22, Try.ntmps22
    go_wp2_with fail
    refine (unhide h1).mono ?_
    rintro e w' ⟨rfl, rfl⟩
    go_wp2_with fail
    refine (unhide h2).mono ?_
    rintro e w' ⟨rfl, rfl⟩
    go_wp2
    go_ret
    exact ⟨rfl, fu, (unhide R).1, (unhide R).2, Keep.refl _ _⟩
set_option maxHeartbeats 2000000 in
theorem above_any (x : Int) (w : World) (q bt bu bw n : Nat) (ft : Nat -> Bool) (fu fw : Nat -> Int) (T : Tr) (h : RIn w q bt bu bw n ft fu fw) (hs : Says T n ft fu fw) :
  Calls Try.prog 71 #[zp q 0, zi x] w fun e w' => (∃ s, e = .returned s /\ NRow w.heap.size w' s (T.upI x)) /\ Below w.heap.size w w' := by
 obtain ⟨i1, hi1, hy0, hy1, hy2⟩ := info_parts Try.info3
 have hH := hide (fun (z : Int) (w1 : World) (hb : Below w.heap.size w w1) => rhas_any z w1 q bt bu bw n ft fu fw T (h.below hb) hs)
 have hn := hs.le
 obtain ⟨c0, c1, c2⟩ := h.cells
 have hq : q < w.heap.size := blk_lt h.blk
 have hbu : bu < w.heap.size := h.ru.lt
 have HC : Hid (∀ y, T.par y ≠ -2 -> y < n /\ w.cell? ⟨bu, y, none⟩ = some (zi (T.par y))) := fun y hy => ⟨hs.lt hy, by rw [h.ru.cell (hs.lt hy), inV, hs.up y hy]⟩
 have HW := hide hs
 have HST : Hid ((T.upI x = [] /\ T.hasI x = false) ∨ (hdI (T.upI x) = x /\ ∃ y, Up T.par y (T.upI x))) := by
  cases hx : T.hasI x
  ·exact .inl ⟨Tr.upI_gone hx, rfl⟩
  ·obtain ⟨i, rfl, hi⟩ := Tr.hasI_true hx
   rw [T.upI_nat]
   obtain ⟨t, e⟩ := (hs.wf.spec hi).head
   exact .inr ⟨by rw [e]; rfl, i, hs.wf.spec hi⟩
 have hll : Hid ((T.upI x).length <= 1048576) := by
  show (T.upI x).length <= 1048576
  unfold Tr.upI
  split
  ·by_cases hp : T.par x.toNat = -2
   ·rw [T.up_gone hp]; simp
   ·exact Nat.le_trans (hs.wf.len (hs.wf.spec hp)) hs.fit.n
  ·simp
 clear h hs c0 c2
 generalize T.upI x = l0 at *
 go_enter Try.func71, Try.ntmps71
 go_wp2
 go_loopg [1, 5] l0.length (fun gk a s w' => ∃ (z : Int) (dn rest : List Nat), a = zi z /\ dn ++ rest = l0 /\ rest.length = gk /\ Hid (NRow w.heap.size w' s dn /\ Below w.heap.size w w' /\ ((rest = [] /\ T.hasI z = false) ∨ (hdI rest = z /\ ∃ y, Up T.par y rest))))
 case atStart => exact ⟨x, [], l0, rfl, rfl, rfl, World.ownsRow_nil _ _ _ _, Below.refl _ _, unhide HST⟩
 case round =>
  obtain ⟨z, dn, rest, rfl, hdn, hgk, HK⟩ := hrel
  cases rest with
  | nil =>
   have hf : T.hasI z = false := by
    rcases (unhide HK).2.2 with ⟨_, e⟩ | ⟨_, y, hu⟩
    ·exact e
    ·exact absurd rfl hu.ne
   have hq2 := hide (unhide hH z wr (unhide HK).2.1)
   rw [hf] at hq2
   rw [List.append_nil] at hdn
   subst hdn
   clear hf hgk
   go_wp2_with fail
   refine (unhide hq2).mono ?_
   rintro e w' ⟨rfl, rfl⟩
   go_wp2
   go_ret
   exact ⟨⟨_, rfl, (unhide HK).1⟩, (unhide HK).2.1⟩
  | cons y t =>
   obtain ⟨r1, r2, r3⟩ := unhide HK
   obtain ⟨hz, hu⟩ : hdI (y :: t) = z /\ Up T.par y (y :: t) := by
    rcases r3 with ⟨e, _⟩ | ⟨e, y', hu⟩
    ·simp at e
    ·obtain ⟨t', e'⟩ := hu.head
     simp at e'
     rw [← e'.1] at hu
     exact ⟨e, hu⟩
   have hz' : z = (y : Int) := hz.symm
   subst hz'
   have hpy : T.par y = hdI t /\ ((t = [] /\ T.hasI (hdI t) = false) ∨ (hdI t = hdI t /\ ∃ y, Up T.par y t)) := by
    rcases hu.next with ⟨e, rfl⟩ | ⟨p, e, hp⟩
    ·exact ⟨e, .inl ⟨rfl, by simp [Tr.hasI, hdI]⟩⟩
    ·obtain ⟨t', rfl⟩ := hp.head
     exact ⟨e, .inr ⟨rfl, p, hp⟩⟩
   have hq2 := hide (unhide hH (y : Int) wr r2)
   rw [Tr.hasI_there hu.there] at hq2
   obtain ⟨hyn, d⟩ := unhide HC y hu.there
   rw [hpy.1] at d
   have hrow := r1
   unfold NRow at hrow
   have hll2 := unhide hll
   have hdl : dn.length <= 1048576 := by rw [← hdn] at hll2; simp at hll2; omega
   have hsz := r2.size
   have HQ := hide (And.intro r1 (And.intro r2 (And.intro hpy.2 (And.intro hgk hdn))))
   clear r1 r2 r3 HK hu hz hpy hgk hll2 hdn
   generalize hq9 : hdI t = z2 at *
   have HZ := hide hq9
   clear hq9
   generalize hL : dn.length = L at hrow hdl
   have HL := hide hL
   clear hL
   go_wp2_with fail
   refine (unhide hq2).mono ?_
   rintro e w' ⟨rfl, rfl⟩
   go_wp2_with (at_builtin; refine wpList_append_lies _ rfl _ _ 53 rfl w.heap.size 3 i1 (zi 0) 1 8 Try.underlying53 hi1 hy0 hy1 hy2 rfl (by decide) _ _ _ rfl (hrow.alloc _) ⟨wr.heap.size, 0, none⟩ 1 1 [zi y] rfl rfl (news_at _ _ _ _ (by simp)) (one1' _) (by omega) (by unfold maxLen; omega) (by omega) (by simp; omega) (wr.heap.size + 1) (by simp) ?_)
   intro g' cap' w2 hown hgrow hat hlt'
   obtain ⟨p4, p5, p6, p7, p8⟩ := unhide HQ
   have r := p4.push hsz hgrow hat (by omega) hlt' (unhide HL).symm hown p5
   have c1' := c1
   rw [← r.2.cell (p := ⟨q, 1, none⟩) hq] at c1'
   rw [← r.2.cell (p := ⟨bu, y, none⟩) hbu] at d
   have HR := hide (And.intro r (And.intro p6 (And.intro p7 p8)))
   have e1 : (0 : Int) <= (y : Int) := by omega
   have e2 : (y : Int) < (n : Int) := by omega
   clear p4 p5 p6 p7 p8 HQ r hown hgrow hat hlt' hrow
   go_wp2
   go_roundg (gk - 1)
   case rel =>
    obtain ⟨⟨p4, p5⟩, p6, p7, p8⟩ := unhide HR
    exact ⟨z2, dn ++ [y], t, rfl, by rw [← p8]; simp, by simp at p7; omega, p4, p5, by rcases p6 with h | ⟨_, h⟩; exact .inl h; exact .inr ⟨unhide HZ, h⟩⟩
   all_goals
    obtain ⟨⟨p4, p5⟩, p6, p7, p8⟩ := unhide HR
    simp at p7
    omega
theorem RIn.three {w : World} {q bt bu bw n : Nat} {ft : Nat -> Bool} {fu fw : Nat -> Int} (h : RIn w q bt bu bw n ft fu fw) (i : Nat) (y : Int) :
  (RIn (((w.setCell ⟨bt, i, none⟩ (.bool true)).setCell ⟨bu, i, none⟩ (zi (-1))).setCell ⟨bw, i, none⟩ (zi y)) q bt bu bw n (updF ft i true) (updF fu i (-1)) (updF fw i y) /\ Keep [q, bt, bu, bw] w (((w.setCell ⟨bt, i, none⟩ (.bool true)).setCell ⟨bu, i, none⟩ (zi (-1))).setCell ⟨bw, i, none⟩ (zi y))) :=
 ⟨(((h.setT i true).1.setU i (-1)).1.setW i y).1, ((h.setT i true).2.trans ((h.setT i true).1.setU i (-1)).2 (fun _ hk => .inl hk)).trans (((h.setT i true).1.setU i (-1)).1.setW i y).2 (fun _ hk => .inl hk)⟩
set_option maxHeartbeats 2000000 in
theorem rAdd_any (x y : Int) (w : World) (q bt bu bw n : Nat) (ft : Nat -> Bool) (fu fw : Nat -> Int) (T : Tr) (h : RIn w q bt bu bw n ft fu fw) (hs : Says T n ft fu fw) :
  Calls Try.prog 18 #[zp q 0, zi x, zi y] w fun e w' => e = .returned (.bool (T.addB x y)) /\ ∃ ft' fu' fw', RIn w' q bt bu bw n ft' fu' fw' /\ Says (T.addI x y) n ft' fu' fw' /\ Keep [q, bt, bu, bw] w w' := by
 have hn := hs.le
 obtain ⟨c0, c1, c2⟩ := h.cells
 have h2 := hide (rfits_any' y w)
 have R0 := hide (And.intro h hs)
 by_cases h0 : x < 0
 ·have hb : T.addB x y = false := by simp [Tr.addB]; omega
  rw [hb, addI_no hb]
  clear h hs hb
  go_enter Try.func18, Try.ntmps18
  go_wp2
  go_ret
  exact ⟨rfl, ft, fu, fw, (unhide R0).1, (unhide R0).2, Keep.refl _ _⟩
 ·obtain ⟨i, rfl⟩ := Int.eq_ofNat_of_zero_le (by omega : 0 <= x)
  have e1 : (0 : Int) <= (i : Int) := by omega
  by_cases h1 : i < n
  ·have e2 : (i : Int) < (n : Int) := by omega
   have e2' : ¬ (i : Int) ≥ (n : Int) := by omega
   have d := h.rt.cell h1
   have f := h.rt.frozen i
   unfold blV at d
   have hth := hs.th i h1
   rw [hth] at d
   by_cases hp : T.par i = -2
   ·rw [show (T.par i != -2) = false from by simp [hp]] at d
    cases hy : fitB y
    ·have hb : T.addB i y = false := by simp [Tr.addB, hy]
     rw [hb, addI_no hb]
     rw [hy] at h2
     clear h hs hb hth hp hy
     go_enter Try.func18, Try.ntmps18
     go_wp2_with fail
     refine (unhide h2).mono ?_
     rintro e w' ⟨rfl, rfl⟩
     go_wp2
     go_ret
     exact ⟨rfl, ft, fu, fw, (unhide R0).1, (unhide R0).2, Keep.refl _ _⟩
    ·have hb : T.addB i y = true := by
      simp [Tr.addB, Tr.hasI_nat, hp, hy]
      rw [← hs.nn]; exact h1
     rw [hb, addI_yes hb, Int.toNat_natCast]
     rw [hy] at h2
     have du := h.ru.cell h1
     have gu := h.ru.frozen i
     have dw := h.rw.cell h1
     have gw := h.rw.frozen i
     unfold inV at du dw
     have R1 := h.three i y
     have R := hide (And.intro R1.1 (And.intro (hs.add hp h1 hy) R1.2))
     obtain ⟨n1, n2, n3, n4, n5, n6⟩ := h.ne
     have n4' : bu ≠ bt := fun e => n4 e.symm
     have n5' : bw ≠ bt := fun e => n5 e.symm
     have n6' : bw ≠ bu := fun e => n6 e.symm
     clear h hs hb hth hp hy R1 n1 n2 n3
     generalize fu i = zu at *
     generalize fw i = zw at *
     go_enter Try.func18, Try.ntmps18
     go_wp2_with fail
     refine (unhide h2).mono ?_
     rintro e w' ⟨rfl, rfl⟩
     go_wp2
     go_region
     all_goals
      go_wp2
      go_ret
      refine ⟨rfl, _, _, _, RIn.below (unhide R).1 ?_, (unhide R).2.1, ?_⟩
      ·exact (Below.refl _ _).drew
      ·exact (unhide R).2.2.drew
   ·rw [show (T.par i != -2) = true from by simp [hp]] at d
    have hb : T.addB i y = false := by simp [Tr.addB, Tr.hasI_nat, hp]
    rw [hb, addI_no hb]
    clear h hs hb hth hp
    go_enter Try.func18, Try.ntmps18
    go_wp2
    go_ret
    exact ⟨rfl, ft, fu, fw, (unhide R0).1, (unhide R0).2, Keep.refl _ _⟩
  ·have hb : T.addB i y = false := by
    simp only [Tr.addB, ← hs.nn]
    rw [show decide ((i : Int) < (n : Int)) = false from by simp; omega]; simp
   rw [hb, addI_no hb]
   have e2 : (n : Int) <= (i : Int) := by omega
   clear h hs hb
   go_enter Try.func18, Try.ntmps18
   go_wp2
   go_ret
   exact ⟨rfl, ft, fu, fw, (unhide R0).1, (unhide R0).2, Keep.refl _ _⟩
def kidTo (T : Tr) (v : Int) (m : Nat) : Bool := (List.range m).any (fun u => T.par u == v)
theorem kidTo_succ (T : Tr) (v : Int) (m : Nat) : kidTo T v (m + 1) = (kidTo T v m || (T.par m == v)) := by
 simp [kidTo, List.range_succ]
set_option maxHeartbeats 2000000 in
theorem kids_any (i : Nat) (w : World) (q bt bu bw n : Nat) (ft : Nat -> Bool) (fu fw : Nat -> Int) (T : Tr) (h : RIn w q bt bu bw n ft fu fw) (hs : Says T n ft fu fw) (hi : T.par i ≠ -2) :
  Calls Try.prog 56 #[zp q 0, zi i] w fun e w' => (∃ s l, e = .returned s /\ NRow w.heap.size w' s l /\ decide (0 < l.length) = T.kidB i) /\ Below w.heap.size w w' := by
 obtain ⟨i1, hi1, hy0, hy1, hy2⟩ := info_parts Try.info3
 have hH := hide (fun (w1 : World) (hb : Below w.heap.size w w1) => rhas_any i w1 q bt bu bw n ft fu fw T (h.below hb) hs)
 rw [Tr.hasI_there hi] at hH
 have hn := hs.le
 obtain ⟨c0, c1, c2⟩ := h.cells
 have hq : q < w.heap.size := blk_lt h.blk
 have hbu : bu < w.heap.size := h.ru.lt
 have hbt : bt < w.heap.size := h.rt.lt
 have HC : Hid (∀ y, y < n -> w.cell? ⟨bt, y, none⟩ = some (.bool (T.par y != -2)) /\ w.cell? ⟨bu, y, none⟩ = some (zi (fu y)) /\ (T.par y ≠ -2 -> fu y = T.par y)) := fun y hy => ⟨by rw [h.rt.cell hy, blV, hs.th y hy], by rw [h.ru.cell hy, inV], hs.up y⟩
 have HK : Hid (kidTo T i n = T.kidB i) := by show kidTo T i n = T.kidB i; rw [kidTo, Tr.kidB, hs.nn]
 clear h hs hi c2
 go_enter Try.func56, Try.ntmps56
 go_wp2
 go_loopw [5, 6] (fun s j w' => ∃ (m : Nat) (l : List Nat), m <= n /\ j = zi m /\ l.length <= m /\ Hid (NRow w.heap.size w' s l /\ Below w.heap.size w w' /\ decide (0 < l.length) = kidTo T i m)) (fun _ j _ => n - (intOf j).toNat)
 case atStart => exact ⟨0, [], by omega, rfl, by simp, World.ownsRow_nil _ _ _ _, Below.refl _ _, rfl⟩
 case round =>
  obtain ⟨m, l, hm, rfl, hll, HL⟩ := hrel
  obtain ⟨r1, r2, r3⟩ := unhide HL
  have hq2 := hide (unhide hH wr r2)
  have c0' := c0
  have c1' := c1
  rw [← r2.cell (p := ⟨q, 0, none⟩) hq] at c0'
  rw [← r2.cell (p := ⟨q, 1, none⟩) hq] at c1'
  by_cases hlt : m < n
  ·have e1 : (m : Int) < (n : Int) := by omega
   have e2 : (0 : Int) <= (m : Int) := by omega
   obtain ⟨dt, du, hup⟩ := unhide HC m hlt
   rw [← r2.cell (p := ⟨bt, m, none⟩) hbt] at dt
   rw [← r2.cell (p := ⟨bu, m, none⟩) hbu] at du
   have hsucc := hide (kidTo_succ T i m)
   by_cases hk : T.par m = (i : Int)
   ·have hth : (T.par m != -2) = true := by rw [hk]; simp
    rw [hth] at dt
    rw [hup (by omega), hk] at du
    have hkt : Hid (kidTo T i (m + 1) = true) := by show kidTo T i (m + 1) = true; rw [unhide hsucc, hk]; simp
    have hrow := r1
    unfold NRow at hrow
    have hsz := r2.size
    have HQ := hide (And.intro r1 r2)
    clear r1 r2 r3 HL hup hk hth hsucc
    generalize hL : l.length = L at hrow hll
    have HLL := hide hL
    clear hL
    go_wp2_with fail
    refine (unhide hq2).mono ?_
    rintro e w' ⟨rfl, rfl⟩
    go_wp2_with (at_builtin; refine wpList_append_lies _ rfl _ _ 53 rfl w.heap.size 3 i1 (zi 0) 1 8 Try.underlying53 hi1 hy0 hy1 hy2 rfl (by decide) _ _ _ rfl (hrow.alloc _) ⟨wr.heap.size, 0, none⟩ 1 1 [zi m] rfl rfl (news_at _ _ _ _ (by simp)) (one1' _) (by omega) (by unfold maxLen; omega) (by omega) (by simp; omega) (wr.heap.size + 1) (by simp) ?_)
    intro g' cap' w2 hown hgrow hat hlt'
    obtain ⟨p4, p5⟩ := unhide HQ
    have r := p4.push hsz hgrow hat (by omega) hlt' (unhide HLL).symm hown p5
    have HR := hide r
    clear p4 p5 HQ r hown hgrow hat hlt' hrow c0' c1' dt du hq2
    go_wp2
    go_roundw
    case rel => exact ⟨m + 1, l ++ [m], by omega, by go_num, by have := unhide HLL; simp; omega, (unhide HR).1, (unhide HR).2, by rw [unhide hkt]; simp⟩
    case measure => simp [intOf]; omega
   ·have hkt : Hid (kidTo T i (m + 1) = kidTo T i m) := by
     show kidTo T i (m + 1) = kidTo T i m
     rw [unhide hsucc, show (T.par m == (i : Int)) = false from beq_eq_false_iff_ne.2 hk]; simp
    have HQ := hide (And.intro r1 (And.intro r2 r3))
    by_cases hth : T.par m = -2
    ·rw [show (T.par m != -2) = false from by simp [hth]] at dt
     clear r1 r2 r3 HL hup hk hth hsucc
     generalize fu m = z at *
     go_wp2_with fail
     refine (unhide hq2).mono ?_
     rintro e w' ⟨rfl, rfl⟩
     go_wp2
     go_roundw
     case rel => exact ⟨m + 1, l, by omega, by go_num, by omega, (unhide HQ).1, (unhide HQ).2.1, by rw [unhide hkt]; exact (unhide HQ).2.2⟩
     case measure => simp [intOf]; omega
    ·rw [show (T.par m != -2) = true from by simp [hth]] at dt
     rw [hup hth] at du
     have hk' : (T.par m == (i : Int)) = false := beq_eq_false_iff_ne.2 hk
     clear r1 r2 r3 HL hup hk hth hsucc
     generalize T.par m = z at *
     go_wp2_with fail
     refine (unhide hq2).mono ?_
     rintro e w' ⟨rfl, rfl⟩
     go_wp2
     go_roundw
     case rel => exact ⟨m + 1, l, by omega, by go_num, by omega, (unhide HQ).1, (unhide HQ).2.1, by rw [unhide hkt]; exact (unhide HQ).2.2⟩
     case measure => simp [intOf]; omega
  ·have e1 : ¬ (m : Int) < (n : Int) := by omega
   have hmn : m = n := by omega
   have HQ := hide (And.intro r1 (And.intro r2 (show decide (0 < l.length) = T.kidB i from by rw [r3, hmn]; exact unhide HK)))
   clear r1 r2 r3 HL hmn
   go_wp2_with fail
   refine (unhide hq2).mono ?_
   rintro e w' ⟨rfl, rfl⟩
   go_wp2
   go_ret
   exact ⟨⟨_, l, rfl, (unhide HQ).1, (unhide HQ).2.2⟩, (unhide HQ).2.1⟩
set_option maxHeartbeats 2000000 in
theorem rdrop_any (x : Int) (w : World) (q bt bu bw n : Nat) (ft : Nat -> Bool) (fu fw : Nat -> Int) (T : Tr) (h : RIn w q bt bu bw n ft fu fw) (hs : Says T n ft fu fw) :
  Calls Try.prog 20 #[zp q 0, zi x] w fun e w' => e = .returned (.bool (T.goB x)) /\ ∃ ft', RIn w' q bt bu bw n ft' fu fw /\ Says (T.dropI x) n ft' fu fw /\ Keep [q, bt, bu, bw] w w' := by
 have h1 := hide (rhas_any x w q bt bu bw n ft fu fw T h hs)
 have hn := hs.le
 obtain ⟨c0, c1, c2⟩ := h.cells
 cases hx : T.hasI x
 ·have hb : T.goB x = false := by simp [Tr.goB, hx]
  rw [hb, dropI_no hb]
  rw [hx] at h1
  have R := hide (And.intro h hs)
  clear h hs hx hb
  go_enter Try.func20, Try.ntmps20
  go_wp2_with fail
  refine (unhide h1).mono ?_
  rintro e w' ⟨rfl, rfl⟩
  go_wp2
  go_ret
  exact ⟨rfl, ft, (unhide R).1, (unhide R).2, Keep.refl _ _⟩
 ·rw [hx] at h1
  obtain ⟨i, rfl, hi⟩ := Tr.hasI_true hx
  have hlt := hs.lt hi
  have d := h.ru.cell hlt
  unfold inV at d
  rw [hs.up i hi] at d
  have e1 : (0 : Int) <= (i : Int) := by omega
  have e2 : (i : Int) < (n : Int) := by omega
  rcases hs.wf.par_cases hi with hr | ⟨p, hp, _⟩
  ·rw [hr] at d
   have h2 := hide (kids_any i w q bt bu bw n ft fu fw T h hs hi)
   have hgo : T.goB i = !T.kidB i := by simp [Tr.goB, hx, hr]
   cases hk : T.kidB i
   ·rw [hk] at hgo
    have hb : T.goB i = true := hgo
    rw [hb, dropI_yes hb, Int.toNat_natCast]
    have HR : Hid (∀ w1, Below w.heap.size w w1 -> w1.cell? ⟨q, 0, none⟩ = some (.slice (some ⟨bt, 0, none⟩) n n) /\ w1.cell? ⟨bt, i, none⟩ = some (.bool (ft i)) /\ w1.frozen? ⟨bt, i, none⟩ = false /\ RIn (w1.setCell ⟨bt, i, none⟩ (.bool false)) q bt bu bw n (updF ft i false) fu fw /\ Keep [q, bt, bu, bw] w (w1.setCell ⟨bt, i, none⟩ (.bool false))) := fun w1 hb1 => by
     have h' := h.below hb1
     have r := h'.setT i false
     exact ⟨h'.cells.1, by rw [h'.rt.cell hlt, blV], h'.rt.frozen i, r.1, (Keep.ofBelow hb1 _).trans r.2 (fun _ hk => .inl hk)⟩
    have HS := hide (hs.drop (kidB_false hs.wf hk))
    clear h hs hx hi hr hgo hb
    go_enter Try.func20, Try.ntmps20
    go_wp2_with fail
    refine (unhide h1).mono ?_
    rintro e w' ⟨rfl, rfl⟩
    go_wp2_with fail
    refine (unhide h2).mono ?_
    rintro e w1 ⟨⟨s, l, rfl, hrow, hl⟩, hb1⟩
    obtain ⟨xs, cap, rfl, k1, k2, k9⟩ := row_form hrow
    rw [hk] at hl
    have hl0 : ¬ (0 : Int) < (l.length : Int) := by
     have : ¬ 0 < l.length := by simpa using hl
     omega
    obtain ⟨z0, z1, z2, z3, z4⟩ := unhide HR w1 hb1
    have HZ := hide (And.intro z3 z4)
    clear hrow hl hb1 k9 z3 z4 hk d
    generalize ft i = tt at *
    unfold maxLen at k2
    go_wp2
    go_ret
    exact ⟨rfl, _, (unhide HZ).1, unhide HS, (unhide HZ).2⟩
   ·rw [hk] at hgo
    have hb : T.goB i = false := hgo
    rw [hb, dropI_no hb]
    have R := hide (And.intro h hs)
    clear h hs hx hi hr hgo hb
    go_enter Try.func20, Try.ntmps20
    go_wp2_with fail
    refine (unhide h1).mono ?_
    rintro e w' ⟨rfl, rfl⟩
    go_wp2_with fail
    refine (unhide h2).mono ?_
    rintro e w1 ⟨⟨s, l, rfl, hrow, hl⟩, hb1⟩
    obtain ⟨xs, cap, rfl, k1, k2, k9⟩ := row_form hrow
    rw [hk] at hl
    have hl0 : (0 : Int) < (l.length : Int) := by
     have : 0 < l.length := by simpa using hl
     omega
    have HB := hide hb1
    clear hrow hl hb1 k9 hk d
    unfold maxLen at k2
    go_wp2
    go_ret
    exact ⟨rfl, ft, (unhide R).1.below (unhide HB), (unhide R).2, Keep.ofBelow (unhide HB) _⟩
  ·rw [hp] at d
   have hb : T.goB i = false := by
    have : (T.par (i : Int).toNat == -1) = false := by rw [Int.toNat_natCast, hp, beq_eq_false_iff_ne]; omega
    rw [Tr.goB, this, Bool.and_false, Bool.false_and]
   rw [hb, dropI_no hb]
   have e3 : (0 : Int) <= (p : Int) := by omega
   have R := hide (And.intro h hs)
   clear h hs hx hi hp hb
   go_enter Try.func20, Try.ntmps20
   go_wp2_with fail
   refine (unhide h1).mono ?_
   rintro e w' ⟨rfl, rfl⟩
   go_wp2
   go_ret
   exact ⟨rfl, ft, (unhide R).1, (unhide R).2, Keep.refl _ _⟩
theorem made_in {w W : World} {q bt bu bw n : Nat} (hq : W.heap[q]? = some (.cells #[.slice (some ⟨bt, 0, none⟩) n n, .slice (some ⟨bu, 0, none⟩) n n, .slice (some ⟨bw, 0, none⟩) n n] 69))
  (ht : W.heap[bt]? = some (.cells (madeCells #[.bool false] n) 4)) (hu : W.heap[bu]? = some (.cells (madeCells #[zi 0] n) 3)) (hw : W.heap[bw]? = some (.cells (madeCells #[zi 0] n) 3)) (nd : [q, bt, bu, bw].Nodup) : RIn W q bt bu bw n (fun _ => false) (fun _ => 0) (fun _ => 0) :=
 ⟨hq, ⟨_, ht, size_madeCells _ _, fun i hi => by simp [madeCells, hi, Nat.mod_one, blV]⟩, ⟨_, hu, size_madeCells _ _, fun i hi => by simp [madeCells, hi, Nat.mod_one, inV]⟩, ⟨_, hw, size_madeCells _ _, fun i hi => by simp [madeCells, hi, Nat.mod_one, inV]⟩, nd⟩
theorem four (w : World) (a b c d : Obj) : ((((w.alloc a).alloc b).alloc c).alloc d).heap[w.heap.size]? = some a /\ ((((w.alloc a).alloc b).alloc c).alloc d).heap[w.heap.size + 1]? = some b /\ ((((w.alloc a).alloc b).alloc c).alloc d).heap[w.heap.size + 1 + 1]? = some c /\ ((((w.alloc a).alloc b).alloc c).alloc d).heap[w.heap.size + 1 + 1 + 1]? = some d := by
 have s1 : (w.alloc a).heap.size = w.heap.size + 1 := by simp
 have s2 : ((w.alloc a).alloc b).heap.size = w.heap.size + 1 + 1 := by simp
 have s3 : (((w.alloc a).alloc b).alloc c).heap.size = w.heap.size + 1 + 1 + 1 := by simp
 refine ⟨?_, ?_, ?_, ?_⟩
 ·rw [Below.heap_alloc _ _ _ (by omega), Below.heap_alloc _ _ _ (by omega), Below.heap_alloc _ _ _ (by omega)]; exact heap_alloc_new w a
 ·rw [Below.heap_alloc _ _ _ (by omega), Below.heap_alloc _ _ _ (by omega), ← s1]; exact heap_alloc_new _ b
 ·rw [Below.heap_alloc _ _ _ (by omega), ← s2]; exact heap_alloc_new _ c
 ·rw [← s3]; exact heap_alloc_new _ d
theorem below4 (w : World) (a b c d : Obj) : Below w.heap.size w ((((w.alloc a).alloc b).alloc c).alloc d) :=
 ((((Below.refl _ _).alloc (Nat.le_refl _) _).alloc (by simp) _).alloc (by simp; omega) _).alloc (by simp; omega) _
set_option maxHeartbeats 2000000 in
theorem rnew_any (n : Nat) (w : World) (h1 : n <= 1048576) :
  Calls Try.prog 16 #[zi n] w fun e w' => ∃ q bt bu bw fu, e = .returned (zp q 0) /\ RIn w' q bt bu bw n (fun _ => false) fu (fun _ => 0) /\ Below w.heap.size w w' /\ ∀ k ∈ [q, bt, bu, bw], w.heap.size <= k := by
 have h' : ¬ (n : Int) < 0 := by omega
 have h'' : ¬ (1048576 : Int) < (n : Int) := by omega
 have hmk := run_make_row' (P := Try.prog) 53 3 (zi 0) 8 Try.underlying53 Try.info3 rfl .i64 .i64 n (by omega) (by omega)
 have hmb := run_make_row' (P := Try.prog) 67 4 (.bool false) 1 Try.underlying67 Try.info4 rfl .i64 .i64 n (by omega) (by omega)
 go_enter Try.func16, Try.ntmps16
 go_upto_region 3 with fail
 go_cut [3] (fun s w' => ∃ q bt bu bw, s = zp q 0 /\ Hid (RIn w' q bt bu bw n (fun _ => false) (fun _ => 0) (fun _ => 0) /\ Below w.heap.size w w' /\ ∀ k ∈ [q, bt, bu, bw], w.heap.size <= k))
 case first =>
  go_region
  all_goals
   go_wp2
   go_meet
   have F := fun a b c d => four w a b c d
   first
    | (refine ⟨w.heap.size + 1 + 1 + 1, w.heap.size, w.heap.size + 1, w.heap.size + 1 + 1, rfl, ?_, (below4 w _ _ _ _).drew, by simp; omega⟩; exact RIn.below (made_in (w := w) (F _ _ _ _).2.2.2 (F _ _ _ _).1 (F _ _ _ _).2.1 (F _ _ _ _).2.2.1 (by simp; omega)) (Below.refl _ _).drew)
    | (refine ⟨w.heap.size + 1 + 1 + 1, w.heap.size, w.heap.size + 1 + 1, w.heap.size + 1, rfl, ?_, (below4 w _ _ _ _).drew, by simp; omega⟩; exact RIn.below (made_in (w := w) (F _ _ _ _).2.2.2 (F _ _ _ _).1 (F _ _ _ _).2.2.1 (F _ _ _ _).2.1 (by simp; omega)) (Below.refl _ _).drew)
    | (refine ⟨w.heap.size + 1 + 1 + 1, w.heap.size + 1, w.heap.size, w.heap.size + 1 + 1, rfl, ?_, (below4 w _ _ _ _).drew, by simp; omega⟩; exact RIn.below (made_in (w := w) (F _ _ _ _).2.2.2 (F _ _ _ _).2.1 (F _ _ _ _).1 (F _ _ _ _).2.2.1 (by simp; omega)) (Below.refl _ _).drew)
    | (refine ⟨w.heap.size + 1 + 1 + 1, w.heap.size + 1, w.heap.size + 1 + 1, w.heap.size, rfl, ?_, (below4 w _ _ _ _).drew, by simp; omega⟩; exact RIn.below (made_in (w := w) (F _ _ _ _).2.2.2 (F _ _ _ _).2.1 (F _ _ _ _).2.2.1 (F _ _ _ _).1 (by simp; omega)) (Below.refl _ _).drew)
    | (refine ⟨w.heap.size + 1 + 1 + 1, w.heap.size + 1 + 1, w.heap.size, w.heap.size + 1, rfl, ?_, (below4 w _ _ _ _).drew, by simp; omega⟩; exact RIn.below (made_in (w := w) (F _ _ _ _).2.2.2 (F _ _ _ _).2.2.1 (F _ _ _ _).1 (F _ _ _ _).2.1 (by simp; omega)) (Below.refl _ _).drew)
    | (refine ⟨w.heap.size + 1 + 1 + 1, w.heap.size + 1 + 1, w.heap.size + 1, w.heap.size, rfl, ?_, (below4 w _ _ _ _).drew, by simp; omega⟩; exact RIn.below (made_in (w := w) (F _ _ _ _).2.2.2 (F _ _ _ _).2.2.1 (F _ _ _ _).2.1 (F _ _ _ _).1 (by simp; omega)) (Below.refl _ _).drew)
 obtain ⟨q, bt, bu, bw, rfl, HM⟩ := hcut
 clear hmk hmb
 go_wp2
 go_loopw [4] (fun i w' => ∃ (m : Nat) (fu : Nat -> Int), m <= n /\ i = zi m /\ Hid (RIn w' q bt bu bw n (fun _ => false) fu (fun _ => 0) /\ Below w.heap.size w w' /\ ∀ k ∈ [q, bt, bu, bw], w.heap.size <= k)) (fun i _ => n - (intOf i).toNat)
 case atStart => exact ⟨0, fun _ => 0, by omega, rfl, HM⟩
 case round =>
  clear HM
  obtain ⟨m, fu, hm, rfl, HM⟩ := hrel
  by_cases hlt : m < n
  ·have e1 : (m : Int) < (n : Int) := by omega
   have e2 : (0 : Int) <= (m : Int) := by omega
   obtain ⟨r1, r2, r3⟩ := unhide HM
   obtain ⟨c0, c1, c2⟩ := r1.cells
   have d := r1.ru.cell hlt
   have f := r1.ru.frozen m
   unfold inV at d
   have R := hide (And.intro (r1.setU m (-1)).1 (And.intro (r2.setCell (p := ⟨bu, m, none⟩) (r3 bu (by simp)) (zi (-1))) r3))
   clear r1 r2 r3 HM
   generalize fu m = z at *
   go_wp2
   go_roundw
   case rel => exact ⟨m + 1, _, by omega, by go_num, R⟩
   case measure => simp [intOf]; omega
  ·have e1 : ¬ (m : Int) < (n : Int) := by omega
   go_wp2
   go_ret
   exact ⟨q, rfl, bt, bu, bw, ⟨fu, (unhide HM).1⟩, by simpa using (unhide HM).2⟩
theorem Says.new (n : Nat) (h : n <= 1048576) (fu : Nat -> Int) : Says (Tr.new n) n (fun _ => false) fu (fun _ => 0) :=
 ⟨rfl, fun _ _ => rfl, fun _ hv => absurd rfl hv, fun _ hv => absurd rfl hv, Tr.Wf.new n, Tr.Fit.new h⟩
end Go.Proofs.Ytjnkgakajenoaaa
namespace Go.Proofs.Ytjnkgakajenoaaa
set_option linter.unusedVariables false
set_option linter.unusedSimpArgs false
def sumTo (F : Nat -> Int) : Nat -> Int
 | 0 => 0
 | m + 1 => sumTo F m + F m
theorem sumTo_congr {F G : Nat -> Int} : ∀ {m : Nat}, (∀ i, i < m -> F i = G i) -> sumTo F m = sumTo G m
 | 0, _ => rfl
 | m + 1, h => by rw [sumTo, sumTo, sumTo_congr (fun i hi => h i (by omega)), h m (by omega)]
theorem sumTo_bd {F : Nat -> Int} {lo hi : Int} (h0 : lo <= 0) (h1 : 0 <= hi) : ∀ {m : Nat}, (∀ i, i < m -> lo <= F i /\ F i <= hi) -> (m : Int) * lo <= sumTo F m /\ sumTo F m <= (m : Int) * hi
 | 0, _ => by simp [sumTo]
 | m + 1, h => by
  have i1 := sumTo_bd h0 h1 (m := m) (fun i hi => h i (by omega))
  have i2 := h m (by omega)
  rw [sumTo]
  have e1 : ((m + 1 : Nat) : Int) * lo = (m : Int) * lo + lo := by rw [Int.natCast_add, Int.add_mul]; simp
  have e2 : ((m + 1 : Nat) : Int) * hi = (m : Int) * hi + hi := by rw [Int.natCast_add, Int.add_mul]; simp
  omega
theorem ofR_cons_s (n : Int) (l : List Int) : (ofR (n :: l)).s = n + (ofR l).s := by
 rw [ofR, jn, if_neg (by simp [one])]
 split
 ·rename_i h
  have := (ok_ofR l).2 h
  rw [this]; simp [one, zero]
 ·rfl
theorem ofR_append_s (l m : List Int) : (ofR (l ++ m)).s = (ofR l).s + (ofR m).s := by
 induction l with
 | nil => simp [ofR, zero]
 | cons n l ih => rw [List.cons_append, ofR_cons_s, ofR_cons_s, ih]; omega
theorem filter_sum (p : Nat -> Bool) (g : Nat -> Int) : ∀ m, (ofL (((List.range m).filter p).map g)).s = sumTo (fun u => if p u then g u else 0) m
 | 0 => by simp [sumTo, ofL, zero]
 | m + 1 => by
  rw [sumTo, ← filter_sum p g m, List.range_succ, List.filter_append, List.map_append, ofL_eq, ofL_eq, ofR_append_s]
  congr 1
  by_cases h : p m = true <;> simp [h, ofR, zero, jn, one]
theorem filter_count (p : Nat -> Bool) : ∀ m, (((List.range m).filter p).length : Int) = sumTo (fun u => if p u then 1 else 0) m
 | 0 => rfl
 | m + 1 => by
  rw [sumTo, ← filter_count p m, List.range_succ, List.filter_append, List.length_append]
  by_cases h : p m = true <;> simp [h]
section
variable {T : Tr} {u v k : Nat}
def Tr.tot (T : Tr) (h : Nat -> Int) (v : Nat) : Int := sumTo (fun u => if v ∈ T.up u then h u else 0) T.n
theorem Tr.subI_tot (hv : T.par v ≠ -2) : (T.subI v).c = T.tot (fun _ => 1) v /\ (T.subI v).s = T.tot T.wt v := by
 rw [Tr.subI_c hv, Tr.subI_nat hv]
 unfold Tr.sub Tr.tot
 rw [filter_sum, filter_count]
 constructor
 ·refine sumTo_congr fun i _ => ?_
  by_cases h : v ∈ T.up i <;> simp [h]
 ·refine sumTo_congr fun i _ => ?_
  by_cases h : v ∈ T.up i <;> simp [h]
theorem Tr.Wf.kid_on (h : T.Wf) (hm : v ∈ T.up u) (hne : u ≠ v) : ∃ k0, ∀ k, (T.par k = (v : Int) /\ k ∈ T.up u) ↔ k = k0 := by
 obtain ⟨a, b, e⟩ := List.append_of_mem hm
 have hu := h.spec (Tr.there hm)
 have ha : a ≠ [] := fun e0 => by
  subst e0
  obtain ⟨t, e'⟩ := hu.head
  rw [e] at e'
  simp at e'
  exact hne e'.1.symm
 have e2 : a = a.dropLast ++ [a.getLast ha] := (List.dropLast_concat_getLast ha).symm
 have hv := h.tail e
 refine ⟨a.getLast ha, fun k => ⟨fun ⟨h1, h2⟩ => ?_, fun hk => ?_⟩⟩
 ·have hk := h.up_step h1
  rw [hv] at hk
  obtain ⟨a', b', e'⟩ := List.append_of_mem h2
  have h3 := h.tail e'
  rw [hk] at h3
  simp at h3
  rw [e, ← h3] at e'
  have e4 : a ++ v :: b = (a' ++ [k]) ++ v :: b := by rw [e']; simp
  have e5 := List.append_cancel_right e4
  clear e e2 e4 e'
  subst e5
  simp
 ·subst hk
  generalize a.dropLast = a', a.getLast ha = y at *
  subst e2
  rw [List.append_assoc] at e
  have h3 := h.tail (x := y) (a := a') (b := v :: b) (by rw [e]; rfl)
  have h4 := h.spec (v := y) (Tr.there (x := y) (by rw [h3]; simp))
  rw [h3] at h4
  rcases h4.next with ⟨_, e3⟩ | ⟨q, hq, hq'⟩
  ·simp at e3
  ·obtain ⟨t, e4⟩ := hq'.head
   simp at e4
   exact ⟨by rw [hq, e4.1], by rw [e]; simp⟩
end
end Go.Proofs.Ytjnkgakajenoaaa
namespace Go.Proofs.Ytjnkgakajenoaaa
def kidC (T : Tr) (v : Nat) : Nat -> Int := fun k => if T.par k = (v : Int) then (T.subI k).c else 0
def kidS (T : Tr) (v : Nat) : Nat -> Int := fun k => if T.par k = (v : Int) then (T.subI k).s else 0
def rootC (T : Tr) : Nat -> Int := fun r => if T.par r = -1 then (T.subI r).c else 0
section
variable {T : Tr} {u v k : Nat}
theorem Tr.sub_bd (hn : T.n <= 30) (hw : ∀ u, -32768 <= T.wt u /\ T.wt u <= 32767) (hv : T.par v ≠ -2) : 0 <= (T.subI v).c /\ (T.subI v).c <= 30 /\ -1000000 <= (T.subI v).s /\ (T.subI v).s <= 1000000 := by
 have hc := Tr.sub_le hv
 have hs := (Tr.subI_tot hv).2
 have := sumTo_bd (F := fun u => if v ∈ T.up u then T.wt u else 0) (lo := -32768) (hi := 32767) (by omega) (by omega) (m := T.n) (fun i _ => by
  have := hw i
  by_cases hm : v ∈ T.up i <;> simp [hm] <;> omega)
 unfold Tr.tot at hs
 omega
theorem Tr.kid_bd (hn : T.n <= 30) (hw : ∀ u, -32768 <= T.wt u /\ T.wt u <= 32767) (hall : ∀ u, u < T.n -> T.par u ≠ -2) {m : Nat} (hm : m <= T.n) :
  (0 <= sumTo (kidC T v) m /\ sumTo (kidC T v) m <= 900) /\ (-30000000 <= sumTo (kidS T v) m /\ sumTo (kidS T v) m <= 30000000) /\ (0 <= sumTo (rootC T) m /\ sumTo (rootC T) m <= 900) := by
 have b := fun k (hk : k < m) => Tr.sub_bd hn hw (hall k (by omega))
 have h1 := sumTo_bd (F := kidC T v) (lo := 0) (hi := 30) (by omega) (by omega) (m := m) (fun i hi => by
  have := b i hi
  unfold kidC; split <;> omega)
 have h2 := sumTo_bd (F := kidS T v) (lo := -1000000) (hi := 1000000) (by omega) (by omega) (m := m) (fun i hi => by
  have := b i hi
  unfold kidS; split <;> omega)
 have h3 := sumTo_bd (F := rootC T) (lo := 0) (hi := 30) (by omega) (by omega) (m := m) (fun i hi => by
  have := b i hi
  unfold rootC; split <;> omega)
 omega
end
end Go.Proofs.Ytjnkgakajenoaaa
namespace Go.Proofs.Ytjnkgakajenoaaa
open Go.RowKit Go.Arb
set_option linter.unusedVariables false
set_option linter.unusedSimpArgs false
theorem NRow.form {B : Nat} {w : World} {v : Value} {l : List Nat} (h : NRow B w v l) :
  ∃ x cap, v = .slice x l.length cap /\ l.length <= cap /\ cap <= maxLen /\ (0 < l.length -> ∃ g, x = some ⟨g, 0, none⟩ /\ g < w.heap.size /\ B <= g /\ ∀ k, (hk : k < l.length) -> w.cell? ⟨g, k, none⟩ = some (zi ((l[k] : Nat) : Int))) := by
 obtain ⟨x, cap, hv, h1, h2, h3⟩ := row_form h
 refine ⟨x, cap, hv, h1, h2, fun h0 => ?_⟩
 obtain ⟨g, cap', hv', _, _, hg, hB, _, hc⟩ := h.at h0
 rw [hv] at hv'
 simp only [Value.slice.injEq] at hv'
 exact ⟨g, hv'.1, hg, hB, hc⟩
theorem lcaL_hit {l m : List Nat} {i : Nat} (hi : i < l.length) (hm : l[i] ∈ m) (hno : ∀ j, (hj : j < i) -> l[j]'(by omega) ∉ m) : lcaL l m = (l[i] : Int) := by
 have : meetL l m = some l[i] := by
  unfold meetL
  rw [List.find?_eq_some_iff_getElem]
  exact ⟨by simpa using hm, i, hi, rfl, fun j hj => by simpa using hno j hj⟩
 simp [lcaL, this]
theorem lcaL_miss {l m : List Nat} (hno : ∀ j, (hj : j < l.length) -> l[j] ∉ m) : lcaL l m = -1 := lca_none fun x hx => by
 obtain ⟨j, hj, rfl⟩ := List.mem_iff_getElem.1 hx
 exact hno j hj
set_option maxHeartbeats 2000000 in
theorem rlca_any (x y : Int) (w : World) (q bt bu bw n : Nat) (ft : Nat -> Bool) (fu fw : Nat -> Int) (T : Tr) (h : RIn w q bt bu bw n ft fu fw) (hs : Says T n ft fu fw) :
  Calls Try.prog 46 #[zp q 0, zi x, zi y] w fun e w' => e = .returned (zi (T.lcaI x y)) /\ Below w.heap.size w w' := by
 have h1 := hide (rhas_any x w q bt bu bw n ft fu fw T h hs)
 have h2 := hide (rhas_any y w q bt bu bw n ft fu fw T h hs)
 cases hx : T.hasI x
 ·rw [show T.lcaI x y = -1 from by rw [Tr.lcaI, Tr.upI_gone hx]; rfl]
  rw [hx] at h1
  clear h hs hx
  go_enter Try.func46, Try.ntmps46
  go_wp2_with fail
  refine (unhide h1).mono ?_
  rintro e w' ⟨rfl, rfl⟩
  go_wp2
  go_ret
  exact ⟨rfl, Below.refl _ _⟩
 ·rw [hx] at h1
  cases hy : T.hasI y
  ·rw [show T.lcaI x y = -1 from by rw [Tr.lcaI, Tr.upI_gone hy]; exact lca_none (by simp)]
   rw [hy] at h2
   clear h hs hx hy
   go_enter Try.func46, Try.ntmps46
   go_wp2_with fail
   refine (unhide h1).mono ?_
   rintro e w' ⟨rfl, rfl⟩
   go_wp2_with fail
   refine (unhide h2).mono ?_
   rintro e w' ⟨rfl, rfl⟩
   go_wp2
   go_ret
   exact ⟨rfl, Below.refl _ _⟩
  ·rw [hy] at h2
   have h3 := hide (above_any x w q bt bu bw n ft fu fw T h hs)
   have h4 := hide (fun (w1 : World) (hb : Below w.heap.size w w1) => above_any y w1 q bt bu bw n ft fu fw T (h.below hb) hs)
   unfold Tr.lcaI
   generalize T.upI x = l at *
   generalize T.upI y = m at *
   clear h hs hx hy
   go_enter Try.func46, Try.ntmps46
   go_wp2_with fail
   refine (unhide h1).mono ?_
   rintro e w' ⟨rfl, rfl⟩
   go_wp2_with fail
   refine (unhide h2).mono ?_
   rintro e w' ⟨rfl, rfl⟩
   go_wp2_with fail
   refine (unhide h3).mono ?_
   rintro e w1 ⟨⟨s1, rfl, r1⟩, b1⟩
   have HB1 := hide b1
   have HR1 := hide r1
   clear r1 b1
   go_wp2_with fail
   refine (unhide h4 w1 (unhide HB1)).mono ?_
   rintro e w2 ⟨⟨s2, rfl, r2⟩, b2⟩
   have r1 := row_keep (unhide HR1) (Keep.ofBelow b2 []) (fun _ _ => by simp)
   have r1' : NRow w.heap.size w2 s1 l := r1
   obtain ⟨xl, cl, rfl, p1, p2, p3⟩ := r1'.form
   obtain ⟨xm, cm, rfl, q1, q2, q3⟩ := r2.form
   have HB2 := hide ((unhide HB1).trans (b2.mono (unhide HB1).size))
   have HP := hide (And.intro p3 q3)
   clear r1 r1' r2 b2 HB1 HR1 p3 q3 h1 h2 h3 h4
   unfold maxLen at p2 q2
   generalize hLl : l.length = Ll at p1 ⊢
   generalize hLm : m.length = Lm at q1 ⊢
   have HLL := hide (And.intro hLl hLm)
   clear hLl hLm
   go_wp2
   go_loopw [9] (fun a w' => ∃ i : Nat, i <= Ll /\ a = zi i /\ Hid (Below w2.heap.size w2 w' /\ ∀ j, (hj : j < l.length) -> j < i -> l[j] ∉ m)) (fun a _ => Ll - (intOf a).toNat)
   case atStart => exact ⟨0, by omega, rfl, Below.refl _ _, fun j _ hj => by omega⟩
   case round =>
    obtain ⟨i, hi, rfl, HI⟩ := hrel
    by_cases hil : i < Ll
    ·have e1 : (i : Int) < (Ll : Int) := by omega
     have e2 : (0 : Int) <= (i : Int) := by omega
     have hil' : i < l.length := by rw [(unhide HLL).1]; exact hil
     obtain ⟨gl, rfl, hgl, _, cl9⟩ := (unhide HP).1 (by omega)
     have dl := cl9 i hil'
     clear cl9
     generalize hli : l[i] = li at *
     have HLI := hide hli
     clear hli
     go_wp2
     go_loopw [10] (fun a w' => ∃ k : Nat, k <= Lm /\ a = zi k /\ Hid (Below w2.heap.size w2 w' /\ ∀ j, (hj : j < m.length) -> j < k -> m[j] ≠ li)) (fun a _ => Lm - (intOf a).toNat)
     case atStart => exact ⟨0, by omega, rfl, (unhide HI).1, fun j _ hj => by omega⟩
     case round =>
      obtain ⟨k, hk, rfl, HK⟩ := hrel
      by_cases hkl : k < Lm
      ·have e3 : (k : Int) < (Lm : Int) := by omega
       have e4 : (0 : Int) <= (k : Int) := by omega
       have hkl' : k < m.length := by rw [(unhide HLL).2]; exact hkl
       obtain ⟨gm, rfl, hgm, _, cm9⟩ := (unhide HP).2 (by omega)
       have dm := cm9 k hkl'
       clear cm9
       generalize hmk : m[k] = mk at *
       have HMK := hide (And.intro hmk (show mk ∈ m from hmk ▸ List.getElem_mem hkl'))
       clear hmk
       have dl' := dl
       rw [← (unhide HK).1.cell (p := ⟨gl, i, none⟩) hgl] at dl'
       rw [← (unhide HK).1.cell (p := ⟨gm, k, none⟩) hgm] at dm
       clear dl
       by_cases he : li = mk
       ·have he' : ((li : Int) == (mk : Int)) = true := by rw [beq_iff_eq]; omega
        have HE := hide he
        clear he
        go_wp2
        go_quiet (fail)
        go_wp2
        go_ret
        refine ⟨?_, below_drewN ((unhide HB2).trans ((unhide HK).1.mono (unhide HB2).size)) _⟩
        have hh := lcaL_hit hil' (by rw [unhide HLI, unhide HE]; exact (unhide HMK).2) (fun j hj => (unhide HI).2 j (by omega) hj)
        rw [hh, unhide HLI]; rfl
       ·have he' : ((li : Int) == (mk : Int)) = false := by rw [beq_eq_false_iff_ne]; omega
        have HE := hide he
        clear he
        go_wp2
        go_quiet (fail)
        go_wp2
        go_roundw
        case rel =>
         refine ⟨k + 1, by omega, by go_num, below_drewN (unhide HK).1 _, fun j hj hjk => ?_⟩
         by_cases e : j = k
         ·subst e; rw [(unhide HMK).1]; exact fun e => unhide HE e.symm
         ·exact (unhide HK).2 j hj (by omega)
        case measure => simp [intOf]; omega
      ·have e3 : ¬ (k : Int) < (Lm : Int) := by omega
       have hkm : k = Lm := by omega
       have HKM := hide hkm
       clear hkm dl
       go_wp2
       go_roundw
       case rel =>
        refine ⟨i + 1, by omega, by go_num, (unhide HK).1, fun j hj hji => ?_⟩
        by_cases e : j = i
        ·subst e
         rw [unhide HLI]
         intro hm
         obtain ⟨j2, hj2, e2⟩ := List.mem_iff_getElem.1 hm
         exact (unhide HK).2 j2 hj2 (by rw [unhide HKM, ← (unhide HLL).2]; exact hj2) e2
        ·exact (unhide HI).2 j hj (by omega)
       case measure => simp [intOf]; omega
    ·have e1 : ¬ (i : Int) < (Ll : Int) := by omega
     have hil2 : i = Ll := by omega
     have HE := hide (show lcaL l m = -1 from lcaL_miss fun j hj => (unhide HI).2 j hj (by rw [hil2, ← (unhide HLL).1]; exact hj))
     clear hil2
     go_wp2
     go_ret
     exact ⟨by rw [unhide HE]; rfl, (unhide HB2).trans ((unhide HI).1.mono (unhide HB2).size)⟩
theorem Tr.Wf.up_nodup {T : Tr} (h : T.Wf) (u : Nat) : (T.up u).Nodup := by
 by_cases e : T.par u = -2
 ·rw [T.up_gone e]; exact List.nodup_nil
 ·exact (h.spec e).nodup
theorem take_hit {l : List Nat} {k i : Nat} (hk : k < l.length) (nd : l.Nodup) (he : l[k] = i) : i ∉ l.take k /\ i ∈ l.take (k + 1) := by
 subst he
 constructor
 ·intro hm
  obtain ⟨j, hj, e⟩ := List.mem_iff_getElem.1 hm
  rw [List.length_take] at hj
  rw [List.getElem_take] at e
  have := (List.getElem_inj nd).1 e
  omega
 ·rw [List.take_add_one, List.mem_append]; right; simp [hk]
theorem take_miss {l : List Nat} {k i : Nat} (hk : k < l.length) (he : l[k] ≠ i) : i ∈ l.take (k + 1) ↔ i ∈ l.take k := by
 rw [List.take_add_one, List.mem_append]
 constructor
 ·rintro (h | h)
  ·exact h
  ·simp [hk] at h; exact absurd h.symm he
 ·exact .inl
theorem Tr.Wf.tot_pos {T : Tr} (h : T.Wf) {i : Nat} (hi : T.par i ≠ -2) : 0 < T.tot (fun _ => 1) i := by
 rw [← (Tr.subI_tot hi).1, Tr.subI_c hi]
 have : i ∈ T.sub i := by
  rw [Tr.sub, List.mem_filter]
  exact ⟨List.mem_range.2 (h.lt i hi), by simpa using h.self hi⟩
 have := List.length_pos_of_mem this
 omega
theorem tot_step (F : Nat -> Int) (m : Nat) (a x : Int) (ha : a = sumTo F m) (hx : x = F m) : a + x = sumTo F (m + 1) := by rw [ha, hx]; rfl
set_option maxHeartbeats 4000000 in
theorem rsub_any (x : Int) (w : World) (q bt bu bw n : Nat) (ft : Nat -> Bool) (fu fw : Nat -> Int) (T : Tr) (h : RIn w q bt bu bw n ft fu fw) (hs : Says T n ft fu fw) :
  Calls Try.prog 34 #[zp q 0, zi x] w fun e w' => e = .returned (.tuple #[zi (T.subI x).c, zi (T.subI x).s, .bool (T.hasI x)]) /\ Below w.heap.size w w' := by
 have hH := hide (fun (w1 : World) (hb : Below w.heap.size w w1) => rhas_any x w1 q bt bu bw n ft fu fw T (h.below hb) hs)
 cases hh : T.hasI x
 ·rw [show T.subI x = zero from by simp [Tr.subI, hh]]
  rw [hh] at hH
  clear h hs hh
  go_enter Try.func34, Try.ntmps34
  go_wp2
  go_loopw [7, 8, 9] (fun a b c w' => a = zi 0 /\ b = zi 0 /\ c = zi 0 /\ Hid (w' = w)) (fun _ _ _ _ => 0)
  case atStart => exact ⟨rfl, rfl, rfl, rfl⟩
  case round =>
   obtain ⟨rfl, rfl, rfl, HW⟩ := hrel
   have e := unhide HW
   subst e
   go_wp2_with fail
   refine (unhide hH _ (Below.refl _ _)).mono ?_
   rintro e w' ⟨rfl, rfl⟩
   go_wp2
   exact bodyPost_ret (v := .tuple #[zi 0, zi 0, .bool false]) (by simp [results, Try.results34, go_sem]) rfl ⟨rfl, Below.refl _ _⟩
 ·rw [hh] at hH
  obtain ⟨i, rfl, hi⟩ := Tr.hasI_true hh
  have HA := hide (fun (m : Nat) (w1 : World) (hb : Below w.heap.size w w1) => above_any (m : Int) w1 q bt bu bw n ft fu fw T (h.below hb) hs)
  have hn := hs.le
  obtain ⟨c0, c1, c2⟩ := h.cells
  have hq : q < w.heap.size := blk_lt h.blk
  have hbw : bw < w.heap.size := h.rw.lt
  have HC : Hid (∀ y, y < n -> w.cell? ⟨bw, y, none⟩ = some (zi (fw y)) /\ (T.par y ≠ -2 -> fw y = T.wt y)) := fun y hy => ⟨by rw [h.rw.cell hy, inV], hs.wt y⟩
  have HN := hide hs.wf.up_nodup
  have HWt := hide hs.fit.wt
  have HT : Hid ((T.subI i).c = sumTo (fun u => if i ∈ T.up u then 1 else 0) n /\ (T.subI i).s = sumTo (fun u => if i ∈ T.up u then T.wt u else 0) n /\ 0 < (T.subI i).c) := by
   refine ⟨?_, ?_, ?_⟩
   ·rw [(Tr.subI_tot hi).1, Tr.tot, hs.nn]
   ·rw [(Tr.subI_tot hi).2, Tr.tot, hs.nn]
   ·rw [(Tr.subI_tot hi).1]; exact hs.wf.tot_pos hi
  clear h hs hh hi c0
  go_enter Try.func34, Try.ntmps34
  go_wp2
  go_loopw [7, 8, 9] (fun a b c w' => ∃ (m : Nat) (A B : Int), m <= n /\ a = zi A /\ b = zi B /\ c = zi m /\ 0 <= A /\ A <= m /\ (m : Int) * (-1099511627776) <= B /\ B <= (m : Int) * 1099511627776 /\ Hid (Below w.heap.size w w' /\ A = sumTo (fun u => if i ∈ T.up u then 1 else 0) m /\ B = sumTo (fun u => if i ∈ T.up u then T.wt u else 0) m)) (fun _ _ c _ => n - (intOf c).toNat)
  case atStart => exact ⟨0, 0, 0, by omega, rfl, rfl, rfl, by omega, by omega, by omega, by omega, Below.refl _ _, rfl, rfl⟩
  case round =>
   obtain ⟨m, A, B, hm, rfl, rfl, rfl, a1, a2, b1, b2, HL⟩ := hrel
   have hq2 := hide (unhide hH wr (unhide HL).1)
   have c1' := c1
   rw [← (unhide HL).1.cell (p := ⟨q, 1, none⟩) hq] at c1'
   by_cases hlt : m < n
   ·have e1 : (m : Int) < (n : Int) := by omega
    have e2 : (0 : Int) <= (m : Int) := by omega
    have hA1 := hide (unhide HA m wr (unhide HL).1)
    go_wp2_with fail
    refine (unhide hq2).mono ?_
    rintro e w' ⟨rfl, rfl⟩
    go_wp2_with fail
    refine (unhide hA1).mono ?_
    rintro e w2 ⟨⟨s1, rfl, r1⟩, b3⟩
    rw [Tr.upI_nat] at r1
    obtain ⟨xl, cl, rfl, p1, p2, p3⟩ := r1.form
    have HB2 := hide ((unhide HL).1.trans (b3.mono (unhide HL).1.size))
    have HP := hide p3
    have HS := hide (unhide HL).2
    have HD := hide (unhide HN m)
    obtain ⟨dw, dw2⟩ := unhide HC m hlt
    have HDW : Hid (i ∈ T.up m -> fw m = T.wt m) := fun hm => dw2 (Tr.there hm)
    have hwt := unhide HWt m
    have c2' := c2
    rw [← (unhide HB2).cell (p := ⟨q, 2, none⟩) hq] at c2'
    rw [← (unhide HB2).cell (p := ⟨bw, m, none⟩) hbw] at dw
    have hq9 : q < w2.heap.size := Nat.lt_of_lt_of_le hq (unhide HB2).size
    have hbw9 : bw < w2.heap.size := Nat.lt_of_lt_of_le hbw (unhide HB2).size
    unfold maxLen at p2
    generalize hLl : (T.up m).length = Ll at p1 ⊢
    have HLL := hide hLl
    clear hLl r1 p3 b3 HL hA1 hq2 c1' dw2
    generalize hWm : T.wt m = W at *
    have HWM := hide hWm
    clear hWm
    generalize fw m = W' at *
    go_wp2
    go_loopw [7, 8, 11] (fun a b c w' => ∃ (k : Nat) (A' B' : Int), k <= Ll /\ a = zi A' /\ b = zi B' /\ c = zi k /\ Hid (Below w2.heap.size w2 w' /\ A' = A + (if i ∈ (T.up m).take k then 1 else 0) /\ B' = B + (if i ∈ (T.up m).take k then W else 0))) (fun _ _ c _ => Ll - (intOf c).toNat)
    case atStart => exact ⟨0, A, B, by omega, rfl, rfl, rfl, Below.refl _ _, by simp, by simp⟩
    case round =>
     obtain ⟨k, A', B', hk, rfl, rfl, rfl, HK⟩ := hrel
     by_cases hkl : k < Ll
     ·have e3 : (k : Int) < (Ll : Int) := by omega
      have e4 : (0 : Int) <= (k : Int) := by omega
      have hkl' : k < (T.up m).length := by rw [unhide HLL]; exact hkl
      obtain ⟨gm, rfl, hgm, _, cm9⟩ := unhide HP (by omega)
      have dm := cm9 k hkl'
      clear cm9
      rw [← (unhide HK).1.cell (p := ⟨gm, k, none⟩) hgm] at dm
      by_cases he : (T.up m)[k] = i
      ·obtain ⟨t1, t2⟩ := take_hit hkl' (unhide HD) he
       have hin : i ∈ T.up m := he ▸ List.getElem_mem hkl'
       have hW := unhide HDW hin
       obtain ⟨k1, k2, k3⟩ := unhide HK
       rw [if_neg t1] at k2 k3
       have hA : A' = A := by omega
       have hB : B' = B := by omega
       rw [he] at dm
       rw [hW] at dw
       rw [← k1.cell (p := ⟨q, 2, none⟩) hq9] at c2'
       rw [← k1.cell (p := ⟨bw, m, none⟩) hbw9] at dw
       have HQ := hide (And.intro k1 t2)
       clear k1 k2 k3 t1 t2 hin HDW HK he hkl' hW
       subst hA
       subst hB
       have v1 : IntKind.i64.wrap (A' + 1) = A' + 1 := IntWalk.i64_in _ (by omega)
       have v2 : IntKind.i64.wrap (B' + W) = B' + W := IntWalk.i64_in _ (by omega)
       go_wp2
       go_quiet (fail)
       go_wp2
       go_roundw
       case rel =>
        refine ⟨k + 1, A' + 1, B' + W, by omega, ?_, ?_, by go_num, below_drewN (unhide HQ).1 _, by rw [if_pos (unhide HQ).2], by rw [if_pos (unhide HQ).2]⟩
        ·go_num
        ·go_num
       case measure => simp [intOf]; omega
      ·have ht := take_miss hkl' he
       have he' : (((T.up m)[k] : Nat) : Int) ≠ (i : Int) := by omega
       generalize (T.up m)[k] = y at *
       have he2 : ((y : Int) == (i : Int)) = false := beq_eq_false_iff_ne.2 he'
       have HQ := hide (And.intro (unhide HK) ht)
       clear HK ht he he'
       go_wp2
       go_roundw
       case rel =>
        obtain ⟨⟨k1, k2, k3⟩, ht⟩ := unhide HQ
        refine ⟨k + 1, A', B', by omega, rfl, rfl, by go_num, k1, ?_, ?_⟩
        ·rw [k2]; simp only [ht]
        ·rw [k3]; simp only [ht]
       case measure => simp [intOf]; omega
     ·have e3 : ¬ (k : Int) < (Ll : Int) := by omega
      obtain ⟨k1, k2, k3⟩ := unhide HK
      rw [List.take_of_length_le (by rw [unhide HLL]; omega)] at k2 k3
      have HQ : Hid (A' = sumTo (fun u => if i ∈ T.up u then 1 else 0) (m + 1)) := by
       show _ = _
       rw [k2]
       exact tot_step _ _ _ _ (unhide HS).1 rfl
      have g1 : 0 <= A' /\ A' <= ((m + 1 : Nat) : Int) /\ ((m + 1 : Nat) : Int) * (-1099511627776) <= B' /\ B' <= ((m + 1 : Nat) : Int) * 1099511627776 := by
       split at k2 <;> rename_i hx <;> simp only [hx, if_true, if_false] at k3 <;> omega
      have HG := hide g1
      have HK2 := hide (And.intro k1 k3)
      clear HK k1 k2 k3 g1
      go_wp2
      go_roundw
      case rel =>
       obtain ⟨g1, g2, g3, g4⟩ := unhide HG
       refine ⟨m + 1, A', B', by omega, rfl, rfl, by go_num, g1, g2, g3, g4, (unhide HB2).trans ((unhide HK2).1.mono (unhide HB2).size), unhide HQ, ?_⟩
       rw [(unhide HK2).2]
       exact tot_step _ _ _ _ (unhide HS).2 (by rw [← unhide HWM])
      case measure => simp [intOf]; omega
   ·have e1 : ¬ (m : Int) < (n : Int) := by omega
    have hmn : m = n := by omega
    obtain ⟨r1, r2, r3⟩ := unhide HL
    rw [hmn] at r2 r3
    rw [← (unhide HT).1] at r2
    rw [← (unhide HT).2.1] at r3
    have hpos : 0 < A := by rw [r2]; exact (unhide HT).2.2
    have HQ := hide (And.intro r1 (And.intro r2 r3))
    clear r1 r2 r3 HL hmn
    go_wp2_with fail
    refine (unhide hq2).mono ?_
    rintro e w' ⟨rfl, rfl⟩
    go_wp2
    exact bodyPost_ret (v := .tuple #[zi A, zi B, .bool true]) (by simp [results, Try.results34, go_sem]) rfl ⟨by rw [(unhide HQ).2.1, (unhide HQ).2.2], (unhide HQ).1⟩
theorem rsize_any (x : Int) (w : World) (q bt bu bw n : Nat) (ft : Nat -> Bool) (fu fw : Nat -> Int) (T : Tr) (h : RIn w q bt bu bw n ft fu fw) (hs : Says T n ft fu fw) :
  Calls Try.prog 48 #[zp q 0, zi x] w fun e w' => e = .returned (zi (T.sizeI x)) /\ Below w.heap.size w w' := by
 have h1 := hide (rroot_any x w q bt bu bw n ft fu fw T h hs)
 have h2 := hide (rsub_any (T.rootI x) w q bt bu bw n ft fu fw T h hs)
 unfold Tr.sizeI
 generalize T.rootI x = r at *
 generalize (T.subI r).c = c at *
 generalize (T.subI r).s = s at *
 generalize T.hasI r = b at *
 clear h hs
 go_enter Try.func48, Try.ntmps48
 go_wp2_with fail
 refine (unhide h1).mono ?_
 rintro e w' ⟨rfl, rfl⟩
 go_wp2_with fail
 refine (unhide h2).mono ?_
 rintro e w' ⟨rfl, hb⟩
 have HB := hide hb
 clear hb
 go_wp2
 go_ret
 exact ⟨rfl, unhide HB⟩
end Go.Proofs.Ytjnkgakajenoaaa
