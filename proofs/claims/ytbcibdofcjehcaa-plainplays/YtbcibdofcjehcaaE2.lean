import Derived.Test.YtbcibdofcjehcaaE
import Derived.Test.YtbcibdofcjehcaaA3
namespace Go.Proofs.Ytbcibdofcjehcaa
open Go.RowKit Go.Arb
set_option linter.unusedVariables false
set_option linter.unusedSimpArgs false

/-- The document's forest, in the blocks ks. -/
def RfAt (w : World) (q : Nat) (T : Tr) (ks : List Nat) : Prop := ∃ bt bu bw n ft fu fw, RIn w q bt bu bw n ft fu fw ∧ Says T n ft fu fw ∧ ks = [q, bt, bu, bw]

theorem rfits_any' (n : Int) (w : World) : Calls Try.prog 54 #[.int .i64 n] w fun r w' => r = .returned (.bool (fitB n)) ∧ w = w' := (rfits_any n w).mono fun e w' h => ⟨h.1, h.2.symm⟩

theorem Tr.Wf.same_iff' {T : Tr} (h : T.Wf) {u : Nat} {y : Int} (hu : T.par u ≠ -2) : T.sameI u y = (T.rootI u == T.rootI y) := by
  unfold Tr.sameI
  rw [show (T.rootI u != -1) = true from by simpa using h.root_has hu, Bool.true_and]

set_option maxHeartbeats 1000000 in
theorem rsame_any (x y : Int) (w : World) (q bt bu bw n : Nat) (ft : Nat → Bool) (fu fw : Nat → Int) (T : Tr) (h : RIn w q bt bu bw n ft fu fw) (hs : Says T n ft fu fw) :
    Calls Try.prog 44 #[.pointer (some ⟨q, 0, none⟩), .int .i64 x, .int .i64 y] w fun e w' => e = .returned (.bool (T.sameI x y)) ∧ w = w' := by
  have h1 := hide (rhas_any x w q bt bu bw n ft fu fw T h hs)
  have h2 := hide (rhas_any y w q bt bu bw n ft fu fw T h hs)
  have h3 := hide (rroot_any x w q bt bu bw n ft fu fw T h hs)
  have h4 := hide (rroot_any y w q bt bu bw n ft fu fw T h hs)
  cases hx : T.hasI x
  · rw [show T.sameI x y = false from by simp [Tr.sameI, Tr.rootI_gone hx]]
    rw [hx] at h1
    clear h hs hx
    go_enter Try.func44, Try.ntmps44
    go_wp2_with fail
    refine (unhide h1).mono ?_
    rintro e w' ⟨rfl, rfl⟩
    go_wp2
    go_ret
    exact ⟨rfl, rfl⟩
  · obtain ⟨i, rfl, hi⟩ := Tr.hasI_true hx
    rw [hx] at h1
    cases hy : T.hasI y
    · rw [show T.sameI i y = false from by
        rw [hs.wf.same_iff' hi, Tr.rootI_gone hy]
        exact beq_eq_false_iff_ne.2 (hs.wf.root_has hi)]
      rw [hy] at h2
      clear h hs hx hy hi
      go_enter Try.func44, Try.ntmps44
      go_wp2_with fail
      refine (unhide h1).mono ?_
      rintro e w' ⟨rfl, rfl⟩
      go_wp2_with fail
      refine (unhide h2).mono ?_
      rintro e w' ⟨rfl, rfl⟩
      go_wp2
      go_ret
      exact ⟨rfl, rfl⟩
    · rw [hy] at h2
      rw [hs.wf.same_iff' hi]
      clear h hs hx hy hi
      generalize T.rootI i = a at *
      generalize T.rootI y = b at *
      go_enter Try.func44, Try.ntmps44
      go_wp2_with fail
      refine (unhide h1).mono ?_
      rintro e w' ⟨rfl, rfl⟩
      go_wp2_with fail
      refine (unhide h2).mono ?_
      rintro e w' ⟨rfl, rfl⟩
      go_wp2_with fail
      refine (unhide h3).mono ?_
      rintro e w' ⟨rfl, rfl⟩
      go_wp2_with fail
      refine (unhide h4).mono ?_
      rintro e w' ⟨rfl, rfl⟩
      go_wp2
      go_ret
      exact ⟨rfl, rfl⟩

theorem Says.cut {T : Tr} {n : Nat} {ft : Nat → Bool} {fu fw : Nat → Int} (h : Says T n ft fu fw) {c : Nat} (hc : T.par c ≠ -2) : Says (T.cut c) n ft (updF fu c (-1)) fw := by
  refine ⟨h.nn, fun v hv => ?_, fun v hv => ?_, fun v hv => ?_, h.wf.cut hc, h.fit.cut hc⟩
  · rw [h.th v hv]
    rw [Bool.eq_iff_iff]
    simp only [bne_iff_ne, ne_eq, Tr.cut_gone hc]
  · show updF fu c (-1) v = updF T.par c (-1) v
    by_cases e : v = c
    · subst e; rw [updF_same, updF_same]
    · rw [updF_other _ _ e, updF_other _ _ e]; exact h.up v (fun e' => hv ((Tr.cut_gone hc).2 e'))
  · exact h.wt v (fun e' => hv ((Tr.cut_gone hc).2 e'))
theorem Says.link {T : Tr} {n : Nat} {ft : Nat → Bool} {fu fw : Nat → Int} (h : Says T n ft fu fw) {c p : Nat} (hc : T.par c = -1) (hp : T.par p ≠ -2) (hr : c ∉ T.up p) : Says (T.link c p) n ft (updF fu c (p : Int)) fw := by
  have hc' : T.par c ≠ -2 := by omega
  refine ⟨h.nn, fun v hv => ?_, fun v hv => ?_, fun v hv => ?_, h.wf.link hc hp hr, h.fit.link hc'⟩
  · rw [h.th v hv]
    rw [Bool.eq_iff_iff]
    simp only [bne_iff_ne, ne_eq, Tr.link_gone hc']
  · show updF fu c (p : Int) v = updF T.par c (p : Int) v
    by_cases e : v = c
    · subst e; rw [updF_same, updF_same]
    · rw [updF_other _ _ e, updF_other _ _ e]; exact h.up v (fun e' => hv ((Tr.link_gone hc').2 e'))
  · exact h.wt v (fun e' => hv ((Tr.link_gone hc').2 e'))
theorem Says.set {T : Tr} {n : Nat} {ft : Nat → Bool} {fu fw : Nat → Int} (h : Says T n ft fu fw) {c : Nat} {x : Int} (hc : T.par c ≠ -2) (hx : fitB x = true) : Says (T.set c x) n ft fu (updF fw c x) := by
  refine ⟨h.nn, h.th, h.up, fun v hv => ?_, h.wf.set, h.fit.set hc (by simpa [fitB] using hx)⟩
  show updF fw c x v = updF T.wt c x v
  by_cases e : v = c
  · subst e; rw [updF_same, updF_same]
  · rw [updF_other _ _ e, updF_other _ _ e]; exact h.wt v hv
theorem Says.add {T : Tr} {n : Nat} {ft : Nat → Bool} {fu fw : Nat → Int} (h : Says T n ft fu fw) {c : Nat} {x : Int} (hc : T.par c = -2) (hn : c < n) (hx : fitB x = true) : Says (T.add c x) n (updF ft c true) (updF fu c (-1)) (updF fw c x) := by
  refine ⟨h.nn, fun v hv => ?_, fun v hv => ?_, fun v hv => ?_, h.wf.add hc (by rw [← h.nn]; exact hn), h.fit.add (by simpa [fitB] using hx)⟩
  · show _ = (updF T.par c (-1) v != -2)
    by_cases e : v = c
    · subst e; simp [updF]
    · rw [updF_other _ _ e, updF_other _ _ e]; exact h.th v hv
  · show updF fu c (-1) v = updF T.par c (-1) v
    have hv' : updF T.par c (-1) v ≠ -2 := hv
    by_cases e : v = c
    · subst e; rw [updF_same, updF_same]
    · rw [updF_other _ _ e] at hv' ⊢
      rw [updF_other _ _ e]; exact h.up v hv'
  · show updF fw c x v = updF T.wt c x v
    have hv' : updF T.par c (-1) v ≠ -2 := hv
    by_cases e : v = c
    · subst e; rw [updF_same, updF_same]
    · rw [updF_other _ _ e] at hv' ⊢
      rw [updF_other _ _ e]; exact h.wt v hv'
theorem Says.drop {T : Tr} {n : Nat} {ft : Nat → Bool} {fu fw : Nat → Int} (h : Says T n ft fu fw) {c : Nat} (hk : ∀ y, T.par y ≠ (c : Int)) : Says (T.drop c) n (updF ft c false) fu fw := by
  have k : ∀ v, (T.drop c).par v ≠ -2 → v ≠ c ∧ T.par v ≠ -2 := fun v hv => by
    have hv' : updF T.par c (-2) v ≠ -2 := hv
    by_cases e : v = c
    · subst e; rw [updF_same] at hv'; exact absurd rfl hv'
    · rw [updF_other _ _ e] at hv'; exact ⟨e, hv'⟩
  refine ⟨h.nn, fun v hv => ?_, fun v hv => ?_, fun v hv => ?_, h.wf.drop hk, h.fit.drop⟩
  · show _ = (updF T.par c (-2) v != -2)
    by_cases e : v = c
    · subst e; simp [updF]
    · rw [updF_other _ _ e, updF_other _ _ e]; exact h.th v hv
  · show fu v = updF T.par c (-2) v
    rw [updF_other _ _ (k v hv).1]; exact h.up v (k v hv).2
  · show fw v = updF T.wt c 0 v
    rw [updF_other _ _ (k v hv).1]; exact h.wt v (k v hv).2
theorem turn_congr {u : Nat} : ∀ {l : List Nat} {b : Int} {f g : Nat → Int}, f u = g u → turn f b l u = turn g b l u
  | [], _, _, _, h => h
  | v :: l, b, f, g, h => by
    refine turn_congr (l := l) ?_
    by_cases e : u = v
    · subst e; rw [updF_same, updF_same]
    · rw [updF_other _ _ e, updF_other _ _ e]; exact h
theorem Says.evert {T : Tr} {n : Nat} {ft : Nat → Bool} {fu fw : Nat → Int} (h : Says T n ft fu fw) {c : Nat} (hc : T.par c ≠ -2) : Says (T.evert c) n ft (turn fu (-1) (T.up c)) fw := by
  refine ⟨h.nn, fun v hv => ?_, fun v hv => ?_, fun v hv => ?_, h.wf.evert hc, h.fit.evert h.wf hc⟩
  · rw [h.th v hv]
    rw [Bool.eq_iff_iff]
    simp only [bne_iff_ne, ne_eq, h.wf.evert_there hc]
  · exact turn_congr (f := fu) (g := T.par) (h.up v (fun e => hv ((h.wf.evert_there hc).2 e)))
  · exact h.wt v (fun e => hv ((h.wf.evert_there hc).2 e))

set_option maxHeartbeats 1000000 in
theorem rcut_any (x : Int) (w : World) (q bt bu bw n : Nat) (ft : Nat → Bool) (fu fw : Nat → Int) (T : Tr) (h : RIn w q bt bu bw n ft fu fw) (hs : Says T n ft fu fw) :
    Calls Try.prog 24 #[.pointer (some ⟨q, 0, none⟩), .int .i64 x] w fun e w' => e = .returned (.bool (T.cutB x)) ∧ ∃ fu', RIn w' q bt bu bw n ft fu' fw ∧ Says (T.cutI x) n ft fu' fw ∧ Keep [q, bt, bu, bw] w w' := by
  have h1 := hide (rparent_any x w q bt bu bw n ft fu fw T h hs)
  have hn := hs.le
  cases hb : T.cutB x
  · have hp : T.parI x = -1 := by simpa [Tr.cutB] using hb
    rw [cutI_no hb]
    rw [hp] at h1
    have R := hide (And.intro h hs)
    clear h hs hb hp
    go_enter Try.func24, Try.ntmps24
    go_wp2_with fail
    refine (unhide h1).mono ?_
    rintro e w' ⟨rfl, rfl⟩
    go_wp2
    go_ret
    exact ⟨rfl, fu, (unhide R).1, (unhide R).2, Keep.refl _ _⟩
  · have hb' : T.parI x ≠ -1 := by simpa [Tr.cutB] using hb
    cases hh : T.hasI x
    · exact absurd (by simp [Tr.parI, hh]) hb'
    obtain ⟨i, rfl, hi⟩ := Tr.hasI_true hh
    rw [parI_nat hi] at hb' h1
    obtain h3 | ⟨z, hz, _⟩ := hs.wf.par_cases hi
    · exact absurd h3 hb'
    rw [hz] at h1
    rw [cutI_yes hb, Int.toNat_natCast]
    obtain ⟨c0, c1, c2⟩ := h.cells
    have hlt := hs.lt hi
    have d := h.ru.cell hlt
    have f := h.ru.frozen i
    unfold inV at d
    have R1 := h.setU i (-1)
    have R := hide (And.intro R1.1 (And.intro (hs.cut hi) R1.2))
    generalize fu i = y at *
    have e1 : (0 : Int) ≤ (i : Int) := by omega
    have e2 : (i : Int) < (n : Int) := by omega
    have e3 : ¬ (z : Int) < 0 := by omega
    clear h hs hb hb' hh hi hz R1
    go_enter Try.func24, Try.ntmps24
    go_wp2_with fail
    refine (unhide h1).mono ?_
    rintro e w' ⟨rfl, rfl⟩
    go_wp2
    go_ret
    exact ⟨rfl, _, (unhide R).1, (unhide R).2.1, (unhide R).2.2⟩

set_option maxHeartbeats 1000000 in
theorem rset_any (x y : Int) (w : World) (q bt bu bw n : Nat) (ft : Nat → Bool) (fu fw : Nat → Int) (T : Tr) (h : RIn w q bt bu bw n ft fu fw) (hs : Says T n ft fu fw) :
    Calls Try.prog 28 #[.pointer (some ⟨q, 0, none⟩), .int .i64 x, .int .i64 y] w fun e w' => e = .returned (.bool (T.hasI x && fitB y)) ∧ ∃ fw', RIn w' q bt bu bw n ft fu fw' ∧ Says (T.setI x y) n ft fu fw' ∧ Keep [q, bt, bu, bw] w w' := by
  have h1 := hide (rhas_any x w q bt bu bw n ft fu fw T h hs)
  have h2 := hide (rfits_any' y w)
  have hn := hs.le
  cases hb : T.hasI x && fitB y
  · rw [setI_no hb]
    have R := hide (And.intro h hs)
    clear h hs
    generalize T.hasI x = a at *
    generalize fitB y = b at *
    cases a
    · clear hb
      go_enter Try.func28, Try.ntmps28
      go_wp2_with fail
      refine (unhide h1).mono ?_
      rintro e w' ⟨rfl, rfl⟩
      go_wp2
      go_ret
      exact ⟨rfl, fw, (unhide R).1, (unhide R).2, Keep.refl _ _⟩
    · simp at hb
      subst hb
      go_enter Try.func28, Try.ntmps28
      go_wp2_with fail
      refine (unhide h1).mono ?_
      rintro e w' ⟨rfl, rfl⟩
      go_wp2_with fail
      refine (unhide h2).mono ?_
      rintro e w' ⟨rfl, rfl⟩
      go_wp2
      go_ret
      exact ⟨rfl, fw, (unhide R).1, (unhide R).2, Keep.refl _ _⟩
  · have hb' := hb
    rw [Bool.and_eq_true] at hb'
    obtain ⟨i, rfl, hi⟩ := Tr.hasI_true hb'.1
    rw [hb'.1] at h1
    rw [hb'.2] at h2
    have ht : T.setI i y = T.set i y := by rw [Tr.setI, hb]; rfl
    rw [ht]
    obtain ⟨c0, c1, c2⟩ := h.cells
    have hlt := hs.lt hi
    have d := h.rw.cell hlt
    have f := h.rw.frozen i
    unfold inV at d
    have R1 := h.setW i y
    have R := hide (And.intro R1.1 (And.intro (hs.set hi hb'.2) R1.2))
    generalize fw i = z at *
    have e1 : (0 : Int) ≤ (i : Int) := by omega
    have e2 : (i : Int) < (n : Int) := by omega
    clear h hs hb hb' hi R1 ht
    go_enter Try.func28, Try.ntmps28
    go_wp2_with fail
    refine (unhide h1).mono ?_
    rintro e w' ⟨rfl, rfl⟩
    go_wp2_with fail
    refine (unhide h2).mono ?_
    rintro e w' ⟨rfl, rfl⟩
    go_wp2
    go_ret
    exact ⟨rfl, _, (unhide R).1, (unhide R).2.1, (unhide R).2.2⟩

set_option maxHeartbeats 1000000 in
theorem revert_any (x : Int) (w : World) (q bt bu bw n : Nat) (ft : Nat → Bool) (fu fw : Nat → Int) (T : Tr) (h : RIn w q bt bu bw n ft fu fw) (hs : Says T n ft fu fw) :
    Calls Try.prog 26 #[.pointer (some ⟨q, 0, none⟩), .int .i64 x] w fun e w' => e = .returned (.bool (T.hasI x)) ∧ ∃ fu', RIn w' q bt bu bw n ft fu' fw ∧ Says (T.evertI x) n ft fu' fw ∧ Keep [q, bt, bu, bw] w w' := by
  have h1 := hide (rhas_any x w q bt bu bw n ft fu fw T h hs)
  have hn := hs.le
  cases hb : T.hasI x
  · rw [evertI_no hb]
    rw [hb] at h1
    have R := hide (And.intro h hs)
    clear h hs hb
    go_enter Try.func26, Try.ntmps26
    go_wp2_with fail
    refine (unhide h1).mono ?_
    rintro e w' ⟨rfl, rfl⟩
    go_wp2
    go_ret
    exact ⟨rfl, fu, (unhide R).1, (unhide R).2, Keep.refl _ _⟩
  · obtain ⟨i, rfl, hi⟩ := Tr.hasI_true hb
    rw [hb] at h1
    rw [evertI_yes hb, Int.toNat_natCast]
    have HE := hide (hs.evert hi)
    have HU := hide (hs.wf.spec hi)
    have HS := hide hs
    have HF := hide h
    have HL := hide (show hdI (T.up i) = i from by obtain ⟨t, e⟩ := (hs.wf.spec hi).head; rw [e]; rfl)
    clear h hs hb
    generalize T.up i = l0 at *
    go_enter Try.func26, Try.ntmps26
    go_wp2_with fail
    refine (unhide h1).mono ?_
    rintro e w' ⟨rfl, rfl⟩
    go_wp2
    go_loopg [1, 5] l0.length (fun gk a b w' => ∃ (fu' : Nat → Int) (l : List Nat) (z : Int), a = .int .i64 (hdI l) ∧ b = .int .i64 z ∧ l.length = gk ∧ Hid (RIn w' q bt bu bw n ft fu' fw ∧ Keep [q, bt, bu, bw] w w' ∧ turn fu' z l = turn fu (-1) l0 ∧ (∀ x ∈ l, fu' x = T.par x) ∧ (l = [] ∨ ∃ y, Up T.par y l)))
    case atStart => exact ⟨fu, l0, -1, by rw [unhide HL], rfl, rfl, unhide HF, Keep.refl _ _, rfl, fun x hx => (unhide HS).up x ((unhide HU).mem x hx), .inr ⟨i, unhide HU⟩⟩
    case round =>
      obtain ⟨fu', l, z, rfl, rfl, hgk, HK⟩ := hrel
      obtain ⟨r1, r2, r3, r4, r5⟩ := unhide HK
      cases l with
      | nil =>
        have R := hide (And.intro r1 (And.intro r2 (show fu' = turn fu (-1) l0 from r3)))
        clear r1 r2 r3 r4 r5 HK hgk
        rw [show hdI [] = -1 from rfl]
        go_wp2
        go_ret
        obtain ⟨r1, r2, r3⟩ := unhide R
        exact ⟨rfl, fu', r1, by rw [r3]; exact unhide HE, r2⟩
      | cons y t =>
        have hu : Up T.par y (y :: t) := by
          rcases r5 with e | ⟨y', hu⟩
          · simp at e
          · obtain ⟨t', e⟩ := hu.head
            simp at e
            rw [← e.1] at hu
            exact hu
        have nd := List.nodup_cons.1 hu.nodup
        have hyn := (unhide HS).lt hu.there
        have hpy : T.par y = hdI t := by
          rcases hu.next with ⟨e, rfl⟩ | ⟨p, e, hp⟩
          · exact e
          · obtain ⟨t', rfl⟩ := hp.head
            exact e
        obtain ⟨c0, c1, c2⟩ := r1.cells
        have d := r1.ru.cell hyn
        have f := r1.ru.frozen y
        unfold inV at d
        rw [r4 y (by simp), hpy] at d
        have R1 := r1.setU y z
        have R : Hid (RIn (wr.setCell ⟨bu, y, none⟩ (.int .i64 z)) q bt bu bw n ft (updF fu' y z) fw ∧ Keep [q, bt, bu, bw] w (wr.setCell ⟨bu, y, none⟩ (.int .i64 z)) ∧ turn (updF fu' y z) (y : Int) t = turn fu (-1) l0 ∧ (∀ x ∈ t, updF fu' y z x = T.par x) ∧ (t = [] ∨ ∃ y, Up T.par y t)) :=
          ⟨R1.1, r2.trans R1.2 (fun _ hk => .inl hk), r3, fun x hx => by rw [updF_other _ _ (show x ≠ y from fun e => nd.1 (e ▸ hx))]; exact r4 x (by simp [hx]), by
            rcases hu.next with ⟨_, e⟩ | ⟨p, _, hp⟩
            · exact .inl e
            · exact .inr ⟨p, hp⟩⟩
        clear r1 r2 r3 r4 r5 HK hu nd hpy R1
        rw [show hdI (y :: t) = (y : Int) from rfl]
        have e1 : (0 : Int) ≤ (y : Int) := by omega
        have e2 : (y : Int) < (n : Int) := by omega
        have HG := hide hgk
        clear hgk
        generalize hq : hdI t = z2 at *
        have HQ := hide hq
        clear hq
        go_wp2
        go_roundg (gk - 1)
        case rel => exact ⟨_, t, y, by rw [unhide HQ], rfl, by have := unhide HG; simp at this; omega, unhide R⟩
        all_goals
          have := unhide HG
          simp at this
          omega
end Go.Proofs.Ytbcibdofcjehcaa
