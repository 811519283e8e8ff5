/- The pool: Lift, Set, Before. -/
import Derived.Test.YtbkneonbpcmepaaQ7
namespace Go.Proofs.Ytbkneonbpcmepaa
open Go.RowKit Go.Arb
set_option linter.unusedVariables false
set_option linter.unusedSimpArgs false

section
variable {w w' : World} {p : Nat} {v : Value} {xs : List Value} {ad : Nat → Nat} {F F' D G : List Tp} {A A' : Se}
theorem plift_nil (a b d : Int) (w : World) : Calls Try.prog 23 #[.pointer none, .int .i64 a, .int .i64 b, .int .i64 d] w fun e w' => e = .returned (.bool false) ∧ Below w.heap.size w w' := by
  have S := hide (span_nil a b w)
  go_enter Try.func23, Try.ntmps23
  go_wp2_with fail
  refine (unhide S).mono ?_
  rintro e w1 ⟨rfl, q, rfl⟩
  go_wp2
  go_ret
  exact ⟨rfl, below_drewN (Below.refl _ _) q⟩
theorem tfs_one (T : Tp) : tfs [T] = tf T := by simp [tfs]
theorem ctx_lifted {T : Tp} {u d : Nat} {c : Cx d 0} {x : Tr 0} {F0 : List Tp} (h : PB w p v xs ad F0 A) (hp : F0.Perm (T :: F)) (q : Ctx w p v xs ad T F A u d c x) (hu : u ∈ A.L.flatten) {b by_ : Int} (hl : A.liftB u b by_ = true) {t' : Tr T.h} (e2 : fp T.h t' = fp T.h T.t) (e3 : its T.h t' = rrL (A.rankI u) (A.rankI b + 1) by_ (its T.h T.t))
    (e4 : Wf T.h 2 t') (m : Mem w' T.h (.pointer none) t') (k : Keep (fp T.h T.t) w w') : Out w w' p (p :: (own v ++ tfs F0)) (A.liftA u b by_) := by
  have o := q.own
  have eA : A.liftA u b by_ = { A with W := upW A.W (A.part u b) by_ } := by rw [Se.liftA, if_pos hl]
  have e5 := (q.liftFit hu hl).1
  have ho : A.okR u b = true := by simp only [Se.liftB, Bool.and_eq_true] at hl; exact hl.1
  obtain ⟨r1, r2, r3, r4, r5, r6⟩ := q.ranks hu ho
  refine h.turned (D := [T]) (F' := F) (G := [⟨T.h, t'⟩]) hp (by rw [tfs_one]; exact k) (fun S hS => ?_) (by rw [tfs_one]; show (fp T.h t').Nodup; rw [e2]; exact o.nd) (by rw [tfs_one, tfs_one]; intro x hx; left; rw [show tf ⟨T.h, t'⟩ = fp T.h t' from rfl, e2] at hx; exact hx) (by rw [eA]) (by rw [eA]) (by rw [eA]; exact h.ne) ?_
  · simp only [List.mem_singleton] at hS
    subst hS
    exact ⟨m, by show (fp T.h t').Nodup; rw [e2]; exact o.nd, e4, by show (its T.h t').length ≤ _; rw [e3, rrL_length]; exact o.len⟩
  · have hpL : (A.liftA u b by_).L.Perm (A.seq u :: A.L.erase (A.seq u)) := by rw [eA]; exact List.perm_cons_erase q.inL
    refine List.Perm.trans ?_ (hpL.map _).symm
    rw [List.map_cons, e5, List.singleton_append, List.map_cons]
    have e6 : (A.L.erase (A.seq u)).map (itw (A.liftA u b by_).W ad) = (A.L.erase (A.seq u)).map (itw A.W ad) := by
      refine List.map_congr_left (fun l hl' => itw_congr (fun k hk => ?_))
      rw [eA]
      show upW A.W (A.part u b) by_ k = A.W k
      unfold upW
      rw [if_neg]
      rw [r5]
      exact fun hm => q.far hl' k hk (slc_mem hm)
    rw [e6, show ti ⟨T.h, t'⟩ = its T.h t' from rfl, e3]
    exact List.Perm.cons _ q.rest
set_option maxRecDepth 100000 in
theorem plift_any (a b d : Int) (h : PB w p v xs ad F A) : Calls Try.prog 23 #[.pointer (some ⟨p, 0, none⟩), .int .i64 a, .int .i64 b, .int .i64 d] w fun e w' => e = .returned (.bool (A.liftB a b d)) ∧ Out w w' p (p :: (own v ++ tfs F)) (A.liftA a b d) := by
  have HH := hide h
  cases ho : A.okR a b
  · have hl : A.liftB a b d = false := by simp [Se.liftB, ho]
    have SP := hide (span_no a b h ho)
    have eA : A.liftA a b d = A := by simp [Se.liftA, hl]
    rw [hl, eA]
    clear h ho hl eA
    go_enter Try.func23, Try.ntmps23
    go_wp2_with fail
    refine (unhide SP).mono ?_
    rintro e w1 ⟨rfl, q, rfl⟩
    go_wp2
    go_ret
    exact ⟨rfl, (unhide HH).stay (below_drewN (Below.refl _ _) q)⟩
  · have ha : A.hasI a = true := by
      simp only [Se.okR, Se.sameI, Bool.and_eq_true] at ho
      exact ho.1.1.1
    obtain ⟨u, rfl, hu⟩ := Se.hasI_true ha
    obtain ⟨T, F', d0, c, x, q, hp⟩ := h.ctx' hu
    have SP := hide (span_yes b q hu ho)
    have SU := hide (fun k => (q.drewN k).sum hu ho)
    have CR := hide (fun W => canRise_any (A.rangeI u b).c (A.rangeI u b).s (A.rangeI u b).a (A.rangeI u b).b d W)
    have hl : A.liftB u b d = (addB (A.rangeI u b).a d && addB (A.rangeI u b).b d) := by simp [Se.liftB, ho]
    rw [← hl] at CR
    cases hc : A.liftB u b d
    · have eA : A.liftA u b d = A := by simp [Se.liftA, hc]
      rw [hc] at CR
      rw [eA]
      clear h ho hl eA hc q ha hu hp
      generalize adr T.h T.t = B1 at *
      generalize A.rankI u = ra at *
      generalize A.rankI b = rb at *
      generalize A.rangeI u b = y at *
      unfold smV at SU
      go_enter Try.func23, Try.ntmps23
      go_wp2_with fail
      refine (unhide SP).mono ?_
      rintro e w1 ⟨rfl, q, rfl⟩
      go_wp2_with fail
      refine (unhide SU _).mono ?_
      rintro e w2 ⟨rfl, hb⟩
      have H2 := hide hb
      clear hb SU SP
      go_wp2_with fail
      refine (unhide CR _).mono ?_
      rintro e w3 ⟨rfl, hb⟩
      have H3 := hide ((unhide H2).trans (hb.mono (unhide H2).size))
      clear hb CR H2
      go_wp2
      go_ret
      exact ⟨rfl, (unhide HH).stay (below_undrew (unhide H3))⟩
    · obtain ⟨_, ff⟩ := q.liftFit hu hc
      obtain ⟨r1, r2, r3, r4, r5, r6⟩ := q.ranks hu ho
      have RR := hide (fun w1 (hb : Below w.heap.size w w1) => (raiseR_any T.h T.t (.pointer none) (A.rankI u) (A.rankI b + 1) d 2 w1 (q.below hb).own.mem q.own.nd q.own.wf (Nat.le_refl _) q.own.len (by omega) r2 (by omega) (by omega) (by omega) ff).mono (fun e w' z => (⟨z.1, by
        obtain ⟨t', _, e2, e3, e4, m, k⟩ := z.2
        exact ctx_lifted h hp q hu hc e2 e3 e4 m ((Keep.ofBelow hb _).tr k)⟩ : e = .returned (.tuple #[]) ∧ Out w w' p (p :: (own v ++ tfs F)) (A.liftA u b d))))
      rw [hc] at CR
      clear h ho hl hc q ha hu ff r1 r2 r3 r4 r5 r6 hp HH
      generalize A.liftA u b d = A' at *
      unfold ptr at RR
      generalize adr T.h T.t = B1 at *
      generalize A.rankI u = ra at *
      generalize A.rankI b = rb at *
      generalize A.rangeI u b = y at *
      unfold smV at SU
      go_enter Try.func23, Try.ntmps23
      go_wp2_with fail
      refine (unhide SP).mono ?_
      rintro e w1 ⟨rfl, q, rfl⟩
      go_wp2_with fail
      refine (unhide SU _).mono ?_
      rintro e w2 ⟨rfl, hb⟩
      have H2 := hide hb
      clear hb SU SP
      go_wp2_with fail
      refine (unhide CR _).mono ?_
      rintro e w3 ⟨rfl, hb⟩
      have H3 := hide (below_undrew ((unhide H2).trans (hb.mono (unhide H2).size)))
      clear hb CR H2
      go_wp2_with fail
      refine (unhide RR _ (unhide H3)).mono ?_
      rintro e w4 ⟨rfl, Z⟩
      have ZZ := hide Z
      clear Z RR
      go_wp2
      go_ret
      exact ⟨rfl, unhide ZZ⟩
theorem PB.fitW (h : PB w p v xs ad F A) {u : Nat} (hu : u ∈ A.L.flatten) : -1099511627776 ≤ A.W u ∧ A.W u ≤ 1099511627776 := by
  obtain ⟨T, F', d0, c, x, q⟩ := h.ctx hu
  exact q.fit ((u, ad u), A.W u) (List.mem_map.2 ⟨u, q.mem, rfl⟩)
theorem Se.self (A : Se) {v : Nat} (hv : v ∈ A.L.flatten) : A.okR v v = true ∧ A.part v v = [v] ∧ A.rangeI v v = one (A.W v) := by
  have hh : A.hasI v = true := by rw [A.hasI_nat]; simpa using hv
  have hm := (Se.seq_mem hv)
  have ho : A.okR v v = true := by simp [Se.okR, Se.sameI, hh, Se.seqI_nat hv, hm.2]
  have hp : A.part v v = [v] := by
    have hk := List.idxOf_lt_length_of_mem hm.2
    rw [Se.part, Se.seqI_nat hv, Se.rankI, hh]
    simp only [if_true, Int.toNat_natCast]
    rw [List.drop_take]
    have e1 : (A.seq v).idxOf v + 1 - (A.seq v).idxOf v = 1 := by omega
    rw [e1, List.take_one, List.head?_drop, List.getElem?_eq_getElem hk]
    simp
  exact ⟨ho, hp, by rw [Se.rangeI, if_pos ho, hp]; simp [ofR, jn_zero_right (ok_one _)]⟩
set_option maxHeartbeats 1000000 in
theorem pset_nil (x y : Int) (w : World) : Calls Try.prog 21 #[.pointer none, .int .i64 x, .int .i64 y] w fun e w' => e = .returned (.bool false) ∧ w = w' := by
  go_enter Try.func21, Try.ntmps21
  go_wp2_with (go_at_call 27; refine (get_nil _ _).mono ?_; rintro e w' ⟨rfl, rfl⟩)
  go_ret
  exact ⟨rfl, rfl⟩
set_option maxHeartbeats 4000000 in
theorem pset_any (x y : Int) (h : PB w p v xs ad F A) : Calls Try.prog 21 #[.pointer (some ⟨p, 0, none⟩), .int .i64 x, .int .i64 y] w fun e w' => e = .returned (.bool (A.setB x y)) ∧ Out w w' p (p :: (own v ++ tfs F)) (A.setA x y) := by
  have G := hide (get_any x h)
  have FT := hide (fits_any y)
  have HH := hide h
  cases hh : A.hasI x
  · have hf : A.setB x y = false := by simp [Se.setB, hh]
    have eA : A.setA x y = A := by simp [Se.setA, hf]
    rw [hf, eA]
    rw [hh] at G
    generalize A.getI x = gx at *
    clear h hh hf eA
    go_enter Try.func21, Try.ntmps21
    go_wp2_with fail
    refine (unhide G).mono ?_
    rintro e w' ⟨rfl, rfl⟩
    go_wp2
    go_ret
    exact ⟨rfl, (unhide HH).out (Keep.refl _ _)⟩
  rw [hh] at G
  cases hy : fitB y
  · have hf : A.setB x y = false := by simp [Se.setB, hy]
    have eA : A.setA x y = A := by simp [Se.setA, hf]
    rw [hf, eA]
    rw [hy] at FT
    generalize A.getI x = gx at *
    clear h hh hf eA hy
    go_enter Try.func21, Try.ntmps21
    go_wp2_with fail
    refine (unhide G).mono ?_
    rintro e w' ⟨rfl, rfl⟩
    go_wp2_with fail
    refine (unhide FT _).mono ?_
    rintro e w' ⟨rfl, hw⟩
    obtain rfl : w = w' := hw.symm
    go_wp2
    go_ret
    exact ⟨rfl, (unhide HH).out (Keep.refl _ _)⟩
  · rw [hy] at FT
    obtain ⟨u0, rfl, hv⟩ := Se.hasI_true hh
    have fy : -1099511627776 ≤ y ∧ y ≤ 1099511627776 := by simpa [fitB] using hy
    obtain ⟨f1, f2⟩ := h.fitW hv
    obtain ⟨s1, s2, s3⟩ := Se.self A hv
    have hg : A.getI u0 = A.W u0 := by simp [Se.getI, hh]
    rw [hg] at G
    have hf : A.setB u0 y = true := by simp [Se.setB, hh, hy]
    have hl : A.liftB u0 u0 (y - A.W u0) = true := by
      have ha : addB (A.W u0) (y - A.W u0) = true := by
        simp only [addB, fitB, inB, Bool.and_eq_true, decide_eq_true_eq]
        omega
      rw [Se.liftB, s1, s3]
      simp only [one, ha, Bool.and_self]
    have eA : A.liftA u0 u0 (y - A.W u0) = A.setA u0 y := by
      rw [Se.liftA, if_pos hl, Se.setA, if_pos hf, s2]
      congr 1
      funext u
      unfold upW
      by_cases e : u = u0
      · subst e; simp; omega
      · simp [e]
    have L := hide (plift_any u0 u0 (y - A.W u0) h)
    rw [hl, eA] at L
    rw [hf]
    obtain ⟨g1, g2⟩ := fy
    clear h hh hf eA hy s1 s2 s3 hg hl hv
    generalize A.setA u0 y = A' at *
    generalize A.W u0 = old at *
    go_enter Try.func21, Try.ntmps21
    go_wp2_with fail
    refine (unhide G).mono ?_
    rintro e w' ⟨rfl, rfl⟩
    go_wp2_with fail
    refine (unhide FT _).mono ?_
    rintro e w' ⟨rfl, hw⟩
    obtain rfl : w = w' := hw.symm
    clear hw
    go_wp2_with fail
    refine (unhide L).mono ?_
    rintro e w1 ⟨rfl, hp⟩
    have X := hide hp
    clear hp L
    go_wp2
    go_ret
    exact ⟨rfl, unhide X⟩

end
end Go.Proofs.Ytbkneonbpcmepaa
