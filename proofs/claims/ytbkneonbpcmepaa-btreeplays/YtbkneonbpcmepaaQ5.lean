/- The pool: Same, At, span. -/
import Derived.Test.YtbkneonbpcmepaaQ4
namespace Go.Proofs.Ytbkneonbpcmepaa
open Go.RowKit Go.Arb
set_option linter.unusedVariables false
set_option linter.unusedSimpArgs false

section
variable {w w' : World} {p : Nat} {v : Value} {xs : List Value} {ad : Nat → Nat} {F F' : List Tp} {A : Se}
theorem PB.cell (h : PB w p v xs ad F A) {u : Nat} (hu : u ∈ A.L.flatten) : ∃ g cap, v = .slice (some ⟨g, 0, none⟩) xs.length cap ∧ w.cell? ⟨g, u, none⟩ = some (.pointer (some ⟨ad u, 0, none⟩)) ∧ u < xs.length ∧ xs.length ≤ 4194304 ∧ xs.length ≤ cap := by
  obtain ⟨y, cap, rfl, k1, k2, k3⟩ := row_form h.row
  have hl := h.lt u hu
  obtain ⟨g, rfl, kl, ko, kc⟩ := k3 (by omega)
  have e1 := (kc u (by omega)).1
  rw [h.cel u hl, if_pos hu] at e1
  exact ⟨g, cap, rfl, e1, hl, Nat.le_trans h.xn h.n, k1⟩
theorem same_nil (a b : Int) (w : World) : Calls Try.prog 37 #[.pointer none, .int .i64 a, .int .i64 b] w fun e w' => e = .returned (.bool false) ∧ ∃ q, w' = w.drewN q := by
  have H := hide (fun q => (has_nil a (w.drewN q)).mono (fun e w' (z : e = .returned (.bool false) ∧ w.drewN q = w') => (And.intro z.1 z.2.symm : e = .returned (.bool false) ∧ w' = w.drewN q)))
  go_enter Try.func37, Try.ntmps37
  go_wp2_with fail
  go_quiet ((go_at_call 29; exact Calls.quiet_of_same (unhide H _)))
  go_wp2
  go_ret
  exact ⟨rfl, _, rfl⟩
theorem has_q (h : PB w p v xs ad F A) (a b : Int) (ra rb : Bool) (ca : A.hasI a = ra) (cb : A.hasI b = rb) : ∀ q z r, (z = a ∧ r = ra ∨ z = b ∧ r = rb) → Calls Try.prog 29 #[.pointer (some ⟨p, 0, none⟩), .int .i64 z] (w.drewN q) fun e w' => e = .returned (.bool r) ∧ w' = w.drewN q := fun q z r hz => by
  have e : A.hasI z = r := by
    rcases hz with ⟨rfl, rfl⟩ | ⟨rfl, rfl⟩
    · exact ca
    · exact cb
  refine (has_any z (h.drewN q)).mono ?_
  rintro e' w' ⟨rfl, rfl⟩
  exact ⟨by rw [e], rfl⟩
set_option maxRecDepth 100000 in
set_option maxHeartbeats 4000000 in
theorem same_yes (x y g n cap : Nat) (a1 a2 t1 t2 : Nat) (r : Bool) (w : World) (c1 : w.cell? ⟨p, 1, none⟩ = some (.slice (some ⟨g, 0, none⟩) n cap)) (e1 : w.cell? ⟨g, x, none⟩ = some (.pointer (some ⟨a1, 0, none⟩))) (e2 : w.cell? ⟨g, y, none⟩ = some (.pointer (some ⟨a2, 0, none⟩)))
    (i1 : (x : Int) < (n : Int)) (i2 : (y : Int) < (n : Int)) (H : ∀ q z r, (z = (x : Int) ∧ r = true ∨ z = (y : Int) ∧ r = true) → Calls Try.prog 29 #[.pointer (some ⟨p, 0, none⟩), .int .i64 z] (w.drewN q) fun e w' => e = .returned (.bool r) ∧ w' = w.drewN q)
    (T : ∀ q z r, (z = a1 ∧ r = t1 ∨ z = a2 ∧ r = t2) → Calls Try.prog 52 #[.pointer (some ⟨z, 0, none⟩)] (w.drewN q) fun e w' => e = .returned (.pointer (some ⟨r, 0, none⟩)) ∧ w' = w.drewN q)
    (hq : ∀ q, (binOp .eql 66 (.pointer (some ⟨t1, 0, none⟩)) (.pointer (some ⟨t2, 0, none⟩))).run Try.prog (w.drewN q) = .ok (.bool r) (w.drewN q)) :
    Calls Try.prog 37 #[.pointer (some ⟨p, 0, none⟩), .int .i64 (x : Int), .int .i64 (y : Int)] w fun e w' => e = .returned (.bool r) ∧ ∃ q, w' = w.drewN q := by
  have HH := hide H
  have HT := hide T
  clear H T
  go_enter Try.func37, Try.ntmps37
  go_wp2_with fail
  go_quiet (first
    | (go_at_call 29; exact Calls.quiet_of_same (unhide HH _ _ _ (by first | exact .inl ⟨rfl, rfl⟩ | exact .inr ⟨rfl, rfl⟩)))
    | (go_at_call 52; exact Calls.quiet_of_same (unhide HT _ _ _ (by first | exact .inl ⟨rfl, rfl⟩ | exact .inr ⟨rfl, rfl⟩))))
  go_wp2
  go_ret
  exact ⟨rfl, _, rfl⟩
set_option maxRecDepth 100000 in
set_option maxHeartbeats 4000000 in
theorem same_any (a b : Int) (h : PB w p v xs ad F A) : Calls Try.prog 37 #[.pointer (some ⟨p, 0, none⟩), .int .i64 a, .int .i64 b] w fun e w' => e = .returned (.bool (A.sameI a b)) ∧ ∃ q, w' = w.drewN q := by
  cases ca : A.hasI a
  · have HH := hide (has_q h a a false false ca ca)
    rw [show A.sameI a b = false from by simp [Se.sameI, ca]]
    clear h ca
    go_enter Try.func37, Try.ntmps37
    go_wp2_with fail
    go_quiet ((go_at_call 29; exact Calls.quiet_of_same (unhide HH _ _ _ (.inl ⟨rfl, rfl⟩))))
    go_wp2
    go_ret
    exact ⟨rfl, _, rfl⟩
  cases cb : A.hasI b
  · have HH := hide (has_q h a b true false ca cb)
    rw [show A.sameI a b = false from by simp [Se.sameI, ca, cb]]
    clear h ca cb
    go_enter Try.func37, Try.ntmps37
    go_wp2_with fail
    go_quiet ((go_at_call 29; exact Calls.quiet_of_same (unhide HH _ _ _ (by first | exact .inl ⟨rfl, rfl⟩ | exact .inr ⟨rfl, rfl⟩))))
    go_wp2
    go_ret
    exact ⟨rfl, _, rfl⟩
  obtain ⟨x, rfl, hx⟩ := Se.hasI_true ca
  obtain ⟨y, rfl, hy⟩ := Se.hasI_true cb
  obtain ⟨_, c1, _, _⟩ := h.head
  obtain ⟨g, cap, rfl, e1, x1, x2, x3⟩ := h.cell hx
  obtain ⟨g', cap', e', e2, y1, _, _⟩ := h.cell hy
  simp only [Value.slice.injEq, Option.some.injEq, Addr.mk.injEq, and_true, true_and] at e'
  obtain ⟨rfl, rfl⟩ := e'
  obtain ⟨T, F1, d, c, z, q, pe⟩ := h.ctx' hx
  by_cases hm : y ∈ A.seq x
  · rw [show A.sameI x y = true from by simp [Se.sameI, ca, cb, Se.seqI_nat hx, hm]]
    obtain ⟨d', c', z', f1, f2⟩ := seek_top T (u := (y, ad y)) (by rw [q.ti, ids_itw]; exact List.mem_map.2 ⟨y, hm, rfl⟩)
    refine same_yes x y g _ cap (ad x) (ad y) (adr T.h T.t) (adr T.h T.t) true w c1 e1 e2 (by omega) (by omega) (has_q h x y true true ca cb) (fun k z'' r hz => ?_) (fun k => ?_)
    · rcases hz with ⟨rfl, rfl⟩ | ⟨rfl, rfl⟩
      · exact (q.drewN k).top
      · have TB := top_any T (w.drewN k) (q.drewN k).own.mem d' 0 c' z' f1
        rw [show adr 0 z' = ad y from congrArg Prod.snd f2] at TB
        exact TB
    · have := eq_ptr (w.drewN k) (adr T.h T.t) (adr T.h T.t) (Kn.lv (q.drewN k).kn) (Kn.lv (q.drewN k).kn)
      rw [decide_eq_true rfl] at this
      exact this
  · rw [show A.sameI x y = false from by simp [Se.sameI, ca, cb, Se.seqI_nat hx, hm]]
    obtain ⟨T', F1', d', c', z', q', pe'⟩ := h.ctx' hy
    have hne : adr T.h T.t ≠ adr T'.h T'.t := fun e => by
      have m1 : T' ∈ T :: F1 := pe.mem_iff.1 (pe'.mem_iff.2 (by simp))
      rcases List.mem_cons.1 m1 with rfl | m1
      · have := q'.ti.symm.trans q.ti
        have h2 := congrArg ids this
        rw [ids_itw, ids_itw] at h2
        have h3 : (y, ad y) ∈ (A.seq x).map fun v => (v, ad v) := by rw [← h2]; exact List.mem_map.2 ⟨y, q'.mem, rfl⟩
        obtain ⟨k, hk, e⟩ := List.mem_map.1 h3
        simp only [Prod.mk.injEq] at e
        exact hm (by rw [← e.1]; exact hk)
      · have hn := q.pb.sep
        rw [List.nodup_cons, List.nodup_append, tfs, List.flatMap_cons, List.nodup_append] at hn
        exact hn.2.2.1.2.2 _ (adr_fp T.h T.t) _ (List.mem_flatMap.2 ⟨T', m1, by rw [e]; exact adr_fp T'.h T'.t⟩) rfl
    refine same_yes x y g _ cap (ad x) (ad y) (adr T.h T.t) (adr T'.h T'.t) false w c1 e1 e2 (by omega) (by omega) (has_q h x y true true ca cb) (fun k z'' r hz => ?_) (fun k => ?_)
    · rcases hz with ⟨rfl, rfl⟩ | ⟨rfl, rfl⟩
      · exact (q.drewN k).top
      · exact (q'.drewN k).top
    · have := eq_ptr (w.drewN k) (adr T.h T.t) (adr T'.h T'.t) (Kn.lv (q.drewN k).kn) (Kn.lv (q'.drewN k).kn)
      rw [decide_eq_false hne] at this
      exact this
end
end Go.Proofs.Ytbkneonbpcmepaa
