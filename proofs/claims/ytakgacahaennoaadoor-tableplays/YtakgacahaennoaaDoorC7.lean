import Derived.Test.YtakgacahaennoaaDoorC6
namespace Go.Proofs.YtakgacahaennoaaDoor
open Go.RowKit Go.Arb

set_option maxHeartbeats 400000 in
theorem put_nil (id n : Int) (w : World) : Calls Tryd.prog 9 #[.pointer none, .int .i64 id, .int .i64 n] w fun e w' => e = .returned (.bool false) ∧ w = w' := by
  go_enter Tryd.func9, Tryd.ntmps9
  go_wp2
  go_ret
  exact ⟨rfl, rfl⟩
set_option maxHeartbeats 400000 in
theorem put_out (id n : Int) (w : World) (p : Nat) (h : id < 0 ∨ 2147483647 < id) : Calls Tryd.prog 9 #[.pointer (some ⟨p, 0, none⟩), .int .i64 id, .int .i64 n] w fun e w' => e = .returned (.bool false) ∧ w = w' := by
  have h2 : (decide (0 ≤ id) && decide (id ≤ 2147483647)) = false := by
    rcases h with h | h
    · simp; omega
    · simp; omega
  go_enter Tryd.func9, Tryd.ntmps9
  go_wp2_with (go_at_call 21; refine (isId_any _ _).mono ?_; rw [h2]; rintro e w' ⟨rfl, rfl⟩)
  go_ret
  exact ⟨rfl, rfl⟩
set_option maxHeartbeats 400000 in
theorem put_full (id n : Int) (w : World) (p : Nat) (h0 : 0 ≤ id) (h1 : id ≤ 2147483647) (hc : w.cell? ⟨p, 1, none⟩ = some (.int .i64 1048576)) : Calls Tryd.prog 9 #[.pointer (some ⟨p, 0, none⟩), .int .i64 id, .int .i64 n] w fun e w' => e = .returned (.bool false) ∧ w = w' := by
  have h2 : (decide (0 ≤ id) && decide (id ≤ 2147483647)) = true := by simp; omega
  go_enter Tryd.func9, Tryd.ntmps9
  go_wp2_with (go_at_call 21; refine (isId_any _ _).mono ?_; rw [h2]; rintro e w' ⟨rfl, rfl⟩)
  go_ret
  exact ⟨rfl, rfl⟩
set_option maxHeartbeats 400000 in
theorem put_there (id n I : Int) (w : World) (p q : Nat) (h0 : 0 ≤ id) (h1 : id ≤ 2147483647) (hc : w.cell? ⟨p, 1, none⟩ = some (.int .i64 I)) (hI : I ≠ 1048576)
    (hf : Calls Tryd.prog 22 #[.pointer (some ⟨p, 0, none⟩), .int .i64 id] w fun e w' => e = .returned (.int .i64 (q : Int)) ∧ w = w') : Calls Tryd.prog 9 #[.pointer (some ⟨p, 0, none⟩), .int .i64 id, .int .i64 n] w fun e w' => e = .returned (.bool false) ∧ w = w' := by
  have h2 : (decide (0 ≤ id) && decide (id ≤ 2147483647)) = true := by simp; omega
  have h3 : (I == 1048576) = false := by rw [beq_eq_false_iff_ne]; exact hI
  have h4 : ((q : Int) == -1) = false := by rw [beq_eq_false_iff_ne]; omega
  have HF := hide hf
  clear hf
  go_enter Tryd.func9, Tryd.ntmps9
  go_wp2_with (first
    | (go_at_call 21; refine (isId_any _ _).mono ?_; rw [h2]; rintro e w' ⟨rfl, rfl⟩)
    | (go_at_call 22; refine (unhide HF).mono ?_; rintro e w' ⟨rfl, rfl⟩))
  go_ret
  exact ⟨rfl, rfl⟩

theorem Abs.grown {C C3 : Tc} {S : List Cell} (h : Abs C S) {id n : Int} (h0 : 0 ≤ id) (h1 : id ≤ 2147483647) (hl : S.length < 1048576) (hg : getS S id = none) {L : List Cell} (hL : L.Perm S) (h3 : Good C3 ((id, n) :: L)) (hb : 2 * busy C3.cells ≤ C3.cells.length) : Abs C3 (putS S id n) := by
  have hp : ((id, n) :: L).Perm (putS S id n) := (hL.cons _).trans (putS_perm S id n)
  exact ⟨h.ris.put n h0 h1 hl hg, .inr ⟨⟨h3.hash.perm' hp, by rw [h3.ids, hp.length_eq], h3.used⟩, hb⟩⟩

theorem Abs.live {C : Tc} {S : List Cell} (h : Abs C S) : (Arb.live C.cells).Perm S ∧ C.used = busy C.cells ∧ busy C.cells ≤ 2097152 := by
  rcases h.st with ⟨rfl, rfl⟩ | ⟨h1, h2⟩
  · exact ⟨List.Perm.refl _, rfl, by simp [busy]⟩
  · have := h1.hash.posN
    exact ⟨h1.hash.perm, h1.used, by omega⟩

set_option maxHeartbeats 1000000 in
theorem put_new (id : Nat) (n : Int) (w : World) (p : Nat) (v : Value) (C : Tc) (S : List Cell) (h : TcIn w p v C) (ha : Abs C S) (h1 : id ≤ 2147483647) (hl : S.length < 1048576) (hg : getS S id = none)
    (hf : Calls Tryd.prog 22 #[.pointer (some ⟨p, 0, none⟩), .int .i64 (id : Int)] w fun e w' => e = .returned (.int .i64 (-1)) ∧ w = w') :
    Calls Tryd.prog 9 #[.pointer (some ⟨p, 0, none⟩), .int .i64 (id : Int), .int .i64 n] w fun e w' => e = .returned (.bool true) ∧ ∃ ks', TbAt w' p (putS S id n) ks' ∧ Keep (fp p v) w w' ∧ Grew w (fp p v) ks' := by
  have h2 : (decide (0 ≤ (id : Int)) && decide ((id : Int) ≤ 2147483647)) = true := by simp; omega
  have hids := ha.ids
  obtain ⟨hlv, hus, hub⟩ := ha.live
  have h3 : (C.ids == 1048576) = false := by rw [beq_eq_false_iff_ne]; omega
  obtain ⟨c0, c1, c2, f0, f1, f2⟩ := h.cells3
  obtain ⟨x, cap, hv, hcap, hmax⟩ := h.len
  have HF := hide hf
  have HH := hide (And.intro h ha)
  have HV := hide hv
  have HLV := hide hlv
  have HG := hide hg
  have HI := hide hids
  have HU := hide hus
  rw [hv] at c0
  rw [hus] at c2
  clear hf h ha hv hlv hg hids hus
  generalize hI : C.ids = I at *
  generalize hb : busy C.cells = b at *
  generalize hN : C.cells.length = N at *
  have HE := hide (And.intro hI (And.intro hb hN))
  clear hI hb hN
  unfold maxLen at hmax
  have W1 : IntKind.i64.wrap ((b : Int) + 1) = (b : Int) + 1 := IntWalk.i64_in _ (by omega)
  have W2 : IntKind.i64.wrap (2 * ((b : Int) + 1)) = 2 * ((b : Int) + 1) := IntWalk.i64_in _ (by omega)
  have hub' : (b : Int) ≤ 2097152 := by omega
  go_enter Tryd.func9, Tryd.ntmps9
  go_wp2_with (first
    | (go_at_call 21; refine (isId_any _ _).mono ?_; rw [h2]; rintro e w' ⟨rfl, rfl⟩)
    | (go_at_call 22; refine (unhide HF).mono ?_; rintro e w' ⟨rfl, rfl⟩))
  go_quiet (fail)
  clear HF
  have hkd : Keep [] w (w.drewN nq) := Keep.ofBelow (below_drewN (Below.refl _ _) nq) []
  have hTW : TcIn (w.drewN nq) p v C := (unhide HH).1.keep hkd (fun _ _ => by simp) (by simp)
  have hkW : Keep (fp p v) w (w.drewN nq) := hkd.mono (by simp)
  have hgW : Grew w (fp p v) (fp p v) := Grew.refl _ _
  have HW := hide (And.intro hTW (And.intro hkW hgW))
  clear hkd hTW hkW hgW
  generalize w.drewN nq = W at *
  by_cases hgr : (N : Int) < 2 * ((b : Int) + 1)
  · go_wp2_with fail
    have hgc := grow_any W p v C (unhide HW).1 (by rw [(unhide HE).1, (unhide HLV).length_eq]; exact unhide HI) (by rw [(unhide HE).1, unhide HI]; omega) (fun c hc => (unhide HH).2.ris.bd c ((unhide HLV).mem_iff.1 hc))
    refine hgc.mono ?_
    rintro e w2 ⟨rfl, vn, C2, t2, g2, l8, l4, k2, gr2⟩
    have HT2 := hide (And.intro t2 (And.intro g2 (And.intro l8 l4)))
    have HK2 := hide (And.intro ((unhide HW).2.1.trans k2 (fun k hk => .inl hk)) ((unhide HW).2.2.trans gr2 (unhide HW).2.1.size))
    clear hgc t2 g2 l8 l4 k2 gr2
    go_wp2_with fail
    have hlc := lay_good id n w2 p vn C2 _ (unhide HT2).1 (unhide HT2).2.1 (by have := (unhide HT2).2.2; omega) h1
    refine hlc.mono ?_
    rintro e w3 ⟨rfl, ⟨C3, t3, g3, l3, b3⟩, k3⟩
    have HF3 := hide (And.intro t3 (And.intro ((unhide HH).2.grown (by omega) (by omega) hl (unhide HG) (unhide HLV) g3 (by have := (unhide HT2).2.2; omega)) k3))
    clear hlc t3 g3 l3 b3 k3
    go_wp2
    go_ret
    refine ⟨rfl, fp p vn, ⟨vn, C3, (unhide HF3).1, (unhide HF3).2.1, rfl⟩, (unhide HK2).1.trans (unhide HF3).2.2 (fun k hk => (unhide HK2).2 k hk), (unhide HK2).2⟩
  · go_wp2_with fail
    have hgood : Good C S ∧ 2 * busy C.cells ≤ C.cells.length := by
      rcases (unhide HH).2.st with ⟨h5, h6⟩ | h5
      · have h7 := (unhide HE).2.2
        rw [h5] at h7
        simp at h7
        omega
      · exact h5
    have hlc := lay_good id n W p v C _ (unhide HW).1 hgood.1 (by have := (unhide HE).2; omega) h1
    refine hlc.mono ?_
    rintro e w3 ⟨rfl, ⟨C3, t3, g3, l3, b3⟩, k3⟩
    have HF3 := hide (And.intro t3 (And.intro ((unhide HH).2.grown (by omega) (by omega) hl (unhide HG) (List.Perm.refl _) g3 (by have := (unhide HE).2; omega)) k3))
    clear hlc t3 g3 l3 b3 k3 hgood
    go_wp2
    go_ret
    exact ⟨rfl, fp p v, ⟨v, C3, (unhide HF3).1, (unhide HF3).2.1, rfl⟩, (unhide HW).2.1.trans (unhide HF3).2.2 (fun k hk => .inl hk), (unhide HW).2.2⟩

theorem tPut (w : World) (p : Nat) (S : List Cell) (ks : List Nat) (id n : Int) (h : TbAt w p S ks) :
    Calls Tryd.prog 9 #[.pointer (some ⟨p, 0, none⟩), .int .i64 id, .int .i64 n] w fun e w' => e = .returned (.bool (putB S id)) ∧ ∃ ks', TbAt w' p (putZ S id n) ks' ∧ Keep ks w w' ∧ Grew w ks ks' := by
  obtain ⟨v, C, h1, h2, rfl⟩ := h
  obtain ⟨c0, c1, c2, f0, f1, f2⟩ := h1.cells3
  have hids := h2.ids
  have hlen := h2.ris.len
  have hno : ∀ b, b = putB S id → b = false → (Calls Tryd.prog 9 #[.pointer (some ⟨p, 0, none⟩), .int .i64 id, .int .i64 n] w fun e w' => e = .returned (.bool false) ∧ w = w') →
      Calls Tryd.prog 9 #[.pointer (some ⟨p, 0, none⟩), .int .i64 id, .int .i64 n] w fun e w' => e = .returned (.bool (putB S id)) ∧ ∃ ks', TbAt w' p (putZ S id n) ks' ∧ Keep (fp p v) w w' ∧ Grew w (fp p v) ks' := by
    intro b hb hb0 hc
    subst hb
    refine hc.mono ?_
    rintro e w' ⟨rfl, rfl⟩
    rw [hb0]
    exact ⟨rfl, fp p v, ⟨v, C, h1, by unfold putZ; rw [hb0]; exact h2, rfl⟩, Keep.refl _ _, Grew.refl _ _⟩
  by_cases hid : id < 0 ∨ 2147483647 < id
  · exact hno _ rfl (by unfold putB; rcases hid with h | h <;> simp <;> omega) (put_out id n w p hid)
  · by_cases hf : S.length = 1048576
    · exact hno _ rfl (by unfold putB; simp; omega) (put_full id n w p (by omega) (by omega) (by rw [c1, hids, hf]; rfl))
    · obtain ⟨r, hr, hfc⟩ := find_abs id w p v C S h1 h2
      rcases hr with ⟨rfl, hg⟩ | ⟨q, m, rfl, hq, hg, _, _⟩
      · obtain ⟨i, rfl⟩ := Int.eq_ofNat_of_zero_le (by omega : 0 ≤ id)
        have hb : putB S i = true := putB_iff.2 ⟨by omega, by omega, by omega, hg⟩
        rw [hb, show putZ S i n = putS S i n from by unfold putZ; rw [hb]; rfl]
        exact put_new i n w p v C S h1 h2 (by omega) (by omega) hg hfc
      · exact hno _ rfl (by unfold putB; rw [hg]; simp) (put_there id n C.ids w p q (by omega) (by omega) c1 (by omega) hfc)
end Go.Proofs.YtakgacahaennoaaDoor
