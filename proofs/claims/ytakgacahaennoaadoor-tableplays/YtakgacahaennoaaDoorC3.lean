import Derived.Test.YtakgacahaennoaaDoorC2
namespace Go.Proofs.YtakgacahaennoaaDoor
open Go.RowKit Go.Arb

/-- A cell is laid anew, both its halves. -/
theorem TcIn.setCell2 {w : World} {p g n cap : Nat} {C : Tc} (h : TcIn w p (.slice (some ⟨g, 0, none⟩) n cap) C) (hn : n = C.cells.length) (i : Nat) (hi : i < C.cells.length) (a b : Int) :
    TcIn ((w.setCell ⟨g, i * 2, none⟩ (.int .i64 a)).setCell ⟨g, i * 2 + 1, none⟩ (.int .i64 b)) p (.slice (some ⟨g, 0, none⟩) n cap) { C with cells := C.cells.set i (a, b) } := by
  subst hn
  have hne : p ≠ g := by have := h.ne; simpa [own, Value.ownBlock] using this
  have h1g : 1 ≠ g := by have := h.one; simp [own, Value.ownBlock] at this; exact this.2
  have hk : Keep [g] w ((w.setCell ⟨g, i * 2, none⟩ (.int .i64 a)).setCell ⟨g, i * 2 + 1, none⟩ (.int .i64 b)) :=
    ((Keep.refl [g] w).setCell (p := ⟨g, i * 2, none⟩) (by simp) _).setCell (p := ⟨g, i * 2 + 1, none⟩) (by simp) _
  refine ⟨?_, ?_, h.ne, h.tab.keep hk (by simpa using h1g), h.one⟩
  · rw [Below.heap_setCell _ _ _ _ hne, Below.heap_setCell _ _ _ _ hne]; exact h.blk
  · have r1 := (h.row.stored (i * 2) (.int .i64 a)).1
    have r2 := (r1.stored (i * 2 + 1) (.int .i64 b)).1
    have e1 := flat_set cC_len C.cells i 0 hi (by omega) (a, C.cells[i].2) (.int .i64 a) (by simp [cC])
    have e2 := flat_set cC_len (C.cells.set i (a, C.cells[i].2)) i 1 (by simpa using hi) (by omega) (a, b) (.int .i64 b) (by simp [cC])
    rw [List.set_set] at e2
    rw [Nat.add_zero] at e1
    rw [show ({ C with cells := C.cells.set i (a, b) } : Tc).cells = C.cells.set i (a, b) from rfl, e2, e1]
    simpa using r2
theorem TcIn.setIds {w : World} {p : Nat} {v : Value} {C : Tc} (h : TcIn w p v C) (x : Int) : TcIn (w.setCell ⟨p, 1, none⟩ (.int .i64 x)) p v { C with ids := x } := by
  have hk := Keep.setCell (ks := [p]) (Keep.refl _ w) (p := ⟨p, 1, none⟩) (by simp) (.int .i64 x)
  refine ⟨?_, row_keep h.row hk (fun k hk' hp => h.ne (by simp at hp; subst hp; exact hk')), h.ne, h.tab.keep hk (fun h1 => h.one (by simp at h1; simp [h1])), h.one⟩
  rw [heap_setCell_same w p 1 _ _ _ h.blk]; simp
theorem TcIn.setUsed {w : World} {p : Nat} {v : Value} {C : Tc} (h : TcIn w p v C) (x : Int) : TcIn (w.setCell ⟨p, 2, none⟩ (.int .i64 x)) p v { C with used := x } := by
  have hk := Keep.setCell (ks := [p]) (Keep.refl _ w) (p := ⟨p, 2, none⟩) (by simp) (.int .i64 x)
  refine ⟨?_, row_keep h.row hk (fun k hk' hp => h.ne (by simp at hp; subst hp; exact hk')), h.ne, h.tab.keep hk (fun h1 => h.one (by simp at h1; simp [h1])), h.one⟩
  rw [heap_setCell_same w p 2 _ _ _ h.blk]; simp

set_option maxHeartbeats 1000000 in
theorem lay_core (id : Nat) (n : Int) (w : World) (p : Nat) (v : Value) (C : Tc) (h : TcIn w p v C) (s t0 : Nat) (hs : s ≤ 22) (hN : C.cells.length = 2 ^ s) (hid : id ≤ 2147483647)
    (hlt : ∀ t, t < t0 → keyAt C.cells (pos C.cells.length (homeN C.cells.length id) t) ≠ 0) (hat : keyAt C.cells (pos C.cells.length (homeN C.cells.length id) t0) = 0)
    (hi0 : 0 ≤ C.ids) (hi1 : C.ids ≤ 4194304) (hu0 : 0 ≤ C.used) (hu1 : C.used ≤ 4194304) :
    Calls Tryd.prog 24 #[.pointer (some ⟨p, 0, none⟩), .int .i64 (id : Int), .int .i64 n] w fun e w' => e = .returned (.tuple #[]) ∧
      TcIn w' p v ⟨C.cells.set (pos C.cells.length (homeN C.cells.length id) t0) ((id : Int) + 1, n), C.ids + 1, C.used + 1⟩ ∧ Keep (fp p v) w w' := by
  obtain ⟨c0, c1, c2, f0, f1, f2⟩ := h.cells3
  have hp := blk_lt h.blk
  have hle : 2 ^ s ≤ 4194304 := Nat.pow_le_pow_right (n := 2) (by omega) hs
  have hgt : 0 < 2 ^ s := Nat.pow_pos (by omega)
  have hho := homeN_lt (id := id) hs
  rw [← hN] at hho hle hgt
  obtain ⟨g, cap, hv, hcap, hmax, hgl, hgp, hrest⟩ := h.at 0 (by omega)
  clear hrest
  have hcell : ∀ q, q < C.cells.length → w.cell? ⟨g, q * 2, none⟩ = some (.int .i64 (keyAt C.cells q)) ∧ w.frozen? ⟨g, q * 2, none⟩ = false ∧ w.frozen? ⟨g, q * 2 + 1, none⟩ = false ∧ ∃ u, w.cell? ⟨g, q * 2 + 1, none⟩ = some (.int .i64 u) := by
    intro q hq
    obtain ⟨g', cap', hv', _, _, _, _, d, d1, d2, d3⟩ := h.at q hq
    rw [hv] at hv'
    simp only [Value.slice.injEq, Option.some.injEq, Addr.mk.injEq, and_true, true_and] at hv'
    obtain ⟨rfl, rfl⟩ := hv'
    rw [keyAt_get hq]; exact ⟨d, d2, d3, _, d1⟩
  have hR : ∀ q, q < C.cells.length → TcIn ((((w.setCell ⟨g, q * 2, none⟩ (.int .i64 ((id : Int) + 1))).setCell ⟨g, q * 2 + 1, none⟩ (.int .i64 n)).setCell ⟨p, 1, none⟩ (.int .i64 (C.ids + 1))).setCell ⟨p, 2, none⟩ (.int .i64 (C.used + 1))) p v ⟨C.cells.set q ((id : Int) + 1, n), C.ids + 1, C.used + 1⟩
      ∧ Keep (fp p v) w ((((w.setCell ⟨g, q * 2, none⟩ (.int .i64 ((id : Int) + 1))).setCell ⟨g, q * 2 + 1, none⟩ (.int .i64 n)).setCell ⟨p, 1, none⟩ (.int .i64 (C.ids + 1))).setCell ⟨p, 2, none⟩ (.int .i64 (C.used + 1))) := by
    intro q hq
    subst hv
    exact ⟨((h.setCell2 rfl q hq _ _).setIds _).setUsed _, ((((Keep.refl _ _).setCell (p := ⟨g, q * 2, none⟩) (by simp [fp, own, Value.ownBlock]) _).setCell (p := ⟨g, q * 2 + 1, none⟩) (by simp [fp, own, Value.ownBlock]) _).setCell (p := ⟨p, 1, none⟩) (by simp [fp]) _).setCell (p := ⟨p, 2, none⟩) (by simp [fp]) _⟩
  have HT := hide h.tab
  have HC := hide hcell
  have HL := hide hlt
  have HA := hide hat
  have HN := hide hN
  have HR := hide hR
  clear h hcell hlt hat hN hR
  have HV := hide hv
  rw [hv] at c0
  clear hv
  generalize C.cells.length = N at *
  have HH := hide hho
  generalize hH : homeN N id = H at *
  have HHH := hide hH
  clear hH hho
  have hb2 : (N : Int) ≤ 4194304 := by omega
  unfold maxLen at hmax
  generalize hI : C.ids = I at *
  generalize hU : C.used = U at *
  clear hI hU
  go_enter Tryd.func24, Tryd.ntmps24
  go_wp2_with (first
    | (go_at_call 27; refine (home_any _ _ _ N cap s id c0 hs (unhide HN) (unhide HT) hid).mono ?_; rw [unhide HHH]; rintro e w' ⟨rfl, rfl⟩))
  go_loopg [6] t0 (fun gk a w' => ∃ t : Nat, t + gk = t0 ∧ a = .int .i64 (pos N H t : Int) ∧ w' = w)
  case atStart => exact ⟨0, by omega, by rw [pos_zero (unhide HH)], rfl⟩
  case round =>
    obtain ⟨t, ht, rfl, rfl⟩ := hrel
    have hq := pos_lt (h := H) (t := t) hgt
    obtain ⟨hc, hf, hf', u, hc'⟩ := unhide HC _ hq
    have hsucc := pos_succ N H t
    have HS := hide hsucc
    clear hsucc
    generalize hqq : pos N H t = q at *
    have HQ := hide hqq
    clear hqq
    have e1 : (0 : Int) ≤ (q : Int) := by omega
    have e2 : (q : Int) < (N : Int) := by omega
    by_cases htt : t < t0
    · have k2 := unhide HL t htt
      rw [unhide HQ] at k2
      generalize keyAt C.cells q = k at *
      have k2' : (k == 0) = false := by rw [beq_eq_false_iff_ne]; exact k2
      have hnx := next_any _ _ _ N cap s q c0 hs (unhide HN) hq
      generalize (q + 1) % N = q' at *
      have HX := hide hnx
      clear hnx
      go_wp2_with (first
        | (go_at_call 28; refine (unhide HX).mono ?_; rintro e w' ⟨rfl, rfl⟩))
      go_roundg (gk - 1)
      case rel => exact ⟨t + 1, by omega, by rw [unhide HS], rfl⟩
      all_goals omega
    · have : t = t0 := by omega
      subst this
      have ha := unhide HA
      have hr := unhide HR q hq
      rw [unhide HQ] at ha
      rw [ha] at hc
      have HRR := hide hr
      clear hr HR HA HL HC HT
      go_wp2
      go_end0
      rw [unhide HQ]
      exact ⟨rfl, unhide HRR⟩
end Go.Proofs.YtakgacahaennoaaDoor
