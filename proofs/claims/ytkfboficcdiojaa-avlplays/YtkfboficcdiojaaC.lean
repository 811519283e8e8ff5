/- The program's pool in memory: a block with its two fields, and the row of its slots. -/
import Derived.Test.YtkfboficcdiojaaS
import Derived.Test.YtkfboficcdiojaaK3
import Derived.Test.YtkfboficcdiojaaF2
import Derived.Deep.RegionHeld3
import Derived.Deep.RegionWith
import Derived.BigQuiet
import Derived.WalkSmall
import Derived.Deep.QuietTactic
import Derived.Deep.OwnRows
import Derived.Deep.LoopGhost
import Derived.Deep.DeepCutAuto
namespace Go.Proofs.Ytkfboficcdiojaa
open Go.RowKit Go.Arb
set_option linter.unusedVariables false
set_option linter.unusedSimpArgs false

theorem hide {p : Prop} (h : p) : Hid p := h
theorem unhide {p : Prop} (h : Hid p) : p := h

def slV (s : Sl) : List Value := [.int .i64 (s.up : Int), .int .i64 (s.l : Int), .int .i64 (s.r : Int), .int .i64 (s.h : Int), .int .i64 s.wt, .int .i64 s.wa, .int .i64 s.sm.c, .int .i64 s.sm.s, .int .i64 s.sm.a, .int .i64 s.sm.b]
theorem slV_len (s : Sl) : (slV s).length = 10 := rfl
def smV (x : Sm) : Value := .agg #[.int .i64 x.c, .int .i64 x.s, .int .i64 x.a, .int .i64 x.b]
def sl (F : List Sl) : Ss := fun t => F.getD t Sl.zero

structure PoIn (w : World) (p : Nat) (v : Value) (room : Nat) (F : List Sl) : Prop where
  blk : w.heap[p]? = some (.cells #[.int .i64 (room : Int), v] 60 (0, 0))
  row : w.ownsRow 0 67 10 v F.length (flat slV F)
  ne : p ∉ own v

theorem blk_lt {w : World} {p : Nat} {o : Obj} (h : w.heap[p]? = some o) : p < w.heap.size := (Array.getElem?_eq_some_iff.1 h).1
theorem off_one {ks : List Nat} {b : Nat} (h : b ∉ ks) : Off ks [b] := fun k hk hm => by simp at hm; subst hm; exact h hk

/-- The pool at p, its slots in block g. -/
def Pool (w : World) (p g n cap room : Nat) (S : Ss) : Prop := ∃ F, PoIn w p (.slice (some ⟨g, 0, none⟩) n cap) room F ∧ F.length = n ∧ S = sl F

section
variable {w w' : World} {p g n cap room : Nat} {S : Ss} {ks : List Nat}
theorem Pool.ne (h : Pool w p g n cap room S) : g ≠ p := by
  obtain ⟨F, h1, _, _⟩ := h
  have := h1.ne
  simpa [own, Value.ownBlock, eq_comm] using this
theorem Pool.lt (h : Pool w p g n cap room S) : p < w.heap.size ∧ g < w.heap.size := by
  obtain ⟨F, h1, _, _⟩ := h
  exact ⟨blk_lt h1.blk, row_lt h1.row g (by simp [own, Value.ownBlock])⟩
theorem Pool.keep (h : Pool w p g n cap room S) (hk : Keep ks w w') (hp : p ∉ ks) (hg : g ∉ ks) : Pool w' p g n cap room S := by
  obtain ⟨F, h1, h2, h3⟩ := h
  exact ⟨F, ⟨by rw [hk.block p (blk_lt h1.blk) hp]; exact h1.blk, row_keep h1.row hk (fun k h4 => by simp [own, Value.ownBlock] at h4; subst h4; exact hg), h1.ne⟩, h2, h3⟩
theorem Pool.below (h : Pool w p g n cap room S) (hb : Below w.heap.size w w') : Pool w' p g n cap room S := h.keep (Keep.ofBelow hb []) (by simp) (by simp)
theorem Pool.head (h : Pool w p g n cap room S) : w.cell? ⟨p, 0, none⟩ = some (.int .i64 (room : Int)) ∧ w.cell? ⟨p, 1, none⟩ = some (.slice (some ⟨g, 0, none⟩) n cap) ∧ w.frozen? ⟨p, 0, none⟩ = false ∧ w.frozen? ⟨p, 1, none⟩ = false ∧ n ≤ cap ∧ cap ≤ 9223372036854775807 := by
  obtain ⟨F, h1, h2, h3⟩ := h
  obtain ⟨x, c, hv, q1, q2, _⟩ := row_form h1.row
  simp only [Value.slice.injEq] at hv
  obtain ⟨_, _, rfl⟩ := hv
  unfold maxLen at q2
  refine ⟨?_, ?_, ?_, ?_, by omega, by omega⟩ <;> simp [World.cell?, World.frozen?, h1.blk]
theorem Pool.out (h : Pool w p g n cap room S) {t : Nat} (ht : n ≤ t) : S t = Sl.zero := by
  obtain ⟨F, h1, rfl, rfl⟩ := h
  simp [sl, List.getD_eq_getElem?_getD, ht]
theorem Pool.cell (h : Pool w p g n cap room S) {t : Nat} (ht : t < n) : ∀ k, k < 10 → w.cell? ⟨g, t * 10 + k, none⟩ = (slV (S t))[k]? ∧ w.frozen? ⟨g, t * 10 + k, none⟩ = false := by
  obtain ⟨F, h1, rfl, rfl⟩ := h
  intro k hk
  obtain ⟨x, c, hv, q1, q2, q3⟩ := row_form h1.row
  obtain ⟨g', e, _, _, hc⟩ := q3 (by omega)
  simp only [Value.slice.injEq] at hv
  obtain ⟨rfl, _, rfl⟩ := hv
  simp only [Option.some.injEq, Addr.mk.injEq, and_true] at e
  subst e
  refine ⟨?_, (hc _ (by omega)).2⟩
  rw [(hc _ (by omega)).1, flat_get slV_len F t k hk, List.getElem?_eq_getElem ht]
  simp [sl, List.getD_eq_getElem?_getD, ht]
/-- A slot's cells, as the walk reads them. -/
theorem Pool.slot (h : Pool w p g n cap room S) {t : Nat} (ht : t < n) :
    w.cell? ⟨g, t * 10, none⟩ = some (.int .i64 ((S t).up : Int)) ∧ w.cell? ⟨g, t * 10 + 1, none⟩ = some (.int .i64 ((S t).l : Int)) ∧ w.cell? ⟨g, t * 10 + 2, none⟩ = some (.int .i64 ((S t).r : Int)) ∧ w.cell? ⟨g, t * 10 + 3, none⟩ = some (.int .i64 ((S t).h : Int)) ∧
    w.cell? ⟨g, t * 10 + 4, none⟩ = some (.int .i64 (S t).wt) ∧ w.cell? ⟨g, t * 10 + 5, none⟩ = some (.int .i64 (S t).wa) ∧ w.cell? ⟨g, t * 10 + 6, none⟩ = some (.int .i64 (S t).sm.c) ∧ w.cell? ⟨g, t * 10 + 7, none⟩ = some (.int .i64 (S t).sm.s) ∧ w.cell? ⟨g, t * 10 + 8, none⟩ = some (.int .i64 (S t).sm.a) ∧ w.cell? ⟨g, t * 10 + 9, none⟩ = some (.int .i64 (S t).sm.b) := by
  have hc := fun k hk => (h.cell ht k hk).1
  exact ⟨hc 0 (by omega), hc 1 (by omega), hc 2 (by omega), hc 3 (by omega), hc 4 (by omega), hc 5 (by omega), hc 6 (by omega), hc 7 (by omega), hc 8 (by omega), hc 9 (by omega)⟩
theorem Pool.soft (h : Pool w p g n cap room S) {t : Nat} (ht : t < n) :
    w.frozen? ⟨g, t * 10, none⟩ = false ∧ w.frozen? ⟨g, t * 10 + 1, none⟩ = false ∧ w.frozen? ⟨g, t * 10 + 2, none⟩ = false ∧ w.frozen? ⟨g, t * 10 + 3, none⟩ = false ∧ w.frozen? ⟨g, t * 10 + 4, none⟩ = false ∧ w.frozen? ⟨g, t * 10 + 5, none⟩ = false ∧
    w.frozen? ⟨g, t * 10 + 6, none⟩ = false ∧ w.frozen? ⟨g, t * 10 + 7, none⟩ = false ∧ w.frozen? ⟨g, t * 10 + 8, none⟩ = false ∧ w.frozen? ⟨g, t * 10 + 9, none⟩ = false := by
  have hc := fun k hk => (h.cell ht k hk).2
  exact ⟨hc 0 (by omega), hc 1 (by omega), hc 2 (by omega), hc 3 (by omega), hc 4 (by omega), hc 5 (by omega), hc 6 (by omega), hc 7 (by omega), hc 8 (by omega), hc 9 (by omega)⟩
/-- A cell of a slot is laid anew. -/
theorem Pool.put (h : Pool w p g n cap room S) {t : Nat} (ht : t < n) (k : Nat) (hk : k < 10) (x : Sl) (u : Value) (hx : slV x = (slV (S t)).set k u) : Pool (w.setCell ⟨g, t * 10 + k, none⟩ u) p g n cap room (upd S t x) := by
  have hne := h.ne
  obtain ⟨F, h1, rfl, rfl⟩ := h
  refine ⟨F.set t x, ⟨?_, ?_, h1.ne⟩, by simp, ?_⟩
  · rw [Below.heap_setCell _ _ _ _ hne.symm]; exact h1.blk
  · have r1 := (h1.row.stored (t * 10 + k) u).1
    have e1 := flat_set slV_len F t k ht hk x u (by rw [hx]; simp [sl, List.getD_eq_getElem?_getD, ht])
    rw [e1]
    simpa using r1
  · funext j
    by_cases e : j = t
    · subst e; simp [upd, sl, List.getD_eq_getElem?_getD, ht]
    · have e' : ¬ t = j := fun h => e h.symm
      simp [upd, sl, List.getD_eq_getElem?_getD, e, e', List.getElem?_set]
theorem keep_cell (w : World) (b o : Nat) (u : Value) : Keep [b] w (w.setCell ⟨b, o, none⟩ u) := Keep.setCell (ks := [b]) (Keep.refl _ _) (p := ⟨b, o, none⟩) (by simp) _
theorem _root_.Go.Arb.Keep.tr {b : Nat} {a w w' : World} (h : Keep [b] a w) (k : Keep [b] w w') : Keep [b] a w' := h.trans k (fun i hi => .inl hi)
theorem _root_.Go.Arb.Keep.cellB {b : Nat} {a w : World} (h : Keep [b] a w) (o : Nat) (u : Value) : Keep [b] a (w.setCell ⟨b, o, none⟩ u) := h.tr (keep_cell w b o u)
theorem _root_.Go.Arb.Keep.belowB {b : Nat} {a w w' : World} (h : Keep [b] a w) (hb : Below w.heap.size w w') : Keep [b] a w' := h.tr (Keep.ofBelow hb _)
end

set_option maxHeartbeats 400000 in
theorem lift_any (c s a b n q : Int) (w : World) (hq : c * n = q) (k1 : -4611686018427387904 ≤ q) (k2 : q ≤ 4611686018427387904) (k3 : -4611686018427387904 ≤ s + q) (k4 : s + q ≤ 4611686018427387904)
    (k5 : -4611686018427387904 ≤ a + n) (k6 : a + n ≤ 4611686018427387904) (k7 : -4611686018427387904 ≤ b + n) (k8 : b + n ≤ 4611686018427387904) :
    Calls Try.prog 83 #[.agg #[.int .i64 c, .int .i64 s, .int .i64 a, .int .i64 b], .int .i64 n] w fun r w' =>
      r = .returned (smV (lf ⟨c, s, a, b⟩ n)) ∧ Below w.heap.size w w' := by
  by_cases h0 : c = 0
  · subst h0
    go_enter Try.func83, Try.ntmps83
    go_wp2
    refine bodyPost_ret (v := .agg #[.int .i64 0, .int .i64 s, .int .i64 a, .int .i64 b]) (by simp [results, Try.results83, go_sem]) rfl ⟨by simp [lf, smV], b2 _ _ _⟩
  · have e0 : (c == 0) = false := by simpa using h0
    have hj : Hid (smV (lf ⟨c, s, a, b⟩ n) = .agg #[.int .i64 c, .int .i64 (s + q), .int .i64 (a + n), .int .i64 (b + n)]) := by simp [lf, h0, Hid, smV, hq]
    go_enter Try.func83, Try.ntmps83
    go_wp2
    rw [hj.out]
    refine bodyPost_ret (v := .agg #[.int .i64 c, .int .i64 (s + q), .int .i64 (a + n), .int .i64 (b + n)]) (by simp [results, Try.results83, go_sem]) rfl ⟨rfl, b2 _ _ _⟩

set_option maxHeartbeats 400000 in
theorem heavier_any (x n : Int) (w : World) : Calls Try.prog 63 #[.int .i64 x, .int .i64 n] w fun r w' => r = .returned (.int .i64 (addV x n)) ∧ w = w' := by
  go_enter Try.func63, Try.ntmps63
  go_wp2_with (go_at_call 72; refine (add_any _ _ _).mono ?_; rintro e w' ⟨rfl, rfl⟩)
  go_ret
  exact ⟨rfl, rfl⟩
set_option maxHeartbeats 400000 in
theorem canRise_any (c s a b n : Int) (w : World) : Calls Try.prog 57 #[.agg #[.int .i64 c, .int .i64 s, .int .i64 a, .int .i64 b], .int .i64 n] w fun r w' => r = .returned (.bool (addB a n && addB b n)) ∧ Below w.heap.size w w' := by
  cases h1 : addB a n
  · go_enter Try.func57, Try.ntmps57
    go_wp2_with (go_at_call 72; refine (add_any _ _ _).mono ?_; (first | rw [h1] | skip); rintro e w' ⟨rfl, rfl⟩)
    go_ret
    exact ⟨rfl, (Below.refl _ _).alloc (Nat.le_refl _) _⟩
  · go_enter Try.func57, Try.ntmps57
    go_wp2_with (go_at_call 72; refine (add_any _ _ _).mono ?_; (first | rw [h1] | skip); rintro e w' ⟨rfl, rfl⟩)
    go_ret
    exact ⟨rfl, (Below.refl _ _).alloc (Nat.le_refl _) _⟩
end Go.Proofs.Ytkfboficcdiojaa
