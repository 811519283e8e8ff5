/- A knot in memory. -/
import Derived.Test.YtbkneonbpcmepaaS2
import Derived.Test.YtbkneonbpcmepaaT
import Derived.Test.YtbkneonbpcmepaaF2
import Derived.Deep.RegionHeld3
import Derived.Deep.RegionWith
import Derived.BigQuiet
import Derived.WalkSmall
import Derived.Deep.QuietTactic
import Derived.Deep.LoopGhost
import Derived.Deep.DeepCutAuto
namespace Go.Proofs.Ytbkneonbpcmepaa
open Go.RowKit Go.Arb
set_option linter.unusedVariables false
set_option linter.unusedSimpArgs false

def ptr (a : Nat) : Value := .pointer (some ⟨a, 0, none⟩)
def knC (u r : Value) (h i m : Int) (s : Sm) : Array Value := #[u, r, .int .i64 h, .int .i64 i, .int .i64 m, .int .i64 s.c, .int .i64 s.s, .int .i64 s.a, .int .i64 s.b]
/-- A knot at block a: what is above it, its parts, its height, its item, what waits, its sum. -/
def Kn (w : World) (a : Nat) (u r : Value) (h i m : Int) (s : Sm) : Prop := w.heap[a]? = some (.cells (knC u r h i m s) 68 (0, 0))
section
variable {w w' : World} {a : Nat} {u r u' r' : Value} {h i m h' i' m' : Int} {s s' : Sm} {ks : List Nat}
theorem blk_lt {w : World} {p : Nat} {o : Obj} (h : w.heap[p]? = some o) : p < w.heap.size := (Array.getElem?_eq_some_iff.1 h).1
theorem Kn.lt (k : Kn w a u r h i m s) : a < w.heap.size := blk_lt k
theorem Kn.keep (k : Kn w a u r h i m s) (hk : Keep ks w w') (ho : a ∉ ks) : Kn w' a u r h i m s := by
  unfold Kn at *
  rw [hk.block a (blk_lt k) ho]; exact k
theorem Kn.below (k : Kn w a u r h i m s) (hb : Below w.heap.size w w') : Kn w' a u r h i m s := k.keep (Keep.ofBelow hb []) (by simp)
theorem Kn.cells (k : Kn w a u r h i m s) : w.cell? ⟨a, 0, none⟩ = some u ∧ w.cell? ⟨a, 1, none⟩ = some r ∧ w.cell? ⟨a, 2, none⟩ = some (.int .i64 h) ∧ w.cell? ⟨a, 3, none⟩ = some (.int .i64 i) ∧ w.cell? ⟨a, 4, none⟩ = some (.int .i64 m) ∧
    w.cell? ⟨a, 5, none⟩ = some (.int .i64 s.c) ∧ w.cell? ⟨a, 6, none⟩ = some (.int .i64 s.s) ∧ w.cell? ⟨a, 7, none⟩ = some (.int .i64 s.a) ∧ w.cell? ⟨a, 8, none⟩ = some (.int .i64 s.b) := by
  unfold Kn knC at k
  refine ⟨?_, ?_, ?_, ?_, ?_, ?_, ?_, ?_, ?_⟩ <;> simp [World.cell?, k]
theorem Kn.soft (k : Kn w a u r h i m s) : ∀ j, w.frozen? ⟨a, j, none⟩ = false := by
  unfold Kn at k
  intro j
  simp [World.frozen?, k]
theorem Kn.put (k : Kn w a u r h i m s) (j : Nat) (v : Value) (e : (knC u r h i m s).setIfInBounds j v = knC u' r' h' i' m' s') : Kn (w.setCell ⟨a, j, none⟩ v) a u' r' h' i' m' s' := by
  unfold Kn at *
  show (w.heap.modify a _)[a]? = _
  rw [Array.getElem?_modify, if_pos rfl, k, ← e]
  rfl
def putSm (w : World) (a : Nat) (s : Sm) : World := (((w.setCell ⟨a, 5, none⟩ (.int .i64 s.c)).setCell ⟨a, 6, none⟩ (.int .i64 s.s)).setCell ⟨a, 7, none⟩ (.int .i64 s.a)).setCell ⟨a, 8, none⟩ (.int .i64 s.b)
theorem Kn.putSm (k : Kn w a u r h i m s) (t : Sm) : Kn (putSm w a t) a u r h i m t :=
  (((k.put 5 _ (u' := u) (r' := r) (h' := h) (i' := i) (m' := m) (s' := ⟨t.c, s.s, s.a, s.b⟩) rfl).put 6 _ (u' := u) (r' := r) (h' := h) (i' := i) (m' := m) (s' := ⟨t.c, t.s, s.a, s.b⟩) rfl).put 7 _ (u' := u) (r' := r) (h' := h) (i' := i) (m' := m) (s' := ⟨t.c, t.s, t.a, s.b⟩) rfl).put 8 _ rfl
theorem Kn.putW (k : Kn w a u r h i m s) (x : Int) : Kn (w.setCell ⟨a, 4, none⟩ (.int .i64 x)) a u r h i x s := k.put 4 _ rfl
theorem Kn.putU (k : Kn w a u r h i m s) (x : Value) : Kn (w.setCell ⟨a, 0, none⟩ x) a x r h i m s := k.put 0 _ rfl
theorem Kn.putR (k : Kn w a u r h i m s) (x : Value) : Kn (w.setCell ⟨a, 1, none⟩ x) a u x h i m s := k.put 1 _ rfl
theorem keep_cell (w : World) (b o : Nat) (u : Value) : Keep [b] w (w.setCell ⟨b, o, none⟩ u) := Keep.setCell (ks := [b]) (Keep.refl _ _) (p := ⟨b, o, none⟩) (by simp) _
theorem keep_putSm (w : World) (b : Nat) (s : Sm) : Keep [b] w (putSm w b s) :=
  ((((Keep.refl [b] w).setCell (p := ⟨b, 5, none⟩) (by simp) _).setCell (p := ⟨b, 6, none⟩) (by simp) _).setCell (p := ⟨b, 7, none⟩) (by simp) _).setCell (p := ⟨b, 8, none⟩) (by simp) _
theorem _root_.Go.Arb.Keep.tr {ks : List Nat} {a w w' : World} (h : Keep ks a w) (k : Keep ks w w') : Keep ks a w' := h.trans k (fun i hi => .inl hi)
end
theorem sm_eta (s : Sm) : s = ⟨s.c, s.s, s.a, s.b⟩ := rfl
theorem rsum_any (xs : List It) (d : Int) (w : World) (hl : xs.length ≤ 4194304) (hf : FitL xs) (hf' : FitL (rz d xs)) (h1 : -2199023255552 ≤ d) (h2 : d ≤ 2199023255552) :
    Calls Try.prog 77 #[smV (smL xs), .int .i64 d] w fun r w' => r = .returned (smV (smL (rz d xs))) ∧ Below w.heap.size w w' :=
  lifted_any xs _ _ _ _ d _ _ _ _ w rfl rfl hl hf hf' h1 h2

set_option maxRecDepth 100000 in
theorem raise_any (xs : List It) (a : Nat) (u r : Value) (h i m d : Int) (w : World) (k : Kn w a u r h i m (smL xs)) (hl : xs.length ≤ 4194304) (hf : FitL xs) (hf' : FitL (rz d xs)) (h1 : -2199023255552 ≤ d) (h2 : d ≤ 2199023255552)
    (h3 : -2199023255552 ≤ m) (h4 : m ≤ 2199023255552) :
    Calls Try.prog 78 #[ptr a, .int .i64 d] w fun e w' => e = .returned (.tuple #[]) ∧ Kn w' a u r h i (if 0 < h then m + d else m) (smL (rz d xs)) ∧ Keep [a] w w' := by
  have A1 := hide (fun w => rsum_any xs d w hl hf hf' h1 h2)
  obtain ⟨q0, q1, q2, q3, q4, q5, q6, q7, q8⟩ := k.cells
  have K := hide k
  clear k hl hf hf'
  generalize smL xs = s at *
  generalize smL (rz d xs) = t at *
  unfold ptr
  go_enter Try.func78, Try.ntmps78
  go_wp2_with fail
  refine (unhide A1 _).mono ?_
  rintro e w1 ⟨rfl, hb⟩
  have K1 := (unhide K).below hb
  have hk := Keep.ofBelow hb [a]
  clear q0 q1 q2 q3 q4 q5 q6 q7 q8 K A1
  have K2 := K1.putSm t
  have HK := hide (And.intro K2 (hk.tr (keep_putSm w1 a t)))
  obtain ⟨q0, q1, q2, q3, q4, q5, q6, q7, q8⟩ := K1.cells
  have F4 := K1.soft 4
  have F5 := K1.soft 5
  have F6 := K1.soft 6
  have F7 := K1.soft 7
  have F8 := K1.soft 8
  clear K1 K2 hk hb
  unfold putSm at HK
  unfold smV
  by_cases c : 0 < h
  · go_wp2_with fail
    go_end0
    try rw [if_pos (by omega)]
    exact ⟨rfl, (unhide HK).1.putW _, (unhide HK).2.tr (keep_cell _ _ _ _)⟩
  · go_wp2_with fail
    go_end0
    try rw [if_neg (by omega)]
    exact ⟨rfl, unhide HK⟩
end Go.Proofs.Ytbkneonbpcmepaa
