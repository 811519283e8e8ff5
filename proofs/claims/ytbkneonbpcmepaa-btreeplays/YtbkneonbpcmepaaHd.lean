/- A region that draws its order, whose last operations wait for all the others: the others first, by whatever law; then these, in their order. Nothing of the dump. -/
import Derived.StillTail
import Derived.WalkKit
namespace Go.Arb
open Go

section
variable {P : Program} {Q Q' : Exit → Act → World → Prop}
theorem op_exit {o : Oper} {a : Act} {w : World} {K K' : Act → World → Prop} (hp : ∀ c a w, Q' (.panic c) a w → Q (.panic c) a w) (ho : LetsOut Q' → LetsOut Q) (h : ∀ a w, K a w → K' a w) (hh : o.wp P a w K Q') : o.wp P a w K' Q := by
  unfold Oper.wp at *
  generalize (execOp a.eval o).run P w = r at *
  cases r with
  | ok n w' =>
    cases n <;> simp only [Oper.upon] at hh ⊢ <;>
      first
        | exact h _ _ hh
        | exact Calls.mono hh (fun e w'' he => by cases e <;> first | exact h _ _ he | exact hp _ _ _ he | exact ho he)
        | exact Rows.mono hh (fun _ _ he => h _ _ he)
  | halt x w' => cases x <;> simp only [Oper.upon] at hh ⊢ <;> first | exact hp _ _ _ hh | exact hh

theorem any_more {ops : Array Oper} {md : Region.Mode} : ∀ (f : Nat) (l : Array Bool) (a : Act) (w : World), wpAny P md ops Q f l a w → wpAny P md ops Q (f + 1) l a w
  | 0, l, a, w, h => ⟨fun _ => h.2, fun i hi => by rw [h.1] at hi; cases hi⟩
  | f + 1, l, a, w, h => ⟨h.1, fun i hi => wpOp_mono (fun a' w' h' => any_more f _ a' w' h') (h.2 i hi)⟩
theorem any_more' {ops : Array Oper} {md : Region.Mode} {f : Nat} {l : Array Bool} {a : Act} {w : World} (h : wpAny P md ops Q f l a w) : ∀ k, wpAny P md ops Q (k + f) l a w
  | 0 => by rw [Nat.zero_add]; exact h
  | k + 1 => by rw [show k + 1 + f = (k + f) + 1 by omega]; exact any_more _ _ _ _ (any_more' h k)

/-- Each waits for earlier ones only, and is guarded by earlier ones only. -/
def frontB (ops : Array Oper) : Bool := (List.range ops.size).all fun i => match ops[i]? with | some o => o.after.all (fun e => !Region.binds .any e || Nat.blt e.on i) && (match o.guard with | some (g, _) => Nat.blt g i | none => true) | none => true
theorem front_listed {ops : Array Oper} (he : frontB ops = true) {l : Array Bool} (hl : l.size = ops.size) (hr : Region.ready .any ops l = []) : ∀ k, k < ops.size → l.getD k false = true := by
  intro k
  induction k using Nat.strongRecOn with
  | ind k ih =>
    intro hk
    refine Classical.byContradiction fun hn => ?_
    have : k ∈ Region.ready .any ops l := by
      refine mem_ready.2 ⟨getD_in (by omega) (by simpa using hn), ops[k], Array.getElem?_eq_getElem hk, fun e hm eb => ?_⟩
      have hq := List.all_eq_true.1 he k (List.mem_range.2 hk)
      simp only [Array.getElem?_eq_getElem hk, Bool.and_eq_true] at hq
      have hb := Array.all_eq_true_iff_forall_mem.1 hq.1 e hm
      rw [eb] at hb
      have h3 : e.on < k := by simpa [Nat.blt_eq] using hb
      exact ih e.on h3 (by omega)
    rw [hr] at this
    cases this

def tailB (hl tl : List Oper) : Bool :=
  decide (0 < tl.length) && frontB hl.toArray && Region.sinkB .any (hl ++ tl).toArray hl.length && Region.chainB .any (hl ++ tl).toArray hl.length && Region.seqB .any (hl ++ tl).toArray tl.length hl.length (Array.replicate hl.length true ++ Array.replicate tl.length false)
/-- The post of the first part: the rest in its order. -/
def HT (P : Program) (ops : Array Oper) (Q : Exit → Act → World → Prop) (tl : List Oper) : Exit → Act → World → Prop
  | .normal, a, w => wpList P ops Q tl a w
  | e, a, w => Q e a w

theorem wanted_head {hl tl : List Oper} (hf : frontB hl.toArray = true) {i : Nat} {o : Oper} (ho : hl[i]? = some o) (tmps : Array Value) : Region.wanted o (yielded hl.toArray tmps) = Region.wanted o (yielded (hl ++ tl).toArray tmps) := by
  have hi : i < hl.length := (List.getElem?_eq_some_iff.1 ho).1
  have hq := List.all_eq_true.1 hf i (List.mem_range.2 (by simpa using hi))
  have ho2 : hl.toArray[i]? = some o := by simpa using ho
  simp only [ho2, Bool.and_eq_true] at hq
  unfold Region.wanted
  cases hg : o.guard with
  | none => rfl
  | some gb =>
    obtain ⟨g, b⟩ := gb
    rw [hg] at hq
    have h3 : g < i := by simpa [Nat.blt_eq] using hq.2
    have : yielded hl.toArray tmps g = yielded (hl ++ tl).toArray tmps g := by
      unfold yielded
      have e1 : hl.toArray[g]? = (hl ++ tl).toArray[g]? := by
        simp only [List.getElem?_toArray]
        rw [List.getElem?_append_left (by omega)]
      rw [e1]
    simp only [this]
theorem op_head {hl tl : List Oper} (hf : frontB hl.toArray = true) {i : Nat} (hi : i < hl.length) {a : Act} {w : World} {K K' : Act → World → Prop} (h : ∀ a w, K a w → K' a w)
    (hh : wpOp P hl.toArray (HT P (hl ++ tl).toArray Q tl) i K a w) : wpOp P (hl ++ tl).toArray Q i K' a w := by
  have e1 : hl.toArray[i]? = some hl[i] := by simp [hi]
  have e2 : (hl ++ tl).toArray[i]? = some hl[i] := by
    simp only [List.getElem?_toArray]
    rw [List.getElem?_append_left hi, List.getElem?_eq_getElem hi]
  have hw := wanted_head (tl := tl) hf (List.getElem?_eq_getElem hi) a.tmps
  unfold wpOp at *
  simp only [e1] at hh
  simp only [e2]
  rw [hw] at hh
  split
  · rename_i c
    simp only [c, if_true] at hh
    exact hh.imp (op_exit (fun _ _ _ q => q) (fun ⟨a, w, q⟩ => ⟨a, w, q⟩) h) (fun q => ⟨q.1, q.2.elim fun a q => q.elim fun w q => ⟨a, w, q⟩⟩)
  · rename_i c
    simp only [c] at hh
    exact h _ _ hh

theorem any_head {hl tl : List Oper} (hB : tailB hl tl = true) : ∀ (f : Nat) (L L' : Array Bool) (a : Act) (w : World), HeadInv .any (hl ++ tl).toArray hl.length L → L'.size = hl.length → (∀ j, j < hl.length → L'.getD j false = L.getD j false) →
    wpAny P .any hl.toArray (HT P (hl ++ tl).toArray Q tl) f L' a w → wpAny P .any (hl ++ tl).toArray Q (f + tl.length) L a w := by
  simp only [tailB, Bool.and_eq_true, decide_eq_true_eq] at hB
  obtain ⟨⟨⟨⟨ht, hf⟩, hs⟩, hc⟩, hseq⟩ := hB
  have hn : hl.length < (hl ++ tl).toArray.size := by simp; omega
  have agree : ∀ (L L' : Array Bool), HeadInv .any (hl ++ tl).toArray hl.length L → L'.size = hl.length → (∀ j, j < hl.length → L'.getD j false = L.getD j false) → ∀ j, L'.getD j false = L.getD j false := fun L L' inv hz ag j => by
    by_cases hj : j < hl.length
    · exact ag j hj
    · have e1 : L'.getD j false = false := by simp [Array.getElem?_eq_none (show L'.size ≤ j by omega)]
      rw [e1]
      by_cases hj2 : j < (hl ++ tl).toArray.size
      · exact (getD_both (inv.tail j (by omega) hj2)).symm
      · simp [Array.getElem?_eq_none (show L.size ≤ j by rw [inv.size]; omega)]
  have ready_iff : ∀ (L L' : Array Bool), HeadInv .any (hl ++ tl).toArray hl.length L → L'.size = hl.length → (∀ j, j < hl.length → L'.getD j false = L.getD j false) → ∀ i, i < hl.length → (i ∈ Region.ready .any hl.toArray L' ↔ i ∈ Region.ready .any (hl ++ tl).toArray L) := fun L L' inv hz ag i hi => by
    have ag2 := agree L L' inv hz ag
    have e1 : hl.toArray[i]? = some hl[i] := by simp [hi]
    have e2 : (hl ++ tl).toArray[i]? = some hl[i] := by
      simp only [List.getElem?_toArray]
      rw [List.getElem?_append_left hi, List.getElem?_eq_getElem hi]
    rw [mem_ready, mem_ready, e1, e2]
    have hL : i < L.size := by rw [inv.size]; omega
    constructor
    · rintro ⟨h1, o, ho, h2⟩
      exact ⟨getD_in hL (by rw [← ag2]; exact getD_both h1), o, ho, fun e he hb => by rw [← ag2]; exact h2 e he hb⟩
    · rintro ⟨h1, o, ho, h2⟩
      exact ⟨getD_in (by omega) (by rw [ag2]; exact getD_both h1), o, ho, fun e he hb => by rw [ag2]; exact h2 e he hb⟩
  have last : ∀ (L L' : Array Bool) (a : Act) (w : World), HeadInv .any (hl ++ tl).toArray hl.length L → L'.size = hl.length → (∀ j, j < hl.length → L'.getD j false = L.getD j false) → Region.ready .any hl.toArray L' = [] → wpList P (hl ++ tl).toArray Q tl a w → wpAny P .any (hl ++ tl).toArray Q tl.length L a w := fun L L' a w inv hz ag hr h => by
    have hall := front_listed hf (by simpa using hz) hr
    have e : L = Array.replicate hl.length true ++ Array.replicate tl.length false := by
      apply Array.ext
      · rw [inv.size]; simp
      · intro i h1 h2
        by_cases hi : i < hl.length
        · have := hall i (by simpa using hi)
          rw [ag i hi] at this
          simp [h1] at this
          simp [hi, this]
        · have := inv.tail i (by omega) (by rw [← inv.size]; exact h1)
          simp [h1] at this
          simp [Array.getElem_append, hi, this]
    rw [e]
    exact wpAny_of_seq tl hl.length _ a w (fun j => by simp only [List.getElem?_toArray]; rw [List.getElem?_append_right (by omega)]; congr 1; omega) hseq h
  intro f
  induction f with
  | zero =>
    intro L L' a w inv hz ag h
    rw [Nat.zero_add]
    exact last L L' a w inv hz ag h.1 h.2
  | succ f ih =>
    intro L L' a w inv hz ag h
    by_cases hr : Region.ready .any hl.toArray L' = []
    · exact any_more' (last L L' a w inv hz ag hr (h.1 hr)) (f + 1)
    · obtain ⟨i0, hi0⟩ := List.exists_mem_of_ne_nil _ hr
      have hi0n : i0 < hl.length := by
        obtain ⟨_, o, ho, _⟩ := mem_ready.1 hi0
        have := (Array.getElem?_eq_some_iff.1 ho).1
        simpa using this
      have hun := (mem_ready.1 ((ready_iff L L' inv hz ag i0 hi0n).1 hi0)).1
      rw [show f + 1 + tl.length = (f + tl.length) + 1 by omega]
      refine ⟨fun h0 => ?_, fun i hi => ?_⟩
      · have := (ready_iff L L' inv hz ag i0 hi0n).1 hi0
        rw [h0] at this
        cases this
      · have hin : i < hl.length := by
          rcases Nat.lt_or_ge i hl.length with h1 | h1
          · exact h1
          · exact absurd hi (tail_waits hs hc hn inv _ i0 rfl hi0n hun i h1)
        have hi' := (ready_iff L L' inv hz ag i hin).2 hi
        refine op_head hf hin (fun a' w' q => ih _ _ a' w' (inv.set hi hin) (by simpa using hz) (fun j hj => ?_) q) (h.2 i hi')
        by_cases e : i = j
        · subst e
          simp [hz, inv.size, hj]
          omega
        · rw [getD_set_ne false e, getD_set_ne false e]
          exact ag j hj
theorem wp_region_tail {id : Nat} {a : Act} {w : World} {l : List Oper} (n : Nat) (hm : P.follows .mixedOrders = true) (hB : tailB (l.take n) (l.drop n) = true)
    (h : wpAny P .any (l.take n).toArray (HT P l.toArray Q (l.drop n)) (l.take n).length (Array.replicate (l.take n).length false) a w.drew) : (Code.region id l.toArray true).wp P Q a w := by
  have e : l = l.take n ++ l.drop n := (List.take_append_drop n l).symm
  refine wp_region_any hm ?_
  have := any_head (Q := Q) hB (l.take n).length (Array.replicate (l.take n ++ l.drop n).toArray.size false) (Array.replicate (l.take n).length false) a w.drew
    ⟨by simp, fun j oj _ hl => (by rw [getD_replicate_false] at hl; cases hl), fun t _ ht => getD_in (by simpa using ht) (getD_replicate_false _ _)⟩ (by simp) (fun j _ => by rw [getD_replicate_false, getD_replicate_false]) (by rw [← e]; exact h)
  rw [← e] at this
  have e2 : (l.take n).length + (l.drop n).length = l.toArray.size := by rw [← List.length_append, ← e]; simp
  rw [e2] at this
  exact this
end
end Go.Arb
