/- The pool in memory; what is there. -/
import Derived.Test.YtbkneonbpcmepaaQ1
namespace Go.Proofs.Ytbkneonbpcmepaa
open Go.RowKit Go.Arb
set_option linter.unusedVariables false
set_option linter.unusedSimpArgs false

def ti (T : Tp) : List It := its T.h T.t
def tf (T : Tp) : List Nat := fp T.h T.t
def tfs (F : List Tp) : List Nat := F.flatMap tf
def itw (W : Nat → Int) (ad : Nat → Nat) (l : List Nat) : List It := l.map fun v => ((v, ad v), W v)
structure PB (w : World) (p : Nat) (v : Value) (xs : List Value) (ad : Nat → Nat) (F : List Tp) (A : Se) : Prop where
  po : w.heap[p]? = some (.cells #[.int .i64 (A.n : Int), v] 60 (0, 0))
  row : w.ownsRow 0 66 1 v xs.length xs
  xn : xs.length ≤ A.n
  cel : ∀ i, i < xs.length → xs[i]? = some (if i ∈ A.L.flatten then ptr (ad i) else .pointer none)
  lt : ∀ v ∈ A.L.flatten, v < xs.length
  ow : ∀ T ∈ F, Own1 w T
  it : (F.map ti).Perm (A.L.map (itw A.W ad))
  sep : (p :: (own v ++ tfs F)).Nodup
  nd : A.L.flatten.Nodup
  ne : ∀ l ∈ A.L, l ≠ []
  n : A.n ≤ 4194304

section
variable {w w' : World} {p : Nat} {v : Value} {xs : List Value} {ad : Nat → Nat} {F F' : List Tp} {A : Se}
theorem Own1.keep {T : Tp} {ks : List Nat} (o : Own1 w T) (hk : Keep ks w w') (ho : Off (tf T) ks) : Own1 w' T := ⟨o.mem.keep hk ho, o.nd, o.wf, o.len⟩
theorem mem_tfs {T : Tp} (h : T ∈ F) {k : Nat} (hk : k ∈ tf T) : k ∈ tfs F := List.mem_flatMap.2 ⟨T, h, hk⟩
theorem PB.keep {ks : List Nat} (h : PB w p v xs ad F A) (hk : Keep ks w w') (ho : Off (p :: (own v ++ tfs F)) ks) : PB w' p v xs ad F A :=
  ⟨by rw [hk.block p (blk_lt h.po) (ho p (by simp))]; exact h.po, row_keep h.row hk (fun k h1 => ho k (by simp [h1])), h.xn, h.cel, h.lt, fun T hT => (h.ow T hT).keep hk (fun k h1 => ho k (by simp [mem_tfs hT h1])), h.it, h.sep, h.nd, h.ne, h.n⟩
theorem PB.below (h : PB w p v xs ad F A) (hb : Below w.heap.size w w') : PB w' p v xs ad F A := h.keep (Keep.ofBelow hb []) (fun _ _ => by simp)
theorem PB.drewN (h : PB w p v xs ad F A) (q : Nat) : PB (w.drewN q) p v xs ad F A := h.keep (keep_drewN [] w q) (fun _ _ => by simp)
theorem PB.tlt (h : PB w p v xs ad F A) : ∀ k ∈ p :: (own v ++ tfs F), k < w.heap.size := fun k hk => by
  rcases List.mem_cons.1 hk with rfl | hk
  · exact blk_lt h.po
  · rcases List.mem_append.1 hk with hk | hk
    · exact row_lt h.row k hk
    · obtain ⟨T, hT, hk⟩ := List.mem_flatMap.1 hk
      exact (h.ow T hT).mem.lt k hk
theorem PB.head (h : PB w p v xs ad F A) : w.cell? ⟨p, 0, none⟩ = some (.int .i64 (A.n : Int)) ∧ w.cell? ⟨p, 1, none⟩ = some v ∧ w.frozen? ⟨p, 0, none⟩ = false ∧ w.frozen? ⟨p, 1, none⟩ = false := by
  have e := h.po
  refine ⟨?_, ?_, ?_, ?_⟩ <;> simp [World.cell?, World.frozen?, e]
theorem PB.perm (h : PB w p v xs ad F A) (hp : F.Perm F') : PB w p v xs ad F' A :=
  ⟨h.po, h.row, h.xn, h.cel, h.lt, fun T hT => h.ow T (hp.mem_iff.2 hT), ((hp.symm.map ti)).trans h.it, ((List.Perm.cons p (List.Perm.append_left _ (hp.flatMap_right tf))).nodup_iff).1 h.sep, h.nd, h.ne, h.n⟩
/-- A sequence's tree. -/
theorem PB.focus (h : PB w p v xs ad F A) {l : List Nat} (hl : l ∈ A.L) : ∃ T F', PB w p v xs ad (T :: F') A ∧ ti T = itw A.W ad l ∧ (F'.map ti).Perm ((A.L.erase l).map (itw A.W ad)) ∧ F.Perm (T :: F') := by
  have h1 : itw A.W ad l ∈ F.map ti := h.it.mem_iff.2 (List.mem_map.2 ⟨l, hl, rfl⟩)
  obtain ⟨T, hT, e⟩ := List.mem_map.1 h1
  obtain ⟨X, Y, rfl⟩ := List.append_of_mem hT
  have hp : (X ++ T :: Y).Perm (T :: (X ++ Y)) := List.perm_middle
  have h2 := h.perm hp
  refine ⟨T, X ++ Y, h2, e, ?_, hp⟩
  have h3 := h2.it
  have h4 : (A.L.map (itw A.W ad)).Perm (itw A.W ad l :: (A.L.erase l).map (itw A.W ad)) := (List.perm_cons_erase hl).map _
  have h5 := h3.trans h4
  rw [List.map_cons, e] at h5
  exact List.Perm.cons_inv h5
/-- An item's way up. -/
theorem seek_top (T : Tp) {u : Nat × Nat} (hu : u ∈ ids (ti T)) : ∃ d c x, plug d 0 c x = T ∧ (Lf.v x, Lf.a x) = u := seek T.h T.t u hu 0 ()
theorem ids_itw (W : Nat → Int) (ad : Nat → Nat) (l : List Nat) : ids (itw W ad l) = l.map fun v => (v, ad v) := by simp [ids, itw, Function.comp_def]
structure Ctx (w : World) (p : Nat) (v : Value) (xs : List Value) (ad : Nat → Nat) (T : Tp) (F : List Tp) (A : Se) (u d : Nat) (c : Cx d 0) (x : Tr 0) : Prop where
  pb : PB w p v xs ad (T :: F) A
  ti : ti T = itw A.W ad (A.seq u)
  rest : (F.map Go.Proofs.Ytbkneonbpcmepaa.ti).Perm ((A.L.erase (A.seq u)).map (itw A.W ad))
  pl : plug d 0 c x = T
  v : Lf.v x = u
  a : adr 0 x = ad u
  mem : u ∈ A.seq u
  inL : A.seq u ∈ A.L
theorem PB.ctx' (h : PB w p v xs ad F A) {u : Nat} (hu : u ∈ A.L.flatten) : ∃ T F' d c x, Ctx w p v xs ad T F' A u d c x ∧ F.Perm (T :: F') := by
  obtain ⟨h1, h2⟩ := Se.seq_mem hu
  obtain ⟨T, F', h3, h4, h5, h6⟩ := h.focus h1
  obtain ⟨d, c, x, e1, e2⟩ := seek_top T (u := (u, ad u)) (by rw [h4, ids_itw]; exact List.mem_map.2 ⟨u, h2, rfl⟩)
  exact ⟨T, F', d, c, x, ⟨h3, h4, h5, e1, congrArg Prod.fst e2, congrArg Prod.snd e2, h2, h1⟩, h6⟩
theorem PB.ctx (h : PB w p v xs ad F A) {u : Nat} (hu : u ∈ A.L.flatten) : ∃ T F' d c x, Ctx w p v xs ad T F' A u d c x := by
  obtain ⟨T, F', d, c, x, q, _⟩ := h.ctx' hu
  exact ⟨T, F', d, c, x, q⟩

def Se.findV (A : Se) (ad : Nat → Nat) (x : Int) : Value := if A.hasI x then ptr (ad x.toNat) else .pointer none
theorem find_nil (x : Int) (w : World) : Calls Try.prog 60 #[.pointer none, .int .i64 x] w fun e w' => e = .returned (.pointer none) ∧ w = w' := by
  go_enter Try.func60, Try.ntmps60
  go_wp2
  go_ret
  exact ⟨rfl, rfl⟩
set_option maxRecDepth 100000 in
theorem find_any (x : Int) (h : PB w p v xs ad F A) : Calls Try.prog 60 #[.pointer (some ⟨p, 0, none⟩), .int .i64 x] w fun e w' => e = .returned (A.findV ad x) ∧ w = w' := by
  obtain ⟨_, c1, _, _⟩ := h.head
  have hn := h.n
  have xn := h.xn
  obtain ⟨y, cap, rfl, k1, k2, k3⟩ := row_form h.row
  by_cases h0 : x < 0
  · have hf : A.findV ad x = .pointer none := by simp [Se.findV, Se.hasI]; intro; omega
    rw [hf]
    clear h
    go_enter Try.func60, Try.ntmps60
    go_wp2
    go_ret
    exact ⟨rfl, rfl⟩
  · obtain ⟨u, rfl⟩ := Int.eq_ofNat_of_zero_le (by omega : 0 ≤ x)
    by_cases h1 : xs.length ≤ u
    · have hf : A.findV ad u = .pointer none := by
        rw [Se.findV, A.hasI_nat, if_neg]
        simp only [decide_eq_true_eq]
        exact fun hv => by have := h.lt _ hv; omega
      rw [hf]
      have g1 : (xs.length : Int) ≤ (u : Int) := by omega
      clear h hf
      go_enter Try.func60, Try.ntmps60
      go_wp2
      go_ret
      exact ⟨rfl, rfl⟩
    · have g1 : ¬ (xs.length : Int) ≤ (u : Int) := by omega
      have g2 : (0 : Int) ≤ (u : Int) := by omega
      have g3 : (u : Int) < (xs.length : Int) := by omega
      obtain ⟨g, rfl, kl, ko, kc⟩ := k3 (by omega)
      have e1 := (kc u (by omega)).1
      rw [h.cel u (by omega)] at e1
      have hf : A.findV ad u = if u ∈ A.L.flatten then ptr (ad u) else .pointer none := by
        rw [Se.findV, A.hasI_nat]
        simp
      rw [← hf] at e1
      generalize A.findV ad u = V at *
      clear h hf kc k3
      go_enter Try.func60, Try.ntmps60
      go_wp2
      go_ret
      exact ⟨rfl, rfl⟩
end
end Go.Proofs.Ytbkneonbpcmepaa
