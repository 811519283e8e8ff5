/- A sequence that is cut and joined the other way round, in plain mathematics; a row of marks of a law's own. -/
import Derived.Test.YtbkneonbpcmepaaL
import Derived.Test.YtbkneonbpcmepaaA2
import Derived.Test.YtbkneonbpcmepaaC
namespace Go.Proofs.Ytbkneonbpcmepaa
open Go.RowKit Go.Arb
set_option linter.unusedVariables false
set_option linter.unusedSimpArgs false

section
variable {k v : Nat} {l : List Nat} {g : Nat → Int}
theorem lone_nd (nd : l.Nodup) : ([l] : List (List Nat)).flatten.Nodup := by simpa using nd
theorem perm_nd (hp : l.Perm (rg 0 k)) : l.Nodup := hp.symm.nodup rg_nd
theorem perm_mem (hp : l.Perm (rg 0 k)) : v ∈ l ↔ v < k := by rw [hp.mem_iff, rg_mem]; omega
theorem perm_len (hp : l.Perm (rg 0 k)) : l.length = k := by rw [hp.length_eq, rg_len]
theorem many_cut (hp : l.Perm (rg 0 k)) (hv : v < k) (hr : 0 < l.idxOf v) :
    (st k [l] g).beforeB (v : Int) = true ∧ (st k [l] g).beforeA (v : Int) = st k [l.take (l.idxOf v), l.drop (l.idxOf v)] g ∧
    (st k [l.take (l.idxOf v), l.drop (l.idxOf v)] g).joinB (v : Int) ((l.getD 0 0 : Nat) : Int) = true ∧
    (st k [l.take (l.idxOf v), l.drop (l.idxOf v)] g).joinA (v : Int) ((l.getD 0 0 : Nat) : Int) = st k [l.drop (l.idxOf v) ++ l.take (l.idxOf v)] g ∧
    (l.drop (l.idxOf v) ++ l.take (l.idxOf v)).Perm (rg 0 k) := by
  have nd := perm_nd hp
  have hm : v ∈ l := (perm_mem hp).2 hv
  have hi : l.idxOf v < l.length := List.idxOf_lt_length_of_mem hm
  obtain ⟨h1, h2⟩ := st_before (n := k) (W := g) (lone_nd nd) (l := l) (by simp) hm hr
  have e1 : ([l] : List (List Nat)).erase l = [] := by simp
  rw [e1] at h2
  have nd2 : ([l.take (l.idxOf v), l.drop (l.idxOf v)] : List (List Nat)).flatten.Nodup := by simpa using nd
  have hmd : v ∈ l.drop (l.idxOf v) := by
    have := get_idx hm
    rw [← this]
    rw [List.getD_eq_getElem?_getD, List.getElem?_eq_getElem hi]
    refine List.mem_iff_getElem?.2 ⟨0, ?_⟩
    rw [List.getElem?_drop]
    simp only [Option.getD_some]
    rw [List.getElem?_eq_getElem (by simp [List.getElem_idxOf hi]; exact hi)]
    simp [List.getElem_idxOf hi]
  have hmt : l.getD 0 0 ∈ l.take (l.idxOf v) := by
    rw [List.getD_eq_getElem?_getD, List.getElem?_eq_getElem (by omega)]
    refine List.mem_iff_getElem?.2 ⟨0, ?_⟩
    rw [List.getElem?_take, if_pos hr, List.getElem?_eq_getElem (by omega)]; rfl
  have hnot : l.getD 0 0 ∉ l.drop (l.idxOf v) := fun h => by
    have := List.take_append_drop (l.idxOf v) l
    rw [← this, List.nodup_append] at nd
    exact nd.2.2 _ hmt _ h rfl
  have hp2 : ([l.take (l.idxOf v), l.drop (l.idxOf v)] : List (List Nat)).Perm (l.drop (l.idxOf v) :: l.take (l.idxOf v) :: []) := List.Perm.swap _ _ _
  obtain ⟨h3, L2, h4, h5⟩ := pm_join (n := k) (W := g) nd2 hp2 (u := v) (v := l.getD 0 0) hmd hmt hnot
  have e2 := List.perm_singleton.1 h5
  rw [e2] at h4
  refine ⟨h1, h2.trans rfl, h3, h4, ?_⟩
  refine List.perm_append_comm.trans ?_
  rw [List.take_append_drop]
  exact hp
theorem many_no (hp : l.Perm (rg 0 k)) (hv : v < k) (hr : l.idxOf v = 0) : (st k [l] g).beforeB (v : Int) = false ∧ (st k [l] g).beforeA (v : Int) = st k [l] g :=
  st_before_no (lone_nd (perm_nd hp)) (l := l) (by simp) ((perm_mem hp).2 hv) hr
theorem many_at (hp : l.Perm (rg 0 k)) (hv : v < k) {j : Nat} (hj : j < k) : (st k [l] g).atI (v : Int) (j : Int) = ((l.getD j 0 : Nat) : Int) :=
  st_at (lone_nd (perm_nd hp)) (l := l) (by simp) ((perm_mem hp).2 hv) (by rw [perm_len hp]; exact hj)
theorem many_end (hp : l.Perm (rg 0 k)) (hv : v < k) : (st k [l] g).atI (v : Int) (k : Int) = -1 := by
  have := st_at_no (n := k) (W := g) (lone_nd (perm_nd hp)) (l := l) (by simp) ((perm_mem hp).2 hv)
  rwa [perm_len hp] at this
theorem many_len (hp : l.Perm (rg 0 k)) (hv : v < k) : (st k [l] g).lenI (v : Int) = (k : Int) := by
  rw [st_len (lone_nd (perm_nd hp)) (l := l) (by simp) ((perm_mem hp).2 hv), perm_len hp]
theorem many_rank (hp : l.Perm (rg 0 k)) {j : Nat} (hj : j < k) : (st k [l] g).rankI ((l.getD j 0 : Nat) : Int) = (j : Int) := by
  rw [st_rank (lone_nd (perm_nd hp)) (l := l) (by simp) (get_mem (by rw [perm_len hp]; exact hj)), idx_get (perm_nd hp) (by rw [perm_len hp]; exact hj)]
theorem many_lt (hp : l.Perm (rg 0 k)) {j : Nat} (hj : j < k) : l.getD j 0 < k := (perm_mem hp).1 (get_mem (by rw [perm_len hp]; exact hj))
theorem many_idx (hp : l.Perm (rg 0 k)) {j : Nat} (hj : j < k) : l.idxOf (l.getD j 0) = j := idx_get (perm_nd hp) (by rw [perm_len hp]; exact hj)
end

/-- A row of marks. -/
def Seen (W : World) (b k : Nat) (f : Nat → Bool) : Prop := ∀ i, i < k → W.cell? ⟨b, i, none⟩ = some (.bool (f i)) ∧ W.frozen? ⟨b, i, none⟩ = false
theorem Seen.kept {W W' : World} {b k : Nat} {f : Nat → Bool} {js : List Nat} (h : Seen W b k f) (hk : Kept js W W') (hb : b ∈ js) : Seen W' b k f := fun i hi => by
  have e := hk b hb
  rw [World.cell?_of_block (w := W) (a := ⟨b, i, none⟩) e, World.frozen?_of_block (w := W) (a := ⟨b, i, none⟩) e]
  exact h i hi
theorem Seen.put {W : World} {b k x : Nat} {f f' : Nat → Bool} (h : Seen W b k f) (hx : x < k) (h1 : f' x = true) (h2 : ∀ i, i < k → i ≠ x → f' i = f i) : Seen (W.setCell ⟨b, x, none⟩ (.bool true)) b k f' := fun i hi => by
  rw [World.frozen?_setCell]
  refine ⟨?_, (h i hi).2⟩
  by_cases e : i = x
  · subst e
    rw [World.cell?_setCell_same _ _ _ (h i hi).1, h1]
  · rw [World.cell?_setCell_other _ _ _ _ (fun e' => e (by injection e' with e1 e2; exact e2.symm)), h2 i hi e]
    exact (h i hi).1
theorem Try.info4 : (Try.prog.info? 4).map (fun i => (i.zero, i.size, i.bytes)) = some (some (.bool false), 1, 1) := by kernel_rfl
theorem make_bools (k : Nat) (hk : k ≤ 4194304) (w : World) :
    (Instr.makeSlice 51 (.int .i64 (k : Int)) (.int .i64 (k : Int))).run Try.prog w = .ok (.slice (some ⟨w.heap.size, 0, none⟩) k k) (w.alloc (.cells (madeCells #[.bool false] k) 4)) := by
  obtain ⟨i, hi, hzz⟩ := Option.map_eq_some_iff.1 Try.info4
  simp only [Prod.mk.injEq] at hzz
  obtain ⟨hz, hs, hb⟩ := hzz
  have hr := run_make (P := Try.prog) w 51 4 i _ Try.underlying51 hi hz .i64 .i64 k k (by omega) (Int.le_refl _) (by rw [hb]; omega) (by omega)
  simp only [Int.toNat_natCast, hs, Nat.mul_one] at hr
  exact hr
theorem Seen.new (W : World) (k : Nat) : Seen (W.alloc (.cells (madeCells #[.bool false] k) 4)) W.heap.size k (fun _ => false) := fun i hi => by
  have e := heap_alloc_new W (.cells (madeCells #[.bool false] k) 4)
  simp only [World.cell?, World.frozen?, e]
  simp [madeCells, hi, Nat.mod_one]
end Go.Proofs.Ytbkneonbpcmepaa
