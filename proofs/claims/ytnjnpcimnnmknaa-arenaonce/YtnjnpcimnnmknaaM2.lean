/- Slots that all went, of which some came back and went again. -/
import Derived.Test.YtnjnpcimnnmknaaM
namespace Go.Proofs.Ytnjnpcimnnmknaa

/-- j slots went, each once. -/
def allA (k j : Nat) : Ab := ⟨List.replicate j (1, true), [], k, j⟩
def allH (j : Nat) : List (Int × Int) := (List.range j).map fun (i : Nat) => ((i : Int), (1 : Int))
theorem allA_take (k j : Nat) (h : j < k) : takeR (allA k j) = ((j : Int), 1, true) ∧ takeA (allA k j) = allA k (j + 1) := by
  have hne : ¬ j = k := by omega
  simp [takeR, takeA, allA, hne, List.replicate_succ']
theorem allA_full (k : Nat) : takeR (allA k k) = (0, 0, false) ∧ takeA (allA k k) = allA k k := by simp [takeR, takeA, allA]
theorem allH_len (j : Nat) : (allH j).length = j := by simp [allH]
theorem allH_succ (j : Nat) : allH (j + 1) = allH j ++ [((j : Int), 1)] := by simp [allH, List.range_succ]
theorem allH_get (k j : Nat) (h : j < (allH k).length) : (allH k)[j] = ((j : Int), 1) := by simp [allH]

/-- All went; those of 'wl' are back, but for the ones from place i on, which went again. -/
def outA (k : Nat) (wl : List Nat) (i : Nat) : Ab :=
  ⟨(List.range k).map fun x => if x ∈ wl.drop i then ((2 : Int), true) else (1, !(wl.take i).contains x), (wl.take i).reverse, k, k + (wl.length - i)⟩

theorem outA_nil (k : Nat) : allA k k = outA k [] 0 := by
  simp only [allA, outA, List.drop_nil, List.not_mem_nil, if_false, List.take_nil, List.reverse_nil, List.length_nil, Ab.mk.injEq, true_and]
  refine ⟨?_, by omega⟩
  apply List.ext_getElem?
  intro x
  by_cases hx : x < k <;> simp [hx]

theorem outA_get (k : Nat) (wl : List Nat) (x : Nat) (hx : x < k) : (outA k wl wl.length).sl[x]? = some (1, !wl.contains x) := by
  simp [outA, hx]

theorem set_range {α : Type} (k : Nat) (f g : Nat → α) (x : Nat) (a : α) (hx : x < k) (h : ∀ y, y < k → g y = if y = x then a else f y) : ((List.range k).map f).set x a = (List.range k).map g := by
  apply List.ext_getElem?
  intro y
  rw [List.getElem?_set]
  by_cases hy : y < k
  · have := h y hy
    by_cases hxy : x = y
    · subst hxy; simp [hy, this]
    · simp [hxy, hy, this, Ne.symm hxy]
  · have hxy : ¬ x = y := by omega
    simp [hxy, hy]

theorem outA_give (k : Nat) (wl : List Nat) (x : Nat) (hx : x < k) (hn : x ∉ wl) : giveA (outA k wl wl.length) x = outA k (wl ++ [x]) (wl ++ [x]).length := by
  have hg : genA (outA k wl wl.length) x = 1 := genA_of (outA_get k wl x hx)
  unfold giveA
  rw [hg]
  simp only [outA, List.drop_length, List.not_mem_nil, if_false, List.take_length, List.reverse_append, List.reverse_cons, List.reverse_nil, List.nil_append, List.singleton_append, Nat.sub_self, Ab.mk.injEq, and_true]
  refine set_range k _ _ x _ hx (fun y _ => ?_)
  by_cases hy : y = x
  · subst hy; simp
  · simp [hy]

theorem take_at (wl : List Nat) (i : Nat) (h : i < wl.length) : (wl.take (i + 1)).reverse = wl[i] :: (wl.take i).reverse := by
  rw [List.take_succ_eq_append_getElem h]; simp

theorem nodup_at (wl : List Nat) (hnd : wl.Nodup) (i : Nat) (h : i < wl.length) : wl[i] ∉ wl.drop (i + 1) ∧ wl[i] ∉ wl.take i ∧ wl[i] ∈ wl.take (i + 1) ∧ wl[i] ∈ wl.drop i := by
  have e : wl = wl.take i ++ (wl[i] :: wl.drop (i + 1)) := by rw [← List.drop_eq_getElem_cons h, List.take_append_drop]
  have h2 := hnd
  rw [e, List.nodup_append] at h2
  obtain ⟨_, h3, h4⟩ := h2
  rw [List.nodup_cons] at h3
  refine ⟨h3.1, fun hm => h4 _ hm _ List.mem_cons_self rfl, ?_, ?_⟩
  · rw [List.take_succ_eq_append_getElem h]; exact List.mem_append_right _ (List.mem_singleton.2 rfl)
  · rw [List.drop_eq_getElem_cons h]; exact List.mem_cons_self

theorem outA_take (k : Nat) (wl : List Nat) (hnd : wl.Nodup) (hk : ∀ x ∈ wl, x < k) (i : Nat) (h : i < wl.length) :
    takeR (outA k wl (i + 1)) = ((wl[i] : Int), 2, true) ∧ takeA (outA k wl (i + 1)) = outA k wl i := by
  obtain ⟨n1, n2, n3, n4⟩ := nodup_at wl hnd i h
  have hx : wl[i] < k := hk _ (List.getElem_mem h)
  have hfl : (outA k wl (i + 1)).fl = wl[i] :: (wl.take i).reverse := take_at wl i h
  have hsl : (outA k wl (i + 1)).sl[wl[i]]? = some (1, false) := by
    simp only [outA, List.getElem?_map, List.getElem?_range hx, Option.map_some]
    rw [if_neg n1]
    simp [n3]
  have hg := genA_of hsl
  refine ⟨?_, ?_⟩
  · unfold takeR; rw [hfl]; simp only [hg]; rfl
  · unfold takeA; rw [hfl]; simp only [hg]
    have e1 : (1 : Int) + 1 = 2 := rfl
    rw [e1]
    simp only [outA, Ab.mk.injEq, true_and]
    refine ⟨?_, by omega⟩
    refine set_range k _ _ wl[i] _ hx (fun y _ => ?_)
    by_cases hy : y = wl[i]
    · subst hy; simp only [n4, if_true]
    · have d1 : y ∈ wl.drop i ↔ y ∈ wl.drop (i + 1) := by rw [List.drop_eq_getElem_cons h, List.mem_cons]; exact ⟨fun h => h.resolve_left hy, .inr⟩
      have d2 : (wl.take (i + 1)).contains y = (wl.take i).contains y := by
        rw [Bool.eq_iff_iff, List.contains_iff_mem, List.contains_iff_mem, List.take_succ_eq_append_getElem h, List.mem_append, List.mem_singleton]
        exact ⟨fun h => h.resolve_right hy, .inl⟩
      simp only [hy, if_false, d1, d2]

theorem outA_len (k : Nat) (wl : List Nat) : lenA (outA k wl 0) = k := by simp [lenA, outA]
open Go.RowKit in
/-- An index out of any number, by the remainder of what it is without a sign. -/
theorem u64_index (x : Int) (n : Nat) (h0 : 0 < n) (h1 : n ≤ 1000) : ∃ z : Nat, z < n ∧ wrap64 ((IntKind.u64.wrap x).tmod n) = (z : Int) := by
  have hy : 0 ≤ IntKind.u64.wrap x := wrap_u64_nonneg x
  generalize IntKind.u64.wrap x = y at *
  rw [Int.tmod_eq_emod_of_nonneg hy]
  have h2 := Int.emod_nonneg y (show (n : Int) ≠ 0 by omega)
  have h3 := Int.emod_lt_of_pos y (show (0 : Int) < n by omega)
  obtain ⟨z, hz⟩ := Int.eq_ofNat_of_zero_le h2
  rw [hz] at h3 ⊢
  refine ⟨z, by omega, ?_⟩
  unfold wrap64
  omega
end Go.Proofs.Ytnjnpcimnnmknaa
