/- Rows of bytes in memory. -/
import Derived.Below
import Derived.WalkSmall
import Derived.Deep.RegionHeld3
import Derived.Deep.QuietTactic
import Derived.BigQuiet
import Derived.Laws.IdiomStrings
import Derived.Laws.MakeOwn
import Derived.Laws.Strings3
import Derived.Laws.Cover1
import Derived.Test.YtofindmbkgalbaaC
namespace Go.Proofs.Ytofindmbkgalbaa
open Go.RowKit

theorem hide {p : Prop} (h : p) : Hid p := h
theorem unhide {p : Prop} (h : Hid p) : p := h

structure Row (w : World) (b : Nat) (L : List Nat) : Prop where
  lt : b < w.heap.size
  at_ : ∀ j, j < L.length → w.cell? ⟨b, j, none⟩ = some (.int .u8 (L.getD j 0 : Nat))
  free : ∀ j, j < L.length → w.frozen? ⟨b, j, none⟩ = false
  byte : ∀ x ∈ L, x < 256

theorem Row.drewN {w : World} {b : Nat} {L : List Nat} (h : Row w b L) (n : Nat) : Row (w.drewN n) b L := ⟨h.lt, h.at_, h.free, h.byte⟩
theorem getD_lt {L : List Nat} (h : ∀ x ∈ L, x < 256) (j : Nat) : L.getD j 0 < 256 := by
  rw [List.getD_eq_getElem?_getD]
  cases e : L[j]? with
  | none => exact (by decide : 0 < 256)
  | some x => exact h x (List.mem_of_getElem? e)
theorem getD_set (L : List Nat) (k x j : Nat) (hk : k < L.length) : (L.set k x).getD j 0 = if j = k then x else L.getD j 0 := by
  rw [List.getD_eq_getElem?_getD, List.getD_eq_getElem?_getD, List.getElem?_set]
  by_cases h : k = j
  · subst h
    simp [hk]
  · have h2 : ¬ j = k := fun e => h e.symm
    simp [h, h2]
theorem Row.set {w : World} {b : Nat} {L : List Nat} (h : Row w b L) {k x : Nat} (hk : k < L.length) (hx : x < 256) : Row (w.setCell ⟨b, k, none⟩ (.int .u8 (x : Int))) b (L.set k x) := by
  refine ⟨by simpa [World.setCell] using h.lt, fun j hj => ?_, fun j hj => ?_, fun y hy => ?_⟩
  · rw [List.length_set] at hj
    rw [getD_set _ _ _ _ hk]
    by_cases e : j = k
    · subst e
      rw [if_pos rfl, World.cell?_setCell_same _ _ _ (h.at_ j hj)]
    · rw [if_neg e, World.cell?_setCell_other _ _ _ _ (fun h2 => e (by injection h2 with _ h3 _; exact h3.symm))]
      exact h.at_ j hj
  · rw [List.length_set] at hj
    rw [World.frozen?_setCell]
    exact h.free j hj
  · rcases List.mem_or_eq_of_mem_set hy with hy | rfl
    · exact h.byte y hy
    · exact hx

def str (L : List Nat) : ByteArray := ⟨(L.map UInt8.ofNat).toArray⟩
theorem bs_str {L : List Nat} (h : ∀ x ∈ L, x < 256) : bs (str L) = L := by
  unfold bs str
  simp only [List.map_map]
  conv => rhs; rw [← List.map_id L]
  refine List.map_congr_left fun x hx => ?_
  have := h x hx
  simp [Nat.mod_eq_of_lt this]
theorem str_size (L : List Nat) : (str L).size = L.length := by
  show ((L.map UInt8.ofNat).toArray).size = _
  simp
theorem Row.back {w : World} {b : Nat} {L : List Nat} (h : Row w b L) (cap : Nat) : (convert 27 9 (.slice (some ⟨b, 0, none⟩) L.length cap)).run Try.prog w = .ok (.string (str L)) w := by
  have := run_convert_bytes_back (P := Try.prog) w 27 9 5 ⟨b, 0, none⟩ cap (L.map UInt8.ofNat) Try.underlying27 Try.underlying5 Try.underlying9 (fun j hj => by
    have hj' : j < L.length := by simpa using hj
    have h1 := h.at_ j hj'
    have h2 := getD_lt h.byte j
    have ha : (⟨b, 0, none⟩ : Addr).add j = ⟨b, j, none⟩ := by simp [Addr.add]; intro h; exact h.symm
    rw [ha, h1]
    rw [List.getElem_map]
    rw [List.getD_eq_getElem?_getD, List.getElem?_eq_getElem hj'] at h2 ⊢
    simp only [Option.getD_some] at h2 ⊢
    simp [Nat.mod_eq_of_lt h2])
  rw [List.length_map] at this
  exact this

theorem mix_at (a b : List Nat) (k : Nat) (h1 : k < a.length) (h2 : k < b.length) : (mixL a b).getD k 0 = a.getD k 0 ^^^ b.getD k 0 := by
  induction a generalizing b k with
  | nil => simp at h1
  | cons x a ih =>
    cases b with
    | nil => simp at h2
    | cons y b =>
      cases k with
      | zero => rfl
      | succ k =>
        show (mixL a b).getD k 0 = a.getD k 0 ^^^ b.getD k 0
        exact ih b k (by simpa using h1) (by simpa using h2)

theorem Try.info5 : (Try.prog.info? 5).map (fun i => (i.zero, i.size, i.bytes)) = some (some (.int .u8 0), 1, 1) := by kernel_rfl
theorem make_bytes (n : Nat) (hn : n ≤ 5000) (w : World) :
    (Instr.makeSlice 27 (.int .i64 (n : Int)) (.int .i64 (n : Int))).run Try.prog w = .ok (.slice (some ⟨w.heap.size, 0, none⟩) n n) (w.alloc (.cells (madeCells #[.int .u8 0] n) 5)) := by
  obtain ⟨i, hi, hzz⟩ := Option.map_eq_some_iff.1 Try.info5
  simp only [Prod.mk.injEq] at hzz
  obtain ⟨hz, hs, hb⟩ := hzz
  have hr := run_make (P := Try.prog) w 27 5 i _ Try.underlying27 hi hz .i64 .i64 n n (by omega) (Int.le_refl _) (by rw [hb]; omega) (by omega)
  simp only [Int.toNat_natCast, hs, Nat.mul_one] at hr
  exact hr
theorem made_row (n : Nat) (w : World) : Row (w.alloc (.cells (madeCells #[.int .u8 0] n) 5)) w.heap.size (List.replicate n 0) := by
  refine ⟨(by show w.heap.size < (w.heap.push _).size; simp), fun j hj => ?_, fun j hj => ?_, fun x hx => ?_⟩
  · rw [List.length_replicate] at hj
    rw [World.cell?_alloc_mark, List.getD_eq_getElem?_getD, List.getElem?_replicate]
    simp [madeCells, hj, Nat.mod_one]
  · rw [World.frozen?_alloc_mark]
    simp
  · rw [(List.mem_replicate.1 hx).2]
    decide
theorem laid_row (s : ByteArray) (cap : Nat) (w : World) : Row (w.drew.alloc (.cells (bytesRow s cap) 5 ((bytesRow s cap).size, (bytesRow s cap).size + 1))) w.heap.size (bs s) := by
  have hsz : s.size ≤ (bytesRow s cap).size := by
    unfold bytesRow
    rw [Array.size_append, Array.size_map]
    exact Nat.le_add_right _ _
  refine ⟨(by show w.heap.size < (w.heap.push _).size; simp), fun j hj => ?_, fun j hj => ?_, bs_lt s⟩
  · rw [bs_length] at hj
    rw [← bs_at s j hj]
    refine (World.cell?_alloc_mark w.drew _ _ _ j).trans ?_
    exact bytesRow_at s cap j hj
  · rw [bs_length] at hj
    refine (World.frozen?_alloc_mark w.drew _ _ _ _ j).trans ?_
    simp
    omega
end Go.Proofs.Ytofindmbkgalbaa
