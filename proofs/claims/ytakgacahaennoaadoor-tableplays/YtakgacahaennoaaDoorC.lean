/- The program's table in memory: a block with its three fields, and the row of its cells. -/
import Derived.Test.YtakgacahaennoaaDoorRows
import Derived.WalkKit
import Derived.WalkSpells
import Derived.RowKit3
import Derived.Deep.RegionHeld3
import Derived.Deep.RegionWith
import Derived.BigQuiet
import Derived.WalkSmall
import Derived.Deep.QuietTactic
import Derived.Deep.LoopGhost
import Derived.Test.YtakgacahaennoaaDoorF
import Derived.Test.YtakgacahaennoaaDoorM2
import Derived.Test.YtakgacahaennoaaDoorShelf
namespace Go.Proofs.YtakgacahaennoaaDoor
open Go.RowKit Go.Arb

theorem hide {p : Prop} (h : p) : Hid p := h
theorem unhide {p : Prop} (h : Hid p) : p := h

/-- The library's table of places lies as it was laid. -/
def Tab (w : World) : Prop := TabAt 1 Lib.deBruijn64tab w ∧ 1 < w.heap.size
theorem Tab.keep {w w' : World} {ks : List Nat} (h : Tab w) (hk : Keep ks w w') (hn : 1 ∉ ks) : Tab w' :=
  ⟨fun j hj => by rw [hk.cell (p := ⟨1, j, none⟩) h.2 hn]; exact h.1 j hj, Nat.lt_of_lt_of_le h.2 hk.size⟩
theorem Tab.below {w w' : World} {B : Nat} (h : Tab w) (hb : Below B w w') (hB : 1 < B) : Tab w' :=
  ⟨fun j hj => by rw [World.cell?_of_block (w := w) (a := ⟨1, j, none⟩) (hb.block 1 hB)]; exact h.1 j hj, Nat.lt_of_lt_of_le h.2 hb.size⟩
theorem Tab.belowS {w w' : World} (h : Tab w) (hb : Below w.heap.size w w') : Tab w' := h.below hb h.2

theorem ctz_pow : ∀ s, s ≤ 22 → Lib.ctz 64 (2 ^ s) = s := by decide
theorem tz_any (N s : Nat) (hs : s ≤ 22) (hN : N = 2 ^ s) (w : World) (hT : Tab w) :
    Calls Tryd.prog 31 #[.int .u64 (N : Int)] w fun e w' => e = .returned (.int .i64 (s : Int)) ∧ w = w' := by
  have hlt : N < 18446744073709551616 := by
    have h1 : 2 ^ s ≤ 2 ^ 22 := Nat.pow_le_pow_right (by omega) hs
    rw [hN]; omega
  have h := Any7.bits_TrailingZeros Tryd.lays7n27 N hlt w (fun _ => hT.1)
  rw [hN, ctz_pow s hs, ← hN] at h
  refine Calls.mono h ?_
  rintro e w' ⟨h1, h2⟩
  exact ⟨h1, h2.symm⟩

def cC (c : Cell) : List Value := [.int .i64 c.1, .int .i64 c.2]
theorem cC_len (c : Cell) : (cC c).length = 2 := rfl

structure Tc where
  cells : List Cell
  ids : Int
  used : Int

structure TcIn (w : World) (p : Nat) (v : Value) (C : Tc) : Prop where
  blk : w.heap[p]? = some (.cells #[v, .int .i64 C.ids, .int .i64 C.used] 48 (0, 0))
  row : w.ownsRow 0 54 2 v C.cells.length (flat cC C.cells)
  ne : p ∉ own v
  tab : Tab w
  one : 1 ∉ p :: own v

def fp (p : Nat) (v : Value) : List Nat := p :: own v
theorem blk_lt {w : World} {p : Nat} {o : Obj} (h : w.heap[p]? = some o) : p < w.heap.size := (Array.getElem?_eq_some_iff.1 h).1
theorem TcIn.lt {w : World} {p : Nat} {v : Value} {C : Tc} (h : TcIn w p v C) : ∀ k ∈ fp p v, k < w.heap.size := fun k hk => by
  rcases List.mem_cons.1 hk with rfl | hk
  · exact blk_lt h.blk
  · exact row_lt h.row k hk
theorem TcIn.keep {w w' : World} {p : Nat} {v : Value} {C : Tc} {ks : List Nat} (h : TcIn w p v C) (hk : Keep ks w w') (ho : Off (fp p v) ks) (h1 : 1 ∉ ks) : TcIn w' p v C :=
  ⟨by rw [hk.block p (blk_lt h.blk) (ho p (by simp [fp]))]; exact h.blk, row_keep h.row hk (fun k h1 => ho k (by simp [fp, h1])), h.ne, h.tab.keep hk h1, h.one⟩
theorem TcIn.cells3 {w : World} {p : Nat} {v : Value} {C : Tc} (h : TcIn w p v C) :
    w.cell? ⟨p, 0, none⟩ = some v ∧ w.cell? ⟨p, 1, none⟩ = some (.int .i64 C.ids) ∧ w.cell? ⟨p, 2, none⟩ = some (.int .i64 C.used) ∧
    w.frozen? ⟨p, 0, none⟩ = false ∧ w.frozen? ⟨p, 1, none⟩ = false ∧ w.frozen? ⟨p, 2, none⟩ = false := by
  simp [World.cell?, World.frozen?, h.blk]
theorem TcIn.at {w : World} {p : Nat} {v : Value} {C : Tc} (h : TcIn w p v C) (i : Nat) (hi : i < C.cells.length) :
    ∃ g cap, v = .slice (some ⟨g, 0, none⟩) C.cells.length cap ∧ C.cells.length ≤ cap ∧ cap ≤ maxLen ∧ g < w.heap.size ∧ g ≠ p ∧
      w.cell? ⟨g, i * 2, none⟩ = some (.int .i64 C.cells[i].1) ∧ w.cell? ⟨g, i * 2 + 1, none⟩ = some (.int .i64 C.cells[i].2) ∧
      w.frozen? ⟨g, i * 2, none⟩ = false ∧ w.frozen? ⟨g, i * 2 + 1, none⟩ = false := by
  obtain ⟨x, cap, hv, h1, h2, h3⟩ := row_form h.row
  obtain ⟨g, rfl, hg, how, hc⟩ := h3 (by omega)
  have hf := fun j hj => flat_get cC_len C.cells i j hj
  have hi' : C.cells[i]? = some C.cells[i] := List.getElem?_eq_getElem hi
  refine ⟨g, cap, hv, h1, h2, hg, ?_, ?_, ?_, (hc _ (by omega)).2, (hc _ (by omega)).2⟩
  · have := h.ne; rw [how] at this; simpa [eq_comm] using this
  · rw [(hc _ (by omega)).1]; have := hf 0 (by omega); rw [hi'] at this; simpa [cC] using this
  · rw [(hc _ (by omega)).1]; have := hf 1 (by omega); rw [hi'] at this; simpa [cC] using this
theorem TcIn.len {w : World} {p : Nat} {v : Value} {C : Tc} (h : TcIn w p v C) : ∃ x cap, v = .slice x C.cells.length cap ∧ C.cells.length ≤ cap ∧ cap ≤ maxLen := by
  obtain ⟨x, cap, hv, h1, h2, _⟩ := row_form h.row
  exact ⟨x, cap, hv, h1, h2⟩

set_option maxHeartbeats 400000 in
theorem isId_any (id : Int) (w : World) : Calls Tryd.prog 21 #[.int .i64 id] w fun e w' => e = .returned (.bool (decide (0 ≤ id) && decide (id ≤ 2147483647))) ∧ w = w' := by
  go_enter Tryd.func21, Tryd.ntmps21
  by_cases h : 0 ≤ id
  · go_wp2
    go_ret
    exact ⟨by simp [h], rfl⟩
  · have h' : decide (0 ≤ id) = false := by simpa using h
    go_wp2
    go_ret
    exact ⟨by simp, rfl⟩

set_option maxHeartbeats 400000 in
theorem len_any (w : World) (p : Nat) (v : Value) (C : Tc) (h : TcIn w p v C) :
    Calls Tryd.prog 15 #[.pointer (some ⟨p, 0, none⟩)] w fun e w' => e = .returned (.int .i64 C.ids) ∧ w = w' := by
  obtain ⟨c0, c1, c2, _⟩ := h.cells3
  go_enter Tryd.func15, Tryd.ntmps15
  go_wp2
  go_ret
  exact ⟨rfl, rfl⟩
set_option maxHeartbeats 400000 in
theorem len_nil (w : World) : Calls Tryd.prog 15 #[.pointer none] w fun e w' => e = .returned (.int .i64 0) ∧ w = w' := by
  go_enter Tryd.func15, Tryd.ntmps15
  go_wp2
  go_ret
  exact ⟨rfl, rfl⟩

set_option maxHeartbeats 400000 in
theorem new_any (w : World) (hT : Tab w) :
    Calls Tryd.prog 7 #[] w fun e w' => e = .returned (.pointer (some ⟨w.heap.size, 0, none⟩)) ∧ TcIn w' w.heap.size (.slice none 0 0) ⟨[], 0, 0⟩ ∧ Below w.heap.size w w' ∧ w'.heap.size = w.heap.size + 1 := by
  go_enter Tryd.func7, Tryd.ntmps7
  go_wp2
  go_ret
  have hb : Below w.heap.size w (w.alloc (.cells #[.slice none 0 0, .int .i64 0, .int .i64 0] 48)) := (Below.refl _ _).alloc (Nat.le_refl _) _
  refine ⟨rfl, ⟨heap_alloc_new w _, World.ownsRow_nil _ _ _ _, by simp [own, Value.ownBlock], hT.belowS hb, ?_⟩, hb, by simp⟩
  have := hT.2
  simp [own, Value.ownBlock]; omega

theorem and_mask (s a : Nat) (hs : s ≤ 22) (ha : a < 2 ^ 22 + 1) : bits .and .i64 ((a : Int)) ((2 ^ s : Nat) - 1 : Int) = ((a % 2 ^ s : Nat) : Int) := by
  have hp : 0 < 2 ^ s := Nat.pow_pos (by omega)
  have hle : 2 ^ s ≤ 2 ^ 22 := Nat.pow_le_pow_right (by omega) hs
  have e1 : ((2 ^ s : Nat) - 1 : Int) = ((2 ^ s - 1 : Nat) : Int) := by omega
  rw [e1]
  have h1 : (BitVec.ofInt 64 (a : Int)).toNat = a := by
    rw [BitVec.ofInt_natCast, BitVec.toNat_ofNat]; exact Nat.mod_eq_of_lt (by omega)
  have h2 : (BitVec.ofInt 64 ((2 ^ s - 1 : Nat) : Int)).toNat = 2 ^ s - 1 := by
    rw [BitVec.ofInt_natCast, BitVec.toNat_ofNat]; exact Nat.mod_eq_of_lt (by omega)
  show IntKind.i64.wrap ((BitVec.ofInt 64 (a : Int) &&& BitVec.ofInt 64 ((2 ^ s - 1 : Nat) : Int)).toNat : Int) = _
  rw [BitVec.toNat_and, h1, h2, Nat.and_two_pow_sub_one_eq_mod]
  have := Nat.mod_le a (2 ^ s)
  exact IntWalk.i64_in _ (by omega)

set_option maxHeartbeats 400000 in
theorem next_any (w : World) (p : Nat) (x : Option Addr) (N cap s a : Nat) (hc : w.cell? ⟨p, 0, none⟩ = some (.slice x N cap)) (hs : s ≤ 22) (hN : N = 2 ^ s) (ha : a < N) :
    Calls Tryd.prog 28 #[.pointer (some ⟨p, 0, none⟩), .int .i64 (a : Int)] w fun e w' => e = .returned (.int .i64 (((a + 1) % N : Nat) : Int)) ∧ w = w' := by
  have hle : 2 ^ s ≤ 2 ^ 22 := Nat.pow_le_pow_right (by omega) hs
  have hm := and_mask s (a + 1) hs (by omega)
  rw [← hN] at hm
  have hm' : bits .and .i64 ((a : Int) + 1) ((N : Int) - 1) = (((a + 1) % N : Nat) : Int) := by rw [← hm]; rfl
  generalize (((a + 1) % N : Nat) : Int) = r at *
  have hb1 : (a : Int) + 1 ≤ 4194304 := by omega
  have hb2 : (N : Int) ≤ 4194304 := by omega
  have hb3 : (1 : Int) ≤ N := by omega
  clear hm hN hle
  go_enter Tryd.func28, Tryd.ntmps28
  go_wp2_with (simp only [hm'])
  go_ret
  exact ⟨rfl, rfl⟩

theorem shr_home (id s : Nat) (hs : s ≤ 22) : ((id * 11400714819323198485 % 18446744073709551616 : Nat) : Int) / 2 ^ ((64 : Int) - (s : Int)).toNat = (homeN (2 ^ s) id : Int) := by
  rw [homeN_pow hs, show ((64 : Int) - (s : Int)).toNat = 64 - s from by omega]
  simp
end Go.Proofs.YtakgacahaennoaaDoor
