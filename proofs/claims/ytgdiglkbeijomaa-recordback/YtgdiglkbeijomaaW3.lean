/- RecordBack: the walk. -/
import Derived.Test.YtgdiglkbeijomaaC9
import Derived.Laws.StructEq
namespace Go.Proofs.Ytgdiglkbeijomaa
open Go.RowKit
/-- A node in a box. -/
def Box (w : World) (k : Nat) (a b c : Int) : Prop := w.heap[k]? = some (.cells #[.int .i64 a, .int .i64 b, .int .i64 c] 23 (0, 0))
theorem Box.new (w : World) (a b c : Int) : Box (w.alloc (.cells #[.int .i64 a, .int .i64 b, .int .i64 c] 23)) w.heap.size a b c := heap_alloc_new w _
theorem Box.lt {w : World} {k : Nat} {a b c : Int} (h : Box w k a b c) : k < w.heap.size := by
  rcases Nat.lt_or_ge k w.heap.size with h1 | h1
  · exact h1
  · unfold Box at h
    rw [Array.getElem?_eq_none (by omega)] at h
    cases h
theorem Box.call {w w' : World} {k : Nat} {a b c : Int} (h : Box w k a b c) (hb : Below w.heap.size w w') : Box w' k a b c := (hb.block k h.lt).trans h
theorem Box.alloc {w : World} {k : Nat} {a b c : Int} (h : Box w k a b c) (o : Obj) : Box (w.alloc o) k a b c := (Below.heap_alloc w o k h.lt).trans h
theorem Box.cells {w : World} {k : Nat} {a b c : Int} (h : Box w k a b c) : w.cell? ⟨k, 0, none⟩ = some (.int .i64 a) ∧ w.cell? ⟨k, 1, none⟩ = some (.int .i64 b) ∧ w.cell? ⟨k, 2, none⟩ = some (.int .i64 c) := by
  unfold Box at h
  exact ⟨by simp [World.cell?, h], by simp [World.cell?, h], by simp [World.cell?, h]⟩

set_option maxRecDepth 100000 in
set_option maxHeartbeats 8000000 in
theorem back_core (i u x : Int) (s A B F : ByteArray) (n : Nat) (p q r t : Bool) (yI yU yW zI zU zW : Int) (hs : s.size ≤ 9223372036854775807)
    (P1 : ∀ w, Calls Try.prog 7 #[nd i u x] w fun e w' => e = .returned (.tuple #[.string A, .bool p]) ∧ Below w.heap.size w w')
    (P2 : ∀ w, Calls Try.prog 12 #[.string A] w fun e w' => e = .returned (.tuple #[nd yI yU yW, .bool q]) ∧ Below w.heap.size w w')
    (P3 : ∀ w, Calls Try.prog 12 #[.string s] w fun e w' => e = .returned (.tuple #[nd zI zU zW, .bool r]) ∧ Below w.heap.size w w')
    (P4 : ∀ w, Calls Try.prog 7 #[nd zI zU zW] w fun e w' => e = .returned (.tuple #[.string B, .bool t]) ∧ Below w.heap.size w w')
    (P5 : ∀ w, Calls Try.prog 10 #[.int .u32 (n : Int)] w fun e w' => e = .returned (.string F) ∧ Below w.heap.size w w')
    (P6 : ∀ w, Calls Try.prog 14 #[.string (F ++ s)] w fun e w' => e = .returned (.int .u32 (n : Int)) ∧ ∃ q, w' = w.drewN q)
    (hF : F.size = 4) (hk1 : p = true → q = true ∧ yI = i ∧ yU = u ∧ yW = x ∧ A.size = 16) (hk2 : r = true → t = true ∧ B = s) (w : World) :
    Calls Try.prog 5 #[nd i u x, .string s, .int .u32 (n : Int)] w fun e w' => e = .returned (.bool true) ∧ Below w.heap.size w w' := by
  have Q1 := hide P1
  have Q2 := hide P2
  have Q3 := hide P3
  have Q4 := hide P4
  have Q5 := hide P5
  have Q6 := hide P6
  have K1 := hide hk1
  have K2 := hide hk2
  clear P1 P2 P3 P4 P5 P6 hk1 hk2
  by_cases h : s.size ≤ 1000
  · go_enter Try.func5, Try.ntmps5
    go_wp2_with fail
    refine ((unhide Q1) _).mono ?_
    rintro e w2 ⟨rfl, hb⟩
    have X2 := hide ((Box.new w i u x).call hb)
    have B2 : Hid (Below w.heap.size w w2) := hide (((Below.refl _ _).alloc (Nat.le_refl _) _).trans (hb.mono (by simp)))
    clear hb
    go_wp2_with fail
    refine ((unhide Q2) _).mono ?_
    rintro e w3 ⟨rfl, hb⟩
    have X3 := hide ((unhide X2).call hb)
    have B3 : Hid (Below w.heap.size w w3) := hide ((unhide B2).trans (hb.mono (unhide B2).size))
    clear hb X2 B2
    go_wp2_with fail
    refine ((unhide Q3) _).mono ?_
    rintro e w4 ⟨rfl, hb⟩
    have X4 := hide (((unhide X3).alloc _).call hb)
    have Y4 := hide ((Box.new w3 yI yU yW).call hb)
    have B4 : Hid (Below w.heap.size w w4) := hide (((unhide B3).alloc (unhide B3).size _).trans (hb.mono (by have := (unhide B3).size; simp; omega)))
    clear hb X3 B3
    go_wp2_with fail
    refine ((unhide Q4) _).mono ?_
    rintro e w5 ⟨rfl, hb⟩
    have X5 := hide (((unhide X4).alloc _).call hb)
    have Y5 := hide (((unhide Y4).alloc _).call hb)
    have B5 : Hid (Below w.heap.size w w5) := hide (((unhide B4).alloc (unhide B4).size _).trans (hb.mono (by have := (unhide B4).size; simp; omega)))
    clear hb X4 B4 Y4
    go_wp2_with fail
    refine (awake_any _).mono ?_
    rintro e w6 ⟨rfl, hb⟩
    obtain ⟨c0, c1, c2⟩ := ((unhide X5).call hb).cells
    obtain ⟨d0, d1, d2⟩ := ((unhide Y5).call hb).cells
    have B6 : Hid (Below w.heap.size w w6) := hide ((unhide B5).trans (hb.mono (unhide B5).size))
    clear hb X5 B5 Y5
    have hsum : F.size + s.size ≤ 9223372036854775807 := by omega
    cases p
    · cases r
      · go_wp2_with fail
        refine ((unhide Q5) _).mono ?_
        rintro e w7 ⟨rfl, hb⟩
        have B7 : Hid (Below w.heap.size w w7) := hide ((unhide B6).trans (hb.mono (unhide B6).size))
        clear hb
        go_wp2_with fail
        refine ((unhide Q6) _).mono ?_
        rintro e w8 ⟨rfl, q, rfl⟩
        go_wp2_with fail
        refine ((unhide Q5) _).mono ?_
        rintro e w9 ⟨rfl, hb⟩
        have B9 : Hid (Below w.heap.size w w9) := hide ((below_drewN (unhide B7) _).trans (hb.mono (unhide B7).size))
        clear hb
        go_wp2
        go_ret
        exact ⟨rfl, unhide B9⟩
      · obtain ⟨rfl, rfl⟩ := unhide K2 rfl
        go_wp2_with fail
        refine ((unhide Q5) _).mono ?_
        rintro e w7 ⟨rfl, hb⟩
        have B7 : Hid (Below w.heap.size w w7) := hide ((unhide B6).trans (hb.mono (unhide B6).size))
        clear hb
        go_wp2_with fail
        refine ((unhide Q6) _).mono ?_
        rintro e w8 ⟨rfl, q, rfl⟩
        go_wp2_with fail
        refine ((unhide Q5) _).mono ?_
        rintro e w9 ⟨rfl, hb⟩
        have B9 : Hid (Below w.heap.size w w9) := hide ((below_drewN (unhide B7) _).trans (hb.mono (unhide B7).size))
        clear hb
        go_wp2
        go_ret
        exact ⟨rfl, unhide B9⟩
    · obtain ⟨rfl, rfl, rfl, rfl, hA⟩ := unhide K1 rfl
      cases r
      · go_wp2_with fail
        refine ((unhide Q5) _).mono ?_
        rintro e w7 ⟨rfl, hb⟩
        have B7 : Hid (Below w.heap.size w w7) := hide ((unhide B6).trans (hb.mono (unhide B6).size))
        clear hb
        go_wp2_with fail
        refine ((unhide Q6) _).mono ?_
        rintro e w8 ⟨rfl, q, rfl⟩
        go_wp2_with fail
        refine ((unhide Q5) _).mono ?_
        rintro e w9 ⟨rfl, hb⟩
        have B9 : Hid (Below w.heap.size w w9) := hide ((below_drewN (unhide B7) _).trans (hb.mono (unhide B7).size))
        clear hb
        go_wp2
        go_ret
        exact ⟨rfl, unhide B9⟩
      · obtain ⟨rfl, rfl⟩ := unhide K2 rfl
        go_wp2_with fail
        refine ((unhide Q5) _).mono ?_
        rintro e w7 ⟨rfl, hb⟩
        have B7 : Hid (Below w.heap.size w w7) := hide ((unhide B6).trans (hb.mono (unhide B6).size))
        clear hb
        go_wp2_with fail
        refine ((unhide Q6) _).mono ?_
        rintro e w8 ⟨rfl, q, rfl⟩
        go_wp2_with fail
        refine ((unhide Q5) _).mono ?_
        rintro e w9 ⟨rfl, hb⟩
        have B9 : Hid (Below w.heap.size w w9) := hide ((below_drewN (unhide B7) _).trans (hb.mono (unhide B7).size))
        clear hb
        go_wp2
        go_ret
        exact ⟨rfl, unhide B9⟩
  · go_enter Try.func5, Try.ntmps5
    go_wp2_with fail
    refine (awake_any _).mono ?_
    rintro e w2 ⟨rfl, hb⟩
    have B2 : Hid (Below w.heap.size w w2) := hide (((Below.refl _ _).alloc (Nat.le_refl _) _).trans (hb.mono (by simp)))
    clear hb
    go_wp2
    go_ret
    exact ⟨rfl, unhide B2⟩

theorem back_walk (i u x : Int) (s : ByteArray) (n : Nat) (hs : s.size ≤ 9223372036854775807) (hn : n < 4294967296) (w : World) :
    Calls Try.prog 5 #[nd i u x, .string s, .int .u32 (n : Int)] w fun e w' => e = .returned (.bool true) ∧ Below w.heap.size w w' := by
  by_cases hz : s.size ≤ 1000
  · refine back_core i u x s (prS i u x) (prS (nI (bs s)) (nU (bs s)) (nW (bs s))) (st (four n)) n (okN i u x) (isR (bs (prS i u x))) (isR (bs s)) (okN (nI (bs s)) (nU (bs s)) (nW (bs s)))
      (nI (bs (prS i u x))) (nU (bs (prS i u x))) (nW (bs (prS i u x))) (nI (bs s)) (nU (bs s)) (nW (bs s)) hs
      (print_any i u x) (parse_any _) (parse_any s) (print_any _ _ _) (four_any n hn) (fun w => ?_) (st_size _) ?_ ?_ w
    · have := read_any (st (four n) ++ s) (by rw [ByteArray.size_append, st_size, four_length]; omega) w
      rw [bs_append, bs_st _ (four_lt n), rd_four hn] at this
      exact this
    · intro hp
      unfold prS
      rw [hp, if_pos rfl, bs_st _ (recL_lt i u x), st_size]
      obtain ⟨h1, h2, h3, h4⟩ := parse_rec hp
      refine ⟨h1, ?_, ?_, ?_, rfl⟩
      · unfold nI; rw [h1, if_pos rfl, h2]
      · unfold nU; rw [h1, if_pos rfl, h3]
      · unfold nW; rw [h1, if_pos rfl, h4]
    · intro hr
      have ho : okN (pI (bs s)) (pU (bs s)) (pW (bs s)) = true := by
        unfold isR at hr
        rw [Bool.and_eq_true] at hr
        exact hr.2
      have e1 : nI (bs s) = pI (bs s) := by unfold nI; rw [hr, if_pos rfl]
      have e2 : nU (bs s) = pU (bs s) := by unfold nU; rw [hr, if_pos rfl]
      have e3 : nW (bs s) = pW (bs s) := by unfold nW; rw [hr, if_pos rfl]
      rw [e1, e2, e3]
      refine ⟨ho, ?_⟩
      unfold prS
      rw [ho, if_pos rfl, rec_parse (bs_lt s) hr, st_bs]
  · have hd : ¬ s.size ≤ 1000 := hz
    go_enter Try.func5, Try.ntmps5
    go_wp2_with fail
    refine (awake_any _).mono ?_
    rintro e w2 ⟨rfl, hb⟩
    have B2 : Hid (Below w.heap.size w w2) := hide (((Below.refl _ _).alloc (Nat.le_refl _) _).trans (hb.mono (by simp)))
    clear hb
    go_wp2
    go_ret
    exact ⟨rfl, unhide B2⟩
end Go.Proofs.Ytgdiglkbeijomaa
