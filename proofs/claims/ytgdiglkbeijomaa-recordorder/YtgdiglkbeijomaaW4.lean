/- RecordOrder: the walk. -/
import Derived.Test.YtgdiglkbeijomaaC9
import Derived.Test.YtgdiglkbeijomaaM2
namespace Go.Proofs.Ytgdiglkbeijomaa
open Go.RowKit
/-- Two nodes in boxes of their own. -/
abbrev two (w : World) (a b c d e f : Value) : World := (w.alloc (.cells #[a, b, c] 23)).alloc (.cells #[d, e, f] 23)
theorem two_cells (w w2 : World) (a b c d e f : Value) (h : Below (w.heap.size + 2) (two w a b c d e f) w2) :
    w2.cell? ⟨w.heap.size, 0, none⟩ = some a ∧ w2.cell? ⟨w.heap.size, 1, none⟩ = some b ∧ w2.cell? ⟨w.heap.size, 2, none⟩ = some c ∧
    w2.cell? ⟨w.heap.size + 1, 0, none⟩ = some d ∧ w2.cell? ⟨w.heap.size + 1, 1, none⟩ = some e ∧ w2.cell? ⟨w.heap.size + 1, 2, none⟩ = some f := by
  refine ⟨?_, ?_, ?_, ?_, ?_, ?_⟩
  · rw [h.cell (by simp), World.cell?_alloc_past _ _ _ (by simp), World.cell?_alloc_at _ _ _ _ rfl]; rfl
  · rw [h.cell (by simp), World.cell?_alloc_past _ _ _ (by simp), World.cell?_alloc_at _ _ _ _ rfl]; rfl
  · rw [h.cell (by simp), World.cell?_alloc_past _ _ _ (by simp), World.cell?_alloc_at _ _ _ _ rfl]; rfl
  · rw [h.cell (by simp), World.cell?_alloc_at _ _ _ _ (by simp)]; rfl
  · rw [h.cell (by simp), World.cell?_alloc_at _ _ _ _ (by simp)]; rfl
  · rw [h.cell (by simp), World.cell?_alloc_at _ _ _ _ (by simp)]; rfl

set_option maxRecDepth 100000 in
set_option maxHeartbeats 4000000 in
theorem order_core (i u x j v y : Int) (A B : ByteArray) (p q : Bool) (hp : okN i u x = p) (hq : okN j v y = q) (hA : prS i u x = A) (hB : prS j v y = B)
    (hk : p = true → q = true → ¬ i = j → Op.bytesLess A.toList B.toList = decide (i < j)) (w : World) :
    Calls Try.prog 6 #[nd i u x, nd j v y] w fun e w' => e = .returned (.bool true) ∧ Below w.heap.size w w' := by
  have P1 := hide (print_any i u x)
  have P2 := hide (print_any j v y)
  rw [hp, hA] at P1
  rw [hq, hB] at P2
  have HK := hide hk
  clear hp hq hA hB hk
  go_enter Try.func6, Try.ntmps6
  go_wp2_with fail
  refine ((unhide P1) _).mono ?_
  rintro e w2 ⟨rfl, hb⟩
  have B2 : Hid (Below (w.heap.size + 2) _ w2) := hide (hb.mono (by simp))
  obtain ⟨c0, c1, c2, c3, c4, c5⟩ := two_cells w w2 _ _ _ _ _ _ (unhide B2)
  clear hb
  go_wp2_with fail
  refine ((unhide P2) _).mono ?_
  rintro e w3 ⟨rfl, hb⟩
  have B3 : Hid (Below (w.heap.size + 2) _ w3) := hide ((unhide B2).trans (hb.mono (by have := (unhide B2).size; simp at this; omega)))
  clear hb c0 c1 c2 c3 c4 c5 B2
  go_wp2_with fail
  refine (awake_any _).mono ?_
  rintro e w4 ⟨rfl, hb⟩
  have B4 : Hid (Below (w.heap.size + 2) _ w4) := hide ((unhide B3).trans (hb.mono (by have := (unhide B3).size; simp at this; omega)))
  obtain ⟨c0, c1, c2, c3, c4, c5⟩ := two_cells w w4 _ _ _ _ _ _ (unhide B4)
  have BB : Hid (Below w.heap.size w w4) := hide ((((Below.refl _ _).alloc (Nat.le_refl _) _).alloc (by simp) _).trans ((unhide B4).mono (by omega)))
  clear hb B3 B4
  cases p
  · go_wp2
    go_ret
    exact ⟨rfl, unhide BB⟩
  · cases q
    · go_wp2
      go_ret
      exact ⟨rfl, unhide BB⟩
    · by_cases hij : i = j
      · subst hij
        go_wp2
        go_ret
        exact ⟨rfl, unhide BB⟩
      · have hl := unhide HK rfl rfl hij
        have hij' : (i == j) = false := by simpa using hij
        go_wp2
        go_ret
        exact ⟨rfl, unhide BB⟩

theorem order_walk (i u x j v y : Int) (w : World) : Calls Try.prog 6 #[nd i u x, nd j v y] w fun e w' => e = .returned (.bool true) ∧ Below w.heap.size w w' :=
  order_core i u x j v y _ _ _ _ rfl rfl rfl rfl (fun hp hq hij => by
    unfold prS
    rw [hp, hq]
    exact bl_rec hp hq hij) w
end Go.Proofs.Ytgdiglkbeijomaa
