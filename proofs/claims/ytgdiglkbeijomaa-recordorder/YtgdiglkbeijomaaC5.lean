/- Print, the program's. -/
import Derived.Test.YtgdiglkbeijomaaC3
import Derived.Test.YtgdiglkbeijomaaC4
import Derived.Laws.MakeOwn
namespace Go.Proofs.Ytgdiglkbeijomaa
open Go.RowKit
/-- Nothing, where a node has no record. -/
def prS (i u x : Int) : ByteArray := if okN i u x then st (recL i u x) else ⟨#[]⟩
theorem cells3 (W w2 : World) (a b c : Value) (h : Below (W.heap.size + 1) (W.alloc (.cells #[a, b, c] 23)) w2) : w2.cell? ⟨W.heap.size, 0, none⟩ = some a ∧ w2.cell? ⟨W.heap.size, 1, none⟩ = some b ∧ w2.cell? ⟨W.heap.size, 2, none⟩ = some c := by
  refine ⟨?_, ?_, ?_⟩ <;> (rw [h.cell (by simp), World.cell?_alloc_at _ _ _ _ rfl]; rfl)

set_option maxRecDepth 100000 in
theorem print_no (i u x : Int) (h : okN i u x = false) (w : World) :
    Calls Try.prog 7 #[nd i u x] w fun e w' => e = .returned (.tuple #[.string ⟨#[]⟩, .bool false]) ∧ Below w.heap.size w w' := by
  have P := hide (has_any i u x)
  rw [h] at P
  go_enter Try.func7, Try.ntmps7
  go_wp2_with fail
  refine ((unhide P) _).mono ?_
  rintro e w2 ⟨rfl, hb⟩
  have HB := hide (((Below.refl w.heap.size w).alloc (Nat.le_refl _) _).trans (hb.mono (by simp)))
  clear hb
  go_wp2
  exact bodyPost_ret (v := .tuple #[.string ⟨#[]⟩, .bool false]) (by simp [results, Try.results7, go_sem]) rfl ⟨rfl, unhide HB⟩

set_option maxRecDepth 100000 in
theorem print_yes (i u x : Int) (h : okN i u x = true) (w : World) :
    Calls Try.prog 7 #[nd i u x] w fun e w' => e = .returned (.tuple #[.string (st (recL i u x)), .bool true]) ∧ Below w.heap.size w w' := by
  have P := hide (has_any i u x)
  rw [h] at P
  have l1 : IntKind.u32.wrap i = ((lo i : Nat) : Int) := by unfold lo; rw [IntKind.wrap_u32']; omega
  have l2 : IntKind.u32.wrap u = ((lo u : Nat) : Int) := by unfold lo; rw [IntKind.wrap_u32']; omega
  have l3 : IntKind.u32.wrap (x / 4294967296) = ((lo (x / 4294967296) : Nat) : Int) := by unfold lo; rw [IntKind.wrap_u32']; omega
  have l4 : IntKind.u32.wrap x = ((lo x : Nat) : Int) := by unfold lo; rw [IntKind.wrap_u32']; omega
  have b1 := lo_lt i
  have b2 := lo_lt u
  have b3 := lo_lt (x / 4294967296)
  have b4 := lo_lt x
  have hr : recL i u x = ((([] ++ four (lo i)) ++ four (lo u)) ++ four (lo (x / 4294967296))) ++ four (lo x) := rfl
  have hrl := recL_lt i u x
  rw [hr] at hrl ⊢
  have HRL := hide hrl
  clear hr hrl h
  generalize lo i = n1 at *
  generalize lo u = n2 at *
  generalize lo (x / 4294967296) = n3 at *
  generalize lo x = n4 at *
  obtain ⟨i0, hi, hz⟩ := Option.map_eq_some_iff.1 Try.info5
  simp only [Prod.mk.injEq] at hz
  obtain ⟨hz0, hz1, hz2⟩ := hz
  go_enter Try.func7, Try.ntmps7
  go_wp2_with fail
  refine ((unhide P) _).mono ?_
  rintro e w2 ⟨rfl, hb⟩
  have HB := hide (hb.mono (B' := w.heap.size + 1) (by simp))
  obtain ⟨c0, c1, c2⟩ := cells3 w w2 _ _ _ (unhide HB)
  have hsz := (unhide HB).size
  obtain ⟨w3, hmk0, ho3, hg3⟩ := run_make_own (P := Try.prog) w2 (w.heap.size + 1) 37 5 i0 (.int .u8 0) 1 Try.underlying37 hi hz0 hz1 .i64 .i64 16 (by rw [hz2]; decide) (by unfold maxLen; decide) (by simpa using hsz)
  have hmk : (Instr.makeSlice 37 (.int .i64 0) (.int .i64 16)).run Try.prog w2 = .ok (.slice (some ⟨w2.heap.size, 0, none⟩) 0 16) w3 := hmk0
  have HB3 : Hid (Below (w.heap.size + 1) _ w3) := hide ((unhide HB).grown hg3 (by simpa using hsz) (fun k hk => by simp at hk))
  obtain ⟨d0, d1, d2⟩ := cells3 w w3 _ _ _ (unhide HB3)
  have hs3 := (unhide HB3).size
  have Q1 := hide (put_any (w.heap.size + 1) 0 n1 _ [] b1 (by decide) w3 ho3 (by simpa using hs3))
  generalize Value.slice (some ⟨w2.heap.size, 0, none⟩) 0 16 = v3 at *
  clear c0 c1 c2 hmk0 ho3 hg3 hsz hs3 HB
  go_wp2_with fail
  refine (unhide Q1).mono ?_
  rintro e w4 ⟨v4, rfl, ho4, hb4⟩
  have HB4 : Hid (Below (w.heap.size + 1) _ w4) := hide ((unhide HB3).trans hb4)
  clear d0 d1 d2 hb4 HB3 Q1
  obtain ⟨d0, d1, d2⟩ := cells3 w w4 _ _ _ (unhide HB4)
  have hs4 := (unhide HB4).size
  have Q2 := hide (put_any (w.heap.size + 1) _ n2 _ _ b2 (by decide) w4 ho4 (by simpa using hs4))
  clear ho4 hs4
  go_wp2_with fail
  refine (unhide Q2).mono ?_
  rintro e w5 ⟨v5, rfl, ho5, hb5⟩
  have HB5 : Hid (Below (w.heap.size + 1) _ w5) := hide ((unhide HB4).trans hb5)
  clear d0 d1 d2 hb5 HB4 Q2
  obtain ⟨d0, d1, d2⟩ := cells3 w w5 _ _ _ (unhide HB5)
  have hs5 := (unhide HB5).size
  have Q3 := hide (put_any (w.heap.size + 1) _ n3 _ _ b3 (by decide) w5 ho5 (by simpa using hs5))
  clear ho5 hs5
  go_wp2_with fail
  refine (unhide Q3).mono ?_
  rintro e w6 ⟨v6, rfl, ho6, hb6⟩
  have HB6 : Hid (Below (w.heap.size + 1) _ w6) := hide ((unhide HB5).trans hb6)
  clear d0 d1 d2 hb6 HB5 Q3
  obtain ⟨d0, d1, d2⟩ := cells3 w w6 _ _ _ (unhide HB6)
  have hs6 := (unhide HB6).size
  have Q4 := hide (put_any (w.heap.size + 1) _ n4 _ _ b4 (by decide) w6 ho6 (by simpa using hs6))
  clear ho6 hs6
  go_wp2_with fail
  refine (unhide Q4).mono ?_
  rintro e w7 ⟨v7, rfl, ho7, hb7⟩
  have HB7 : Hid (Below (w.heap.size + 1) _ w7) := hide ((unhide HB6).trans hb7)
  have hs := st_row ho7 (unhide HRL) (by decide)
  clear d0 d1 d2 hb7 HB6 Q4 ho7
  go_wp2
  refine bodyPost_ret (v := .tuple #[.string (st ([] ++ four n1 ++ four n2 ++ four n3 ++ four n4)), .bool true]) (by simp [results, Try.results7, go_sem]) rfl ?_
  exact ⟨rfl, ((Below.refl w.heap.size w).alloc (Nat.le_refl _) _).trans ((unhide HB7).mono (by omega))⟩

theorem print_any (i u x : Int) (w : World) :
    Calls Try.prog 7 #[nd i u x] w fun e w' => e = .returned (.tuple #[.string (prS i u x), .bool (okN i u x)]) ∧ Below w.heap.size w w' := by
  unfold prS
  cases h : okN i u x
  · exact print_no i u x h w
  · exact print_yes i u x h w
end Go.Proofs.Ytgdiglkbeijomaa
