/- Four bytes put behind others. -/
import Derived.Test.YtgdiglkbeijomaaC2
import Derived.Laws.AppendOwn
import Derived.Laws.IdiomStrings
namespace Go.Proofs.Ytgdiglkbeijomaa
open Go.RowKit
theorem Try.info5 : (Try.prog.info? 5).map (fun i => (i.zero, i.size, i.bytes)) = some (some (.int .u8 0), 1, 1) := by kernel_rfl
/-- Bytes, as cells. -/
def bv (l : List Nat) : List Value := l.map fun (b : Nat) => Value.int .u8 (b : Int)
theorem bv_one (l : List Nat) : ∀ u ∈ bv l, u.oneCell' = true := by
  intro u h
  obtain ⟨b, _, rfl⟩ := List.mem_map.1 h
  rfl
theorem bv_append (x y : List Nat) : bv x ++ bv y = bv (x ++ y) := by simp [bv]
/-- Four cells of a new block. -/
theorem news4 (W : World) (a b c d : Value) : ∀ (j : Nat) (u : Value), [a, b, c, d][j]? = some u → (W.alloc (.cells #[a, b, c, d] 5)).cell? ((⟨W.heap.size, 0, none⟩ : Addr).add j) = some u := by
  intro j u h
  have : (W.alloc (.cells #[a, b, c, d] 5)).cell? ⟨W.heap.size, 0 + j, none⟩ = #[a, b, c, d][0 + j]? := World.cell?_alloc_at _ _ _ _ rfl
  rw [Nat.zero_add] at this
  have e : (⟨W.heap.size, 0, none⟩ : Addr).add j = ⟨W.heap.size, j, none⟩ := by
    simp [Addr.add]
    exact fun h => h.symm
  rw [e, this]
  simpa using h

set_option maxRecDepth 100000 in
theorem put_any (base n x : Nat) (v : Value) (l : List Nat) (hx : x < 4294967296) (hn : n ≤ 1000) (w : World) (hown : w.ownsRow base 5 1 v n (bv l)) (hb : base ≤ w.heap.size) :
    Calls Try.prog 17 #[v, .int .u32 (x : Int)] w fun e w' => ∃ v', e = .returned v' ∧ w'.ownsRow base 5 1 v' (n + 4) (bv (l ++ four x)) ∧ Below base w w' := by
  obtain ⟨i0, hi, hz⟩ := Option.map_eq_some_iff.1 Try.info5
  simp only [Prod.mk.injEq] at hz
  obtain ⟨hz0, hz1, hz2⟩ := hz
  have e0 : (x : Int) / 16777216 = ((x / 16777216 % 256 : Nat) : Int) := by omega
  have e1 : (x : Int) / 65536 % 256 = ((x / 65536 % 256 : Nat) : Int) := by omega
  have e2 : (x : Int) / 256 % 256 = ((x / 256 % 256 : Nat) : Int) := by omega
  have e3 : (x : Int) % 256 = ((x % 256 : Nat) : Int) := by omega
  have hnews : bv (four x) = [.int .u8 ((x : Int) / 16777216), .int .u8 ((x : Int) / 65536 % 256), .int .u8 ((x : Int) / 256 % 256), .int .u8 ((x : Int) % 256)] := by
    rw [e0, e1, e2, e3]
    rfl
  have h1 : ∀ u ∈ [Value.int .u8 ((x : Int) / 16777216), .int .u8 ((x : Int) / 65536 % 256), .int .u8 ((x : Int) / 256 % 256), .int .u8 ((x : Int) % 256)], u.oneCell' = true := by
    rw [← hnews]
    exact bv_one _
  have HN := hide hnews
  have H1 := hide h1
  have HO := hide hown
  have HL := hown.lt
  have HLL := hide HL
  clear hown hnews h1 e0 e1 e2 e3 HL
  go_enter Try.func17, Try.ntmps17
  go_wp2_with (at_builtin; refine wpList_append_own _ rfl (.tmp 5) (.tmp 17) 37 rfl base 5 i0 (.int .u8 0) 1 1 Try.underlying37 hi hz0 hz1 hz2 rfl (by decide) v n (bv l) rfl ((unhide HO).alloc _) ⟨w.heap.size, 0, none⟩ 4 4 _ rfl rfl (news4 w _ _ _ _) (unhide H1) (by unfold maxLen; omega) (by omega) (by simp; omega) ?_)
  intro v' w' hown' hg hn
  go_wp2
  go_ret
  refine ⟨v', rfl, ?_, ?_⟩
  · rw [← bv_append, unhide HN]
    exact hown'
  · exact ((Below.refl _ _).alloc hb _).grown hg (by simp; omega) (fun k hk => ((unhide HLL) k hk).1)

theorem st_row {w : World} {base n : Nat} {v : Value} {l : List Nat} (h : w.ownsRow base 5 1 v n (bv l)) (hl : ∀ b ∈ l, b < 256) (h0 : 0 < n) : (convert 37 9 v).run Try.prog w = .ok (.string (st l)) w := by
  have hlen := h.1
  have hn : (l.map UInt8.ofNat).length = n := by
    simp [bv] at hlen
    simp [hlen]
  rcases h.2 with ⟨_, h1⟩ | ⟨g, cap, cur, rfl, _⟩
  · omega
  · have hc := h.cells (g := g) rfl
    have := run_convert_bytes_back (P := Try.prog) w 37 9 5 ⟨g, 0, none⟩ cap (l.map UInt8.ofNat) Try.underlying37 Try.underlying5 Try.underlying9 (fun j hj => by
      have hj' : j < l.length := by simpa using hj
      refine hc j _ ?_
      rw [bv, List.getElem?_map, List.getElem?_eq_getElem hj']
      have := hl _ (List.getElem_mem hj')
      simp
      omega)
    rw [hn] at this
    exact this

set_option maxRecDepth 100000 in
theorem four_any (x : Nat) (hx : x < 4294967296) (w : World) :
    Calls Try.prog 10 #[.int .u32 (x : Int)] w fun e w' => e = .returned (.string (st (four x))) ∧ Below w.heap.size w w' := by
  have P := put_any w.heap.size 0 x (.slice none 0 0) [] hx (by decide) w (World.ownsRow_nil w _ _ _) (Nat.le_refl _)
  go_enter Try.func10, Try.ntmps10
  go_wp2_with fail
  refine P.mono ?_
  rintro e w2 ⟨v', rfl, ho, hb⟩
  have hs := st_row ho (by simpa using four_lt x) (by decide)
  simp only [List.nil_append] at hs
  have HB := hide hb
  clear hb ho
  go_wp2
  go_ret
  exact ⟨rfl, unhide HB⟩

set_option maxRecDepth 100000 in
theorem fourR_any (x : Nat) (hx : x < 4294967296) (w : World) :
    Calls Try.prog 11 #[.int .u32 (x : Int)] w fun e w' => e = .returned (.string (st (four x))) ∧ Below w.heap.size w w' := by
  have e0 : (x : Int) / 16777216 = ((x / 16777216 % 256 : Nat) : Int) := by omega
  have e1 : (x : Int) / 65536 % 256 = ((x / 65536 % 256 : Nat) : Int) := by omega
  have e2 : (x : Int) / 256 % 256 = ((x / 256 % 256 : Nat) : Int) := by omega
  have e3 : (x : Int) % 256 = ((x % 256 : Nat) : Int) := by omega
  have hnews : bv (four x) = [.int .u8 ((x : Int) / 16777216), .int .u8 ((x : Int) / 65536 % 256), .int .u8 ((x : Int) / 256 % 256), .int .u8 ((x : Int) % 256)] := by
    rw [e0, e1, e2, e3]
    rfl
  have hs : (convert 37 9 (.slice (some ⟨w.heap.size, 0, none⟩) 4 4)).run Try.prog (w.alloc (.cells #[.int .u8 ((x : Int) / 16777216), .int .u8 ((x : Int) / 65536 % 256), .int .u8 ((x : Int) / 256 % 256), .int .u8 ((x : Int) % 256)] 5)) = .ok (.string (st (four x))) (w.alloc (.cells #[.int .u8 ((x : Int) / 16777216), .int .u8 ((x : Int) / 65536 % 256), .int .u8 ((x : Int) / 256 % 256), .int .u8 ((x : Int) % 256)] 5)) := by
    refine run_convert_bytes_back (P := Try.prog) _ 37 9 5 ⟨w.heap.size, 0, none⟩ 4 ((four x).map UInt8.ofNat) Try.underlying37 Try.underlying5 Try.underlying9 (fun j hj => ?_)
    have hj' : j < (four x).length := by simpa using hj
    refine news4 w _ _ _ _ j _ ?_
    rw [← hnews, bv, List.getElem?_map, List.getElem?_eq_getElem hj']
    have := four_lt x _ (List.getElem_mem hj')
    simp
    omega
  clear e0 e1 e2 e3 hnews
  go_enter Try.func11, Try.ntmps11
  go_wp2
  go_ret
  exact ⟨rfl, (Below.refl _ _).alloc (Nat.le_refl _) _⟩
end Go.Proofs.Ytgdiglkbeijomaa
