/- The document's pool as a plain one: what each call answers, and what it leaves. -/
import Derived.Test.YtbkneonbpcmepaaJ3
import Derived.Test.YtbkneonbpcmepaaRows
import Derived.WalkKit
import Derived.OpenShut
import Derived.ProofKit
import Derived.Deep.Slices
import Derived.Deep.Strs
import Derived.Lib.SmallJoins
namespace Go.Proofs.Ytbkneonbpcmepaa
open Go.RowKit Go.Arb
set_option linter.unusedVariables false
set_option linter.unusedSimpArgs false

def RfAt (w : World) (q : Nat) (A : Se) (ks : List Nat) : Prop := ∃ vL bw hs fw, RA w q vL bw hs fw A ∧ ks = rfp q bw vL hs
theorem RfAt.lt {w : World} {q : Nat} {A : Se} {ks : List Nat} (h : RfAt w q A ks) : ∀ k ∈ ks, k < w.heap.size := by
  obtain ⟨vL, bw, hs, fw, h1, rfl⟩ := h
  exact h1.rin.lt
theorem RfAt.keep {w w' : World} {q : Nat} {A : Se} {ks js : List Nat} (h : RfAt w q A ks) (hk : Keep js w w') (ho : Off ks js) : RfAt w' q A ks := by
  obtain ⟨vL, bw, hs, fw, h1, rfl⟩ := h
  exact ⟨vL, bw, hs, fw, ⟨h1.rin.keep hk ho, h1.wt, h1.nd, h1.ne, h1.lt, h1.fit, h1.nn⟩, rfl⟩
theorem Rf.lies : Lies RfAt := ⟨fun h => h.lt, fun h hk ho => h.keep hk ho⟩
theorem RfAt.same {w : World} {q : Nat} {A : Se} {ks : List Nat} (h : RfAt w q A ks) : ∃ ks', RfAt w q A ks' ∧ Keep ks w w ∧ Grew w ks ks' := ⟨ks, h, Keep.refl _ _, Grew.refl _ _⟩
theorem RfAt.stays {w w' : World} {q : Nat} {A : Se} {ks : List Nat} (h : RfAt w q A ks) (hb : Below w.heap.size w w') : ∃ ks', RfAt w' q A ks' ∧ Keep ks w w' ∧ Grew w ks ks' := ⟨ks, h.keep (Keep.ofBelow hb []) (fun _ _ => by simp), Keep.ofBelow hb _, Grew.refl _ _⟩
section
variable {w w' : World} {q bw : Nat} {vL vL' : Value} {hs hs' : List Value} {fw fw' : Nat → Int} {A A' : Se} {ks : List Nat}
theorem grew_rfp (h1 : ∀ k ∈ own vL', k ∈ own vL ∨ w.heap.size ≤ k) (h2 : ∀ u ∈ hs', u ∈ hs ∨ ∀ b ∈ own u, w.heap.size ≤ b) : Grew w (rfp q bw vL hs) (rfp q bw vL' hs') := fun k hk => by
  simp only [rfp, List.mem_cons, List.mem_append, List.mem_flatMap] at hk ⊢
  rcases hk with rfl | rfl | hk | ⟨u, hu, hk⟩
  · exact .inl (.inl rfl)
  · exact .inl (.inr (.inl rfl))
  · rcases h1 k hk with h | h
    · exact .inl (.inr (.inr (.inl h)))
    · exact .inr h
  · rcases h2 u hu with h | h
    · exact .inl (.inr (.inr (.inr ⟨u, h, hk⟩)))
    · exact .inr (h k hk)
theorem Ch.out (hc : Ch w w' q bw vL hs A') : ∃ ks', RfAt w' q A' ks' ∧ Keep (rfp q bw vL hs) w w' ∧ Grew w (rfp q bw vL hs) ks' := by
  obtain ⟨vL', hs', fw', h1, h2, h3⟩ := hc.ex
  refine ⟨_, ⟨vL', bw, hs', fw', h1, rfl⟩, hc.kp.mono (fun k hk => .inl ?_), grew_rfp h2 h3⟩
  simp only [rfp, List.mem_cons, List.mem_append] at hk ⊢
  rcases hk with h | h | h
  · exact .inl h
  · exact .inr (.inl h)
  · exact .inr (.inr (.inl h))
theorem xHas (x : Int) (h : RfAt w q A ks) : Calls Try.prog 30 #[.pointer (some ⟨q, 0, none⟩), .int .i64 x] w fun e w' => e = .returned (.bool (A.hasI x)) ∧ ∃ ks', RfAt w' q A ks' ∧ Keep ks w w' ∧ Grew w ks ks' := by
  obtain ⟨vL, bw, hs, fw, h1, rfl⟩ := id h
  refine (rhas_any x h1).mono ?_
  rintro e w' ⟨rfl, rfl⟩
  exact ⟨rfl, h.same⟩
theorem xLen (x : Int) (h : RfAt w q A ks) : Calls Try.prog 32 #[.pointer (some ⟨q, 0, none⟩), .int .i64 x] w fun e w' => e = .returned (.int .i64 (A.lenI x)) ∧ ∃ ks', RfAt w' q A ks' ∧ Keep ks w w' ∧ Grew w ks ks' := by
  obtain ⟨vL, bw, hs, fw, h1, rfl⟩ := id h
  refine (rlen_any x h1).mono ?_
  rintro e w' ⟨rfl, rfl⟩
  exact ⟨rfl, h.same⟩
theorem xRank (x : Int) (h : RfAt w q A ks) : Calls Try.prog 34 #[.pointer (some ⟨q, 0, none⟩), .int .i64 x] w fun e w' => e = .returned (.int .i64 (A.rankI x)) ∧ ∃ ks', RfAt w' q A ks' ∧ Keep ks w w' ∧ Grew w ks ks' := by
  obtain ⟨vL, bw, hs, fw, h1, rfl⟩ := id h
  refine (rrank_any x h1).mono ?_
  rintro e w' ⟨rfl, rfl⟩
  exact ⟨rfl, h.same⟩
theorem xAt (x y : Int) (h : RfAt w q A ks) : Calls Try.prog 36 #[.pointer (some ⟨q, 0, none⟩), .int .i64 x, .int .i64 y] w fun e w' => e = .returned (.int .i64 (A.atI x y)) ∧ ∃ ks', RfAt w' q A ks' ∧ Keep ks w w' ∧ Grew w ks ks' := by
  obtain ⟨vL, bw, hs, fw, h1, rfl⟩ := id h
  refine (rplace_any x y h1).mono ?_
  rintro e w' ⟨rfl, rfl⟩
  exact ⟨rfl, h.same⟩
theorem xSame (x y : Int) (h : RfAt w q A ks) : Calls Try.prog 38 #[.pointer (some ⟨q, 0, none⟩), .int .i64 x, .int .i64 y] w fun e w' => e = .returned (.bool (A.sameI x y)) ∧ ∃ ks', RfAt w' q A ks' ∧ Keep ks w w' ∧ Grew w ks ks' := by
  obtain ⟨vL, bw, hs, fw, h1, rfl⟩ := id h
  refine (rsame_any x y h1).mono ?_
  rintro e w' ⟨rfl, rfl⟩
  exact ⟨rfl, h.same⟩
theorem xGet (x : Int) (h : RfAt w q A ks) : Calls Try.prog 28 #[.pointer (some ⟨q, 0, none⟩), .int .i64 x] w fun e w' => e = .returned (.tuple #[.int .i64 (A.getI x), .bool (A.hasI x)]) ∧ ∃ ks', RfAt w' q A ks' ∧ Keep ks w w' ∧ Grew w ks ks' := by
  obtain ⟨vL, bw, hs, fw, h1, rfl⟩ := id h
  refine (rget_any x h1).mono ?_
  rintro e w' ⟨rfl, rfl⟩
  exact ⟨rfl, h.same⟩
theorem xRange (x y : Int) (h : RfAt w q A ks) : Calls Try.prog 26 #[.pointer (some ⟨q, 0, none⟩), .int .i64 x, .int .i64 y] w fun e w' => e = .returned (.tuple #[smV (A.rangeI x y), .bool (A.okR x y)]) ∧ ∃ ks', RfAt w' q A ks' ∧ Keep ks w w' ∧ Grew w ks ks' := by
  obtain ⟨vL, bw, hs, fw, h1, rfl⟩ := id h
  refine (rrange_any x y h1).mono ?_
  rintro e w' ⟨rfl, hb⟩
  exact ⟨rfl, h.stays hb⟩
theorem xAll (x : Int) (h : RfAt w q A ks) : Calls Try.prog 40 #[.pointer (some ⟨q, 0, none⟩), .int .i64 x] w fun e w' => e = .returned (smV (A.allI x)) ∧ ∃ ks', RfAt w' q A ks' ∧ Keep ks w w' ∧ Grew w ks ks' := by
  obtain ⟨vL, bw, hs, fw, h1, rfl⟩ := id h
  refine (rall_any x h1).mono ?_
  rintro e w' ⟨rfl, hb⟩
  exact ⟨rfl, h.stays hb⟩
theorem xAdd (x y : Int) (h : RfAt w q A ks) : Calls Try.prog 14 #[.pointer (some ⟨q, 0, none⟩), .int .i64 x, .int .i64 y] w fun e w' => e = .returned (.bool (A.addOk x y)) ∧ ∃ ks', RfAt w' q (A.addA x y) ks' ∧ Keep ks w w' ∧ Grew w ks ks' := by
  obtain ⟨vL, bw, hs, fw, h1, rfl⟩ := h
  refine (rput_any x y h1).mono ?_
  rintro e w' ⟨rfl, hc⟩
  exact ⟨rfl, hc.out⟩
theorem xDrop (x : Int) (h : RfAt w q A ks) : Calls Try.prog 16 #[.pointer (some ⟨q, 0, none⟩), .int .i64 x] w fun e w' => e = .returned (.bool (A.dropB x)) ∧ ∃ ks', RfAt w' q (A.dropA x) ks' ∧ Keep ks w w' ∧ Grew w ks ks' := by
  obtain ⟨vL, bw, hs, fw, h1, rfl⟩ := h
  refine (rdrop_any x h1).mono ?_
  rintro e w' ⟨rfl, vL', hs', r1, r2, r3, r4⟩
  exact ⟨rfl, Ch.out ⟨⟨vL', hs', fw, r1, r4, fun u hu => .inl (r3 u hu)⟩, r2.mono (fun k hk => .inl (by simp at hk; simp [hk]))⟩⟩
theorem xBefore (x : Int) (h : RfAt w q A ks) : Calls Try.prog 18 #[.pointer (some ⟨q, 0, none⟩), .int .i64 x] w fun e w' => e = .returned (.bool (A.beforeB x)) ∧ ∃ ks', RfAt w' q (A.beforeA x) ks' ∧ Keep ks w w' ∧ Grew w ks ks' := by
  obtain ⟨vL, bw, hs, fw, h1, rfl⟩ := h
  refine (rbefore_any x h1).mono ?_
  rintro e w' ⟨rfl, hc⟩
  exact ⟨rfl, hc.out⟩
theorem xJoin (x y : Int) (h : RfAt w q A ks) : Calls Try.prog 20 #[.pointer (some ⟨q, 0, none⟩), .int .i64 x, .int .i64 y] w fun e w' => e = .returned (.bool (A.joinB x y)) ∧ ∃ ks', RfAt w' q (A.joinA x y) ks' ∧ Keep ks w w' ∧ Grew w ks ks' := by
  obtain ⟨vL, bw, hs, fw, h1, rfl⟩ := h
  refine (rcat_any x y h1).mono ?_
  rintro e w' ⟨rfl, hc⟩
  exact ⟨rfl, hc.out⟩
theorem xSet (x y : Int) (h : RfAt w q A ks) : Calls Try.prog 22 #[.pointer (some ⟨q, 0, none⟩), .int .i64 x, .int .i64 y] w fun e w' => e = .returned (.bool (A.setB x y)) ∧ ∃ ks', RfAt w' q (A.setA x y) ks' ∧ Keep ks w w' ∧ Grew w ks ks' := by
  obtain ⟨vL, bw, hs, fw, h1, rfl⟩ := h
  refine (rset_any x y h1).mono ?_
  rintro e w' ⟨rfl, fw', r1, r2⟩
  exact ⟨rfl, Ch.out ⟨⟨vL, hs, fw', r1, fun k hk => .inl hk, fun u hu => .inl hu⟩, r2.mono (fun k hk => .inl (by simp at hk; simp [hk]))⟩⟩
theorem xLift (x y d : Int) (h : RfAt w q A ks) : Calls Try.prog 24 #[.pointer (some ⟨q, 0, none⟩), .int .i64 x, .int .i64 y, .int .i64 d] w fun e w' => e = .returned (.bool (A.liftB x y d)) ∧ ∃ ks', RfAt w' q (A.liftA x y d) ks' ∧ Keep ks w w' ∧ Grew w ks ks' := by
  obtain ⟨vL, bw, hs, fw, h1, rfl⟩ := h
  refine (rlift_any x y d h1).mono ?_
  rintro e w' ⟨rfl, hc⟩
  exact ⟨rfl, hc.out⟩
end
theorem x2New {w W : World} {p : Nat} {T : Se} {js : List Nat} (h : Ob w W p T js) (n : Nat) (h1 : n ≤ 4194304) :
    Calls Try.prog 12 #[.int .i64 (n : Int)] W fun e W' => ∃ q, e = .returned (.pointer (some ⟨q, 0, none⟩)) ∧ Ob2 RfAt w W' p q T (Se.new n) js ∧ Kept js W W' := by
  refine (rnew_any n W h1).mono ?_
  rintro e W' ⟨q, rfl, hn⟩
  obtain ⟨bw, fw, q1, q2⟩ := hn.ex
  refine ⟨q, rfl, h.pair hn.bel ⟨_, bw, [], fw, q1, rfl⟩ (fun k hk => ?_)⟩
  simp [rfp, own, Value.ownBlock] at hk
  rcases hk with rfl | rfl
  · exact hn.hq
  · exact q2
end Go.Proofs.Ytbkneonbpcmepaa
/- What came in, opened: arrays and slices of integers. -/

namespace Go.Proofs.Ytbkneonbpcmepaa
open Go.ChangeShapes Go.WideShapes Go.ChangeAt Go.RowKit Go.Joins Go.Deep

theorem Try.cells5 : Try.prog.cellsOf 5 = 1 := by kernel_rfl
theorem Try.cells48 : Try.prog.cellsOf 48 = 1 := by kernel_rfl
theorem Try.cells43 : Try.prog.cellsOf 43 = 1 := by kernel_rfl

section
variable {H : Type} {enc : TypeId × Value → H} {W : World} {base : Nat} {sp : Nat → Bool} {held : Bool} {t e : TypeId} {k : IntKind} {d : DataW H} {ps : List MemPlace} {r : Reach} {b0 : Nat} {v : Value}

theorem arr_open {n : Nat} (ht : Try.prog.underlying t = some (.array n e)) (he : Try.prog.underlying e = some (.int k)) (hc : Try.prog.cellsOf e = 1) (hct : Try.prog.cellsOf t = n)
    (hv : Value.okWide Try.prog W r b0 t v) (h : DataW.Trod enc Try.prog W base sp held t v d ps) :
    ∃ cs : Array Value, v = .agg cs ∧ cs.size = n ∧ ∀ i, i < n → ∃ x, cs[i]? = some (.int k x) ∧ (Lit.int k x).wf = true := by
  simp only [Value.okWide, ht] at hv
  obtain ⟨cs, rfl, h2, _⟩ := hv
  obtain ⟨fuel, hf⟩ := h
  obtain ⟨xs, m, _, _, hl, hxl, hel⟩ := DataW.trod_array ht hf
  refine ⟨cs, rfl, by rw [h2, hct], fun i hi => ?_⟩
  have h3 := hel i hi
  rw [hc, Nat.mul_one, List.getElem?_eq_getElem (by omega)] at h3
  obtain ⟨x, ex, _, wx⟩ := DataW.trod_int he h3
  refine ⟨x, ?_, wx⟩
  have := congrArg (fun l : List Value => l[0]?) ex
  simpa [Value.cells] using this
theorem arr2_open (ht : Try.prog.underlying t = some (.array 2 e)) (he : Try.prog.underlying e = some (.int k)) (hc : Try.prog.cellsOf e = 1) (hct : Try.prog.cellsOf t = 2)
    (hv : Value.okWide Try.prog W r b0 t v) (h : DataW.Trod enc Try.prog W base sp held t v d ps) : ∃ x y, v = .agg #[.int k x, .int k y] ∧ (Lit.int k x).wf = true ∧ (Lit.int k y).wf = true := by
  obtain ⟨cs, rfl, hs, hel⟩ := arr_open ht he hc hct hv h
  obtain ⟨x, ex, wx⟩ := hel 0 (by omega)
  obtain ⟨y, ey, wy⟩ := hel 1 (by omega)
  refine ⟨x, y, ?_, wx, wy⟩
  congr 1
  apply Array.ext (by simp [hs])
  intro i h1 h2
  have hi : i = 0 ∨ i = 1 := by omega
  rcases hi with rfl | rfl
  · rw [Array.getElem?_eq_getElem (by omega)] at ex; simpa using ex
  · rw [Array.getElem?_eq_getElem (by omega)] at ey; simpa using ey
theorem arr3_open (ht : Try.prog.underlying t = some (.array 3 e)) (he : Try.prog.underlying e = some (.int k)) (hc : Try.prog.cellsOf e = 1) (hct : Try.prog.cellsOf t = 3)
    (hv : Value.okWide Try.prog W r b0 t v) (h : DataW.Trod enc Try.prog W base sp held t v d ps) : ∃ x y z, v = .agg #[.int k x, .int k y, .int k z] ∧ (Lit.int k x).wf = true ∧ (Lit.int k y).wf = true ∧ (Lit.int k z).wf = true := by
  obtain ⟨cs, rfl, hs, hel⟩ := arr_open ht he hc hct hv h
  obtain ⟨x, ex, wx⟩ := hel 0 (by omega)
  obtain ⟨y, ey, wy⟩ := hel 1 (by omega)
  obtain ⟨z, ez, wz⟩ := hel 2 (by omega)
  refine ⟨x, y, z, ?_, wx, wy, wz⟩
  congr 1
  apply Array.ext (by simp [hs])
  intro i h1 h2
  have hi : i = 0 ∨ i = 1 ∨ i = 2 := by omega
  rcases hi with rfl | rfl | rfl
  · rw [Array.getElem?_eq_getElem (by omega)] at ex; simpa using ex
  · rw [Array.getElem?_eq_getElem (by omega)] at ey; simpa using ey
  · rw [Array.getElem?_eq_getElem (by omega)] at ez; simpa using ez
theorem arr4_open (ht : Try.prog.underlying t = some (.array 4 e)) (he : Try.prog.underlying e = some (.int k)) (hc : Try.prog.cellsOf e = 1) (hct : Try.prog.cellsOf t = 4)
    (hv : Value.okWide Try.prog W r b0 t v) (h : DataW.Trod enc Try.prog W base sp held t v d ps) : ∃ x y z u, v = .agg #[.int k x, .int k y, .int k z, .int k u] ∧ (Lit.int k x).wf = true ∧ (Lit.int k y).wf = true ∧ (Lit.int k z).wf = true ∧ (Lit.int k u).wf = true := by
  obtain ⟨cs, rfl, hs, hel⟩ := arr_open ht he hc hct hv h
  obtain ⟨x, ex, wx⟩ := hel 0 (by omega)
  obtain ⟨y, ey, wy⟩ := hel 1 (by omega)
  obtain ⟨z, ez, wz⟩ := hel 2 (by omega)
  obtain ⟨u, eu, wu⟩ := hel 3 (by omega)
  refine ⟨x, y, z, u, ?_, wx, wy, wz, wu⟩
  congr 1
  apply Array.ext (by simp [hs])
  intro i h1 h2
  have hi : i = 0 ∨ i = 1 ∨ i = 2 ∨ i = 3 := by omega
  rcases hi with rfl | rfl | rfl | rfl
  · rw [Array.getElem?_eq_getElem (by omega)] at ex; simpa using ex
  · rw [Array.getElem?_eq_getElem (by omega)] at ey; simpa using ey
  · rw [Array.getElem?_eq_getElem (by omega)] at ez; simpa using ez
  · rw [Array.getElem?_eq_getElem (by omega)] at eu; simpa using eu
end

/-- A row of integers that came in. -/
def IRow (k : IntKind) (w : World) (x : Option Addr) (len : Nat) (zs : List Int) : Prop :=
  zs.length = len ∧ (0 < len → ∃ b o, x = some ⟨b, o, none⟩ ∧ b < w.heap.size ∧ ∀ i, i < len → w.cell? ⟨b, o + i, none⟩ = some (.int k (zs.getD i 0))) ∧ ∀ n ∈ zs, (Lit.int k n).wf = true

theorem row_open {k : IntKind} {w : World} {a : Option Addr} {len cap : Nat} {zs : List Int}
    (h : (a = none ∧ len = 0 ∧ cap = 0 ∧ zs = []) ∨ ∃ x, a = some x ∧ len ≤ cap ∧ cap ≤ maxLen ∧ zs.length = cap ∧ (∀ i, i < zs.length → w.cell? (x.add i) = some (.int k (zs.getD i 0))) ∧ ∀ n ∈ zs, (Lit.int k n).wf = true) :
    IRow k w a len (zs.take len) := by
  rcases h with ⟨rfl, rfl, rfl, rfl⟩ | ⟨⟨b, off, spot⟩, rfl, hl, hm, hz, hcell, hwz⟩
  · exact ⟨rfl, fun h => by omega, fun n hn => by simp at hn⟩
  · refine ⟨by simp; omega, fun h0 => ?_, fun n hn => hwz n (List.mem_of_mem_take hn)⟩
    have hc := hcell 0 (by omega)
    have hspot : spot = none := by simpa [Addr.add] using World.cell?_spot hc
    subst hspot
    refine ⟨b, off, rfl, World.block_lt_of_cell? w _ hc, fun i hi => ?_⟩
    have hci := hcell i (by omega)
    have e : (zs.take len).getD i 0 = zs.getD i 0 := by
      rw [List.getD_eq_getElem?_getD, List.getD_eq_getElem?_getD, List.getElem?_take]
      simp [hi]
    rw [e]
    rcases i with _ | i
    · simpa [Addr.add] using hci
    · simpa [Addr.add] using hci
theorem ints_open {H : Type} {enc : TypeId × Value → H} {w : World} {base : Nat} {held : Bool} {a : Option Addr} {len cap : Nat} {T E : TypeId} {d : DataW H} {ps : List MemPlace} {k : IntKind} (ht : Try.prog.underlying T = some (.slice E)) (he : Try.prog.underlying E = some (.int k)) (hc : Try.prog.cellsOf E = 1)
    (h : DataW.Trod enc Try.prog w base (fun _ => true) held T (Value.slice a len cap) d ps) : len ≤ maxLen ∧ ∃ zs, IRow k w a len zs := by
  obtain ⟨fuel, h⟩ := h
  have h0 : ∃ zs : List Int, (a = none ∧ len = 0 ∧ cap = 0 ∧ zs = []) ∨ ∃ x, a = some x ∧ len ≤ cap ∧ cap ≤ maxLen ∧ zs.length = cap ∧ (∀ i, i < zs.length → w.cell? (x.add i) = some (.int k (zs.getD i 0))) ∧ ∀ n ∈ zs, (Lit.int k n).wf = true := by
    rcases open_ints ht he hc h with ⟨hcs, _⟩ | ⟨x, l, c, zs, hcs, _, hl, hm, hz, _, hcell, hwz⟩
    · simp [Value.cells] at hcs
      obtain ⟨rfl, rfl, rfl⟩ := hcs
      exact ⟨[], .inl ⟨rfl, rfl, rfl, rfl⟩⟩
    · simp [Value.cells] at hcs
      obtain ⟨rfl, rfl, rfl⟩ := hcs
      exact ⟨zs, .inr ⟨_, rfl, hl, hm, by simpa using hz, hcell, hwz⟩⟩
  obtain ⟨zs, hzs⟩ := h0
  exact ⟨by rcases hzs with ⟨_, h, _⟩ | ⟨_, _, h, h4, _⟩ <;> omega, zs.take len, row_open hzs⟩
end Go.Proofs.Ytbkneonbpcmepaa
/- A row of steps that came in, opened: four integers each. -/

namespace Go.Proofs.Ytbkneonbpcmepaa
open Go.ChangeShapes Go.WideShapes Go.ChangeAt Go.RowKit Go.Joins Go.Deep

/-- What came in: a row of steps. -/
def ARow (w : World) (x : Option Addr) (len : Nat) : Prop := 0 < len → ∃ b o, x = some ⟨b, o, none⟩ ∧ b < w.heap.size ∧ ∀ i, i < len → ∃ k a s g : Int,
    w.cell? ⟨b, o + i * 4, none⟩ = some (.int .i64 k) ∧ w.cell? ⟨b, o + i * 4 + 1, none⟩ = some (.int .i64 a) ∧ w.cell? ⟨b, o + i * 4 + 2, none⟩ = some (.int .i64 s) ∧ w.cell? ⟨b, o + i * 4 + 3, none⟩ = some (.int .i64 g)
theorem ARow.get {w W : World} {x : Option Addr} {len : Nat} (h : ARow w x len) (hb : Below w.heap.size w W) (i : Nat) (hi : i < len) :
    ∃ b o k a s g, x = some ⟨b, o, none⟩ ∧ W.cell? ⟨b, o + i * 4, none⟩ = some (.int .i64 k) ∧ W.cell? ⟨b, o + i * 4 + 1, none⟩ = some (.int .i64 a) ∧ W.cell? ⟨b, o + i * 4 + 2, none⟩ = some (.int .i64 s) ∧ W.cell? ⟨b, o + i * 4 + 3, none⟩ = some (.int .i64 g) := by
  obtain ⟨b, o, hx, hlt, hc⟩ := h (by omega)
  obtain ⟨k, a, s, g, c0, c1, c2, c3⟩ := hc i hi
  refine ⟨b, o, k, a, s, g, hx, ?_, ?_, ?_, ?_⟩
  · rw [hb.cell (p := ⟨b, _, none⟩) hlt]; exact c0
  · rw [hb.cell (p := ⟨b, _, none⟩) hlt]; exact c1
  · rw [hb.cell (p := ⟨b, _, none⟩) hlt]; exact c2
  · rw [hb.cell (p := ⟨b, _, none⟩) hlt]; exact c3

theorem Try.cellsAct : Try.prog.cellsOf 28 = 4 := by kernel_rfl
theorem Try.cells3 : Try.prog.cellsOf 3 = 1 := by kernel_rfl
section
variable {H : Type} {enc : TypeId × Value → H} {w : World} {base : Nat} {spare : Nat → Bool} {held : Bool}
theorem act_cells {fuel : Nat} {cs : List Value} {x : DataW H × List MemPlace} (h : DataW.trod enc Try.prog w base spare held fuel 28 cs = some x) : ∃ k a s g, cs = [.int .i64 k, .int .i64 a, .int .i64 s, .int .i64 g] := by
  obtain ⟨y0, y1, y2, y3, n, _, hl, h0, h1, h2, h3⟩ := trod_struct4 Try.underlying28 h
  rw [Try.cellsAct] at hl
  simp only [Try.cells3, List.drop_zero] at h0 h1 h2 h3
  obtain ⟨k, e0, _⟩ := DataW.trod_int Try.underlying3 h0
  obtain ⟨a, e1, _⟩ := DataW.trod_int Try.underlying3 h1
  obtain ⟨s, e2, _⟩ := DataW.trod_int Try.underlying3 h2
  obtain ⟨g, e3, _⟩ := DataW.trod_int Try.underlying3 h3
  match cs, hl with
  | [c0, c1, c2, c3], _ =>
    simp at e0 e1 e2 e3
    exact ⟨k, a, s, g, by rw [e0, e1, e2, e3]⟩
theorem acts_open {fuel : Nat} {x : Option Addr} {len cap : Nat} {y : DataW H × List MemPlace} (h : DataW.trod enc Try.prog w base (fun _ => true) held fuel 22 [.slice x len cap] = some y) : len ≤ maxLen ∧ ARow w x len := by
  rcases open_slice Try.underlying22 h with ⟨hcs, _⟩ | ⟨a, len', cap', m, n, D, Pl, hcs, _, hl, hm, hmm, _, hel⟩
  · simp at hcs
    obtain ⟨rfl, rfl, rfl⟩ := hcs
    exact ⟨Nat.zero_le _, fun h => by omega⟩
  · simp at hcs
    obtain ⟨rfl, rfl, rfl⟩ := hcs
    simp only [if_true] at hmm
    subst hmm
    rw [Try.cellsAct] at hel
    refine ⟨by omega, fun h0 => ?_⟩
    have hall : ∀ i, i < m → ∃ k b s g : Int, w.cell? ((a.add (i * 4)).add 0) = some (.int .i64 k) ∧ w.cell? ((a.add (i * 4)).add 1) = some (.int .i64 b) ∧ w.cell? ((a.add (i * 4)).add 2) = some (.int .i64 s) ∧ w.cell? ((a.add (i * 4)).add 3) = some (.int .i64 g) := by
      intro i hi
      obtain ⟨cs', h1, h2⟩ := hel i hi
      obtain ⟨k, b, s, g, rfl⟩ := act_cells h2
      obtain ⟨_, _, h3⟩ := World.cells?_some h1
      exact ⟨k, b, s, g, h3 0 (by omega), h3 1 (by omega), h3 2 (by omega), h3 3 (by omega)⟩
    obtain ⟨_, _, _, _, hc, _⟩ := hall 0 (by omega)
    obtain ⟨b, off, spot⟩ := a
    have hspot : spot = none := by simpa [Addr.add] using World.cell?_spot hc
    subst hspot
    refine ⟨b, off, rfl, World.block_lt_of_cell? w _ hc, fun i hi => ?_⟩
    obtain ⟨k, b', s, g, z0, z1, z2, z3⟩ := hall i (by omega)
    simp only [add_plain] at z0 z1 z2 z3
    refine ⟨k, b', s, g, ?_, ?_, ?_, ?_⟩
    · simpa [Nat.add_assoc] using z0
    · simpa [Nat.add_assoc] using z1
    · simpa [Nat.add_assoc] using z2
    · simpa [Nat.add_assoc] using z3
end
end Go.Proofs.Ytbkneonbpcmepaa
