/- The contracts of layer 1's functions, said of a world that is kept from a base world on. -/
import Derived.Test.YtbibpigijgmcgaaW6
namespace Go.Proofs.Ytbibpigijgmcgaa
open Go.RowKit

/-- What Of asks of a slice. -/
def RowAt (w : World) (x : Option Addr) (zs : List Int) : Prop :=
  0 < zs.length → ∃ b o, x = some ⟨b, o, none⟩ ∧ b < w.heap.size ∧ ∀ i, i < zs.length → w.cell? ⟨b, o + i, none⟩ = some (.int .i64 (zs.getD i 0))

theorem RowAt.below {W w : World} {x : Option Addr} {zs : List Int} (h : RowAt W x zs) (hb : Below W.heap.size W w) : RowAt w x zs := by
  intro h0
  obtain ⟨b, o, hx, hlt, hc⟩ := h h0
  exact ⟨b, o, hx, Nat.lt_of_lt_of_le hlt hb.size, fun i hi => by rw [hb.cell (p := ⟨b, o + i, none⟩) hlt]; exact hc i hi⟩

/-- Small enough to be summed. -/
def SmallRow (zs : List Int) : Prop := zs.length ≤ 1048576 ∧ ∀ n ∈ zs, -1099511627776 ≤ n ∧ n ≤ 1099511627776

theorem of_row {W : World} (x : Option Addr) (len cap : Nat) (zs : List Int) (w : World) (hr : RowAt W x zs) (hz : zs.length = len) (hs : SmallRow zs) (hb : Below W.heap.size W w) :
    Calls Try.prog 15 #[.slice x len cap] w fun r w' => r = .returned (.agg #[.int .i64 (ofL zs).c, .int .i64 (ofL zs).s, .int .i64 (ofL zs).a, .int .i64 (ofL zs).b]) ∧ Below W.heap.size W w' := by
  subst hz
  refine (of_any x zs.length cap zs w rfl hs.1 (hr.below hb) hs.2).mono ?_
  rintro e w' ⟨rfl, hb'⟩
  exact ⟨rfl, hb.trans (hb'.mono hb.size)⟩

theorem join_on {W : World} (x y : Sm) (w : World) (k1 : -4611686018427387904 ≤ x.c + y.c) (k2 : x.c + y.c ≤ 4611686018427387904) (k3 : -4611686018427387904 ≤ x.s + y.s) (k4 : x.s + y.s ≤ 4611686018427387904) (hb : Below W.heap.size W w) :
    Calls Try.prog 14 #[.agg #[.int .i64 x.c, .int .i64 x.s, .int .i64 x.a, .int .i64 x.b], .agg #[.int .i64 y.c, .int .i64 y.s, .int .i64 y.a, .int .i64 y.b]] w fun r w' =>
      r = .returned (.agg #[.int .i64 (jn x y).c, .int .i64 (jn x y).s, .int .i64 (jn x y).a, .int .i64 (jn x y).b]) ∧ Below W.heap.size W w' := by
  refine (join_any x.c x.s x.a x.b y.c y.s y.a y.b w k1 k2 k3 k4).mono ?_
  rintro e w' ⟨rfl, hb'⟩
  exact ⟨rfl, hb.trans (hb'.mono hb.size)⟩

theorem lift_on {W : World} (x : Sm) (n : Int) (w : World) (k1 : -4611686018427387904 ≤ x.c * n) (k2 : x.c * n ≤ 4611686018427387904) (k3 : -4611686018427387904 ≤ x.s + x.c * n) (k4 : x.s + x.c * n ≤ 4611686018427387904) (k5 : -4611686018427387904 ≤ x.a + n) (k6 : x.a + n ≤ 4611686018427387904) (k7 : -4611686018427387904 ≤ x.b + n) (k8 : x.b + n ≤ 4611686018427387904) (hb : Below W.heap.size W w) :
    Calls Try.prog 16 #[.agg #[.int .i64 x.c, .int .i64 x.s, .int .i64 x.a, .int .i64 x.b], .int .i64 n] w fun r w' =>
      r = .returned (.agg #[.int .i64 (lf x n).c, .int .i64 (lf x n).s, .int .i64 (lf x n).a, .int .i64 (lf x n).b]) ∧ Below W.heap.size W w' := by
  refine (lift_any x.c x.s x.a x.b n w k1 k2 k3 k4 k5 k6 k7 k8).mono ?_
  rintro e w' ⟨rfl, hb'⟩
  exact ⟨rfl, hb.trans (hb'.mono hb.size)⟩

theorem awake_on {W : World} (w : World) (hb : Below W.heap.size W w) :
    Calls Try.prog 9 #[] w fun r w' => r = .returned (.bool true) ∧ Below W.heap.size W w' := by
  refine (awake_any w).mono ?_
  rintro e w' ⟨rfl, hb'⟩
  exact ⟨rfl, hb.trans (hb'.mono hb.size)⟩
end Go.Proofs.Ytbibpigijgmcgaa
