/- Where the document's Put lays its two rows anew: the two statements, as they stand in its body. -/
import Derived.Test.YtakgacahaennoaaDoorE5
namespace Go.Proofs.YtakgacahaennoaaDoor
open Go.RowKit Go.Arb

def sq1 : Code → Code | .seq a _ => a | c => c
def sq2 : Code → Code | .seq _ b => b | c => c
/-- One row has been laid anew. -/
structure MidI (w W : World) (q : Nat) (v' va : Value) (I A : List Int) : Prop where
  rf : RfIn W q v' va I A
  keep : Keep [q] w W
  ge : ∀ x ∈ own v', w.heap.size ≤ x
structure MidA (w W : World) (q : Nat) (vi v' : Value) (I A : List Int) : Prop where
  rf : RfIn W q vi v' I A
  keep : Keep [q] w W
  ge : ∀ x ∈ own v', w.heap.size ≤ x
end Go.Proofs.YtakgacahaennoaaDoor
