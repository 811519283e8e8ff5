/-
  No cell of these rows narrows 'for every input' (looked for: loops, veiled, ifaces, maps, wideKeys, modest, calm, conditions, laid).
  DERIVED. THE GIVEN ROWS OF THIS SEAT. 8 by the template 'for every input the law returns true; each argument reads behind the call as it read before'; 0 by the template 'total and deterministic' (their statements: YtbkneonbpcmepaaTotals.lean).
  GIVEN WITH THE SEED: the statements are not yours to turn. If you find one false, say at which input.
  Laid BY PROGRAM, IN A SANDBOX (cutbox-rows.mjs): the forced cells as the released guide's own fill.sh prints them over the translation ff2ed2ea7e3b8a3d… (all of the seat's roots in one cut). By AI agents, Wed Nov 11 2026. No macro, syntax, notation, axiom, sorry.
-/
import Derived.Test.YtbkneonbpcmepaaChecked
import GoSem.Claim
import GoSem.ClaimJoined
import GoSem.ClaimMapViews
import Derived.JoinedTies
import Derived.KernelRfl
namespace Go.Proofs.Ytbkneonbpcmepaa
/- THE CELL 'sum', in the pinned program and in every row, IS THE sha256 OF THE DUMP (.gsa) THAT YtbkneonbpcmepaaProg.lean LOADS. Nothing in Lean hashes anything: it is a label: what it is worth is what the hold of that sum in a sandbox is worth. -/
noncomputable def Try.pinned : Pinned := { name := "ytbkneonbpcmepaa", sum := "ff2ed2ea7e3b8a3d9786a2dea3b7ab189d9d9e222455a12d107ac1ead29d6ba1", checked := Try.checked }
namespace Rows
def none {H : Type} : Left H := { results := [], args := [] }

/-- 'arboretumlaw07.BtreePlays': WHATEVER THE INPUT: true; the input reads as it did. -/
def btreePlaysSpec : ChangeSpec := { name := "btreePlays", fn := fun _ => fun
  | [d1, d2] => { results := [.lit (.bool true)], args := [d1, d2] }
  | _ => none }
def btreePlaysRow : OpenClaim := { program := "ytbkneonbpcmepaa", sum := "ff2ed2ea7e3b8a3d9786a2dea3b7ab189d9d9e222455a12d107ac1ead29d6ba1", func := "arboretum/arboretumlaw07.BtreePlays", spec := "btreePlays", unfollowed := true, recurses := true, apart := false }
def BtreePlaysSaid : Prop := btreePlaysRow.holds Try.pinned (OpenSpec.ofChange btreePlaysSpec)

/-- ITS FALSE NEIGHBOUR: 'it returns false'. Refute it at one input. -/
def btreePlaysWrong : ChangeSpec := { name := "btreePlays", fn := fun _ => fun
  | [d1, d2] => { results := [.lit (.bool false)], args := [d1, d2] }
  | _ => none }
def BtreePlaysWrongFalsely : Prop := btreePlaysRow.holds Try.pinned (OpenSpec.ofChange btreePlaysWrong)

/-- 'arboretumlaw07.BtreeOrder': WHATEVER THE INPUT: true; the input reads as it did. -/
def btreeOrderSpec : ChangeSpec := { name := "btreeOrder", fn := fun _ => fun
  | [d1, d2] => { results := [.lit (.bool true)], args := [d1, d2] }
  | _ => none }
def btreeOrderRow : OpenClaim := { program := "ytbkneonbpcmepaa", sum := "ff2ed2ea7e3b8a3d9786a2dea3b7ab189d9d9e222455a12d107ac1ead29d6ba1", func := "arboretum/arboretumlaw07.BtreeOrder", spec := "btreeOrder", unfollowed := true, recurses := true, apart := false }
def BtreeOrderSaid : Prop := btreeOrderRow.holds Try.pinned (OpenSpec.ofChange btreeOrderSpec)

/-- ITS FALSE NEIGHBOUR: 'it returns false'. Refute it at one input. -/
def btreeOrderWrong : ChangeSpec := { name := "btreeOrder", fn := fun _ => fun
  | [d1, d2] => { results := [.lit (.bool false)], args := [d1, d2] }
  | _ => none }
def BtreeOrderWrongFalsely : Prop := btreeOrderRow.holds Try.pinned (OpenSpec.ofChange btreeOrderWrong)

/-- 'arboretumlaw07.BtreeSums': WHATEVER THE INPUT: true; the input reads as it did. -/
def btreeSumsSpec : ChangeSpec := { name := "btreeSums", fn := fun _ => fun
  | [d1, d2, d3] => { results := [.lit (.bool true)], args := [d1, d2, d3] }
  | _ => none }
def btreeSumsRow : OpenClaim := { program := "ytbkneonbpcmepaa", sum := "ff2ed2ea7e3b8a3d9786a2dea3b7ab189d9d9e222455a12d107ac1ead29d6ba1", func := "arboretum/arboretumlaw07.BtreeSums", spec := "btreeSums", unfollowed := true, recurses := true, apart := false }
def BtreeSumsSaid : Prop := btreeSumsRow.holds Try.pinned (OpenSpec.ofChange btreeSumsSpec)

/-- ITS FALSE NEIGHBOUR: 'it returns false'. Refute it at one input. -/
def btreeSumsWrong : ChangeSpec := { name := "btreeSums", fn := fun _ => fun
  | [d1, d2, d3] => { results := [.lit (.bool false)], args := [d1, d2, d3] }
  | _ => none }
def BtreeSumsWrongFalsely : Prop := btreeSumsRow.holds Try.pinned (OpenSpec.ofChange btreeSumsWrong)

/-- 'arboretumlaw07.BtreeMany': WHATEVER THE INPUT: true; the input reads as it did. -/
def btreeManySpec : ChangeSpec := { name := "btreeMany", fn := fun _ => fun
  | [d1, d2] => { results := [.lit (.bool true)], args := [d1, d2] }
  | _ => none }
def btreeManyRow : OpenClaim := { program := "ytbkneonbpcmepaa", sum := "ff2ed2ea7e3b8a3d9786a2dea3b7ab189d9d9e222455a12d107ac1ead29d6ba1", func := "arboretum/arboretumlaw07.BtreeMany", spec := "btreeMany", unfollowed := true, recurses := true, apart := false }
def BtreeManySaid : Prop := btreeManyRow.holds Try.pinned (OpenSpec.ofChange btreeManySpec)

/-- ITS FALSE NEIGHBOUR: 'it returns false'. Refute it at one input. -/
def btreeManyWrong : ChangeSpec := { name := "btreeMany", fn := fun _ => fun
  | [d1, d2] => { results := [.lit (.bool false)], args := [d1, d2] }
  | _ => none }
def BtreeManyWrongFalsely : Prop := btreeManyRow.holds Try.pinned (OpenSpec.ofChange btreeManyWrong)

/-- 'arboretumlaw07.BtreeNil': WHATEVER THE INPUT: true; the input reads as it did. -/
def btreeNilSpec : ChangeSpec := { name := "btreeNil", fn := fun _ => fun
  | [d1, d2] => { results := [.lit (.bool true)], args := [d1, d2] }
  | _ => none }
def btreeNilRow : OpenClaim := { program := "ytbkneonbpcmepaa", sum := "ff2ed2ea7e3b8a3d9786a2dea3b7ab189d9d9e222455a12d107ac1ead29d6ba1", func := "arboretum/arboretumlaw07.BtreeNil", spec := "btreeNil", unfollowed := true, recurses := true, apart := false }
def BtreeNilSaid : Prop := btreeNilRow.holds Try.pinned (OpenSpec.ofChange btreeNilSpec)

/-- ITS FALSE NEIGHBOUR: 'it returns false'. Refute it at one input. -/
def btreeNilWrong : ChangeSpec := { name := "btreeNil", fn := fun _ => fun
  | [d1, d2] => { results := [.lit (.bool false)], args := [d1, d2] }
  | _ => none }
def BtreeNilWrongFalsely : Prop := btreeNilRow.holds Try.pinned (OpenSpec.ofChange btreeNilWrong)

/-- 'arboretumlaw07.BtreeParts': WHATEVER THE INPUT: true; the input reads as it did. -/
def btreePartsSpec : ChangeSpec := { name := "btreeParts", fn := fun _ => fun
  | [d] => { results := [.lit (.bool true)], args := [d] }
  | _ => none }
def btreePartsRow : OpenClaim := { program := "ytbkneonbpcmepaa", sum := "ff2ed2ea7e3b8a3d9786a2dea3b7ab189d9d9e222455a12d107ac1ead29d6ba1", func := "arboretum/arboretumlaw07.BtreeParts", spec := "btreeParts", unfollowed := true, recurses := true, apart := false }
def BtreePartsSaid : Prop := btreePartsRow.holds Try.pinned (OpenSpec.ofChange btreePartsSpec)

/-- ITS FALSE NEIGHBOUR: 'it returns false'. Refute it at one input. -/
def btreePartsWrong : ChangeSpec := { name := "btreeParts", fn := fun _ => fun
  | [d] => { results := [.lit (.bool false)], args := [d] }
  | _ => none }
def BtreePartsWrongFalsely : Prop := btreePartsRow.holds Try.pinned (OpenSpec.ofChange btreePartsWrong)

/-- 'arboretumlaw07.BtreeRaises': WHATEVER THE INPUT: true; the input reads as it did. -/
def btreeRaisesSpec : ChangeSpec := { name := "btreeRaises", fn := fun _ => fun
  | [d1, d2, d3] => { results := [.lit (.bool true)], args := [d1, d2, d3] }
  | _ => none }
def btreeRaisesRow : OpenClaim := { program := "ytbkneonbpcmepaa", sum := "ff2ed2ea7e3b8a3d9786a2dea3b7ab189d9d9e222455a12d107ac1ead29d6ba1", func := "arboretum/arboretumlaw07.BtreeRaises", spec := "btreeRaises", unfollowed := true, recurses := true, apart := false }
def BtreeRaisesSaid : Prop := btreeRaisesRow.holds Try.pinned (OpenSpec.ofChange btreeRaisesSpec)

/-- ITS FALSE NEIGHBOUR: 'it returns false'. Refute it at one input. -/
def btreeRaisesWrong : ChangeSpec := { name := "btreeRaises", fn := fun _ => fun
  | [d1, d2, d3] => { results := [.lit (.bool false)], args := [d1, d2, d3] }
  | _ => none }
def BtreeRaisesWrongFalsely : Prop := btreeRaisesRow.holds Try.pinned (OpenSpec.ofChange btreeRaisesWrong)

/-- 'arboretumlaw07.BtreeJoins': WHATEVER THE INPUT: true; the input reads as it did. -/
def btreeJoinsSpec : ChangeSpec := { name := "btreeJoins", fn := fun _ => fun
  | [d1, d2, d3] => { results := [.lit (.bool true)], args := [d1, d2, d3] }
  | _ => none }
def btreeJoinsRow : OpenClaim := { program := "ytbkneonbpcmepaa", sum := "ff2ed2ea7e3b8a3d9786a2dea3b7ab189d9d9e222455a12d107ac1ead29d6ba1", func := "arboretum/arboretumlaw07.BtreeJoins", spec := "btreeJoins", unfollowed := true, recurses := true, apart := false }
def BtreeJoinsSaid : Prop := btreeJoinsRow.holds Try.pinned (OpenSpec.ofChange btreeJoinsSpec)

/-- ITS FALSE NEIGHBOUR: 'it returns false'. Refute it at one input. -/
def btreeJoinsWrong : ChangeSpec := { name := "btreeJoins", fn := fun _ => fun
  | [d1, d2, d3] => { results := [.lit (.bool false)], args := [d1, d2, d3] }
  | _ => none }
def BtreeJoinsWrongFalsely : Prop := btreeJoinsRow.holds Try.pinned (OpenSpec.ofChange btreeJoinsWrong)

/- THE SECOND FORM. 'bulk': how many values and letters a reading holds, each counted each time it is reached (what is shared counts as often as it is met; a slice's spare places count too). A statement '..UptoSaid' is the law's where the arguments, and the package variables that the reading takes, are together of bulk at most 1048576: NARROWER than '..Said'. Prove '..Said' where nothing that the law and all that it calls make is longer than what came in: it says more and counts as full. Else prove '..UptoSaid'. A law counts once. -/
mutual
def uptoBulk {H : Type} : DataW H → Nat
  | .lit (.string bytes) => bytes.length + 1
  | .lit _ => 1
  | .nil => 1
  | .ptr d => uptoBulk d + 1
  | .slice elems spare => uptoBulkAll elems + uptoBulkAll spare + 1
  | .agg parts => uptoBulkAll parts + 1
  | .iface _ d => uptoBulk d + 1
  | .map entries => uptoBulkEntries entries + 1
  | .held _ => 1
def uptoBulkAll {H : Type} : List (DataW H) → Nat
  | [] => 0
  | d :: r => uptoBulk d + uptoBulkAll r
def uptoBulkEntries {H : Type} : List (Lit × DataW H) → Nat
  | [] => 0
  | x :: r => uptoBulkEntry x + uptoBulkEntries r
def uptoBulkEntry {H : Type} : Lit × DataW H → Nat
  | (.string bytes, d) => bytes.length + uptoBulk d + 1
  | (_, d) => uptoBulk d + 1
 end
def uptoSmall : (H : Type) → List (DataW H) → Bool := fun _ ds => decide (uptoBulkAll ds ≤ 1048576)
def OpenSpec.upto (s : _root_.Go.ChangeSpec) : _root_.Go.OpenSpec := { _root_.Go.OpenSpec.ofChange s with cond := some uptoSmall }

/-- 'arboretumlaw07.BtreePlays', WHERE WHAT IT READS IS OF BULK AT MOST 1048576: true; the input reads as it did. -/
def btreePlaysUptoRow : OpenClaim := { program := "ytbkneonbpcmepaa", sum := "ff2ed2ea7e3b8a3d9786a2dea3b7ab189d9d9e222455a12d107ac1ead29d6ba1", func := "arboretum/arboretumlaw07.BtreePlays", spec := "btreePlays", unfollowed := true, recurses := true, apart := false, narrowed := true }
def BtreePlaysUptoSaid : Prop := btreePlaysUptoRow.holds Try.pinned (OpenSpec.upto btreePlaysSpec)

/-- 'arboretumlaw07.BtreeOrder', WHERE WHAT IT READS IS OF BULK AT MOST 1048576: true; the input reads as it did. -/
def btreeOrderUptoRow : OpenClaim := { program := "ytbkneonbpcmepaa", sum := "ff2ed2ea7e3b8a3d9786a2dea3b7ab189d9d9e222455a12d107ac1ead29d6ba1", func := "arboretum/arboretumlaw07.BtreeOrder", spec := "btreeOrder", unfollowed := true, recurses := true, apart := false, narrowed := true }
def BtreeOrderUptoSaid : Prop := btreeOrderUptoRow.holds Try.pinned (OpenSpec.upto btreeOrderSpec)

/-- 'arboretumlaw07.BtreeSums', WHERE WHAT IT READS IS OF BULK AT MOST 1048576: true; the input reads as it did. -/
def btreeSumsUptoRow : OpenClaim := { program := "ytbkneonbpcmepaa", sum := "ff2ed2ea7e3b8a3d9786a2dea3b7ab189d9d9e222455a12d107ac1ead29d6ba1", func := "arboretum/arboretumlaw07.BtreeSums", spec := "btreeSums", unfollowed := true, recurses := true, apart := false, narrowed := true }
def BtreeSumsUptoSaid : Prop := btreeSumsUptoRow.holds Try.pinned (OpenSpec.upto btreeSumsSpec)

/-- 'arboretumlaw07.BtreeMany', WHERE WHAT IT READS IS OF BULK AT MOST 1048576: true; the input reads as it did. -/
def btreeManyUptoRow : OpenClaim := { program := "ytbkneonbpcmepaa", sum := "ff2ed2ea7e3b8a3d9786a2dea3b7ab189d9d9e222455a12d107ac1ead29d6ba1", func := "arboretum/arboretumlaw07.BtreeMany", spec := "btreeMany", unfollowed := true, recurses := true, apart := false, narrowed := true }
def BtreeManyUptoSaid : Prop := btreeManyUptoRow.holds Try.pinned (OpenSpec.upto btreeManySpec)

/-- 'arboretumlaw07.BtreeNil', WHERE WHAT IT READS IS OF BULK AT MOST 1048576: true; the input reads as it did. -/
def btreeNilUptoRow : OpenClaim := { program := "ytbkneonbpcmepaa", sum := "ff2ed2ea7e3b8a3d9786a2dea3b7ab189d9d9e222455a12d107ac1ead29d6ba1", func := "arboretum/arboretumlaw07.BtreeNil", spec := "btreeNil", unfollowed := true, recurses := true, apart := false, narrowed := true }
def BtreeNilUptoSaid : Prop := btreeNilUptoRow.holds Try.pinned (OpenSpec.upto btreeNilSpec)

/-- 'arboretumlaw07.BtreeParts', WHERE WHAT IT READS IS OF BULK AT MOST 1048576: true; the input reads as it did. -/
def btreePartsUptoRow : OpenClaim := { program := "ytbkneonbpcmepaa", sum := "ff2ed2ea7e3b8a3d9786a2dea3b7ab189d9d9e222455a12d107ac1ead29d6ba1", func := "arboretum/arboretumlaw07.BtreeParts", spec := "btreeParts", unfollowed := true, recurses := true, apart := false, narrowed := true }
def BtreePartsUptoSaid : Prop := btreePartsUptoRow.holds Try.pinned (OpenSpec.upto btreePartsSpec)

/-- 'arboretumlaw07.BtreeRaises', WHERE WHAT IT READS IS OF BULK AT MOST 1048576: true; the input reads as it did. -/
def btreeRaisesUptoRow : OpenClaim := { program := "ytbkneonbpcmepaa", sum := "ff2ed2ea7e3b8a3d9786a2dea3b7ab189d9d9e222455a12d107ac1ead29d6ba1", func := "arboretum/arboretumlaw07.BtreeRaises", spec := "btreeRaises", unfollowed := true, recurses := true, apart := false, narrowed := true }
def BtreeRaisesUptoSaid : Prop := btreeRaisesUptoRow.holds Try.pinned (OpenSpec.upto btreeRaisesSpec)

/-- 'arboretumlaw07.BtreeJoins', WHERE WHAT IT READS IS OF BULK AT MOST 1048576: true; the input reads as it did. -/
def btreeJoinsUptoRow : OpenClaim := { program := "ytbkneonbpcmepaa", sum := "ff2ed2ea7e3b8a3d9786a2dea3b7ab189d9d9e222455a12d107ac1ead29d6ba1", func := "arboretum/arboretumlaw07.BtreeJoins", spec := "btreeJoins", unfollowed := true, recurses := true, apart := false, narrowed := true }
def BtreeJoinsUptoSaid : Prop := btreeJoinsUptoRow.holds Try.pinned (OpenSpec.upto btreeJoinsSpec)

end Rows
end Go.Proofs.Ytbkneonbpcmepaa
