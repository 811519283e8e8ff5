/-
  No cell of these rows narrows 'for every input' (looked for: loops, veiled, ifaces, maps, wideKeys, modest, calm, conditions, laid).
  DERIVED. THE GIVEN ROWS OF THIS SEAT. 11 by the template 'for every input the law returns true; each argument reads behind the call as it read before'; 0 by the template 'total and deterministic' (their statements: YtbcibdofcjehcaaTotals.lean).
  GIVEN WITH THE SEED: the statements are not yours to turn. If you find one false, say at which input.
  Laid BY PROGRAM, IN A SANDBOX (cutbox-rows.mjs): the forced cells as the released guide's own fill.sh prints them over the translation 55d41f8f83a61a05… (all of the seat's roots in one cut). By AI agents, Wed Nov 11 2026. No macro, syntax, notation, axiom, sorry.
-/
import Derived.Test.YtbcibdofcjehcaaChecked
import GoSem.Claim
import GoSem.ClaimJoined
import GoSem.ClaimMapViews
import Derived.JoinedTies
import Derived.KernelRfl
namespace Go.Proofs.Ytbcibdofcjehcaa
/- THE CELL 'sum', in the pinned program and in every row, IS THE sha256 OF THE DUMP (.gsa) THAT YtbcibdofcjehcaaProg.lean LOADS. Nothing in Lean hashes anything: it is a label: what it is worth is what the hold of that sum in a sandbox is worth. -/
noncomputable def Try.pinned : Pinned := { name := "ytbcibdofcjehcaa", sum := "55d41f8f83a61a05a1b95d365b8e37d6c30fe5a05036e17c01be3510bcbac379", checked := Try.checked }
namespace Rows
def none {H : Type} : Left H := { results := [], args := [] }

/-- 'arboretumlaw05.PlainPlays': WHATEVER THE INPUT: true; the input reads as it did. -/
def plainPlaysSpec : ChangeSpec := { name := "plainPlays", fn := fun _ => fun
  | [d1, d2] => { results := [.lit (.bool true)], args := [d1, d2] }
  | _ => none }
def plainPlaysRow : OpenClaim := { program := "ytbcibdofcjehcaa", sum := "55d41f8f83a61a05a1b95d365b8e37d6c30fe5a05036e17c01be3510bcbac379", func := "arboretum/arboretumlaw05.PlainPlays", spec := "plainPlays", apart := false }
def PlainPlaysSaid : Prop := plainPlaysRow.holds Try.pinned (OpenSpec.ofChange plainPlaysSpec)

/-- ITS FALSE NEIGHBOUR: 'it returns false'. Refute it at one input. -/
def plainPlaysWrong : ChangeSpec := { name := "plainPlays", fn := fun _ => fun
  | [d1, d2] => { results := [.lit (.bool false)], args := [d1, d2] }
  | _ => none }
def PlainPlaysWrongFalsely : Prop := plainPlaysRow.holds Try.pinned (OpenSpec.ofChange plainPlaysWrong)

/-- 'arboretumlaw05.PlainRoots': WHATEVER THE INPUT: true; the input reads as it did. -/
def plainRootsSpec : ChangeSpec := { name := "plainRoots", fn := fun _ => fun
  | [d1, d2, d3] => { results := [.lit (.bool true)], args := [d1, d2, d3] }
  | _ => none }
def plainRootsRow : OpenClaim := { program := "ytbcibdofcjehcaa", sum := "55d41f8f83a61a05a1b95d365b8e37d6c30fe5a05036e17c01be3510bcbac379", func := "arboretum/arboretumlaw05.PlainRoots", spec := "plainRoots", apart := false }
def PlainRootsSaid : Prop := plainRootsRow.holds Try.pinned (OpenSpec.ofChange plainRootsSpec)

/-- ITS FALSE NEIGHBOUR: 'it returns false'. Refute it at one input. -/
def plainRootsWrong : ChangeSpec := { name := "plainRoots", fn := fun _ => fun
  | [d1, d2, d3] => { results := [.lit (.bool false)], args := [d1, d2, d3] }
  | _ => none }
def PlainRootsWrongFalsely : Prop := plainRootsRow.holds Try.pinned (OpenSpec.ofChange plainRootsWrong)

/-- 'arboretumlaw05.PlainCuts': WHATEVER THE INPUT: true; the input reads as it did. -/
def plainCutsSpec : ChangeSpec := { name := "plainCuts", fn := fun _ => fun
  | [d1, d2, d3] => { results := [.lit (.bool true)], args := [d1, d2, d3] }
  | _ => none }
def plainCutsRow : OpenClaim := { program := "ytbcibdofcjehcaa", sum := "55d41f8f83a61a05a1b95d365b8e37d6c30fe5a05036e17c01be3510bcbac379", func := "arboretum/arboretumlaw05.PlainCuts", spec := "plainCuts", apart := false }
def PlainCutsSaid : Prop := plainCutsRow.holds Try.pinned (OpenSpec.ofChange plainCutsSpec)

/-- ITS FALSE NEIGHBOUR: 'it returns false'. Refute it at one input. -/
def plainCutsWrong : ChangeSpec := { name := "plainCuts", fn := fun _ => fun
  | [d1, d2, d3] => { results := [.lit (.bool false)], args := [d1, d2, d3] }
  | _ => none }
def PlainCutsWrongFalsely : Prop := plainCutsRow.holds Try.pinned (OpenSpec.ofChange plainCutsWrong)

/-- 'arboretumlaw05.PlainWays': WHATEVER THE INPUT: true; the input reads as it did. -/
def plainWaysSpec : ChangeSpec := { name := "plainWays", fn := fun _ => fun
  | [d1, d2, d3] => { results := [.lit (.bool true)], args := [d1, d2, d3] }
  | _ => none }
def plainWaysRow : OpenClaim := { program := "ytbcibdofcjehcaa", sum := "55d41f8f83a61a05a1b95d365b8e37d6c30fe5a05036e17c01be3510bcbac379", func := "arboretum/arboretumlaw05.PlainWays", spec := "plainWays", apart := false }
def PlainWaysSaid : Prop := plainWaysRow.holds Try.pinned (OpenSpec.ofChange plainWaysSpec)

/-- ITS FALSE NEIGHBOUR: 'it returns false'. Refute it at one input. -/
def plainWaysWrong : ChangeSpec := { name := "plainWays", fn := fun _ => fun
  | [d1, d2, d3] => { results := [.lit (.bool false)], args := [d1, d2, d3] }
  | _ => none }
def PlainWaysWrongFalsely : Prop := plainWaysRow.holds Try.pinned (OpenSpec.ofChange plainWaysWrong)

/-- 'arboretumlaw05.PlainSubs': WHATEVER THE INPUT: true; the input reads as it did. -/
def plainSubsSpec : ChangeSpec := { name := "plainSubs", fn := fun _ => fun
  | [d1, d2] => { results := [.lit (.bool true)], args := [d1, d2] }
  | _ => none }
def plainSubsRow : OpenClaim := { program := "ytbcibdofcjehcaa", sum := "55d41f8f83a61a05a1b95d365b8e37d6c30fe5a05036e17c01be3510bcbac379", func := "arboretum/arboretumlaw05.PlainSubs", spec := "plainSubs", apart := false }
def PlainSubsSaid : Prop := plainSubsRow.holds Try.pinned (OpenSpec.ofChange plainSubsSpec)

/-- ITS FALSE NEIGHBOUR: 'it returns false'. Refute it at one input. -/
def plainSubsWrong : ChangeSpec := { name := "plainSubs", fn := fun _ => fun
  | [d1, d2] => { results := [.lit (.bool false)], args := [d1, d2] }
  | _ => none }
def PlainSubsWrongFalsely : Prop := plainSubsRow.holds Try.pinned (OpenSpec.ofChange plainSubsWrong)

/-- 'arboretumlaw05.PlainBounds': WHATEVER THE INPUT: true; the input reads as it did. -/
def plainBoundsSpec : ChangeSpec := { name := "plainBounds", fn := fun _ => fun
  | [d1, d2] => { results := [.lit (.bool true)], args := [d1, d2] }
  | _ => none }
def plainBoundsRow : OpenClaim := { program := "ytbcibdofcjehcaa", sum := "55d41f8f83a61a05a1b95d365b8e37d6c30fe5a05036e17c01be3510bcbac379", func := "arboretum/arboretumlaw05.PlainBounds", spec := "plainBounds", apart := false }
def PlainBoundsSaid : Prop := plainBoundsRow.holds Try.pinned (OpenSpec.ofChange plainBoundsSpec)

/-- ITS FALSE NEIGHBOUR: 'it returns false'. Refute it at one input. -/
def plainBoundsWrong : ChangeSpec := { name := "plainBounds", fn := fun _ => fun
  | [d1, d2] => { results := [.lit (.bool false)], args := [d1, d2] }
  | _ => none }
def PlainBoundsWrongFalsely : Prop := plainBoundsRow.holds Try.pinned (OpenSpec.ofChange plainBoundsWrong)

/-- 'arboretumlaw05.PlainLines': WHATEVER THE INPUT: true; the input reads as it did. -/
def plainLinesSpec : ChangeSpec := { name := "plainLines", fn := fun _ => fun
  | [d1, d2] => { results := [.lit (.bool true)], args := [d1, d2] }
  | _ => none }
def plainLinesRow : OpenClaim := { program := "ytbcibdofcjehcaa", sum := "55d41f8f83a61a05a1b95d365b8e37d6c30fe5a05036e17c01be3510bcbac379", func := "arboretum/arboretumlaw05.PlainLines", spec := "plainLines", apart := false }
def PlainLinesSaid : Prop := plainLinesRow.holds Try.pinned (OpenSpec.ofChange plainLinesSpec)

/-- ITS FALSE NEIGHBOUR: 'it returns false'. Refute it at one input. -/
def plainLinesWrong : ChangeSpec := { name := "plainLines", fn := fun _ => fun
  | [d1, d2] => { results := [.lit (.bool false)], args := [d1, d2] }
  | _ => none }
def PlainLinesWrongFalsely : Prop := plainLinesRow.holds Try.pinned (OpenSpec.ofChange plainLinesWrong)

/-- 'arboretumlaw05.PlainStars': WHATEVER THE INPUT: true; the input reads as it did. -/
def plainStarsSpec : ChangeSpec := { name := "plainStars", fn := fun _ => fun
  | [d1, d2] => { results := [.lit (.bool true)], args := [d1, d2] }
  | _ => none }
def plainStarsRow : OpenClaim := { program := "ytbcibdofcjehcaa", sum := "55d41f8f83a61a05a1b95d365b8e37d6c30fe5a05036e17c01be3510bcbac379", func := "arboretum/arboretumlaw05.PlainStars", spec := "plainStars", apart := false }
def PlainStarsSaid : Prop := plainStarsRow.holds Try.pinned (OpenSpec.ofChange plainStarsSpec)

/-- ITS FALSE NEIGHBOUR: 'it returns false'. Refute it at one input. -/
def plainStarsWrong : ChangeSpec := { name := "plainStars", fn := fun _ => fun
  | [d1, d2] => { results := [.lit (.bool false)], args := [d1, d2] }
  | _ => none }
def PlainStarsWrongFalsely : Prop := plainStarsRow.holds Try.pinned (OpenSpec.ofChange plainStarsWrong)

/-- 'arboretumlaw05.PlainMoves': WHATEVER THE INPUT: true; the input reads as it did. -/
def plainMovesSpec : ChangeSpec := { name := "plainMoves", fn := fun _ => fun
  | [d1, d2, d3] => { results := [.lit (.bool true)], args := [d1, d2, d3] }
  | _ => none }
def plainMovesRow : OpenClaim := { program := "ytbcibdofcjehcaa", sum := "55d41f8f83a61a05a1b95d365b8e37d6c30fe5a05036e17c01be3510bcbac379", func := "arboretum/arboretumlaw05.PlainMoves", spec := "plainMoves", apart := false }
def PlainMovesSaid : Prop := plainMovesRow.holds Try.pinned (OpenSpec.ofChange plainMovesSpec)

/-- ITS FALSE NEIGHBOUR: 'it returns false'. Refute it at one input. -/
def plainMovesWrong : ChangeSpec := { name := "plainMoves", fn := fun _ => fun
  | [d1, d2, d3] => { results := [.lit (.bool false)], args := [d1, d2, d3] }
  | _ => none }
def PlainMovesWrongFalsely : Prop := plainMovesRow.holds Try.pinned (OpenSpec.ofChange plainMovesWrong)

/-- 'arboretumlaw05.PlainAlone': WHATEVER THE INPUT: true; the input reads as it did. -/
def plainAloneSpec : ChangeSpec := { name := "plainAlone", fn := fun _ => fun
  | [d1, d2] => { results := [.lit (.bool true)], args := [d1, d2] }
  | _ => none }
def plainAloneRow : OpenClaim := { program := "ytbcibdofcjehcaa", sum := "55d41f8f83a61a05a1b95d365b8e37d6c30fe5a05036e17c01be3510bcbac379", func := "arboretum/arboretumlaw05.PlainAlone", spec := "plainAlone", apart := false }
def PlainAloneSaid : Prop := plainAloneRow.holds Try.pinned (OpenSpec.ofChange plainAloneSpec)

/-- ITS FALSE NEIGHBOUR: 'it returns false'. Refute it at one input. -/
def plainAloneWrong : ChangeSpec := { name := "plainAlone", fn := fun _ => fun
  | [d1, d2] => { results := [.lit (.bool false)], args := [d1, d2] }
  | _ => none }
def PlainAloneWrongFalsely : Prop := plainAloneRow.holds Try.pinned (OpenSpec.ofChange plainAloneWrong)

/-- 'arboretumlaw05.PlainOrders': WHATEVER THE INPUT: true; the input reads as it did. -/
def plainOrdersSpec : ChangeSpec := { name := "plainOrders", fn := fun _ => fun
  | [d1, d2, d3] => { results := [.lit (.bool true)], args := [d1, d2, d3] }
  | _ => none }
def plainOrdersRow : OpenClaim := { program := "ytbcibdofcjehcaa", sum := "55d41f8f83a61a05a1b95d365b8e37d6c30fe5a05036e17c01be3510bcbac379", func := "arboretum/arboretumlaw05.PlainOrders", spec := "plainOrders", apart := false }
def PlainOrdersSaid : Prop := plainOrdersRow.holds Try.pinned (OpenSpec.ofChange plainOrdersSpec)

/-- ITS FALSE NEIGHBOUR: 'it returns false'. Refute it at one input. -/
def plainOrdersWrong : ChangeSpec := { name := "plainOrders", fn := fun _ => fun
  | [d1, d2, d3] => { results := [.lit (.bool false)], args := [d1, d2, d3] }
  | _ => none }
def PlainOrdersWrongFalsely : Prop := plainOrdersRow.holds Try.pinned (OpenSpec.ofChange plainOrdersWrong)

/- THE SECOND FORM. 'bulk': how many values and letters a reading holds, each counted each time it is reached (what is shared counts as often as it is met; a slice's spare places count too). A statement '..UptoSaid' is the law's where the arguments, and the package variables that the reading takes, are together of bulk at most 1048576: NARROWER than '..Said'. Prove '..Said' where nothing that the law and all that it calls make is longer than what came in: it says more and counts as full. Else prove '..UptoSaid'. A law counts once. -/
mutual
def uptoBulk {H : Type} : DataW H → Nat
  | .lit (.string bytes) => bytes.length + 1
  | .lit _ => 1
  | .nil => 1
  | .ptr d => uptoBulk d + 1
  | .slice elems spare => uptoBulkAll elems + uptoBulkAll spare + 1
  | .agg parts => uptoBulkAll parts + 1
  | .iface _ d => uptoBulk d + 1
  | .map entries => uptoBulkEntries entries + 1
  | .held _ => 1
def uptoBulkAll {H : Type} : List (DataW H) → Nat
  | [] => 0
  | d :: r => uptoBulk d + uptoBulkAll r
def uptoBulkEntries {H : Type} : List (Lit × DataW H) → Nat
  | [] => 0
  | x :: r => uptoBulkEntry x + uptoBulkEntries r
def uptoBulkEntry {H : Type} : Lit × DataW H → Nat
  | (.string bytes, d) => bytes.length + uptoBulk d + 1
  | (_, d) => uptoBulk d + 1
 end
def uptoSmall : (H : Type) → List (DataW H) → Bool := fun _ ds => decide (uptoBulkAll ds ≤ 1048576)
def OpenSpec.upto (s : _root_.Go.ChangeSpec) : _root_.Go.OpenSpec := { _root_.Go.OpenSpec.ofChange s with cond := some uptoSmall }

/-- 'arboretumlaw05.PlainPlays', WHERE WHAT IT READS IS OF BULK AT MOST 1048576: true; the input reads as it did. -/
def plainPlaysUptoRow : OpenClaim := { program := "ytbcibdofcjehcaa", sum := "55d41f8f83a61a05a1b95d365b8e37d6c30fe5a05036e17c01be3510bcbac379", func := "arboretum/arboretumlaw05.PlainPlays", spec := "plainPlays", apart := false, narrowed := true }
def PlainPlaysUptoSaid : Prop := plainPlaysUptoRow.holds Try.pinned (OpenSpec.upto plainPlaysSpec)

/-- 'arboretumlaw05.PlainRoots', WHERE WHAT IT READS IS OF BULK AT MOST 1048576: true; the input reads as it did. -/
def plainRootsUptoRow : OpenClaim := { program := "ytbcibdofcjehcaa", sum := "55d41f8f83a61a05a1b95d365b8e37d6c30fe5a05036e17c01be3510bcbac379", func := "arboretum/arboretumlaw05.PlainRoots", spec := "plainRoots", apart := false, narrowed := true }
def PlainRootsUptoSaid : Prop := plainRootsUptoRow.holds Try.pinned (OpenSpec.upto plainRootsSpec)

/-- 'arboretumlaw05.PlainCuts', WHERE WHAT IT READS IS OF BULK AT MOST 1048576: true; the input reads as it did. -/
def plainCutsUptoRow : OpenClaim := { program := "ytbcibdofcjehcaa", sum := "55d41f8f83a61a05a1b95d365b8e37d6c30fe5a05036e17c01be3510bcbac379", func := "arboretum/arboretumlaw05.PlainCuts", spec := "plainCuts", apart := false, narrowed := true }
def PlainCutsUptoSaid : Prop := plainCutsUptoRow.holds Try.pinned (OpenSpec.upto plainCutsSpec)

/-- 'arboretumlaw05.PlainWays', WHERE WHAT IT READS IS OF BULK AT MOST 1048576: true; the input reads as it did. -/
def plainWaysUptoRow : OpenClaim := { program := "ytbcibdofcjehcaa", sum := "55d41f8f83a61a05a1b95d365b8e37d6c30fe5a05036e17c01be3510bcbac379", func := "arboretum/arboretumlaw05.PlainWays", spec := "plainWays", apart := false, narrowed := true }
def PlainWaysUptoSaid : Prop := plainWaysUptoRow.holds Try.pinned (OpenSpec.upto plainWaysSpec)

/-- 'arboretumlaw05.PlainSubs', WHERE WHAT IT READS IS OF BULK AT MOST 1048576: true; the input reads as it did. -/
def plainSubsUptoRow : OpenClaim := { program := "ytbcibdofcjehcaa", sum := "55d41f8f83a61a05a1b95d365b8e37d6c30fe5a05036e17c01be3510bcbac379", func := "arboretum/arboretumlaw05.PlainSubs", spec := "plainSubs", apart := false, narrowed := true }
def PlainSubsUptoSaid : Prop := plainSubsUptoRow.holds Try.pinned (OpenSpec.upto plainSubsSpec)

/-- 'arboretumlaw05.PlainBounds', WHERE WHAT IT READS IS OF BULK AT MOST 1048576: true; the input reads as it did. -/
def plainBoundsUptoRow : OpenClaim := { program := "ytbcibdofcjehcaa", sum := "55d41f8f83a61a05a1b95d365b8e37d6c30fe5a05036e17c01be3510bcbac379", func := "arboretum/arboretumlaw05.PlainBounds", spec := "plainBounds", apart := false, narrowed := true }
def PlainBoundsUptoSaid : Prop := plainBoundsUptoRow.holds Try.pinned (OpenSpec.upto plainBoundsSpec)

/-- 'arboretumlaw05.PlainLines', WHERE WHAT IT READS IS OF BULK AT MOST 1048576: true; the input reads as it did. -/
def plainLinesUptoRow : OpenClaim := { program := "ytbcibdofcjehcaa", sum := "55d41f8f83a61a05a1b95d365b8e37d6c30fe5a05036e17c01be3510bcbac379", func := "arboretum/arboretumlaw05.PlainLines", spec := "plainLines", apart := false, narrowed := true }
def PlainLinesUptoSaid : Prop := plainLinesUptoRow.holds Try.pinned (OpenSpec.upto plainLinesSpec)

/-- 'arboretumlaw05.PlainStars', WHERE WHAT IT READS IS OF BULK AT MOST 1048576: true; the input reads as it did. -/
def plainStarsUptoRow : OpenClaim := { program := "ytbcibdofcjehcaa", sum := "55d41f8f83a61a05a1b95d365b8e37d6c30fe5a05036e17c01be3510bcbac379", func := "arboretum/arboretumlaw05.PlainStars", spec := "plainStars", apart := false, narrowed := true }
def PlainStarsUptoSaid : Prop := plainStarsUptoRow.holds Try.pinned (OpenSpec.upto plainStarsSpec)

/-- 'arboretumlaw05.PlainMoves', WHERE WHAT IT READS IS OF BULK AT MOST 1048576: true; the input reads as it did. -/
def plainMovesUptoRow : OpenClaim := { program := "ytbcibdofcjehcaa", sum := "55d41f8f83a61a05a1b95d365b8e37d6c30fe5a05036e17c01be3510bcbac379", func := "arboretum/arboretumlaw05.PlainMoves", spec := "plainMoves", apart := false, narrowed := true }
def PlainMovesUptoSaid : Prop := plainMovesUptoRow.holds Try.pinned (OpenSpec.upto plainMovesSpec)

/-- 'arboretumlaw05.PlainAlone', WHERE WHAT IT READS IS OF BULK AT MOST 1048576: true; the input reads as it did. -/
def plainAloneUptoRow : OpenClaim := { program := "ytbcibdofcjehcaa", sum := "55d41f8f83a61a05a1b95d365b8e37d6c30fe5a05036e17c01be3510bcbac379", func := "arboretum/arboretumlaw05.PlainAlone", spec := "plainAlone", apart := false, narrowed := true }
def PlainAloneUptoSaid : Prop := plainAloneUptoRow.holds Try.pinned (OpenSpec.upto plainAloneSpec)

/-- 'arboretumlaw05.PlainOrders', WHERE WHAT IT READS IS OF BULK AT MOST 1048576: true; the input reads as it did. -/
def plainOrdersUptoRow : OpenClaim := { program := "ytbcibdofcjehcaa", sum := "55d41f8f83a61a05a1b95d365b8e37d6c30fe5a05036e17c01be3510bcbac379", func := "arboretum/arboretumlaw05.PlainOrders", spec := "plainOrders", apart := false, narrowed := true }
def PlainOrdersUptoSaid : Prop := plainOrdersUptoRow.holds Try.pinned (OpenSpec.upto plainOrdersSpec)

end Rows
end Go.Proofs.Ytbcibdofcjehcaa
