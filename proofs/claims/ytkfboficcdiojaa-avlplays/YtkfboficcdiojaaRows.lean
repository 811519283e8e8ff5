/-
  No cell of these rows narrows 'for every input' (looked for: loops, veiled, ifaces, maps, wideKeys, modest, calm, conditions, laid).
  DERIVED. THE GIVEN ROWS OF THIS SEAT. 8 by the template 'for every input the law returns true; each argument reads behind the call as it read before'; 0 by the template 'total and deterministic' (their statements: YtkfboficcdiojaaTotals.lean).
  GIVEN WITH THE SEED: the statements are not yours to turn. If you find one false, say at which input.
  Laid BY PROGRAM, IN A SANDBOX (cutbox-rows.mjs): the forced cells as the released guide's own fill.sh prints them over the translation e782a7eea7594e96… (all of the seat's roots in one cut). By AI agents, Wed Nov 11 2026. No macro, syntax, notation, axiom, sorry.
-/
import Derived.Test.YtkfboficcdiojaaChecked
import GoSem.Claim
import GoSem.ClaimJoined
import GoSem.ClaimMapViews
import Derived.JoinedTies
import Derived.KernelRfl
namespace Go.Proofs.Ytkfboficcdiojaa
/- THE CELL 'sum', in the pinned program and in every row, IS THE sha256 OF THE DUMP (.gsa) THAT YtkfboficcdiojaaProg.lean LOADS. Nothing in Lean hashes anything: it is a label: what it is worth is what the hold of that sum in a sandbox is worth. -/
noncomputable def Try.pinned : Pinned := { name := "ytkfboficcdiojaa", sum := "e782a7eea7594e9687762b070aff4c1a9eb3587f12da9347bb4d835571c9af87", checked := Try.checked }
namespace Rows
def none {H : Type} : Left H := { results := [], args := [] }

/-- 'arboretumlaw06.AvlPlays': WHATEVER THE INPUT: true; the input reads as it did. -/
def avlPlaysSpec : ChangeSpec := { name := "avlPlays", fn := fun _ => fun
  | [d1, d2] => { results := [.lit (.bool true)], args := [d1, d2] }
  | _ => none }
def avlPlaysRow : OpenClaim := { program := "ytkfboficcdiojaa", sum := "e782a7eea7594e9687762b070aff4c1a9eb3587f12da9347bb4d835571c9af87", func := "arboretum/arboretumlaw06.AvlPlays", spec := "avlPlays", recurses := true, apart := false }
def AvlPlaysSaid : Prop := avlPlaysRow.holds Try.pinned (OpenSpec.ofChange avlPlaysSpec)

/-- ITS FALSE NEIGHBOUR: 'it returns false'. Refute it at one input. -/
def avlPlaysWrong : ChangeSpec := { name := "avlPlays", fn := fun _ => fun
  | [d1, d2] => { results := [.lit (.bool false)], args := [d1, d2] }
  | _ => none }
def AvlPlaysWrongFalsely : Prop := avlPlaysRow.holds Try.pinned (OpenSpec.ofChange avlPlaysWrong)

/-- 'arboretumlaw06.AvlOrder': WHATEVER THE INPUT: true; the input reads as it did. -/
def avlOrderSpec : ChangeSpec := { name := "avlOrder", fn := fun _ => fun
  | [d1, d2] => { results := [.lit (.bool true)], args := [d1, d2] }
  | _ => none }
def avlOrderRow : OpenClaim := { program := "ytkfboficcdiojaa", sum := "e782a7eea7594e9687762b070aff4c1a9eb3587f12da9347bb4d835571c9af87", func := "arboretum/arboretumlaw06.AvlOrder", spec := "avlOrder", recurses := true, apart := false }
def AvlOrderSaid : Prop := avlOrderRow.holds Try.pinned (OpenSpec.ofChange avlOrderSpec)

/-- ITS FALSE NEIGHBOUR: 'it returns false'. Refute it at one input. -/
def avlOrderWrong : ChangeSpec := { name := "avlOrder", fn := fun _ => fun
  | [d1, d2] => { results := [.lit (.bool false)], args := [d1, d2] }
  | _ => none }
def AvlOrderWrongFalsely : Prop := avlOrderRow.holds Try.pinned (OpenSpec.ofChange avlOrderWrong)

/-- 'arboretumlaw06.AvlSums': WHATEVER THE INPUT: true; the input reads as it did. -/
def avlSumsSpec : ChangeSpec := { name := "avlSums", fn := fun _ => fun
  | [d1, d2, d3] => { results := [.lit (.bool true)], args := [d1, d2, d3] }
  | _ => none }
def avlSumsRow : OpenClaim := { program := "ytkfboficcdiojaa", sum := "e782a7eea7594e9687762b070aff4c1a9eb3587f12da9347bb4d835571c9af87", func := "arboretum/arboretumlaw06.AvlSums", spec := "avlSums", recurses := true, apart := false }
def AvlSumsSaid : Prop := avlSumsRow.holds Try.pinned (OpenSpec.ofChange avlSumsSpec)

/-- ITS FALSE NEIGHBOUR: 'it returns false'. Refute it at one input. -/
def avlSumsWrong : ChangeSpec := { name := "avlSums", fn := fun _ => fun
  | [d1, d2, d3] => { results := [.lit (.bool false)], args := [d1, d2, d3] }
  | _ => none }
def AvlSumsWrongFalsely : Prop := avlSumsRow.holds Try.pinned (OpenSpec.ofChange avlSumsWrong)

/-- 'arboretumlaw06.AvlMany': WHATEVER THE INPUT: true; the input reads as it did. -/
def avlManySpec : ChangeSpec := { name := "avlMany", fn := fun _ => fun
  | [d1, d2] => { results := [.lit (.bool true)], args := [d1, d2] }
  | _ => none }
def avlManyRow : OpenClaim := { program := "ytkfboficcdiojaa", sum := "e782a7eea7594e9687762b070aff4c1a9eb3587f12da9347bb4d835571c9af87", func := "arboretum/arboretumlaw06.AvlMany", spec := "avlMany", recurses := true, apart := false }
def AvlManySaid : Prop := avlManyRow.holds Try.pinned (OpenSpec.ofChange avlManySpec)

/-- ITS FALSE NEIGHBOUR: 'it returns false'. Refute it at one input. -/
def avlManyWrong : ChangeSpec := { name := "avlMany", fn := fun _ => fun
  | [d1, d2] => { results := [.lit (.bool false)], args := [d1, d2] }
  | _ => none }
def AvlManyWrongFalsely : Prop := avlManyRow.holds Try.pinned (OpenSpec.ofChange avlManyWrong)

/-- 'arboretumlaw06.AvlNil': WHATEVER THE INPUT: true; the input reads as it did. -/
def avlNilSpec : ChangeSpec := { name := "avlNil", fn := fun _ => fun
  | [d1, d2] => { results := [.lit (.bool true)], args := [d1, d2] }
  | _ => none }
def avlNilRow : OpenClaim := { program := "ytkfboficcdiojaa", sum := "e782a7eea7594e9687762b070aff4c1a9eb3587f12da9347bb4d835571c9af87", func := "arboretum/arboretumlaw06.AvlNil", spec := "avlNil", recurses := true, apart := false }
def AvlNilSaid : Prop := avlNilRow.holds Try.pinned (OpenSpec.ofChange avlNilSpec)

/-- ITS FALSE NEIGHBOUR: 'it returns false'. Refute it at one input. -/
def avlNilWrong : ChangeSpec := { name := "avlNil", fn := fun _ => fun
  | [d1, d2] => { results := [.lit (.bool false)], args := [d1, d2] }
  | _ => none }
def AvlNilWrongFalsely : Prop := avlNilRow.holds Try.pinned (OpenSpec.ofChange avlNilWrong)

/-- 'arboretumlaw06.AvlParts': WHATEVER THE INPUT: true; the input reads as it did. -/
def avlPartsSpec : ChangeSpec := { name := "avlParts", fn := fun _ => fun
  | [d] => { results := [.lit (.bool true)], args := [d] }
  | _ => none }
def avlPartsRow : OpenClaim := { program := "ytkfboficcdiojaa", sum := "e782a7eea7594e9687762b070aff4c1a9eb3587f12da9347bb4d835571c9af87", func := "arboretum/arboretumlaw06.AvlParts", spec := "avlParts", recurses := true, apart := false }
def AvlPartsSaid : Prop := avlPartsRow.holds Try.pinned (OpenSpec.ofChange avlPartsSpec)

/-- ITS FALSE NEIGHBOUR: 'it returns false'. Refute it at one input. -/
def avlPartsWrong : ChangeSpec := { name := "avlParts", fn := fun _ => fun
  | [d] => { results := [.lit (.bool false)], args := [d] }
  | _ => none }
def AvlPartsWrongFalsely : Prop := avlPartsRow.holds Try.pinned (OpenSpec.ofChange avlPartsWrong)

/-- 'arboretumlaw06.AvlRaises': WHATEVER THE INPUT: true; the input reads as it did. -/
def avlRaisesSpec : ChangeSpec := { name := "avlRaises", fn := fun _ => fun
  | [d1, d2, d3] => { results := [.lit (.bool true)], args := [d1, d2, d3] }
  | _ => none }
def avlRaisesRow : OpenClaim := { program := "ytkfboficcdiojaa", sum := "e782a7eea7594e9687762b070aff4c1a9eb3587f12da9347bb4d835571c9af87", func := "arboretum/arboretumlaw06.AvlRaises", spec := "avlRaises", recurses := true, apart := false }
def AvlRaisesSaid : Prop := avlRaisesRow.holds Try.pinned (OpenSpec.ofChange avlRaisesSpec)

/-- ITS FALSE NEIGHBOUR: 'it returns false'. Refute it at one input. -/
def avlRaisesWrong : ChangeSpec := { name := "avlRaises", fn := fun _ => fun
  | [d1, d2, d3] => { results := [.lit (.bool false)], args := [d1, d2, d3] }
  | _ => none }
def AvlRaisesWrongFalsely : Prop := avlRaisesRow.holds Try.pinned (OpenSpec.ofChange avlRaisesWrong)

/-- 'arboretumlaw06.AvlJoins': WHATEVER THE INPUT: true; the input reads as it did. -/
def avlJoinsSpec : ChangeSpec := { name := "avlJoins", fn := fun _ => fun
  | [d1, d2, d3] => { results := [.lit (.bool true)], args := [d1, d2, d3] }
  | _ => none }
def avlJoinsRow : OpenClaim := { program := "ytkfboficcdiojaa", sum := "e782a7eea7594e9687762b070aff4c1a9eb3587f12da9347bb4d835571c9af87", func := "arboretum/arboretumlaw06.AvlJoins", spec := "avlJoins", recurses := true, apart := false }
def AvlJoinsSaid : Prop := avlJoinsRow.holds Try.pinned (OpenSpec.ofChange avlJoinsSpec)

/-- ITS FALSE NEIGHBOUR: 'it returns false'. Refute it at one input. -/
def avlJoinsWrong : ChangeSpec := { name := "avlJoins", fn := fun _ => fun
  | [d1, d2, d3] => { results := [.lit (.bool false)], args := [d1, d2, d3] }
  | _ => none }
def AvlJoinsWrongFalsely : Prop := avlJoinsRow.holds Try.pinned (OpenSpec.ofChange avlJoinsWrong)

/- THE SECOND FORM. 'bulk': how many values and letters a reading holds, each counted each time it is reached (what is shared counts as often as it is met; a slice's spare places count too). A statement '..UptoSaid' is the law's where the arguments, and the package variables that the reading takes, are together of bulk at most 1048576: NARROWER than '..Said'. Prove '..Said' where nothing that the law and all that it calls make is longer than what came in: it says more and counts as full. Else prove '..UptoSaid'. A law counts once. -/
mutual
def uptoBulk {H : Type} : DataW H → Nat
  | .lit (.string bytes) => bytes.length + 1
  | .lit _ => 1
  | .nil => 1
  | .ptr d => uptoBulk d + 1
  | .slice elems spare => uptoBulkAll elems + uptoBulkAll spare + 1
  | .agg parts => uptoBulkAll parts + 1
  | .iface _ d => uptoBulk d + 1
  | .map entries => uptoBulkEntries entries + 1
  | .held _ => 1
def uptoBulkAll {H : Type} : List (DataW H) → Nat
  | [] => 0
  | d :: r => uptoBulk d + uptoBulkAll r
def uptoBulkEntries {H : Type} : List (Lit × DataW H) → Nat
  | [] => 0
  | x :: r => uptoBulkEntry x + uptoBulkEntries r
def uptoBulkEntry {H : Type} : Lit × DataW H → Nat
  | (.string bytes, d) => bytes.length + uptoBulk d + 1
  | (_, d) => uptoBulk d + 1
 end
def uptoSmall : (H : Type) → List (DataW H) → Bool := fun _ ds => decide (uptoBulkAll ds ≤ 1048576)
def OpenSpec.upto (s : _root_.Go.ChangeSpec) : _root_.Go.OpenSpec := { _root_.Go.OpenSpec.ofChange s with cond := some uptoSmall }

/-- 'arboretumlaw06.AvlPlays', WHERE WHAT IT READS IS OF BULK AT MOST 1048576: true; the input reads as it did. -/
def avlPlaysUptoRow : OpenClaim := { program := "ytkfboficcdiojaa", sum := "e782a7eea7594e9687762b070aff4c1a9eb3587f12da9347bb4d835571c9af87", func := "arboretum/arboretumlaw06.AvlPlays", spec := "avlPlays", recurses := true, apart := false, narrowed := true }
def AvlPlaysUptoSaid : Prop := avlPlaysUptoRow.holds Try.pinned (OpenSpec.upto avlPlaysSpec)

/-- 'arboretumlaw06.AvlOrder', WHERE WHAT IT READS IS OF BULK AT MOST 1048576: true; the input reads as it did. -/
def avlOrderUptoRow : OpenClaim := { program := "ytkfboficcdiojaa", sum := "e782a7eea7594e9687762b070aff4c1a9eb3587f12da9347bb4d835571c9af87", func := "arboretum/arboretumlaw06.AvlOrder", spec := "avlOrder", recurses := true, apart := false, narrowed := true }
def AvlOrderUptoSaid : Prop := avlOrderUptoRow.holds Try.pinned (OpenSpec.upto avlOrderSpec)

/-- 'arboretumlaw06.AvlSums', WHERE WHAT IT READS IS OF BULK AT MOST 1048576: true; the input reads as it did. -/
def avlSumsUptoRow : OpenClaim := { program := "ytkfboficcdiojaa", sum := "e782a7eea7594e9687762b070aff4c1a9eb3587f12da9347bb4d835571c9af87", func := "arboretum/arboretumlaw06.AvlSums", spec := "avlSums", recurses := true, apart := false, narrowed := true }
def AvlSumsUptoSaid : Prop := avlSumsUptoRow.holds Try.pinned (OpenSpec.upto avlSumsSpec)

/-- 'arboretumlaw06.AvlMany', WHERE WHAT IT READS IS OF BULK AT MOST 1048576: true; the input reads as it did. -/
def avlManyUptoRow : OpenClaim := { program := "ytkfboficcdiojaa", sum := "e782a7eea7594e9687762b070aff4c1a9eb3587f12da9347bb4d835571c9af87", func := "arboretum/arboretumlaw06.AvlMany", spec := "avlMany", recurses := true, apart := false, narrowed := true }
def AvlManyUptoSaid : Prop := avlManyUptoRow.holds Try.pinned (OpenSpec.upto avlManySpec)

/-- 'arboretumlaw06.AvlNil', WHERE WHAT IT READS IS OF BULK AT MOST 1048576: true; the input reads as it did. -/
def avlNilUptoRow : OpenClaim := { program := "ytkfboficcdiojaa", sum := "e782a7eea7594e9687762b070aff4c1a9eb3587f12da9347bb4d835571c9af87", func := "arboretum/arboretumlaw06.AvlNil", spec := "avlNil", recurses := true, apart := false, narrowed := true }
def AvlNilUptoSaid : Prop := avlNilUptoRow.holds Try.pinned (OpenSpec.upto avlNilSpec)

/-- 'arboretumlaw06.AvlParts', WHERE WHAT IT READS IS OF BULK AT MOST 1048576: true; the input reads as it did. -/
def avlPartsUptoRow : OpenClaim := { program := "ytkfboficcdiojaa", sum := "e782a7eea7594e9687762b070aff4c1a9eb3587f12da9347bb4d835571c9af87", func := "arboretum/arboretumlaw06.AvlParts", spec := "avlParts", recurses := true, apart := false, narrowed := true }
def AvlPartsUptoSaid : Prop := avlPartsUptoRow.holds Try.pinned (OpenSpec.upto avlPartsSpec)

/-- 'arboretumlaw06.AvlRaises', WHERE WHAT IT READS IS OF BULK AT MOST 1048576: true; the input reads as it did. -/
def avlRaisesUptoRow : OpenClaim := { program := "ytkfboficcdiojaa", sum := "e782a7eea7594e9687762b070aff4c1a9eb3587f12da9347bb4d835571c9af87", func := "arboretum/arboretumlaw06.AvlRaises", spec := "avlRaises", recurses := true, apart := false, narrowed := true }
def AvlRaisesUptoSaid : Prop := avlRaisesUptoRow.holds Try.pinned (OpenSpec.upto avlRaisesSpec)

/-- 'arboretumlaw06.AvlJoins', WHERE WHAT IT READS IS OF BULK AT MOST 1048576: true; the input reads as it did. -/
def avlJoinsUptoRow : OpenClaim := { program := "ytkfboficcdiojaa", sum := "e782a7eea7594e9687762b070aff4c1a9eb3587f12da9347bb4d835571c9af87", func := "arboretum/arboretumlaw06.AvlJoins", spec := "avlJoins", recurses := true, apart := false, narrowed := true }
def AvlJoinsUptoSaid : Prop := avlJoinsUptoRow.holds Try.pinned (OpenSpec.upto avlJoinsSpec)

end Rows
end Go.Proofs.Ytkfboficcdiojaa
