/-
  No cell of these rows narrows 'for every input' (looked for: loops, veiled, ifaces, maps, wideKeys, modest, calm, conditions, laid).
  DERIVED. THE GIVEN ROWS OF THIS SEAT. 9 by the template 'for every input the law returns true; each argument reads behind the call as it read before'; 0 by the template 'total and deterministic' (their statements: YtombmfphodikjaaTotals.lean).
  GIVEN WITH THE SEED: the statements are not yours to turn. If you find one false, say at which input.
  Laid BY PROGRAM, IN A SANDBOX (cutbox-rows.mjs): the forced cells as the released guide's own fill.sh prints them over the translation d1008b75f941de73… (all of the seat's roots in one cut). By AI agents, Wed Nov 11 2026. No macro, syntax, notation, axiom, sorry.
-/
import Derived.Test.YtombmfphodikjaaChecked
import GoSem.Claim
import GoSem.ClaimJoined
import GoSem.ClaimMapViews
import Derived.JoinedTies
import Derived.KernelRfl
namespace Go.Proofs.Ytombmfphodikjaa
/- THE CELL 'sum', in the pinned program and in every row, IS THE sha256 OF THE DUMP (.gsa) THAT YtombmfphodikjaaProg.lean LOADS. Nothing in Lean hashes anything: it is a label: what it is worth is what the hold of that sum in a sandbox is worth. -/
noncomputable def Try.pinned : Pinned := { name := "ytombmfphodikjaa", sum := "d1008b75f941de7364eb2cba8b5137210cdaace4e485d089e0cb04dbee7cfcbe", checked := Try.checked }
namespace Rows
def none {H : Type} : Left H := { results := [], args := [] }

/-- 'lampblacklaw02.WidthOrders': WHATEVER THE INPUT: true; the input reads as it did. -/
def widthOrdersSpec : ChangeSpec := { name := "widthOrders", fn := fun _ => fun
  | [d1, d2] => { results := [.lit (.bool true)], args := [d1, d2] }
  | _ => none }
def widthOrdersRow : OpenClaim := { program := "ytombmfphodikjaa", sum := "d1008b75f941de7364eb2cba8b5137210cdaace4e485d089e0cb04dbee7cfcbe", func := "lampblack/lampblacklaw02.WidthOrders", spec := "widthOrders", unfollowed := true, recurses := true, plainKeys := false, apart := false }
def WidthOrdersSaid : Prop := widthOrdersRow.holds Try.pinned (OpenSpec.ofChange widthOrdersSpec)

/-- ITS FALSE NEIGHBOUR: 'it returns false'. Refute it at one input. -/
def widthOrdersWrong : ChangeSpec := { name := "widthOrders", fn := fun _ => fun
  | [d1, d2] => { results := [.lit (.bool false)], args := [d1, d2] }
  | _ => none }
def WidthOrdersWrongFalsely : Prop := widthOrdersRow.holds Try.pinned (OpenSpec.ofChange widthOrdersWrong)

/-- 'lampblacklaw02.WidthTrees': WHATEVER THE INPUT: true; the input reads as it did. -/
def widthTreesSpec : ChangeSpec := { name := "widthTrees", fn := fun _ => fun
  | [d1, d2] => { results := [.lit (.bool true)], args := [d1, d2] }
  | _ => none }
def widthTreesRow : OpenClaim := { program := "ytombmfphodikjaa", sum := "d1008b75f941de7364eb2cba8b5137210cdaace4e485d089e0cb04dbee7cfcbe", func := "lampblack/lampblacklaw02.WidthTrees", spec := "widthTrees", unfollowed := true, recurses := true, plainKeys := false, apart := false }
def WidthTreesSaid : Prop := widthTreesRow.holds Try.pinned (OpenSpec.ofChange widthTreesSpec)

/-- ITS FALSE NEIGHBOUR: 'it returns false'. Refute it at one input. -/
def widthTreesWrong : ChangeSpec := { name := "widthTrees", fn := fun _ => fun
  | [d1, d2] => { results := [.lit (.bool false)], args := [d1, d2] }
  | _ => none }
def WidthTreesWrongFalsely : Prop := widthTreesRow.holds Try.pinned (OpenSpec.ofChange widthTreesWrong)

/-- 'lampblacklaw02.WidthNarrows': WHATEVER THE INPUT: true; the input reads as it did. -/
def widthNarrowsSpec : ChangeSpec := { name := "widthNarrows", fn := fun _ => fun
  | [d1, d2] => { results := [.lit (.bool true)], args := [d1, d2] }
  | _ => none }
def widthNarrowsRow : OpenClaim := { program := "ytombmfphodikjaa", sum := "d1008b75f941de7364eb2cba8b5137210cdaace4e485d089e0cb04dbee7cfcbe", func := "lampblack/lampblacklaw02.WidthNarrows", spec := "widthNarrows", unfollowed := true, recurses := true, plainKeys := false, apart := false }
def WidthNarrowsSaid : Prop := widthNarrowsRow.holds Try.pinned (OpenSpec.ofChange widthNarrowsSpec)

/-- ITS FALSE NEIGHBOUR: 'it returns false'. Refute it at one input. -/
def widthNarrowsWrong : ChangeSpec := { name := "widthNarrows", fn := fun _ => fun
  | [d1, d2] => { results := [.lit (.bool false)], args := [d1, d2] }
  | _ => none }
def WidthNarrowsWrongFalsely : Prop := widthNarrowsRow.holds Try.pinned (OpenSpec.ofChange widthNarrowsWrong)

/-- 'lampblacklaw02.WidthCounts': WHATEVER THE INPUT: true; the input reads as it did. -/
def widthCountsSpec : ChangeSpec := { name := "widthCounts", fn := fun _ => fun
  | [d1, d2, d3] => { results := [.lit (.bool true)], args := [d1, d2, d3] }
  | _ => none }
def widthCountsRow : OpenClaim := { program := "ytombmfphodikjaa", sum := "d1008b75f941de7364eb2cba8b5137210cdaace4e485d089e0cb04dbee7cfcbe", func := "lampblack/lampblacklaw02.WidthCounts", spec := "widthCounts", unfollowed := true, recurses := true, plainKeys := false, apart := false }
def WidthCountsSaid : Prop := widthCountsRow.holds Try.pinned (OpenSpec.ofChange widthCountsSpec)

/-- ITS FALSE NEIGHBOUR: 'it returns false'. Refute it at one input. -/
def widthCountsWrong : ChangeSpec := { name := "widthCounts", fn := fun _ => fun
  | [d1, d2, d3] => { results := [.lit (.bool false)], args := [d1, d2, d3] }
  | _ => none }
def WidthCountsWrongFalsely : Prop := widthCountsRow.holds Try.pinned (OpenSpec.ofChange widthCountsWrong)

/-- 'lampblacklaw02.WidthLeast': WHATEVER THE INPUT: true; the input reads as it did. -/
def widthLeastSpec : ChangeSpec := { name := "widthLeast", fn := fun _ => fun
  | [d1, d2] => { results := [.lit (.bool true)], args := [d1, d2] }
  | _ => none }
def widthLeastRow : OpenClaim := { program := "ytombmfphodikjaa", sum := "d1008b75f941de7364eb2cba8b5137210cdaace4e485d089e0cb04dbee7cfcbe", func := "lampblack/lampblacklaw02.WidthLeast", spec := "widthLeast", unfollowed := true, recurses := true, plainKeys := false, apart := false }
def WidthLeastSaid : Prop := widthLeastRow.holds Try.pinned (OpenSpec.ofChange widthLeastSpec)

/-- ITS FALSE NEIGHBOUR: 'it returns false'. Refute it at one input. -/
def widthLeastWrong : ChangeSpec := { name := "widthLeast", fn := fun _ => fun
  | [d1, d2] => { results := [.lit (.bool false)], args := [d1, d2] }
  | _ => none }
def WidthLeastWrongFalsely : Prop := widthLeastRow.holds Try.pinned (OpenSpec.ofChange widthLeastWrong)

/-- 'lampblacklaw02.WidthParts': WHATEVER THE INPUT: true; the input reads as it did. -/
def widthPartsSpec : ChangeSpec := { name := "widthParts", fn := fun _ => fun
  | [d1, d2, d3] => { results := [.lit (.bool true)], args := [d1, d2, d3] }
  | _ => none }
def widthPartsRow : OpenClaim := { program := "ytombmfphodikjaa", sum := "d1008b75f941de7364eb2cba8b5137210cdaace4e485d089e0cb04dbee7cfcbe", func := "lampblack/lampblacklaw02.WidthParts", spec := "widthParts", unfollowed := true, recurses := true, plainKeys := false, apart := false }
def WidthPartsSaid : Prop := widthPartsRow.holds Try.pinned (OpenSpec.ofChange widthPartsSpec)

/-- ITS FALSE NEIGHBOUR: 'it returns false'. Refute it at one input. -/
def widthPartsWrong : ChangeSpec := { name := "widthParts", fn := fun _ => fun
  | [d1, d2, d3] => { results := [.lit (.bool false)], args := [d1, d2, d3] }
  | _ => none }
def WidthPartsWrongFalsely : Prop := widthPartsRow.holds Try.pinned (OpenSpec.ofChange widthPartsWrong)

/-- 'lampblacklaw02.WidthCliques': WHATEVER THE INPUT: true; the input reads as it did. -/
def widthCliquesSpec : ChangeSpec := { name := "widthCliques", fn := fun _ => fun
  | [d1, d2] => { results := [.lit (.bool true)], args := [d1, d2] }
  | _ => none }
def widthCliquesRow : OpenClaim := { program := "ytombmfphodikjaa", sum := "d1008b75f941de7364eb2cba8b5137210cdaace4e485d089e0cb04dbee7cfcbe", func := "lampblack/lampblacklaw02.WidthCliques", spec := "widthCliques", unfollowed := true, recurses := true, plainKeys := false, apart := false }
def WidthCliquesSaid : Prop := widthCliquesRow.holds Try.pinned (OpenSpec.ofChange widthCliquesSpec)

/-- ITS FALSE NEIGHBOUR: 'it returns false'. Refute it at one input. -/
def widthCliquesWrong : ChangeSpec := { name := "widthCliques", fn := fun _ => fun
  | [d1, d2] => { results := [.lit (.bool false)], args := [d1, d2] }
  | _ => none }
def WidthCliquesWrongFalsely : Prop := widthCliquesRow.holds Try.pinned (OpenSpec.ofChange widthCliquesWrong)

/-- 'lampblacklaw02.WidthColours': WHATEVER THE INPUT: true; the input reads as it did. -/
def widthColoursSpec : ChangeSpec := { name := "widthColours", fn := fun _ => fun
  | [d1, d2, d3] => { results := [.lit (.bool true)], args := [d1, d2, d3] }
  | _ => none }
def widthColoursRow : OpenClaim := { program := "ytombmfphodikjaa", sum := "d1008b75f941de7364eb2cba8b5137210cdaace4e485d089e0cb04dbee7cfcbe", func := "lampblack/lampblacklaw02.WidthColours", spec := "widthColours", unfollowed := true, recurses := true, plainKeys := false, apart := false }
def WidthColoursSaid : Prop := widthColoursRow.holds Try.pinned (OpenSpec.ofChange widthColoursSpec)

/-- ITS FALSE NEIGHBOUR: 'it returns false'. Refute it at one input. -/
def widthColoursWrong : ChangeSpec := { name := "widthColours", fn := fun _ => fun
  | [d1, d2, d3] => { results := [.lit (.bool false)], args := [d1, d2, d3] }
  | _ => none }
def WidthColoursWrongFalsely : Prop := widthColoursRow.holds Try.pinned (OpenSpec.ofChange widthColoursWrong)

/-- 'lampblacklaw02.WidthFew': WHATEVER THE INPUT: true; the input reads as it did. -/
def widthFewSpec : ChangeSpec := { name := "widthFew", fn := fun _ => fun
  | [d1, d2] => { results := [.lit (.bool true)], args := [d1, d2] }
  | _ => none }
def widthFewRow : OpenClaim := { program := "ytombmfphodikjaa", sum := "d1008b75f941de7364eb2cba8b5137210cdaace4e485d089e0cb04dbee7cfcbe", func := "lampblack/lampblacklaw02.WidthFew", spec := "widthFew", unfollowed := true, recurses := true, plainKeys := false, apart := false }
def WidthFewSaid : Prop := widthFewRow.holds Try.pinned (OpenSpec.ofChange widthFewSpec)

/-- ITS FALSE NEIGHBOUR: 'it returns false'. Refute it at one input. -/
def widthFewWrong : ChangeSpec := { name := "widthFew", fn := fun _ => fun
  | [d1, d2] => { results := [.lit (.bool false)], args := [d1, d2] }
  | _ => none }
def WidthFewWrongFalsely : Prop := widthFewRow.holds Try.pinned (OpenSpec.ofChange widthFewWrong)

/- THE SECOND FORM. 'bulk': how many values and letters a reading holds, each counted each time it is reached (what is shared counts as often as it is met; a slice's spare places count too). A statement '..UptoSaid' is the law's where the arguments, and the package variables that the reading takes, are together of bulk at most 1048576: NARROWER than '..Said'. Prove '..Said' where nothing that the law and all that it calls make is longer than what came in: it says more and counts as full. Else prove '..UptoSaid'. A law counts once. -/
mutual
def uptoBulk {H : Type} : DataW H → Nat
  | .lit (.string bytes) => bytes.length + 1
  | .lit _ => 1
  | .nil => 1
  | .ptr d => uptoBulk d + 1
  | .slice elems spare => uptoBulkAll elems + uptoBulkAll spare + 1
  | .agg parts => uptoBulkAll parts + 1
  | .iface _ d => uptoBulk d + 1
  | .map entries => uptoBulkEntries entries + 1
  | .held _ => 1
def uptoBulkAll {H : Type} : List (DataW H) → Nat
  | [] => 0
  | d :: r => uptoBulk d + uptoBulkAll r
def uptoBulkEntries {H : Type} : List (Lit × DataW H) → Nat
  | [] => 0
  | x :: r => uptoBulkEntry x + uptoBulkEntries r
def uptoBulkEntry {H : Type} : Lit × DataW H → Nat
  | (.string bytes, d) => bytes.length + uptoBulk d + 1
  | (_, d) => uptoBulk d + 1
 end
def uptoSmall : (H : Type) → List (DataW H) → Bool := fun _ ds => decide (uptoBulkAll ds ≤ 1048576)
def OpenSpec.upto (s : _root_.Go.ChangeSpec) : _root_.Go.OpenSpec := { _root_.Go.OpenSpec.ofChange s with cond := some uptoSmall }

/-- 'lampblacklaw02.WidthOrders', WHERE WHAT IT READS IS OF BULK AT MOST 1048576: true; the input reads as it did. -/
def widthOrdersUptoRow : OpenClaim := { program := "ytombmfphodikjaa", sum := "d1008b75f941de7364eb2cba8b5137210cdaace4e485d089e0cb04dbee7cfcbe", func := "lampblack/lampblacklaw02.WidthOrders", spec := "widthOrders", unfollowed := true, recurses := true, plainKeys := false, apart := false, narrowed := true }
def WidthOrdersUptoSaid : Prop := widthOrdersUptoRow.holds Try.pinned (OpenSpec.upto widthOrdersSpec)

/-- 'lampblacklaw02.WidthTrees', WHERE WHAT IT READS IS OF BULK AT MOST 1048576: true; the input reads as it did. -/
def widthTreesUptoRow : OpenClaim := { program := "ytombmfphodikjaa", sum := "d1008b75f941de7364eb2cba8b5137210cdaace4e485d089e0cb04dbee7cfcbe", func := "lampblack/lampblacklaw02.WidthTrees", spec := "widthTrees", unfollowed := true, recurses := true, plainKeys := false, apart := false, narrowed := true }
def WidthTreesUptoSaid : Prop := widthTreesUptoRow.holds Try.pinned (OpenSpec.upto widthTreesSpec)

/-- 'lampblacklaw02.WidthNarrows', WHERE WHAT IT READS IS OF BULK AT MOST 1048576: true; the input reads as it did. -/
def widthNarrowsUptoRow : OpenClaim := { program := "ytombmfphodikjaa", sum := "d1008b75f941de7364eb2cba8b5137210cdaace4e485d089e0cb04dbee7cfcbe", func := "lampblack/lampblacklaw02.WidthNarrows", spec := "widthNarrows", unfollowed := true, recurses := true, plainKeys := false, apart := false, narrowed := true }
def WidthNarrowsUptoSaid : Prop := widthNarrowsUptoRow.holds Try.pinned (OpenSpec.upto widthNarrowsSpec)

/-- 'lampblacklaw02.WidthCounts', WHERE WHAT IT READS IS OF BULK AT MOST 1048576: true; the input reads as it did. -/
def widthCountsUptoRow : OpenClaim := { program := "ytombmfphodikjaa", sum := "d1008b75f941de7364eb2cba8b5137210cdaace4e485d089e0cb04dbee7cfcbe", func := "lampblack/lampblacklaw02.WidthCounts", spec := "widthCounts", unfollowed := true, recurses := true, plainKeys := false, apart := false, narrowed := true }
def WidthCountsUptoSaid : Prop := widthCountsUptoRow.holds Try.pinned (OpenSpec.upto widthCountsSpec)

/-- 'lampblacklaw02.WidthLeast', WHERE WHAT IT READS IS OF BULK AT MOST 1048576: true; the input reads as it did. -/
def widthLeastUptoRow : OpenClaim := { program := "ytombmfphodikjaa", sum := "d1008b75f941de7364eb2cba8b5137210cdaace4e485d089e0cb04dbee7cfcbe", func := "lampblack/lampblacklaw02.WidthLeast", spec := "widthLeast", unfollowed := true, recurses := true, plainKeys := false, apart := false, narrowed := true }
def WidthLeastUptoSaid : Prop := widthLeastUptoRow.holds Try.pinned (OpenSpec.upto widthLeastSpec)

/-- 'lampblacklaw02.WidthParts', WHERE WHAT IT READS IS OF BULK AT MOST 1048576: true; the input reads as it did. -/
def widthPartsUptoRow : OpenClaim := { program := "ytombmfphodikjaa", sum := "d1008b75f941de7364eb2cba8b5137210cdaace4e485d089e0cb04dbee7cfcbe", func := "lampblack/lampblacklaw02.WidthParts", spec := "widthParts", unfollowed := true, recurses := true, plainKeys := false, apart := false, narrowed := true }
def WidthPartsUptoSaid : Prop := widthPartsUptoRow.holds Try.pinned (OpenSpec.upto widthPartsSpec)

/-- 'lampblacklaw02.WidthCliques', WHERE WHAT IT READS IS OF BULK AT MOST 1048576: true; the input reads as it did. -/
def widthCliquesUptoRow : OpenClaim := { program := "ytombmfphodikjaa", sum := "d1008b75f941de7364eb2cba8b5137210cdaace4e485d089e0cb04dbee7cfcbe", func := "lampblack/lampblacklaw02.WidthCliques", spec := "widthCliques", unfollowed := true, recurses := true, plainKeys := false, apart := false, narrowed := true }
def WidthCliquesUptoSaid : Prop := widthCliquesUptoRow.holds Try.pinned (OpenSpec.upto widthCliquesSpec)

/-- 'lampblacklaw02.WidthColours', WHERE WHAT IT READS IS OF BULK AT MOST 1048576: true; the input reads as it did. -/
def widthColoursUptoRow : OpenClaim := { program := "ytombmfphodikjaa", sum := "d1008b75f941de7364eb2cba8b5137210cdaace4e485d089e0cb04dbee7cfcbe", func := "lampblack/lampblacklaw02.WidthColours", spec := "widthColours", unfollowed := true, recurses := true, plainKeys := false, apart := false, narrowed := true }
def WidthColoursUptoSaid : Prop := widthColoursUptoRow.holds Try.pinned (OpenSpec.upto widthColoursSpec)

/-- 'lampblacklaw02.WidthFew', WHERE WHAT IT READS IS OF BULK AT MOST 1048576: true; the input reads as it did. -/
def widthFewUptoRow : OpenClaim := { program := "ytombmfphodikjaa", sum := "d1008b75f941de7364eb2cba8b5137210cdaace4e485d089e0cb04dbee7cfcbe", func := "lampblack/lampblacklaw02.WidthFew", spec := "widthFew", unfollowed := true, recurses := true, plainKeys := false, apart := false, narrowed := true }
def WidthFewUptoSaid : Prop := widthFewUptoRow.holds Try.pinned (OpenSpec.upto widthFewSpec)

end Rows
end Go.Proofs.Ytombmfphodikjaa
