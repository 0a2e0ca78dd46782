/-
  NARROWER THAN 'FOR EVERY INPUT', by the rows' own cells (each row's printed sentence says how): WidthBrambles: laid · WidthCovers: laid · WidthTouches: laid · WidthDivides: laid · WidthDual: laid · WidthDivided: laid · TopTrees: laid.
  DERIVED. THE GIVEN ROWS OF THIS SEAT. 7 by the template 'for every input the law returns true; each argument reads behind the call as it read before'; 0 by the template 'total and deterministic' (their statements: YtbkbliieappkdaaDoorTotals.lean).
  GIVEN WITH THE SEED: the statements are not yours to turn. If you find one false, say at which input.
  Laid BY PROGRAM, IN A SANDBOX (cutbox-rows.mjs): the forced cells as the released guide's own fill.sh prints them over the translation 251d6391c97f78b9… (all of the seat's roots in one cut). By AI agents, Wed Nov 11 2026. No macro, syntax, notation, axiom, sorry.
-/
import Derived.Test.YtbkbliieappkdaaDoorChecked
import GoSem.Claim
import GoSem.ClaimJoined
import GoSem.ClaimMapViews
import Derived.JoinedTies
import Derived.KernelRfl
namespace Go.Proofs.YtbkbliieappkdaaDoor
/- THE CELL 'sum', in the pinned program and in every row, IS THE sha256 OF THE DUMP (.gsa) THAT YtbkbliieappkdaaDoorProg.lean LOADS. Nothing in Lean hashes anything: it is a label: what it is worth is what the hold of that sum in a sandbox is worth. -/
noncomputable def Tryd.pinned : Pinned := { name := "ytbkbliieappkdaadoor", sum := "251d6391c97f78b9bf31aa78107392035d5e3f2eaf5a825cd01d7724d2f1ad2c", checked := Tryd.checked }
namespace Rows
def none {H : Type} : Left H := { results := [], args := [] }

/- WHAT THE LISTED PACKAGE-LEVEL VARIABLES READ AS WHEN THE CALL BEGINS. Each datum BY PROGRAM (the guide's laid-datum.mjs) off the statement by which the dump's own 'gosem.cut.vars' lays the variable. In a bare row this is a premise. The card (YtbkbliieappkdaaDoorCards.lean) ties it to the program's text. -/
def laid_math_bits_deBruijn32tab {H : Type} : DataW H := .agg [.lit (.int .u8 0), .lit (.int .u8 1), .lit (.int .u8 28), .lit (.int .u8 2), .lit (.int .u8 29), .lit (.int .u8 14), .lit (.int .u8 24), .lit (.int .u8 3), .lit (.int .u8 30), .lit (.int .u8 22), .lit (.int .u8 20), .lit (.int .u8 15), .lit (.int .u8 25), .lit (.int .u8 17), .lit (.int .u8 4), .lit (.int .u8 8), .lit (.int .u8 31), .lit (.int .u8 27), .lit (.int .u8 13), .lit (.int .u8 23), .lit (.int .u8 21), .lit (.int .u8 19), .lit (.int .u8 16), .lit (.int .u8 7), .lit (.int .u8 26), .lit (.int .u8 12), .lit (.int .u8 18), .lit (.int .u8 6), .lit (.int .u8 11), .lit (.int .u8 5), .lit (.int .u8 10), .lit (.int .u8 9)]
def laid_math_bits_deBruijn64tab {H : Type} : DataW H := .agg [.lit (.int .u8 0), .lit (.int .u8 1), .lit (.int .u8 56), .lit (.int .u8 2), .lit (.int .u8 57), .lit (.int .u8 49), .lit (.int .u8 28), .lit (.int .u8 3), .lit (.int .u8 61), .lit (.int .u8 58), .lit (.int .u8 42), .lit (.int .u8 50), .lit (.int .u8 38), .lit (.int .u8 29), .lit (.int .u8 17), .lit (.int .u8 4), .lit (.int .u8 62), .lit (.int .u8 47), .lit (.int .u8 59), .lit (.int .u8 36), .lit (.int .u8 45), .lit (.int .u8 43), .lit (.int .u8 51), .lit (.int .u8 22), .lit (.int .u8 53), .lit (.int .u8 39), .lit (.int .u8 33), .lit (.int .u8 30), .lit (.int .u8 24), .lit (.int .u8 18), .lit (.int .u8 12), .lit (.int .u8 5), .lit (.int .u8 63), .lit (.int .u8 55), .lit (.int .u8 48), .lit (.int .u8 27), .lit (.int .u8 60), .lit (.int .u8 41), .lit (.int .u8 37), .lit (.int .u8 16), .lit (.int .u8 46), .lit (.int .u8 35), .lit (.int .u8 44), .lit (.int .u8 21), .lit (.int .u8 52), .lit (.int .u8 32), .lit (.int .u8 23), .lit (.int .u8 11), .lit (.int .u8 54), .lit (.int .u8 26), .lit (.int .u8 40), .lit (.int .u8 15), .lit (.int .u8 34), .lit (.int .u8 20), .lit (.int .u8 31), .lit (.int .u8 10), .lit (.int .u8 25), .lit (.int .u8 14), .lit (.int .u8 19), .lit (.int .u8 9), .lit (.int .u8 13), .lit (.int .u8 8), .lit (.int .u8 7), .lit (.int .u8 6)]

/-- 'lampblacklaw02.WidthBrambles': WHATEVER THE INPUT: true; the input reads as it did. -/
def widthBramblesSpec : ChangeSpec := { name := "widthBrambles", fn := fun _ => fun
  | [d] => { results := [.lit (.bool true)], args := [d] }
  | _ => none }
def widthBramblesRow : OpenClaim := { program := "ytbkbliieappkdaadoor", sum := "251d6391c97f78b9bf31aa78107392035d5e3f2eaf5a825cd01d7724d2f1ad2c", func := "lampblack/lampblacklaw02.WidthBrambles", spec := "widthBrambles", inPlace := ["maps.clone"], unfollowed := true, recurses := true, named := ["math/bits.deBruijn32tab", "math/bits.deBruijn64tab"], plainKeys := false, apart := false, laid := [("math/bits.deBruijn32tab", laid_math_bits_deBruijn32tab), ("math/bits.deBruijn64tab", laid_math_bits_deBruijn64tab)] }
def WidthBramblesSaid : Prop := widthBramblesRow.holds Tryd.pinned (OpenSpec.ofChange widthBramblesSpec)

/-- ITS FALSE NEIGHBOUR: 'it returns false'. Refute it at one input. -/
def widthBramblesWrong : ChangeSpec := { name := "widthBrambles", fn := fun _ => fun
  | [d] => { results := [.lit (.bool false)], args := [d] }
  | _ => none }
def WidthBramblesWrongFalsely : Prop := widthBramblesRow.holds Tryd.pinned (OpenSpec.ofChange widthBramblesWrong)

/-- 'lampblacklaw02.WidthCovers': WHATEVER THE INPUT: true; the input reads as it did. -/
def widthCoversSpec : ChangeSpec := { name := "widthCovers", fn := fun _ => fun
  | [d1, d2] => { results := [.lit (.bool true)], args := [d1, d2] }
  | _ => none }
def widthCoversRow : OpenClaim := { program := "ytbkbliieappkdaadoor", sum := "251d6391c97f78b9bf31aa78107392035d5e3f2eaf5a825cd01d7724d2f1ad2c", func := "lampblack/lampblacklaw02.WidthCovers", spec := "widthCovers", unfollowed := true, recurses := true, named := ["math/bits.deBruijn32tab", "math/bits.deBruijn64tab"], plainKeys := false, apart := false, laid := [("math/bits.deBruijn32tab", laid_math_bits_deBruijn32tab), ("math/bits.deBruijn64tab", laid_math_bits_deBruijn64tab)] }
def WidthCoversSaid : Prop := widthCoversRow.holds Tryd.pinned (OpenSpec.ofChange widthCoversSpec)

/-- ITS FALSE NEIGHBOUR: 'it returns false'. Refute it at one input. -/
def widthCoversWrong : ChangeSpec := { name := "widthCovers", fn := fun _ => fun
  | [d1, d2] => { results := [.lit (.bool false)], args := [d1, d2] }
  | _ => none }
def WidthCoversWrongFalsely : Prop := widthCoversRow.holds Tryd.pinned (OpenSpec.ofChange widthCoversWrong)

/-- 'lampblacklaw02.WidthTouches': WHATEVER THE INPUT: true; the input reads as it did. -/
def widthTouchesSpec : ChangeSpec := { name := "widthTouches", fn := fun _ => fun
  | [d1, d2, d3] => { results := [.lit (.bool true)], args := [d1, d2, d3] }
  | _ => none }
def widthTouchesRow : OpenClaim := { program := "ytbkbliieappkdaadoor", sum := "251d6391c97f78b9bf31aa78107392035d5e3f2eaf5a825cd01d7724d2f1ad2c", func := "lampblack/lampblacklaw02.WidthTouches", spec := "widthTouches", unfollowed := true, recurses := true, named := ["math/bits.deBruijn32tab", "math/bits.deBruijn64tab"], plainKeys := false, apart := false, laid := [("math/bits.deBruijn32tab", laid_math_bits_deBruijn32tab), ("math/bits.deBruijn64tab", laid_math_bits_deBruijn64tab)] }
def WidthTouchesSaid : Prop := widthTouchesRow.holds Tryd.pinned (OpenSpec.ofChange widthTouchesSpec)

/-- ITS FALSE NEIGHBOUR: 'it returns false'. Refute it at one input. -/
def widthTouchesWrong : ChangeSpec := { name := "widthTouches", fn := fun _ => fun
  | [d1, d2, d3] => { results := [.lit (.bool false)], args := [d1, d2, d3] }
  | _ => none }
def WidthTouchesWrongFalsely : Prop := widthTouchesRow.holds Tryd.pinned (OpenSpec.ofChange widthTouchesWrong)

/-- 'lampblacklaw02.WidthDivides': WHATEVER THE INPUT: true; the input reads as it did. -/
def widthDividesSpec : ChangeSpec := { name := "widthDivides", fn := fun _ => fun
  | [d] => { results := [.lit (.bool true)], args := [d] }
  | _ => none }
def widthDividesRow : OpenClaim := { program := "ytbkbliieappkdaadoor", sum := "251d6391c97f78b9bf31aa78107392035d5e3f2eaf5a825cd01d7724d2f1ad2c", func := "lampblack/lampblacklaw02.WidthDivides", spec := "widthDivides", unfollowed := true, recurses := true, named := ["math/bits.deBruijn32tab", "math/bits.deBruijn64tab"], plainKeys := false, apart := false, laid := [("math/bits.deBruijn32tab", laid_math_bits_deBruijn32tab), ("math/bits.deBruijn64tab", laid_math_bits_deBruijn64tab)] }
def WidthDividesSaid : Prop := widthDividesRow.holds Tryd.pinned (OpenSpec.ofChange widthDividesSpec)

/-- ITS FALSE NEIGHBOUR: 'it returns false'. Refute it at one input. -/
def widthDividesWrong : ChangeSpec := { name := "widthDivides", fn := fun _ => fun
  | [d] => { results := [.lit (.bool false)], args := [d] }
  | _ => none }
def WidthDividesWrongFalsely : Prop := widthDividesRow.holds Tryd.pinned (OpenSpec.ofChange widthDividesWrong)

/-- 'lampblacklaw02.WidthDual': WHATEVER THE INPUT: true; the input reads as it did. -/
def widthDualSpec : ChangeSpec := { name := "widthDual", fn := fun _ => fun
  | [d1, d2, d3] => { results := [.lit (.bool true)], args := [d1, d2, d3] }
  | _ => none }
def widthDualRow : OpenClaim := { program := "ytbkbliieappkdaadoor", sum := "251d6391c97f78b9bf31aa78107392035d5e3f2eaf5a825cd01d7724d2f1ad2c", func := "lampblack/lampblacklaw02.WidthDual", spec := "widthDual", inPlace := ["maps.clone"], unfollowed := true, recurses := true, named := ["math/bits.deBruijn32tab", "math/bits.deBruijn64tab"], plainKeys := false, apart := false, laid := [("math/bits.deBruijn32tab", laid_math_bits_deBruijn32tab), ("math/bits.deBruijn64tab", laid_math_bits_deBruijn64tab)] }
def WidthDualSaid : Prop := widthDualRow.holds Tryd.pinned (OpenSpec.ofChange widthDualSpec)

/-- ITS FALSE NEIGHBOUR: 'it returns false'. Refute it at one input. -/
def widthDualWrong : ChangeSpec := { name := "widthDual", fn := fun _ => fun
  | [d1, d2, d3] => { results := [.lit (.bool false)], args := [d1, d2, d3] }
  | _ => none }
def WidthDualWrongFalsely : Prop := widthDualRow.holds Tryd.pinned (OpenSpec.ofChange widthDualWrong)

/-- 'lampblacklaw02.WidthDivided': WHATEVER THE INPUT: true; the input reads as it did. -/
def widthDividedSpec : ChangeSpec := { name := "widthDivided", fn := fun _ => fun
  | [d] => { results := [.lit (.bool true)], args := [d] }
  | _ => none }
def widthDividedRow : OpenClaim := { program := "ytbkbliieappkdaadoor", sum := "251d6391c97f78b9bf31aa78107392035d5e3f2eaf5a825cd01d7724d2f1ad2c", func := "lampblack/lampblacklaw02.WidthDivided", spec := "widthDivided", unfollowed := true, recurses := true, named := ["math/bits.deBruijn32tab", "math/bits.deBruijn64tab"], plainKeys := false, apart := false, laid := [("math/bits.deBruijn32tab", laid_math_bits_deBruijn32tab), ("math/bits.deBruijn64tab", laid_math_bits_deBruijn64tab)] }
def WidthDividedSaid : Prop := widthDividedRow.holds Tryd.pinned (OpenSpec.ofChange widthDividedSpec)

/-- ITS FALSE NEIGHBOUR: 'it returns false'. Refute it at one input. -/
def widthDividedWrong : ChangeSpec := { name := "widthDivided", fn := fun _ => fun
  | [d] => { results := [.lit (.bool false)], args := [d] }
  | _ => none }
def WidthDividedWrongFalsely : Prop := widthDividedRow.holds Tryd.pinned (OpenSpec.ofChange widthDividedWrong)

/-- 'lampblacktop.TopTrees': WHATEVER THE INPUT: true; the input reads as it did. -/
def topTreesSpec : ChangeSpec := { name := "topTrees", fn := fun _ => fun
  | [d] => { results := [.lit (.bool true)], args := [d] }
  | _ => none }
def topTreesRow : OpenClaim := { program := "ytbkbliieappkdaadoor", sum := "251d6391c97f78b9bf31aa78107392035d5e3f2eaf5a825cd01d7724d2f1ad2c", func := "lampblack/lampblacktop.TopTrees", spec := "topTrees", unfollowed := true, recurses := true, named := ["math/bits.deBruijn32tab", "math/bits.deBruijn64tab"], plainKeys := false, apart := false, laid := [("math/bits.deBruijn32tab", laid_math_bits_deBruijn32tab), ("math/bits.deBruijn64tab", laid_math_bits_deBruijn64tab)] }
def TopTreesSaid : Prop := topTreesRow.holds Tryd.pinned (OpenSpec.ofChange topTreesSpec)

/-- ITS FALSE NEIGHBOUR: 'it returns false'. Refute it at one input. -/
def topTreesWrong : ChangeSpec := { name := "topTrees", fn := fun _ => fun
  | [d] => { results := [.lit (.bool false)], args := [d] }
  | _ => none }
def TopTreesWrongFalsely : Prop := topTreesRow.holds Tryd.pinned (OpenSpec.ofChange topTreesWrong)

/- THE SECOND FORM. 'bulk': how many values and letters a reading holds, each counted each time it is reached (what is shared counts as often as it is met; a slice's spare places count too). A statement '..UptoSaid' is the law's where the arguments, and the package variables that the reading takes, are together of bulk at most 1048576: NARROWER than '..Said'. Prove '..Said' where nothing that the law and all that it calls make is longer than what came in: it says more and counts as full. Else prove '..UptoSaid'. A law counts once. -/
mutual
def uptoBulk {H : Type} : DataW H → Nat
  | .lit (.string bytes) => bytes.length + 1
  | .lit _ => 1
  | .nil => 1
  | .ptr d => uptoBulk d + 1
  | .slice elems spare => uptoBulkAll elems + uptoBulkAll spare + 1
  | .agg parts => uptoBulkAll parts + 1
  | .iface _ d => uptoBulk d + 1
  | .map entries => uptoBulkEntries entries + 1
  | .held _ => 1
def uptoBulkAll {H : Type} : List (DataW H) → Nat
  | [] => 0
  | d :: r => uptoBulk d + uptoBulkAll r
def uptoBulkEntries {H : Type} : List (Lit × DataW H) → Nat
  | [] => 0
  | x :: r => uptoBulkEntry x + uptoBulkEntries r
def uptoBulkEntry {H : Type} : Lit × DataW H → Nat
  | (.string bytes, d) => bytes.length + uptoBulk d + 1
  | (_, d) => uptoBulk d + 1
 end
def uptoSmall : (H : Type) → List (DataW H) → Bool := fun _ ds => decide (uptoBulkAll ds ≤ 1048576)
def OpenSpec.upto (s : _root_.Go.ChangeSpec) : _root_.Go.OpenSpec := { _root_.Go.OpenSpec.ofChange s with cond := some uptoSmall }

/-- 'lampblacklaw02.WidthBrambles', WHERE WHAT IT READS IS OF BULK AT MOST 1048576: true; the input reads as it did. -/
def widthBramblesUptoRow : OpenClaim := { program := "ytbkbliieappkdaadoor", sum := "251d6391c97f78b9bf31aa78107392035d5e3f2eaf5a825cd01d7724d2f1ad2c", func := "lampblack/lampblacklaw02.WidthBrambles", spec := "widthBrambles", inPlace := ["maps.clone"], unfollowed := true, recurses := true, named := ["math/bits.deBruijn32tab", "math/bits.deBruijn64tab"], plainKeys := false, apart := false, laid := [("math/bits.deBruijn32tab", laid_math_bits_deBruijn32tab), ("math/bits.deBruijn64tab", laid_math_bits_deBruijn64tab)], narrowed := true }
def WidthBramblesUptoSaid : Prop := widthBramblesUptoRow.holds Tryd.pinned (OpenSpec.upto widthBramblesSpec)

/-- 'lampblacklaw02.WidthCovers', WHERE WHAT IT READS IS OF BULK AT MOST 1048576: true; the input reads as it did. -/
def widthCoversUptoRow : OpenClaim := { program := "ytbkbliieappkdaadoor", sum := "251d6391c97f78b9bf31aa78107392035d5e3f2eaf5a825cd01d7724d2f1ad2c", func := "lampblack/lampblacklaw02.WidthCovers", spec := "widthCovers", unfollowed := true, recurses := true, named := ["math/bits.deBruijn32tab", "math/bits.deBruijn64tab"], plainKeys := false, apart := false, laid := [("math/bits.deBruijn32tab", laid_math_bits_deBruijn32tab), ("math/bits.deBruijn64tab", laid_math_bits_deBruijn64tab)], narrowed := true }
def WidthCoversUptoSaid : Prop := widthCoversUptoRow.holds Tryd.pinned (OpenSpec.upto widthCoversSpec)

/-- 'lampblacklaw02.WidthTouches', WHERE WHAT IT READS IS OF BULK AT MOST 1048576: true; the input reads as it did. -/
def widthTouchesUptoRow : OpenClaim := { program := "ytbkbliieappkdaadoor", sum := "251d6391c97f78b9bf31aa78107392035d5e3f2eaf5a825cd01d7724d2f1ad2c", func := "lampblack/lampblacklaw02.WidthTouches", spec := "widthTouches", unfollowed := true, recurses := true, named := ["math/bits.deBruijn32tab", "math/bits.deBruijn64tab"], plainKeys := false, apart := false, laid := [("math/bits.deBruijn32tab", laid_math_bits_deBruijn32tab), ("math/bits.deBruijn64tab", laid_math_bits_deBruijn64tab)], narrowed := true }
def WidthTouchesUptoSaid : Prop := widthTouchesUptoRow.holds Tryd.pinned (OpenSpec.upto widthTouchesSpec)

/-- 'lampblacklaw02.WidthDivides', WHERE WHAT IT READS IS OF BULK AT MOST 1048576: true; the input reads as it did. -/
def widthDividesUptoRow : OpenClaim := { program := "ytbkbliieappkdaadoor", sum := "251d6391c97f78b9bf31aa78107392035d5e3f2eaf5a825cd01d7724d2f1ad2c", func := "lampblack/lampblacklaw02.WidthDivides", spec := "widthDivides", unfollowed := true, recurses := true, named := ["math/bits.deBruijn32tab", "math/bits.deBruijn64tab"], plainKeys := false, apart := false, laid := [("math/bits.deBruijn32tab", laid_math_bits_deBruijn32tab), ("math/bits.deBruijn64tab", laid_math_bits_deBruijn64tab)], narrowed := true }
def WidthDividesUptoSaid : Prop := widthDividesUptoRow.holds Tryd.pinned (OpenSpec.upto widthDividesSpec)

/-- 'lampblacklaw02.WidthDual', WHERE WHAT IT READS IS OF BULK AT MOST 1048576: true; the input reads as it did. -/
def widthDualUptoRow : OpenClaim := { program := "ytbkbliieappkdaadoor", sum := "251d6391c97f78b9bf31aa78107392035d5e3f2eaf5a825cd01d7724d2f1ad2c", func := "lampblack/lampblacklaw02.WidthDual", spec := "widthDual", inPlace := ["maps.clone"], unfollowed := true, recurses := true, named := ["math/bits.deBruijn32tab", "math/bits.deBruijn64tab"], plainKeys := false, apart := false, laid := [("math/bits.deBruijn32tab", laid_math_bits_deBruijn32tab), ("math/bits.deBruijn64tab", laid_math_bits_deBruijn64tab)], narrowed := true }
def WidthDualUptoSaid : Prop := widthDualUptoRow.holds Tryd.pinned (OpenSpec.upto widthDualSpec)

/-- 'lampblacklaw02.WidthDivided', WHERE WHAT IT READS IS OF BULK AT MOST 1048576: true; the input reads as it did. -/
def widthDividedUptoRow : OpenClaim := { program := "ytbkbliieappkdaadoor", sum := "251d6391c97f78b9bf31aa78107392035d5e3f2eaf5a825cd01d7724d2f1ad2c", func := "lampblack/lampblacklaw02.WidthDivided", spec := "widthDivided", unfollowed := true, recurses := true, named := ["math/bits.deBruijn32tab", "math/bits.deBruijn64tab"], plainKeys := false, apart := false, laid := [("math/bits.deBruijn32tab", laid_math_bits_deBruijn32tab), ("math/bits.deBruijn64tab", laid_math_bits_deBruijn64tab)], narrowed := true }
def WidthDividedUptoSaid : Prop := widthDividedUptoRow.holds Tryd.pinned (OpenSpec.upto widthDividedSpec)

/-- 'lampblacktop.TopTrees', WHERE WHAT IT READS IS OF BULK AT MOST 1048576: true; the input reads as it did. -/
def topTreesUptoRow : OpenClaim := { program := "ytbkbliieappkdaadoor", sum := "251d6391c97f78b9bf31aa78107392035d5e3f2eaf5a825cd01d7724d2f1ad2c", func := "lampblack/lampblacktop.TopTrees", spec := "topTrees", unfollowed := true, recurses := true, named := ["math/bits.deBruijn32tab", "math/bits.deBruijn64tab"], plainKeys := false, apart := false, laid := [("math/bits.deBruijn32tab", laid_math_bits_deBruijn32tab), ("math/bits.deBruijn64tab", laid_math_bits_deBruijn64tab)], narrowed := true }
def TopTreesUptoSaid : Prop := topTreesUptoRow.holds Tryd.pinned (OpenSpec.upto topTreesSpec)

end Rows
end Go.Proofs.YtbkbliieappkdaaDoor
