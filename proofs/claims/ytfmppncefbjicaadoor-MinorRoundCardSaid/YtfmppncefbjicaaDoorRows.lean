/-
  NARROWER THAN 'FOR EVERY INPUT', by the rows' own cells (each row's printed sentence says how): MinorModels: laid · MinorNamed: laid · MinorReduces: laid · MinorOuters: laid · MinorGreatest: laid · MinorLess: laid · MinorFound: laid · MinorSeries: laid · MinorRound: laid · MinorForests: laid · MinorWidths: laid · MinorWheels: laid.
  DERIVED. THE GIVEN ROWS OF THIS SEAT. 12 by the template 'for every input the law returns true; each argument reads behind the call as it read before'; 0 by the template 'total and deterministic' (their statements: YtfmppncefbjicaaDoorTotals.lean).
  GIVEN WITH THE SEED: the statements are not yours to turn. If you find one false, say at which input.
  Laid BY PROGRAM, IN A SANDBOX (cutbox-rows.mjs): the forced cells as the released guide's own fill.sh prints them over the translation 5b0b5fb67dd871cf… (all of the seat's roots in one cut). By AI agents, Wed Nov 11 2026. No macro, syntax, notation, axiom, sorry.
-/
import Derived.Test.YtfmppncefbjicaaDoorChecked
import GoSem.Claim
import GoSem.ClaimJoined
import GoSem.ClaimMapViews
import Derived.JoinedTies
import Derived.KernelRfl
namespace Go.Proofs.YtfmppncefbjicaaDoor
/- THE CELL 'sum', in the pinned program and in every row, IS THE sha256 OF THE DUMP (.gsa) THAT YtfmppncefbjicaaDoorProg.lean LOADS. Nothing in Lean hashes anything: it is a label: what it is worth is what the hold of that sum in a sandbox is worth. -/
noncomputable def Tryd.pinned : Pinned := { name := "ytfmppncefbjicaadoor", sum := "5b0b5fb67dd871cf891a4799b4e2862e2b9d0653765c3a5346d1b3842768a7b1", checked := Tryd.checked }
namespace Rows
def none {H : Type} : Left H := { results := [], args := [] }

/- WHAT THE LISTED PACKAGE-LEVEL VARIABLES READ AS WHEN THE CALL BEGINS. Each datum BY PROGRAM (the guide's laid-datum.mjs) off the statement by which the dump's own 'gosem.cut.vars' lays the variable. In a bare row this is a premise. The card (YtfmppncefbjicaaDoorCards.lean) ties it to the program's text. -/
def laid_math_bits_deBruijn32tab {H : Type} : DataW H := .agg [.lit (.int .u8 0), .lit (.int .u8 1), .lit (.int .u8 28), .lit (.int .u8 2), .lit (.int .u8 29), .lit (.int .u8 14), .lit (.int .u8 24), .lit (.int .u8 3), .lit (.int .u8 30), .lit (.int .u8 22), .lit (.int .u8 20), .lit (.int .u8 15), .lit (.int .u8 25), .lit (.int .u8 17), .lit (.int .u8 4), .lit (.int .u8 8), .lit (.int .u8 31), .lit (.int .u8 27), .lit (.int .u8 13), .lit (.int .u8 23), .lit (.int .u8 21), .lit (.int .u8 19), .lit (.int .u8 16), .lit (.int .u8 7), .lit (.int .u8 26), .lit (.int .u8 12), .lit (.int .u8 18), .lit (.int .u8 6), .lit (.int .u8 11), .lit (.int .u8 5), .lit (.int .u8 10), .lit (.int .u8 9)]
def laid_math_bits_deBruijn64tab {H : Type} : DataW H := .agg [.lit (.int .u8 0), .lit (.int .u8 1), .lit (.int .u8 56), .lit (.int .u8 2), .lit (.int .u8 57), .lit (.int .u8 49), .lit (.int .u8 28), .lit (.int .u8 3), .lit (.int .u8 61), .lit (.int .u8 58), .lit (.int .u8 42), .lit (.int .u8 50), .lit (.int .u8 38), .lit (.int .u8 29), .lit (.int .u8 17), .lit (.int .u8 4), .lit (.int .u8 62), .lit (.int .u8 47), .lit (.int .u8 59), .lit (.int .u8 36), .lit (.int .u8 45), .lit (.int .u8 43), .lit (.int .u8 51), .lit (.int .u8 22), .lit (.int .u8 53), .lit (.int .u8 39), .lit (.int .u8 33), .lit (.int .u8 30), .lit (.int .u8 24), .lit (.int .u8 18), .lit (.int .u8 12), .lit (.int .u8 5), .lit (.int .u8 63), .lit (.int .u8 55), .lit (.int .u8 48), .lit (.int .u8 27), .lit (.int .u8 60), .lit (.int .u8 41), .lit (.int .u8 37), .lit (.int .u8 16), .lit (.int .u8 46), .lit (.int .u8 35), .lit (.int .u8 44), .lit (.int .u8 21), .lit (.int .u8 52), .lit (.int .u8 32), .lit (.int .u8 23), .lit (.int .u8 11), .lit (.int .u8 54), .lit (.int .u8 26), .lit (.int .u8 40), .lit (.int .u8 15), .lit (.int .u8 34), .lit (.int .u8 20), .lit (.int .u8 31), .lit (.int .u8 10), .lit (.int .u8 25), .lit (.int .u8 14), .lit (.int .u8 19), .lit (.int .u8 9), .lit (.int .u8 13), .lit (.int .u8 8), .lit (.int .u8 7), .lit (.int .u8 6)]

/-- 'lampblacklaw07.MinorModels': WHATEVER THE INPUT: true; the input reads as it did. -/
def minorModelsSpec : ChangeSpec := { name := "minorModels", fn := fun _ => fun
  | [d1, d2, d3] => { results := [.lit (.bool true)], args := [d1, d2, d3] }
  | _ => none }
def minorModelsRow : OpenClaim := { program := "ytfmppncefbjicaadoor", sum := "5b0b5fb67dd871cf891a4799b4e2862e2b9d0653765c3a5346d1b3842768a7b1", func := "lampblack/lampblacklaw07.MinorModels", spec := "minorModels", unfollowed := true, recurses := true, named := ["math/bits.deBruijn32tab", "math/bits.deBruijn64tab"], apart := false, laid := [("math/bits.deBruijn32tab", laid_math_bits_deBruijn32tab), ("math/bits.deBruijn64tab", laid_math_bits_deBruijn64tab)] }
def MinorModelsSaid : Prop := minorModelsRow.holds Tryd.pinned (OpenSpec.ofChange minorModelsSpec)

/-- ITS FALSE NEIGHBOUR: 'it returns false'. Refute it at one input. -/
def minorModelsWrong : ChangeSpec := { name := "minorModels", fn := fun _ => fun
  | [d1, d2, d3] => { results := [.lit (.bool false)], args := [d1, d2, d3] }
  | _ => none }
def MinorModelsWrongFalsely : Prop := minorModelsRow.holds Tryd.pinned (OpenSpec.ofChange minorModelsWrong)

/-- 'lampblacklaw07.MinorNamed': WHATEVER THE INPUT: true; the input reads as it did. -/
def minorNamedSpec : ChangeSpec := { name := "minorNamed", fn := fun _ => fun
  | [d] => { results := [.lit (.bool true)], args := [d] }
  | _ => none }
def minorNamedRow : OpenClaim := { program := "ytfmppncefbjicaadoor", sum := "5b0b5fb67dd871cf891a4799b4e2862e2b9d0653765c3a5346d1b3842768a7b1", func := "lampblack/lampblacklaw07.MinorNamed", spec := "minorNamed", unfollowed := true, recurses := true, named := ["math/bits.deBruijn32tab", "math/bits.deBruijn64tab"], apart := false, laid := [("math/bits.deBruijn32tab", laid_math_bits_deBruijn32tab), ("math/bits.deBruijn64tab", laid_math_bits_deBruijn64tab)] }
def MinorNamedSaid : Prop := minorNamedRow.holds Tryd.pinned (OpenSpec.ofChange minorNamedSpec)

/-- ITS FALSE NEIGHBOUR: 'it returns false'. Refute it at one input. -/
def minorNamedWrong : ChangeSpec := { name := "minorNamed", fn := fun _ => fun
  | [d] => { results := [.lit (.bool false)], args := [d] }
  | _ => none }
def MinorNamedWrongFalsely : Prop := minorNamedRow.holds Tryd.pinned (OpenSpec.ofChange minorNamedWrong)

/-- 'lampblacklaw07.MinorReduces': WHATEVER THE INPUT: true; the input reads as it did. -/
def minorReducesSpec : ChangeSpec := { name := "minorReduces", fn := fun _ => fun
  | [d1, d2] => { results := [.lit (.bool true)], args := [d1, d2] }
  | _ => none }
def minorReducesRow : OpenClaim := { program := "ytfmppncefbjicaadoor", sum := "5b0b5fb67dd871cf891a4799b4e2862e2b9d0653765c3a5346d1b3842768a7b1", func := "lampblack/lampblacklaw07.MinorReduces", spec := "minorReduces", unfollowed := true, recurses := true, named := ["math/bits.deBruijn32tab", "math/bits.deBruijn64tab"], apart := false, laid := [("math/bits.deBruijn32tab", laid_math_bits_deBruijn32tab), ("math/bits.deBruijn64tab", laid_math_bits_deBruijn64tab)] }
def MinorReducesSaid : Prop := minorReducesRow.holds Tryd.pinned (OpenSpec.ofChange minorReducesSpec)

/-- ITS FALSE NEIGHBOUR: 'it returns false'. Refute it at one input. -/
def minorReducesWrong : ChangeSpec := { name := "minorReduces", fn := fun _ => fun
  | [d1, d2] => { results := [.lit (.bool false)], args := [d1, d2] }
  | _ => none }
def MinorReducesWrongFalsely : Prop := minorReducesRow.holds Tryd.pinned (OpenSpec.ofChange minorReducesWrong)

/-- 'lampblacklaw07.MinorOuters': WHATEVER THE INPUT: true; the input reads as it did. -/
def minorOutersSpec : ChangeSpec := { name := "minorOuters", fn := fun _ => fun
  | [d1, d2] => { results := [.lit (.bool true)], args := [d1, d2] }
  | _ => none }
def minorOutersRow : OpenClaim := { program := "ytfmppncefbjicaadoor", sum := "5b0b5fb67dd871cf891a4799b4e2862e2b9d0653765c3a5346d1b3842768a7b1", func := "lampblack/lampblacklaw07.MinorOuters", spec := "minorOuters", unfollowed := true, recurses := true, named := ["math/bits.deBruijn32tab", "math/bits.deBruijn64tab"], apart := false, laid := [("math/bits.deBruijn32tab", laid_math_bits_deBruijn32tab), ("math/bits.deBruijn64tab", laid_math_bits_deBruijn64tab)] }
def MinorOutersSaid : Prop := minorOutersRow.holds Tryd.pinned (OpenSpec.ofChange minorOutersSpec)

/-- ITS FALSE NEIGHBOUR: 'it returns false'. Refute it at one input. -/
def minorOutersWrong : ChangeSpec := { name := "minorOuters", fn := fun _ => fun
  | [d1, d2] => { results := [.lit (.bool false)], args := [d1, d2] }
  | _ => none }
def MinorOutersWrongFalsely : Prop := minorOutersRow.holds Tryd.pinned (OpenSpec.ofChange minorOutersWrong)

/-- 'lampblacklaw07.MinorGreatest': WHATEVER THE INPUT: true; the input reads as it did. -/
def minorGreatestSpec : ChangeSpec := { name := "minorGreatest", fn := fun _ => fun
  | [d] => { results := [.lit (.bool true)], args := [d] }
  | _ => none }
def minorGreatestRow : OpenClaim := { program := "ytfmppncefbjicaadoor", sum := "5b0b5fb67dd871cf891a4799b4e2862e2b9d0653765c3a5346d1b3842768a7b1", func := "lampblack/lampblacklaw07.MinorGreatest", spec := "minorGreatest", unfollowed := true, recurses := true, named := ["math/bits.deBruijn32tab", "math/bits.deBruijn64tab"], apart := false, laid := [("math/bits.deBruijn32tab", laid_math_bits_deBruijn32tab), ("math/bits.deBruijn64tab", laid_math_bits_deBruijn64tab)] }
def MinorGreatestSaid : Prop := minorGreatestRow.holds Tryd.pinned (OpenSpec.ofChange minorGreatestSpec)

/-- ITS FALSE NEIGHBOUR: 'it returns false'. Refute it at one input. -/
def minorGreatestWrong : ChangeSpec := { name := "minorGreatest", fn := fun _ => fun
  | [d] => { results := [.lit (.bool false)], args := [d] }
  | _ => none }
def MinorGreatestWrongFalsely : Prop := minorGreatestRow.holds Tryd.pinned (OpenSpec.ofChange minorGreatestWrong)

/-- 'lampblacklaw07.MinorLess': WHATEVER THE INPUT: true; the input reads as it did. -/
def minorLessSpec : ChangeSpec := { name := "minorLess", fn := fun _ => fun
  | [d1, d2, d3] => { results := [.lit (.bool true)], args := [d1, d2, d3] }
  | _ => none }
def minorLessRow : OpenClaim := { program := "ytfmppncefbjicaadoor", sum := "5b0b5fb67dd871cf891a4799b4e2862e2b9d0653765c3a5346d1b3842768a7b1", func := "lampblack/lampblacklaw07.MinorLess", spec := "minorLess", unfollowed := true, recurses := true, named := ["math/bits.deBruijn32tab", "math/bits.deBruijn64tab"], apart := false, laid := [("math/bits.deBruijn32tab", laid_math_bits_deBruijn32tab), ("math/bits.deBruijn64tab", laid_math_bits_deBruijn64tab)] }
def MinorLessSaid : Prop := minorLessRow.holds Tryd.pinned (OpenSpec.ofChange minorLessSpec)

/-- ITS FALSE NEIGHBOUR: 'it returns false'. Refute it at one input. -/
def minorLessWrong : ChangeSpec := { name := "minorLess", fn := fun _ => fun
  | [d1, d2, d3] => { results := [.lit (.bool false)], args := [d1, d2, d3] }
  | _ => none }
def MinorLessWrongFalsely : Prop := minorLessRow.holds Tryd.pinned (OpenSpec.ofChange minorLessWrong)

/-- 'lampblacklaw07.MinorFound': WHATEVER THE INPUT: true; the input reads as it did. -/
def minorFoundSpec : ChangeSpec := { name := "minorFound", fn := fun _ => fun
  | [d1, d2, d3, d4, d5] => { results := [.lit (.bool true)], args := [d1, d2, d3, d4, d5] }
  | _ => none }
def minorFoundRow : OpenClaim := { program := "ytfmppncefbjicaadoor", sum := "5b0b5fb67dd871cf891a4799b4e2862e2b9d0653765c3a5346d1b3842768a7b1", func := "lampblack/lampblacklaw07.MinorFound", spec := "minorFound", unfollowed := true, recurses := true, named := ["math/bits.deBruijn32tab", "math/bits.deBruijn64tab"], apart := false, laid := [("math/bits.deBruijn32tab", laid_math_bits_deBruijn32tab), ("math/bits.deBruijn64tab", laid_math_bits_deBruijn64tab)] }
def MinorFoundSaid : Prop := minorFoundRow.holds Tryd.pinned (OpenSpec.ofChange minorFoundSpec)

/-- ITS FALSE NEIGHBOUR: 'it returns false'. Refute it at one input. -/
def minorFoundWrong : ChangeSpec := { name := "minorFound", fn := fun _ => fun
  | [d1, d2, d3, d4, d5] => { results := [.lit (.bool false)], args := [d1, d2, d3, d4, d5] }
  | _ => none }
def MinorFoundWrongFalsely : Prop := minorFoundRow.holds Tryd.pinned (OpenSpec.ofChange minorFoundWrong)

/-- 'lampblacklaw07.MinorSeries': WHATEVER THE INPUT: true; the input reads as it did. -/
def minorSeriesSpec : ChangeSpec := { name := "minorSeries", fn := fun _ => fun
  | [d] => { results := [.lit (.bool true)], args := [d] }
  | _ => none }
def minorSeriesRow : OpenClaim := { program := "ytfmppncefbjicaadoor", sum := "5b0b5fb67dd871cf891a4799b4e2862e2b9d0653765c3a5346d1b3842768a7b1", func := "lampblack/lampblacklaw07.MinorSeries", spec := "minorSeries", unfollowed := true, recurses := true, named := ["math/bits.deBruijn32tab", "math/bits.deBruijn64tab"], apart := false, laid := [("math/bits.deBruijn32tab", laid_math_bits_deBruijn32tab), ("math/bits.deBruijn64tab", laid_math_bits_deBruijn64tab)] }
def MinorSeriesSaid : Prop := minorSeriesRow.holds Tryd.pinned (OpenSpec.ofChange minorSeriesSpec)

/-- ITS FALSE NEIGHBOUR: 'it returns false'. Refute it at one input. -/
def minorSeriesWrong : ChangeSpec := { name := "minorSeries", fn := fun _ => fun
  | [d] => { results := [.lit (.bool false)], args := [d] }
  | _ => none }
def MinorSeriesWrongFalsely : Prop := minorSeriesRow.holds Tryd.pinned (OpenSpec.ofChange minorSeriesWrong)

/-- 'lampblacklaw07.MinorRound': WHATEVER THE INPUT: true; the input reads as it did. -/
def minorRoundSpec : ChangeSpec := { name := "minorRound", fn := fun _ => fun
  | [d1, d2] => { results := [.lit (.bool true)], args := [d1, d2] }
  | _ => none }
def minorRoundRow : OpenClaim := { program := "ytfmppncefbjicaadoor", sum := "5b0b5fb67dd871cf891a4799b4e2862e2b9d0653765c3a5346d1b3842768a7b1", func := "lampblack/lampblacklaw07.MinorRound", spec := "minorRound", unfollowed := true, recurses := true, named := ["math/bits.deBruijn32tab", "math/bits.deBruijn64tab"], apart := false, laid := [("math/bits.deBruijn32tab", laid_math_bits_deBruijn32tab), ("math/bits.deBruijn64tab", laid_math_bits_deBruijn64tab)] }
def MinorRoundSaid : Prop := minorRoundRow.holds Tryd.pinned (OpenSpec.ofChange minorRoundSpec)

/-- ITS FALSE NEIGHBOUR: 'it returns false'. Refute it at one input. -/
def minorRoundWrong : ChangeSpec := { name := "minorRound", fn := fun _ => fun
  | [d1, d2] => { results := [.lit (.bool false)], args := [d1, d2] }
  | _ => none }
def MinorRoundWrongFalsely : Prop := minorRoundRow.holds Tryd.pinned (OpenSpec.ofChange minorRoundWrong)

/-- 'lampblacklaw07.MinorForests': WHATEVER THE INPUT: true; the input reads as it did. -/
def minorForestsSpec : ChangeSpec := { name := "minorForests", fn := fun _ => fun
  | [d] => { results := [.lit (.bool true)], args := [d] }
  | _ => none }
def minorForestsRow : OpenClaim := { program := "ytfmppncefbjicaadoor", sum := "5b0b5fb67dd871cf891a4799b4e2862e2b9d0653765c3a5346d1b3842768a7b1", func := "lampblack/lampblacklaw07.MinorForests", spec := "minorForests", unfollowed := true, recurses := true, named := ["math/bits.deBruijn32tab", "math/bits.deBruijn64tab"], apart := false, laid := [("math/bits.deBruijn32tab", laid_math_bits_deBruijn32tab), ("math/bits.deBruijn64tab", laid_math_bits_deBruijn64tab)] }
def MinorForestsSaid : Prop := minorForestsRow.holds Tryd.pinned (OpenSpec.ofChange minorForestsSpec)

/-- ITS FALSE NEIGHBOUR: 'it returns false'. Refute it at one input. -/
def minorForestsWrong : ChangeSpec := { name := "minorForests", fn := fun _ => fun
  | [d] => { results := [.lit (.bool false)], args := [d] }
  | _ => none }
def MinorForestsWrongFalsely : Prop := minorForestsRow.holds Tryd.pinned (OpenSpec.ofChange minorForestsWrong)

/-- 'lampblacklaw07.MinorWidths': WHATEVER THE INPUT: true; the input reads as it did. -/
def minorWidthsSpec : ChangeSpec := { name := "minorWidths", fn := fun _ => fun
  | [d] => { results := [.lit (.bool true)], args := [d] }
  | _ => none }
def minorWidthsRow : OpenClaim := { program := "ytfmppncefbjicaadoor", sum := "5b0b5fb67dd871cf891a4799b4e2862e2b9d0653765c3a5346d1b3842768a7b1", func := "lampblack/lampblacklaw07.MinorWidths", spec := "minorWidths", unfollowed := true, recurses := true, named := ["math/bits.deBruijn32tab", "math/bits.deBruijn64tab"], apart := false, laid := [("math/bits.deBruijn32tab", laid_math_bits_deBruijn32tab), ("math/bits.deBruijn64tab", laid_math_bits_deBruijn64tab)] }
def MinorWidthsSaid : Prop := minorWidthsRow.holds Tryd.pinned (OpenSpec.ofChange minorWidthsSpec)

/-- ITS FALSE NEIGHBOUR: 'it returns false'. Refute it at one input. -/
def minorWidthsWrong : ChangeSpec := { name := "minorWidths", fn := fun _ => fun
  | [d] => { results := [.lit (.bool false)], args := [d] }
  | _ => none }
def MinorWidthsWrongFalsely : Prop := minorWidthsRow.holds Tryd.pinned (OpenSpec.ofChange minorWidthsWrong)

/-- 'lampblacklaw07.MinorWheels': WHATEVER THE INPUT: true; the input reads as it did. -/
def minorWheelsSpec : ChangeSpec := { name := "minorWheels", fn := fun _ => fun
  | [d] => { results := [.lit (.bool true)], args := [d] }
  | _ => none }
def minorWheelsRow : OpenClaim := { program := "ytfmppncefbjicaadoor", sum := "5b0b5fb67dd871cf891a4799b4e2862e2b9d0653765c3a5346d1b3842768a7b1", func := "lampblack/lampblacklaw07.MinorWheels", spec := "minorWheels", unfollowed := true, recurses := true, named := ["math/bits.deBruijn32tab", "math/bits.deBruijn64tab"], apart := false, laid := [("math/bits.deBruijn32tab", laid_math_bits_deBruijn32tab), ("math/bits.deBruijn64tab", laid_math_bits_deBruijn64tab)] }
def MinorWheelsSaid : Prop := minorWheelsRow.holds Tryd.pinned (OpenSpec.ofChange minorWheelsSpec)

/-- ITS FALSE NEIGHBOUR: 'it returns false'. Refute it at one input. -/
def minorWheelsWrong : ChangeSpec := { name := "minorWheels", fn := fun _ => fun
  | [d] => { results := [.lit (.bool false)], args := [d] }
  | _ => none }
def MinorWheelsWrongFalsely : Prop := minorWheelsRow.holds Tryd.pinned (OpenSpec.ofChange minorWheelsWrong)

/- THE SECOND FORM. 'bulk': how many values and letters a reading holds, each counted each time it is reached (what is shared counts as often as it is met; a slice's spare places count too). A statement '..UptoSaid' is the law's where the arguments, and the package variables that the reading takes, are together of bulk at most 1048576: NARROWER than '..Said'. Prove '..Said' where nothing that the law and all that it calls make is longer than what came in: it says more and counts as full. Else prove '..UptoSaid'. A law counts once. -/
mutual
def uptoBulk {H : Type} : DataW H → Nat
  | .lit (.string bytes) => bytes.length + 1
  | .lit _ => 1
  | .nil => 1
  | .ptr d => uptoBulk d + 1
  | .slice elems spare => uptoBulkAll elems + uptoBulkAll spare + 1
  | .agg parts => uptoBulkAll parts + 1
  | .iface _ d => uptoBulk d + 1
  | .map entries => uptoBulkEntries entries + 1
  | .held _ => 1
def uptoBulkAll {H : Type} : List (DataW H) → Nat
  | [] => 0
  | d :: r => uptoBulk d + uptoBulkAll r
def uptoBulkEntries {H : Type} : List (Lit × DataW H) → Nat
  | [] => 0
  | x :: r => uptoBulkEntry x + uptoBulkEntries r
def uptoBulkEntry {H : Type} : Lit × DataW H → Nat
  | (.string bytes, d) => bytes.length + uptoBulk d + 1
  | (_, d) => uptoBulk d + 1
 end
def uptoSmall : (H : Type) → List (DataW H) → Bool := fun _ ds => decide (uptoBulkAll ds ≤ 1048576)
def OpenSpec.upto (s : _root_.Go.ChangeSpec) : _root_.Go.OpenSpec := { _root_.Go.OpenSpec.ofChange s with cond := some uptoSmall }

/-- 'lampblacklaw07.MinorModels', WHERE WHAT IT READS IS OF BULK AT MOST 1048576: true; the input reads as it did. -/
def minorModelsUptoRow : OpenClaim := { program := "ytfmppncefbjicaadoor", sum := "5b0b5fb67dd871cf891a4799b4e2862e2b9d0653765c3a5346d1b3842768a7b1", func := "lampblack/lampblacklaw07.MinorModels", spec := "minorModels", unfollowed := true, recurses := true, named := ["math/bits.deBruijn32tab", "math/bits.deBruijn64tab"], apart := false, laid := [("math/bits.deBruijn32tab", laid_math_bits_deBruijn32tab), ("math/bits.deBruijn64tab", laid_math_bits_deBruijn64tab)], narrowed := true }
def MinorModelsUptoSaid : Prop := minorModelsUptoRow.holds Tryd.pinned (OpenSpec.upto minorModelsSpec)

/-- 'lampblacklaw07.MinorNamed', WHERE WHAT IT READS IS OF BULK AT MOST 1048576: true; the input reads as it did. -/
def minorNamedUptoRow : OpenClaim := { program := "ytfmppncefbjicaadoor", sum := "5b0b5fb67dd871cf891a4799b4e2862e2b9d0653765c3a5346d1b3842768a7b1", func := "lampblack/lampblacklaw07.MinorNamed", spec := "minorNamed", unfollowed := true, recurses := true, named := ["math/bits.deBruijn32tab", "math/bits.deBruijn64tab"], apart := false, laid := [("math/bits.deBruijn32tab", laid_math_bits_deBruijn32tab), ("math/bits.deBruijn64tab", laid_math_bits_deBruijn64tab)], narrowed := true }
def MinorNamedUptoSaid : Prop := minorNamedUptoRow.holds Tryd.pinned (OpenSpec.upto minorNamedSpec)

/-- 'lampblacklaw07.MinorReduces', WHERE WHAT IT READS IS OF BULK AT MOST 1048576: true; the input reads as it did. -/
def minorReducesUptoRow : OpenClaim := { program := "ytfmppncefbjicaadoor", sum := "5b0b5fb67dd871cf891a4799b4e2862e2b9d0653765c3a5346d1b3842768a7b1", func := "lampblack/lampblacklaw07.MinorReduces", spec := "minorReduces", unfollowed := true, recurses := true, named := ["math/bits.deBruijn32tab", "math/bits.deBruijn64tab"], apart := false, laid := [("math/bits.deBruijn32tab", laid_math_bits_deBruijn32tab), ("math/bits.deBruijn64tab", laid_math_bits_deBruijn64tab)], narrowed := true }
def MinorReducesUptoSaid : Prop := minorReducesUptoRow.holds Tryd.pinned (OpenSpec.upto minorReducesSpec)

/-- 'lampblacklaw07.MinorOuters', WHERE WHAT IT READS IS OF BULK AT MOST 1048576: true; the input reads as it did. -/
def minorOutersUptoRow : OpenClaim := { program := "ytfmppncefbjicaadoor", sum := "5b0b5fb67dd871cf891a4799b4e2862e2b9d0653765c3a5346d1b3842768a7b1", func := "lampblack/lampblacklaw07.MinorOuters", spec := "minorOuters", unfollowed := true, recurses := true, named := ["math/bits.deBruijn32tab", "math/bits.deBruijn64tab"], apart := false, laid := [("math/bits.deBruijn32tab", laid_math_bits_deBruijn32tab), ("math/bits.deBruijn64tab", laid_math_bits_deBruijn64tab)], narrowed := true }
def MinorOutersUptoSaid : Prop := minorOutersUptoRow.holds Tryd.pinned (OpenSpec.upto minorOutersSpec)

/-- 'lampblacklaw07.MinorGreatest', WHERE WHAT IT READS IS OF BULK AT MOST 1048576: true; the input reads as it did. -/
def minorGreatestUptoRow : OpenClaim := { program := "ytfmppncefbjicaadoor", sum := "5b0b5fb67dd871cf891a4799b4e2862e2b9d0653765c3a5346d1b3842768a7b1", func := "lampblack/lampblacklaw07.MinorGreatest", spec := "minorGreatest", unfollowed := true, recurses := true, named := ["math/bits.deBruijn32tab", "math/bits.deBruijn64tab"], apart := false, laid := [("math/bits.deBruijn32tab", laid_math_bits_deBruijn32tab), ("math/bits.deBruijn64tab", laid_math_bits_deBruijn64tab)], narrowed := true }
def MinorGreatestUptoSaid : Prop := minorGreatestUptoRow.holds Tryd.pinned (OpenSpec.upto minorGreatestSpec)

/-- 'lampblacklaw07.MinorLess', WHERE WHAT IT READS IS OF BULK AT MOST 1048576: true; the input reads as it did. -/
def minorLessUptoRow : OpenClaim := { program := "ytfmppncefbjicaadoor", sum := "5b0b5fb67dd871cf891a4799b4e2862e2b9d0653765c3a5346d1b3842768a7b1", func := "lampblack/lampblacklaw07.MinorLess", spec := "minorLess", unfollowed := true, recurses := true, named := ["math/bits.deBruijn32tab", "math/bits.deBruijn64tab"], apart := false, laid := [("math/bits.deBruijn32tab", laid_math_bits_deBruijn32tab), ("math/bits.deBruijn64tab", laid_math_bits_deBruijn64tab)], narrowed := true }
def MinorLessUptoSaid : Prop := minorLessUptoRow.holds Tryd.pinned (OpenSpec.upto minorLessSpec)

/-- 'lampblacklaw07.MinorFound', WHERE WHAT IT READS IS OF BULK AT MOST 1048576: true; the input reads as it did. -/
def minorFoundUptoRow : OpenClaim := { program := "ytfmppncefbjicaadoor", sum := "5b0b5fb67dd871cf891a4799b4e2862e2b9d0653765c3a5346d1b3842768a7b1", func := "lampblack/lampblacklaw07.MinorFound", spec := "minorFound", unfollowed := true, recurses := true, named := ["math/bits.deBruijn32tab", "math/bits.deBruijn64tab"], apart := false, laid := [("math/bits.deBruijn32tab", laid_math_bits_deBruijn32tab), ("math/bits.deBruijn64tab", laid_math_bits_deBruijn64tab)], narrowed := true }
def MinorFoundUptoSaid : Prop := minorFoundUptoRow.holds Tryd.pinned (OpenSpec.upto minorFoundSpec)

/-- 'lampblacklaw07.MinorSeries', WHERE WHAT IT READS IS OF BULK AT MOST 1048576: true; the input reads as it did. -/
def minorSeriesUptoRow : OpenClaim := { program := "ytfmppncefbjicaadoor", sum := "5b0b5fb67dd871cf891a4799b4e2862e2b9d0653765c3a5346d1b3842768a7b1", func := "lampblack/lampblacklaw07.MinorSeries", spec := "minorSeries", unfollowed := true, recurses := true, named := ["math/bits.deBruijn32tab", "math/bits.deBruijn64tab"], apart := false, laid := [("math/bits.deBruijn32tab", laid_math_bits_deBruijn32tab), ("math/bits.deBruijn64tab", laid_math_bits_deBruijn64tab)], narrowed := true }
def MinorSeriesUptoSaid : Prop := minorSeriesUptoRow.holds Tryd.pinned (OpenSpec.upto minorSeriesSpec)

/-- 'lampblacklaw07.MinorRound', WHERE WHAT IT READS IS OF BULK AT MOST 1048576: true; the input reads as it did. -/
def minorRoundUptoRow : OpenClaim := { program := "ytfmppncefbjicaadoor", sum := "5b0b5fb67dd871cf891a4799b4e2862e2b9d0653765c3a5346d1b3842768a7b1", func := "lampblack/lampblacklaw07.MinorRound", spec := "minorRound", unfollowed := true, recurses := true, named := ["math/bits.deBruijn32tab", "math/bits.deBruijn64tab"], apart := false, laid := [("math/bits.deBruijn32tab", laid_math_bits_deBruijn32tab), ("math/bits.deBruijn64tab", laid_math_bits_deBruijn64tab)], narrowed := true }
def MinorRoundUptoSaid : Prop := minorRoundUptoRow.holds Tryd.pinned (OpenSpec.upto minorRoundSpec)

/-- 'lampblacklaw07.MinorForests', WHERE WHAT IT READS IS OF BULK AT MOST 1048576: true; the input reads as it did. -/
def minorForestsUptoRow : OpenClaim := { program := "ytfmppncefbjicaadoor", sum := "5b0b5fb67dd871cf891a4799b4e2862e2b9d0653765c3a5346d1b3842768a7b1", func := "lampblack/lampblacklaw07.MinorForests", spec := "minorForests", unfollowed := true, recurses := true, named := ["math/bits.deBruijn32tab", "math/bits.deBruijn64tab"], apart := false, laid := [("math/bits.deBruijn32tab", laid_math_bits_deBruijn32tab), ("math/bits.deBruijn64tab", laid_math_bits_deBruijn64tab)], narrowed := true }
def MinorForestsUptoSaid : Prop := minorForestsUptoRow.holds Tryd.pinned (OpenSpec.upto minorForestsSpec)

/-- 'lampblacklaw07.MinorWidths', WHERE WHAT IT READS IS OF BULK AT MOST 1048576: true; the input reads as it did. -/
def minorWidthsUptoRow : OpenClaim := { program := "ytfmppncefbjicaadoor", sum := "5b0b5fb67dd871cf891a4799b4e2862e2b9d0653765c3a5346d1b3842768a7b1", func := "lampblack/lampblacklaw07.MinorWidths", spec := "minorWidths", unfollowed := true, recurses := true, named := ["math/bits.deBruijn32tab", "math/bits.deBruijn64tab"], apart := false, laid := [("math/bits.deBruijn32tab", laid_math_bits_deBruijn32tab), ("math/bits.deBruijn64tab", laid_math_bits_deBruijn64tab)], narrowed := true }
def MinorWidthsUptoSaid : Prop := minorWidthsUptoRow.holds Tryd.pinned (OpenSpec.upto minorWidthsSpec)

/-- 'lampblacklaw07.MinorWheels', WHERE WHAT IT READS IS OF BULK AT MOST 1048576: true; the input reads as it did. -/
def minorWheelsUptoRow : OpenClaim := { program := "ytfmppncefbjicaadoor", sum := "5b0b5fb67dd871cf891a4799b4e2862e2b9d0653765c3a5346d1b3842768a7b1", func := "lampblack/lampblacklaw07.MinorWheels", spec := "minorWheels", unfollowed := true, recurses := true, named := ["math/bits.deBruijn32tab", "math/bits.deBruijn64tab"], apart := false, laid := [("math/bits.deBruijn32tab", laid_math_bits_deBruijn32tab), ("math/bits.deBruijn64tab", laid_math_bits_deBruijn64tab)], narrowed := true }
def MinorWheelsUptoSaid : Prop := minorWheelsUptoRow.holds Tryd.pinned (OpenSpec.upto minorWheelsSpec)

end Rows
end Go.Proofs.YtfmppncefbjicaaDoor
