/-
  NARROWER THAN 'FOR EVERY INPUT', by the rows' own cells (each row's printed sentence says how): SweepLayouts: laid · SweepBags: laid · SweepPaths: laid · SweepPlays: laid · SweepPlans: laid · SweepBlockages: laid · SweepChecks: laid · SweepLeast: laid · SweepSame: laid · SweepEither: laid · SweepOrders: laid · SweepWider: laid · SweepParts: laid · SweepTurns: laid.
  DERIVED. THE GIVEN ROWS OF THIS SEAT. 14 by the template 'for every input the law returns true; each argument reads behind the call as it read before'; 0 by the template 'total and deterministic' (their statements: YtgkpogaahndmoaaDoorTotals.lean).
  GIVEN WITH THE SEED: the statements are not yours to turn. If you find one false, say at which input.
  Laid BY PROGRAM, IN A SANDBOX (cutbox-rows.mjs): the forced cells as the released guide's own fill.sh prints them over the translation 8331726dd06feaac… (all of the seat's roots in one cut). By AI agents, Wed Nov 11 2026. No macro, syntax, notation, axiom, sorry.
-/
import Derived.Test.YtgkpogaahndmoaaDoorChecked
import GoSem.Claim
import GoSem.ClaimJoined
import GoSem.ClaimMapViews
import Derived.JoinedTies
import Derived.KernelRfl
namespace Go.Proofs.YtgkpogaahndmoaaDoor
/- THE CELL 'sum', in the pinned program and in every row, IS THE sha256 OF THE DUMP (.gsa) THAT YtgkpogaahndmoaaDoorProg.lean LOADS. Nothing in Lean hashes anything: it is a label: what it is worth is what the hold of that sum in a sandbox is worth. -/
noncomputable def Tryd.pinned : Pinned := { name := "ytgkpogaahndmoaadoor", sum := "8331726dd06feaac50ac85fbd5f7ecba06790e5bd7de2e0bd60a6982c19f2297", checked := Tryd.checked }
namespace Rows
def none {H : Type} : Left H := { results := [], args := [] }

/- WHAT THE LISTED PACKAGE-LEVEL VARIABLES READ AS WHEN THE CALL BEGINS. Each datum BY PROGRAM (the guide's laid-datum.mjs) off the statement by which the dump's own 'gosem.cut.vars' lays the variable. In a bare row this is a premise. The card (YtgkpogaahndmoaaDoorCards.lean) ties it to the program's text. -/
def laid_math_bits_deBruijn32tab {H : Type} : DataW H := .agg [.lit (.int .u8 0), .lit (.int .u8 1), .lit (.int .u8 28), .lit (.int .u8 2), .lit (.int .u8 29), .lit (.int .u8 14), .lit (.int .u8 24), .lit (.int .u8 3), .lit (.int .u8 30), .lit (.int .u8 22), .lit (.int .u8 20), .lit (.int .u8 15), .lit (.int .u8 25), .lit (.int .u8 17), .lit (.int .u8 4), .lit (.int .u8 8), .lit (.int .u8 31), .lit (.int .u8 27), .lit (.int .u8 13), .lit (.int .u8 23), .lit (.int .u8 21), .lit (.int .u8 19), .lit (.int .u8 16), .lit (.int .u8 7), .lit (.int .u8 26), .lit (.int .u8 12), .lit (.int .u8 18), .lit (.int .u8 6), .lit (.int .u8 11), .lit (.int .u8 5), .lit (.int .u8 10), .lit (.int .u8 9)]
def laid_math_bits_deBruijn64tab {H : Type} : DataW H := .agg [.lit (.int .u8 0), .lit (.int .u8 1), .lit (.int .u8 56), .lit (.int .u8 2), .lit (.int .u8 57), .lit (.int .u8 49), .lit (.int .u8 28), .lit (.int .u8 3), .lit (.int .u8 61), .lit (.int .u8 58), .lit (.int .u8 42), .lit (.int .u8 50), .lit (.int .u8 38), .lit (.int .u8 29), .lit (.int .u8 17), .lit (.int .u8 4), .lit (.int .u8 62), .lit (.int .u8 47), .lit (.int .u8 59), .lit (.int .u8 36), .lit (.int .u8 45), .lit (.int .u8 43), .lit (.int .u8 51), .lit (.int .u8 22), .lit (.int .u8 53), .lit (.int .u8 39), .lit (.int .u8 33), .lit (.int .u8 30), .lit (.int .u8 24), .lit (.int .u8 18), .lit (.int .u8 12), .lit (.int .u8 5), .lit (.int .u8 63), .lit (.int .u8 55), .lit (.int .u8 48), .lit (.int .u8 27), .lit (.int .u8 60), .lit (.int .u8 41), .lit (.int .u8 37), .lit (.int .u8 16), .lit (.int .u8 46), .lit (.int .u8 35), .lit (.int .u8 44), .lit (.int .u8 21), .lit (.int .u8 52), .lit (.int .u8 32), .lit (.int .u8 23), .lit (.int .u8 11), .lit (.int .u8 54), .lit (.int .u8 26), .lit (.int .u8 40), .lit (.int .u8 15), .lit (.int .u8 34), .lit (.int .u8 20), .lit (.int .u8 31), .lit (.int .u8 10), .lit (.int .u8 25), .lit (.int .u8 14), .lit (.int .u8 19), .lit (.int .u8 9), .lit (.int .u8 13), .lit (.int .u8 8), .lit (.int .u8 7), .lit (.int .u8 6)]

/-- 'lampblacklaw03.SweepLayouts': WHATEVER THE INPUT: true; the input reads as it did. -/
def sweepLayoutsSpec : ChangeSpec := { name := "sweepLayouts", fn := fun _ => fun
  | [d1, d2] => { results := [.lit (.bool true)], args := [d1, d2] }
  | _ => none }
def sweepLayoutsRow : OpenClaim := { program := "ytgkpogaahndmoaadoor", sum := "8331726dd06feaac50ac85fbd5f7ecba06790e5bd7de2e0bd60a6982c19f2297", func := "lampblack/lampblacklaw03.SweepLayouts", spec := "sweepLayouts", unfollowed := true, recurses := true, named := ["math/bits.deBruijn32tab", "math/bits.deBruijn64tab"], apart := false, laid := [("math/bits.deBruijn32tab", laid_math_bits_deBruijn32tab), ("math/bits.deBruijn64tab", laid_math_bits_deBruijn64tab)] }
def SweepLayoutsSaid : Prop := sweepLayoutsRow.holds Tryd.pinned (OpenSpec.ofChange sweepLayoutsSpec)

/-- ITS FALSE NEIGHBOUR: 'it returns false'. Refute it at one input. -/
def sweepLayoutsWrong : ChangeSpec := { name := "sweepLayouts", fn := fun _ => fun
  | [d1, d2] => { results := [.lit (.bool false)], args := [d1, d2] }
  | _ => none }
def SweepLayoutsWrongFalsely : Prop := sweepLayoutsRow.holds Tryd.pinned (OpenSpec.ofChange sweepLayoutsWrong)

/-- 'lampblacklaw03.SweepBags': WHATEVER THE INPUT: true; the input reads as it did. -/
def sweepBagsSpec : ChangeSpec := { name := "sweepBags", fn := fun _ => fun
  | [d1, d2] => { results := [.lit (.bool true)], args := [d1, d2] }
  | _ => none }
def sweepBagsRow : OpenClaim := { program := "ytgkpogaahndmoaadoor", sum := "8331726dd06feaac50ac85fbd5f7ecba06790e5bd7de2e0bd60a6982c19f2297", func := "lampblack/lampblacklaw03.SweepBags", spec := "sweepBags", unfollowed := true, recurses := true, named := ["math/bits.deBruijn32tab", "math/bits.deBruijn64tab"], apart := false, laid := [("math/bits.deBruijn32tab", laid_math_bits_deBruijn32tab), ("math/bits.deBruijn64tab", laid_math_bits_deBruijn64tab)] }
def SweepBagsSaid : Prop := sweepBagsRow.holds Tryd.pinned (OpenSpec.ofChange sweepBagsSpec)

/-- ITS FALSE NEIGHBOUR: 'it returns false'. Refute it at one input. -/
def sweepBagsWrong : ChangeSpec := { name := "sweepBags", fn := fun _ => fun
  | [d1, d2] => { results := [.lit (.bool false)], args := [d1, d2] }
  | _ => none }
def SweepBagsWrongFalsely : Prop := sweepBagsRow.holds Tryd.pinned (OpenSpec.ofChange sweepBagsWrong)

/-- 'lampblacklaw03.SweepPaths': WHATEVER THE INPUT: true; the input reads as it did. -/
def sweepPathsSpec : ChangeSpec := { name := "sweepPaths", fn := fun _ => fun
  | [d1, d2] => { results := [.lit (.bool true)], args := [d1, d2] }
  | _ => none }
def sweepPathsRow : OpenClaim := { program := "ytgkpogaahndmoaadoor", sum := "8331726dd06feaac50ac85fbd5f7ecba06790e5bd7de2e0bd60a6982c19f2297", func := "lampblack/lampblacklaw03.SweepPaths", spec := "sweepPaths", unfollowed := true, recurses := true, named := ["math/bits.deBruijn32tab", "math/bits.deBruijn64tab"], apart := false, laid := [("math/bits.deBruijn32tab", laid_math_bits_deBruijn32tab), ("math/bits.deBruijn64tab", laid_math_bits_deBruijn64tab)] }
def SweepPathsSaid : Prop := sweepPathsRow.holds Tryd.pinned (OpenSpec.ofChange sweepPathsSpec)

/-- ITS FALSE NEIGHBOUR: 'it returns false'. Refute it at one input. -/
def sweepPathsWrong : ChangeSpec := { name := "sweepPaths", fn := fun _ => fun
  | [d1, d2] => { results := [.lit (.bool false)], args := [d1, d2] }
  | _ => none }
def SweepPathsWrongFalsely : Prop := sweepPathsRow.holds Tryd.pinned (OpenSpec.ofChange sweepPathsWrong)

/-- 'lampblacklaw03.SweepPlays': WHATEVER THE INPUT: true; the input reads as it did. -/
def sweepPlaysSpec : ChangeSpec := { name := "sweepPlays", fn := fun _ => fun
  | [d1, d2] => { results := [.lit (.bool true)], args := [d1, d2] }
  | _ => none }
def sweepPlaysRow : OpenClaim := { program := "ytgkpogaahndmoaadoor", sum := "8331726dd06feaac50ac85fbd5f7ecba06790e5bd7de2e0bd60a6982c19f2297", func := "lampblack/lampblacklaw03.SweepPlays", spec := "sweepPlays", unfollowed := true, recurses := true, named := ["math/bits.deBruijn32tab", "math/bits.deBruijn64tab"], apart := false, laid := [("math/bits.deBruijn32tab", laid_math_bits_deBruijn32tab), ("math/bits.deBruijn64tab", laid_math_bits_deBruijn64tab)] }
def SweepPlaysSaid : Prop := sweepPlaysRow.holds Tryd.pinned (OpenSpec.ofChange sweepPlaysSpec)

/-- ITS FALSE NEIGHBOUR: 'it returns false'. Refute it at one input. -/
def sweepPlaysWrong : ChangeSpec := { name := "sweepPlays", fn := fun _ => fun
  | [d1, d2] => { results := [.lit (.bool false)], args := [d1, d2] }
  | _ => none }
def SweepPlaysWrongFalsely : Prop := sweepPlaysRow.holds Tryd.pinned (OpenSpec.ofChange sweepPlaysWrong)

/-- 'lampblacklaw03.SweepPlans': WHATEVER THE INPUT: true; the input reads as it did. -/
def sweepPlansSpec : ChangeSpec := { name := "sweepPlans", fn := fun _ => fun
  | [d] => { results := [.lit (.bool true)], args := [d] }
  | _ => none }
def sweepPlansRow : OpenClaim := { program := "ytgkpogaahndmoaadoor", sum := "8331726dd06feaac50ac85fbd5f7ecba06790e5bd7de2e0bd60a6982c19f2297", func := "lampblack/lampblacklaw03.SweepPlans", spec := "sweepPlans", unfollowed := true, recurses := true, named := ["math/bits.deBruijn32tab", "math/bits.deBruijn64tab"], apart := false, laid := [("math/bits.deBruijn32tab", laid_math_bits_deBruijn32tab), ("math/bits.deBruijn64tab", laid_math_bits_deBruijn64tab)] }
def SweepPlansSaid : Prop := sweepPlansRow.holds Tryd.pinned (OpenSpec.ofChange sweepPlansSpec)

/-- ITS FALSE NEIGHBOUR: 'it returns false'. Refute it at one input. -/
def sweepPlansWrong : ChangeSpec := { name := "sweepPlans", fn := fun _ => fun
  | [d] => { results := [.lit (.bool false)], args := [d] }
  | _ => none }
def SweepPlansWrongFalsely : Prop := sweepPlansRow.holds Tryd.pinned (OpenSpec.ofChange sweepPlansWrong)

/-- 'lampblacklaw03.SweepBlockages': WHATEVER THE INPUT: true; the input reads as it did. -/
def sweepBlockagesSpec : ChangeSpec := { name := "sweepBlockages", fn := fun _ => fun
  | [d1, d2] => { results := [.lit (.bool true)], args := [d1, d2] }
  | _ => none }
def sweepBlockagesRow : OpenClaim := { program := "ytgkpogaahndmoaadoor", sum := "8331726dd06feaac50ac85fbd5f7ecba06790e5bd7de2e0bd60a6982c19f2297", func := "lampblack/lampblacklaw03.SweepBlockages", spec := "sweepBlockages", unfollowed := true, recurses := true, named := ["math/bits.deBruijn32tab", "math/bits.deBruijn64tab"], apart := false, laid := [("math/bits.deBruijn32tab", laid_math_bits_deBruijn32tab), ("math/bits.deBruijn64tab", laid_math_bits_deBruijn64tab)] }
def SweepBlockagesSaid : Prop := sweepBlockagesRow.holds Tryd.pinned (OpenSpec.ofChange sweepBlockagesSpec)

/-- ITS FALSE NEIGHBOUR: 'it returns false'. Refute it at one input. -/
def sweepBlockagesWrong : ChangeSpec := { name := "sweepBlockages", fn := fun _ => fun
  | [d1, d2] => { results := [.lit (.bool false)], args := [d1, d2] }
  | _ => none }
def SweepBlockagesWrongFalsely : Prop := sweepBlockagesRow.holds Tryd.pinned (OpenSpec.ofChange sweepBlockagesWrong)

/-- 'lampblacklaw03.SweepChecks': WHATEVER THE INPUT: true; the input reads as it did. -/
def sweepChecksSpec : ChangeSpec := { name := "sweepChecks", fn := fun _ => fun
  | [d1, d2, d3] => { results := [.lit (.bool true)], args := [d1, d2, d3] }
  | _ => none }
def sweepChecksRow : OpenClaim := { program := "ytgkpogaahndmoaadoor", sum := "8331726dd06feaac50ac85fbd5f7ecba06790e5bd7de2e0bd60a6982c19f2297", func := "lampblack/lampblacklaw03.SweepChecks", spec := "sweepChecks", unfollowed := true, recurses := true, named := ["math/bits.deBruijn32tab", "math/bits.deBruijn64tab"], apart := false, laid := [("math/bits.deBruijn32tab", laid_math_bits_deBruijn32tab), ("math/bits.deBruijn64tab", laid_math_bits_deBruijn64tab)] }
def SweepChecksSaid : Prop := sweepChecksRow.holds Tryd.pinned (OpenSpec.ofChange sweepChecksSpec)

/-- ITS FALSE NEIGHBOUR: 'it returns false'. Refute it at one input. -/
def sweepChecksWrong : ChangeSpec := { name := "sweepChecks", fn := fun _ => fun
  | [d1, d2, d3] => { results := [.lit (.bool false)], args := [d1, d2, d3] }
  | _ => none }
def SweepChecksWrongFalsely : Prop := sweepChecksRow.holds Tryd.pinned (OpenSpec.ofChange sweepChecksWrong)

/-- 'lampblacklaw03.SweepLeast': WHATEVER THE INPUT: true; the input reads as it did. -/
def sweepLeastSpec : ChangeSpec := { name := "sweepLeast", fn := fun _ => fun
  | [d] => { results := [.lit (.bool true)], args := [d] }
  | _ => none }
def sweepLeastRow : OpenClaim := { program := "ytgkpogaahndmoaadoor", sum := "8331726dd06feaac50ac85fbd5f7ecba06790e5bd7de2e0bd60a6982c19f2297", func := "lampblack/lampblacklaw03.SweepLeast", spec := "sweepLeast", unfollowed := true, recurses := true, named := ["math/bits.deBruijn32tab", "math/bits.deBruijn64tab"], apart := false, laid := [("math/bits.deBruijn32tab", laid_math_bits_deBruijn32tab), ("math/bits.deBruijn64tab", laid_math_bits_deBruijn64tab)] }
def SweepLeastSaid : Prop := sweepLeastRow.holds Tryd.pinned (OpenSpec.ofChange sweepLeastSpec)

/-- ITS FALSE NEIGHBOUR: 'it returns false'. Refute it at one input. -/
def sweepLeastWrong : ChangeSpec := { name := "sweepLeast", fn := fun _ => fun
  | [d] => { results := [.lit (.bool false)], args := [d] }
  | _ => none }
def SweepLeastWrongFalsely : Prop := sweepLeastRow.holds Tryd.pinned (OpenSpec.ofChange sweepLeastWrong)

/-- 'lampblacklaw03.SweepSame': WHATEVER THE INPUT: true; the input reads as it did. -/
def sweepSameSpec : ChangeSpec := { name := "sweepSame", fn := fun _ => fun
  | [d1, d2] => { results := [.lit (.bool true)], args := [d1, d2] }
  | _ => none }
def sweepSameRow : OpenClaim := { program := "ytgkpogaahndmoaadoor", sum := "8331726dd06feaac50ac85fbd5f7ecba06790e5bd7de2e0bd60a6982c19f2297", func := "lampblack/lampblacklaw03.SweepSame", spec := "sweepSame", unfollowed := true, recurses := true, named := ["math/bits.deBruijn32tab", "math/bits.deBruijn64tab"], apart := false, laid := [("math/bits.deBruijn32tab", laid_math_bits_deBruijn32tab), ("math/bits.deBruijn64tab", laid_math_bits_deBruijn64tab)] }
def SweepSameSaid : Prop := sweepSameRow.holds Tryd.pinned (OpenSpec.ofChange sweepSameSpec)

/-- ITS FALSE NEIGHBOUR: 'it returns false'. Refute it at one input. -/
def sweepSameWrong : ChangeSpec := { name := "sweepSame", fn := fun _ => fun
  | [d1, d2] => { results := [.lit (.bool false)], args := [d1, d2] }
  | _ => none }
def SweepSameWrongFalsely : Prop := sweepSameRow.holds Tryd.pinned (OpenSpec.ofChange sweepSameWrong)

/-- 'lampblacklaw03.SweepEither': WHATEVER THE INPUT: true; the input reads as it did. -/
def sweepEitherSpec : ChangeSpec := { name := "sweepEither", fn := fun _ => fun
  | [d1, d2, d3, d4] => { results := [.lit (.bool true)], args := [d1, d2, d3, d4] }
  | _ => none }
def sweepEitherRow : OpenClaim := { program := "ytgkpogaahndmoaadoor", sum := "8331726dd06feaac50ac85fbd5f7ecba06790e5bd7de2e0bd60a6982c19f2297", func := "lampblack/lampblacklaw03.SweepEither", spec := "sweepEither", unfollowed := true, recurses := true, named := ["math/bits.deBruijn32tab", "math/bits.deBruijn64tab"], apart := false, laid := [("math/bits.deBruijn32tab", laid_math_bits_deBruijn32tab), ("math/bits.deBruijn64tab", laid_math_bits_deBruijn64tab)] }
def SweepEitherSaid : Prop := sweepEitherRow.holds Tryd.pinned (OpenSpec.ofChange sweepEitherSpec)

/-- ITS FALSE NEIGHBOUR: 'it returns false'. Refute it at one input. -/
def sweepEitherWrong : ChangeSpec := { name := "sweepEither", fn := fun _ => fun
  | [d1, d2, d3, d4] => { results := [.lit (.bool false)], args := [d1, d2, d3, d4] }
  | _ => none }
def SweepEitherWrongFalsely : Prop := sweepEitherRow.holds Tryd.pinned (OpenSpec.ofChange sweepEitherWrong)

/-- 'lampblacklaw03.SweepOrders': WHATEVER THE INPUT: true; the input reads as it did. -/
def sweepOrdersSpec : ChangeSpec := { name := "sweepOrders", fn := fun _ => fun
  | [d1, d2] => { results := [.lit (.bool true)], args := [d1, d2] }
  | _ => none }
def sweepOrdersRow : OpenClaim := { program := "ytgkpogaahndmoaadoor", sum := "8331726dd06feaac50ac85fbd5f7ecba06790e5bd7de2e0bd60a6982c19f2297", func := "lampblack/lampblacklaw03.SweepOrders", spec := "sweepOrders", unfollowed := true, recurses := true, named := ["math/bits.deBruijn32tab", "math/bits.deBruijn64tab"], apart := false, laid := [("math/bits.deBruijn32tab", laid_math_bits_deBruijn32tab), ("math/bits.deBruijn64tab", laid_math_bits_deBruijn64tab)] }
def SweepOrdersSaid : Prop := sweepOrdersRow.holds Tryd.pinned (OpenSpec.ofChange sweepOrdersSpec)

/-- ITS FALSE NEIGHBOUR: 'it returns false'. Refute it at one input. -/
def sweepOrdersWrong : ChangeSpec := { name := "sweepOrders", fn := fun _ => fun
  | [d1, d2] => { results := [.lit (.bool false)], args := [d1, d2] }
  | _ => none }
def SweepOrdersWrongFalsely : Prop := sweepOrdersRow.holds Tryd.pinned (OpenSpec.ofChange sweepOrdersWrong)

/-- 'lampblacklaw03.SweepWider': WHATEVER THE INPUT: true; the input reads as it did. -/
def sweepWiderSpec : ChangeSpec := { name := "sweepWider", fn := fun _ => fun
  | [d1, d2] => { results := [.lit (.bool true)], args := [d1, d2] }
  | _ => none }
def sweepWiderRow : OpenClaim := { program := "ytgkpogaahndmoaadoor", sum := "8331726dd06feaac50ac85fbd5f7ecba06790e5bd7de2e0bd60a6982c19f2297", func := "lampblack/lampblacklaw03.SweepWider", spec := "sweepWider", unfollowed := true, recurses := true, named := ["math/bits.deBruijn32tab", "math/bits.deBruijn64tab"], apart := false, laid := [("math/bits.deBruijn32tab", laid_math_bits_deBruijn32tab), ("math/bits.deBruijn64tab", laid_math_bits_deBruijn64tab)] }
def SweepWiderSaid : Prop := sweepWiderRow.holds Tryd.pinned (OpenSpec.ofChange sweepWiderSpec)

/-- ITS FALSE NEIGHBOUR: 'it returns false'. Refute it at one input. -/
def sweepWiderWrong : ChangeSpec := { name := "sweepWider", fn := fun _ => fun
  | [d1, d2] => { results := [.lit (.bool false)], args := [d1, d2] }
  | _ => none }
def SweepWiderWrongFalsely : Prop := sweepWiderRow.holds Tryd.pinned (OpenSpec.ofChange sweepWiderWrong)

/-- 'lampblacklaw03.SweepParts': WHATEVER THE INPUT: true; the input reads as it did. -/
def sweepPartsSpec : ChangeSpec := { name := "sweepParts", fn := fun _ => fun
  | [d1, d2, d3] => { results := [.lit (.bool true)], args := [d1, d2, d3] }
  | _ => none }
def sweepPartsRow : OpenClaim := { program := "ytgkpogaahndmoaadoor", sum := "8331726dd06feaac50ac85fbd5f7ecba06790e5bd7de2e0bd60a6982c19f2297", func := "lampblack/lampblacklaw03.SweepParts", spec := "sweepParts", unfollowed := true, recurses := true, named := ["math/bits.deBruijn32tab", "math/bits.deBruijn64tab"], apart := false, laid := [("math/bits.deBruijn32tab", laid_math_bits_deBruijn32tab), ("math/bits.deBruijn64tab", laid_math_bits_deBruijn64tab)] }
def SweepPartsSaid : Prop := sweepPartsRow.holds Tryd.pinned (OpenSpec.ofChange sweepPartsSpec)

/-- ITS FALSE NEIGHBOUR: 'it returns false'. Refute it at one input. -/
def sweepPartsWrong : ChangeSpec := { name := "sweepParts", fn := fun _ => fun
  | [d1, d2, d3] => { results := [.lit (.bool false)], args := [d1, d2, d3] }
  | _ => none }
def SweepPartsWrongFalsely : Prop := sweepPartsRow.holds Tryd.pinned (OpenSpec.ofChange sweepPartsWrong)

/-- 'lampblacklaw03.SweepTurns': WHATEVER THE INPUT: true; the input reads as it did. -/
def sweepTurnsSpec : ChangeSpec := { name := "sweepTurns", fn := fun _ => fun
  | [d1, d2] => { results := [.lit (.bool true)], args := [d1, d2] }
  | _ => none }
def sweepTurnsRow : OpenClaim := { program := "ytgkpogaahndmoaadoor", sum := "8331726dd06feaac50ac85fbd5f7ecba06790e5bd7de2e0bd60a6982c19f2297", func := "lampblack/lampblacklaw03.SweepTurns", spec := "sweepTurns", unfollowed := true, recurses := true, named := ["math/bits.deBruijn32tab", "math/bits.deBruijn64tab"], apart := false, laid := [("math/bits.deBruijn32tab", laid_math_bits_deBruijn32tab), ("math/bits.deBruijn64tab", laid_math_bits_deBruijn64tab)] }
def SweepTurnsSaid : Prop := sweepTurnsRow.holds Tryd.pinned (OpenSpec.ofChange sweepTurnsSpec)

/-- ITS FALSE NEIGHBOUR: 'it returns false'. Refute it at one input. -/
def sweepTurnsWrong : ChangeSpec := { name := "sweepTurns", fn := fun _ => fun
  | [d1, d2] => { results := [.lit (.bool false)], args := [d1, d2] }
  | _ => none }
def SweepTurnsWrongFalsely : Prop := sweepTurnsRow.holds Tryd.pinned (OpenSpec.ofChange sweepTurnsWrong)

/- THE SECOND FORM. 'bulk': how many values and letters a reading holds, each counted each time it is reached (what is shared counts as often as it is met; a slice's spare places count too). A statement '..UptoSaid' is the law's where the arguments, and the package variables that the reading takes, are together of bulk at most 1048576: NARROWER than '..Said'. Prove '..Said' where nothing that the law and all that it calls make is longer than what came in: it says more and counts as full. Else prove '..UptoSaid'. A law counts once. -/
mutual
def uptoBulk {H : Type} : DataW H → Nat
  | .lit (.string bytes) => bytes.length + 1
  | .lit _ => 1
  | .nil => 1
  | .ptr d => uptoBulk d + 1
  | .slice elems spare => uptoBulkAll elems + uptoBulkAll spare + 1
  | .agg parts => uptoBulkAll parts + 1
  | .iface _ d => uptoBulk d + 1
  | .map entries => uptoBulkEntries entries + 1
  | .held _ => 1
def uptoBulkAll {H : Type} : List (DataW H) → Nat
  | [] => 0
  | d :: r => uptoBulk d + uptoBulkAll r
def uptoBulkEntries {H : Type} : List (Lit × DataW H) → Nat
  | [] => 0
  | x :: r => uptoBulkEntry x + uptoBulkEntries r
def uptoBulkEntry {H : Type} : Lit × DataW H → Nat
  | (.string bytes, d) => bytes.length + uptoBulk d + 1
  | (_, d) => uptoBulk d + 1
 end
def uptoSmall : (H : Type) → List (DataW H) → Bool := fun _ ds => decide (uptoBulkAll ds ≤ 1048576)
def OpenSpec.upto (s : _root_.Go.ChangeSpec) : _root_.Go.OpenSpec := { _root_.Go.OpenSpec.ofChange s with cond := some uptoSmall }

/-- 'lampblacklaw03.SweepLayouts', WHERE WHAT IT READS IS OF BULK AT MOST 1048576: true; the input reads as it did. -/
def sweepLayoutsUptoRow : OpenClaim := { program := "ytgkpogaahndmoaadoor", sum := "8331726dd06feaac50ac85fbd5f7ecba06790e5bd7de2e0bd60a6982c19f2297", func := "lampblack/lampblacklaw03.SweepLayouts", spec := "sweepLayouts", unfollowed := true, recurses := true, named := ["math/bits.deBruijn32tab", "math/bits.deBruijn64tab"], apart := false, laid := [("math/bits.deBruijn32tab", laid_math_bits_deBruijn32tab), ("math/bits.deBruijn64tab", laid_math_bits_deBruijn64tab)], narrowed := true }
def SweepLayoutsUptoSaid : Prop := sweepLayoutsUptoRow.holds Tryd.pinned (OpenSpec.upto sweepLayoutsSpec)

/-- 'lampblacklaw03.SweepBags', WHERE WHAT IT READS IS OF BULK AT MOST 1048576: true; the input reads as it did. -/
def sweepBagsUptoRow : OpenClaim := { program := "ytgkpogaahndmoaadoor", sum := "8331726dd06feaac50ac85fbd5f7ecba06790e5bd7de2e0bd60a6982c19f2297", func := "lampblack/lampblacklaw03.SweepBags", spec := "sweepBags", unfollowed := true, recurses := true, named := ["math/bits.deBruijn32tab", "math/bits.deBruijn64tab"], apart := false, laid := [("math/bits.deBruijn32tab", laid_math_bits_deBruijn32tab), ("math/bits.deBruijn64tab", laid_math_bits_deBruijn64tab)], narrowed := true }
def SweepBagsUptoSaid : Prop := sweepBagsUptoRow.holds Tryd.pinned (OpenSpec.upto sweepBagsSpec)

/-- 'lampblacklaw03.SweepPaths', WHERE WHAT IT READS IS OF BULK AT MOST 1048576: true; the input reads as it did. -/
def sweepPathsUptoRow : OpenClaim := { program := "ytgkpogaahndmoaadoor", sum := "8331726dd06feaac50ac85fbd5f7ecba06790e5bd7de2e0bd60a6982c19f2297", func := "lampblack/lampblacklaw03.SweepPaths", spec := "sweepPaths", unfollowed := true, recurses := true, named := ["math/bits.deBruijn32tab", "math/bits.deBruijn64tab"], apart := false, laid := [("math/bits.deBruijn32tab", laid_math_bits_deBruijn32tab), ("math/bits.deBruijn64tab", laid_math_bits_deBruijn64tab)], narrowed := true }
def SweepPathsUptoSaid : Prop := sweepPathsUptoRow.holds Tryd.pinned (OpenSpec.upto sweepPathsSpec)

/-- 'lampblacklaw03.SweepPlays', WHERE WHAT IT READS IS OF BULK AT MOST 1048576: true; the input reads as it did. -/
def sweepPlaysUptoRow : OpenClaim := { program := "ytgkpogaahndmoaadoor", sum := "8331726dd06feaac50ac85fbd5f7ecba06790e5bd7de2e0bd60a6982c19f2297", func := "lampblack/lampblacklaw03.SweepPlays", spec := "sweepPlays", unfollowed := true, recurses := true, named := ["math/bits.deBruijn32tab", "math/bits.deBruijn64tab"], apart := false, laid := [("math/bits.deBruijn32tab", laid_math_bits_deBruijn32tab), ("math/bits.deBruijn64tab", laid_math_bits_deBruijn64tab)], narrowed := true }
def SweepPlaysUptoSaid : Prop := sweepPlaysUptoRow.holds Tryd.pinned (OpenSpec.upto sweepPlaysSpec)

/-- 'lampblacklaw03.SweepPlans', WHERE WHAT IT READS IS OF BULK AT MOST 1048576: true; the input reads as it did. -/
def sweepPlansUptoRow : OpenClaim := { program := "ytgkpogaahndmoaadoor", sum := "8331726dd06feaac50ac85fbd5f7ecba06790e5bd7de2e0bd60a6982c19f2297", func := "lampblack/lampblacklaw03.SweepPlans", spec := "sweepPlans", unfollowed := true, recurses := true, named := ["math/bits.deBruijn32tab", "math/bits.deBruijn64tab"], apart := false, laid := [("math/bits.deBruijn32tab", laid_math_bits_deBruijn32tab), ("math/bits.deBruijn64tab", laid_math_bits_deBruijn64tab)], narrowed := true }
def SweepPlansUptoSaid : Prop := sweepPlansUptoRow.holds Tryd.pinned (OpenSpec.upto sweepPlansSpec)

/-- 'lampblacklaw03.SweepBlockages', WHERE WHAT IT READS IS OF BULK AT MOST 1048576: true; the input reads as it did. -/
def sweepBlockagesUptoRow : OpenClaim := { program := "ytgkpogaahndmoaadoor", sum := "8331726dd06feaac50ac85fbd5f7ecba06790e5bd7de2e0bd60a6982c19f2297", func := "lampblack/lampblacklaw03.SweepBlockages", spec := "sweepBlockages", unfollowed := true, recurses := true, named := ["math/bits.deBruijn32tab", "math/bits.deBruijn64tab"], apart := false, laid := [("math/bits.deBruijn32tab", laid_math_bits_deBruijn32tab), ("math/bits.deBruijn64tab", laid_math_bits_deBruijn64tab)], narrowed := true }
def SweepBlockagesUptoSaid : Prop := sweepBlockagesUptoRow.holds Tryd.pinned (OpenSpec.upto sweepBlockagesSpec)

/-- 'lampblacklaw03.SweepChecks', WHERE WHAT IT READS IS OF BULK AT MOST 1048576: true; the input reads as it did. -/
def sweepChecksUptoRow : OpenClaim := { program := "ytgkpogaahndmoaadoor", sum := "8331726dd06feaac50ac85fbd5f7ecba06790e5bd7de2e0bd60a6982c19f2297", func := "lampblack/lampblacklaw03.SweepChecks", spec := "sweepChecks", unfollowed := true, recurses := true, named := ["math/bits.deBruijn32tab", "math/bits.deBruijn64tab"], apart := false, laid := [("math/bits.deBruijn32tab", laid_math_bits_deBruijn32tab), ("math/bits.deBruijn64tab", laid_math_bits_deBruijn64tab)], narrowed := true }
def SweepChecksUptoSaid : Prop := sweepChecksUptoRow.holds Tryd.pinned (OpenSpec.upto sweepChecksSpec)

/-- 'lampblacklaw03.SweepLeast', WHERE WHAT IT READS IS OF BULK AT MOST 1048576: true; the input reads as it did. -/
def sweepLeastUptoRow : OpenClaim := { program := "ytgkpogaahndmoaadoor", sum := "8331726dd06feaac50ac85fbd5f7ecba06790e5bd7de2e0bd60a6982c19f2297", func := "lampblack/lampblacklaw03.SweepLeast", spec := "sweepLeast", unfollowed := true, recurses := true, named := ["math/bits.deBruijn32tab", "math/bits.deBruijn64tab"], apart := false, laid := [("math/bits.deBruijn32tab", laid_math_bits_deBruijn32tab), ("math/bits.deBruijn64tab", laid_math_bits_deBruijn64tab)], narrowed := true }
def SweepLeastUptoSaid : Prop := sweepLeastUptoRow.holds Tryd.pinned (OpenSpec.upto sweepLeastSpec)

/-- 'lampblacklaw03.SweepSame', WHERE WHAT IT READS IS OF BULK AT MOST 1048576: true; the input reads as it did. -/
def sweepSameUptoRow : OpenClaim := { program := "ytgkpogaahndmoaadoor", sum := "8331726dd06feaac50ac85fbd5f7ecba06790e5bd7de2e0bd60a6982c19f2297", func := "lampblack/lampblacklaw03.SweepSame", spec := "sweepSame", unfollowed := true, recurses := true, named := ["math/bits.deBruijn32tab", "math/bits.deBruijn64tab"], apart := false, laid := [("math/bits.deBruijn32tab", laid_math_bits_deBruijn32tab), ("math/bits.deBruijn64tab", laid_math_bits_deBruijn64tab)], narrowed := true }
def SweepSameUptoSaid : Prop := sweepSameUptoRow.holds Tryd.pinned (OpenSpec.upto sweepSameSpec)

/-- 'lampblacklaw03.SweepEither', WHERE WHAT IT READS IS OF BULK AT MOST 1048576: true; the input reads as it did. -/
def sweepEitherUptoRow : OpenClaim := { program := "ytgkpogaahndmoaadoor", sum := "8331726dd06feaac50ac85fbd5f7ecba06790e5bd7de2e0bd60a6982c19f2297", func := "lampblack/lampblacklaw03.SweepEither", spec := "sweepEither", unfollowed := true, recurses := true, named := ["math/bits.deBruijn32tab", "math/bits.deBruijn64tab"], apart := false, laid := [("math/bits.deBruijn32tab", laid_math_bits_deBruijn32tab), ("math/bits.deBruijn64tab", laid_math_bits_deBruijn64tab)], narrowed := true }
def SweepEitherUptoSaid : Prop := sweepEitherUptoRow.holds Tryd.pinned (OpenSpec.upto sweepEitherSpec)

/-- 'lampblacklaw03.SweepOrders', WHERE WHAT IT READS IS OF BULK AT MOST 1048576: true; the input reads as it did. -/
def sweepOrdersUptoRow : OpenClaim := { program := "ytgkpogaahndmoaadoor", sum := "8331726dd06feaac50ac85fbd5f7ecba06790e5bd7de2e0bd60a6982c19f2297", func := "lampblack/lampblacklaw03.SweepOrders", spec := "sweepOrders", unfollowed := true, recurses := true, named := ["math/bits.deBruijn32tab", "math/bits.deBruijn64tab"], apart := false, laid := [("math/bits.deBruijn32tab", laid_math_bits_deBruijn32tab), ("math/bits.deBruijn64tab", laid_math_bits_deBruijn64tab)], narrowed := true }
def SweepOrdersUptoSaid : Prop := sweepOrdersUptoRow.holds Tryd.pinned (OpenSpec.upto sweepOrdersSpec)

/-- 'lampblacklaw03.SweepWider', WHERE WHAT IT READS IS OF BULK AT MOST 1048576: true; the input reads as it did. -/
def sweepWiderUptoRow : OpenClaim := { program := "ytgkpogaahndmoaadoor", sum := "8331726dd06feaac50ac85fbd5f7ecba06790e5bd7de2e0bd60a6982c19f2297", func := "lampblack/lampblacklaw03.SweepWider", spec := "sweepWider", unfollowed := true, recurses := true, named := ["math/bits.deBruijn32tab", "math/bits.deBruijn64tab"], apart := false, laid := [("math/bits.deBruijn32tab", laid_math_bits_deBruijn32tab), ("math/bits.deBruijn64tab", laid_math_bits_deBruijn64tab)], narrowed := true }
def SweepWiderUptoSaid : Prop := sweepWiderUptoRow.holds Tryd.pinned (OpenSpec.upto sweepWiderSpec)

/-- 'lampblacklaw03.SweepParts', WHERE WHAT IT READS IS OF BULK AT MOST 1048576: true; the input reads as it did. -/
def sweepPartsUptoRow : OpenClaim := { program := "ytgkpogaahndmoaadoor", sum := "8331726dd06feaac50ac85fbd5f7ecba06790e5bd7de2e0bd60a6982c19f2297", func := "lampblack/lampblacklaw03.SweepParts", spec := "sweepParts", unfollowed := true, recurses := true, named := ["math/bits.deBruijn32tab", "math/bits.deBruijn64tab"], apart := false, laid := [("math/bits.deBruijn32tab", laid_math_bits_deBruijn32tab), ("math/bits.deBruijn64tab", laid_math_bits_deBruijn64tab)], narrowed := true }
def SweepPartsUptoSaid : Prop := sweepPartsUptoRow.holds Tryd.pinned (OpenSpec.upto sweepPartsSpec)

/-- 'lampblacklaw03.SweepTurns', WHERE WHAT IT READS IS OF BULK AT MOST 1048576: true; the input reads as it did. -/
def sweepTurnsUptoRow : OpenClaim := { program := "ytgkpogaahndmoaadoor", sum := "8331726dd06feaac50ac85fbd5f7ecba06790e5bd7de2e0bd60a6982c19f2297", func := "lampblack/lampblacklaw03.SweepTurns", spec := "sweepTurns", unfollowed := true, recurses := true, named := ["math/bits.deBruijn32tab", "math/bits.deBruijn64tab"], apart := false, laid := [("math/bits.deBruijn32tab", laid_math_bits_deBruijn32tab), ("math/bits.deBruijn64tab", laid_math_bits_deBruijn64tab)], narrowed := true }
def SweepTurnsUptoSaid : Prop := sweepTurnsUptoRow.holds Tryd.pinned (OpenSpec.upto sweepTurnsSpec)

end Rows
end Go.Proofs.YtgkpogaahndmoaaDoor
