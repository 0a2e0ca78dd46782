/-
  DERIVED. GIVEN WITH THE SEED: THE CARDS: each row of YtgkpogaahndmoaaDoorRows.lean that lists a variable, with what it lists TIED to the program's text (the seventh form; the later family's looks); each row that meets fmt, with fmt's text TOLD by the authors' own Lean function (tested against real Go, not proved from fmt's source: count such statements apart). THE CARD IS WHAT COUNTS. Prove the row's statement (the work); the ties are given (YtgkpogaahndmoaaDoorTie.lean); close each card by the builder's one call (the guide's Derived/Test/ToyasCard.lean, 'card_holds'). Laid BY PROGRAM, IN A SANDBOX (cutbox-door.mjs). By AI agents, Wed Nov 11 2026. No macro, syntax, notation, axiom, sorry.
-/
import Derived.Test.YtgkpogaahndmoaaDoorRows
import GoSem.ClaimSeven
namespace Go.Proofs.YtgkpogaahndmoaaDoor
namespace Rows

/-- THE TIED CARD OF 'lampblacklaw03.SweepLayouts'. -/
def sweepLayoutsCard : Claim7 := { stood := { row := sweepLayoutsRow, standIns := [], harness := (true, "327ae8e070698ea2d8e0fbe7f09cf037d0cce9b20d97dad949458bab0d8aee66"), looks := false }, kinds := [], alts := [], laidByText := true, laidKinds := [.data, .data], laidTests := true, laidLooks := .later }
def SweepLayoutsCardSaid : Prop := Claim7.holds Tryd.pinned (.plain (OpenSpec.ofChange sweepLayoutsSpec)) sweepLayoutsCard

/-- THE TIED CARD OF 'lampblacklaw03.SweepBags'. -/
def sweepBagsCard : Claim7 := { stood := { row := sweepBagsRow, standIns := [], harness := (true, "327ae8e070698ea2d8e0fbe7f09cf037d0cce9b20d97dad949458bab0d8aee66"), looks := false }, kinds := [], alts := [], laidByText := true, laidKinds := [.data, .data], laidTests := true, laidLooks := .later }
def SweepBagsCardSaid : Prop := Claim7.holds Tryd.pinned (.plain (OpenSpec.ofChange sweepBagsSpec)) sweepBagsCard

/-- THE TIED CARD OF 'lampblacklaw03.SweepPaths'. -/
def sweepPathsCard : Claim7 := { stood := { row := sweepPathsRow, standIns := [], harness := (true, "327ae8e070698ea2d8e0fbe7f09cf037d0cce9b20d97dad949458bab0d8aee66"), looks := false }, kinds := [], alts := [], laidByText := true, laidKinds := [.data, .data], laidTests := true, laidLooks := .later }
def SweepPathsCardSaid : Prop := Claim7.holds Tryd.pinned (.plain (OpenSpec.ofChange sweepPathsSpec)) sweepPathsCard

/-- THE TIED CARD OF 'lampblacklaw03.SweepPlays'. -/
def sweepPlaysCard : Claim7 := { stood := { row := sweepPlaysRow, standIns := [], harness := (true, "327ae8e070698ea2d8e0fbe7f09cf037d0cce9b20d97dad949458bab0d8aee66"), looks := false }, kinds := [], alts := [], laidByText := true, laidKinds := [.data, .data], laidTests := true, laidLooks := .later }
def SweepPlaysCardSaid : Prop := Claim7.holds Tryd.pinned (.plain (OpenSpec.ofChange sweepPlaysSpec)) sweepPlaysCard

/-- THE TIED CARD OF 'lampblacklaw03.SweepPlans'. -/
def sweepPlansCard : Claim7 := { stood := { row := sweepPlansRow, standIns := [], harness := (true, "327ae8e070698ea2d8e0fbe7f09cf037d0cce9b20d97dad949458bab0d8aee66"), looks := false }, kinds := [], alts := [], laidByText := true, laidKinds := [.data, .data], laidTests := true, laidLooks := .later }
def SweepPlansCardSaid : Prop := Claim7.holds Tryd.pinned (.plain (OpenSpec.ofChange sweepPlansSpec)) sweepPlansCard

/-- THE TIED CARD OF 'lampblacklaw03.SweepBlockages'. -/
def sweepBlockagesCard : Claim7 := { stood := { row := sweepBlockagesRow, standIns := [], harness := (true, "327ae8e070698ea2d8e0fbe7f09cf037d0cce9b20d97dad949458bab0d8aee66"), looks := false }, kinds := [], alts := [], laidByText := true, laidKinds := [.data, .data], laidTests := true, laidLooks := .later }
def SweepBlockagesCardSaid : Prop := Claim7.holds Tryd.pinned (.plain (OpenSpec.ofChange sweepBlockagesSpec)) sweepBlockagesCard

/-- THE TIED CARD OF 'lampblacklaw03.SweepChecks'. -/
def sweepChecksCard : Claim7 := { stood := { row := sweepChecksRow, standIns := [], harness := (true, "327ae8e070698ea2d8e0fbe7f09cf037d0cce9b20d97dad949458bab0d8aee66"), looks := false }, kinds := [], alts := [], laidByText := true, laidKinds := [.data, .data], laidTests := true, laidLooks := .later }
def SweepChecksCardSaid : Prop := Claim7.holds Tryd.pinned (.plain (OpenSpec.ofChange sweepChecksSpec)) sweepChecksCard

/-- THE TIED CARD OF 'lampblacklaw03.SweepLeast'. -/
def sweepLeastCard : Claim7 := { stood := { row := sweepLeastRow, standIns := [], harness := (true, "327ae8e070698ea2d8e0fbe7f09cf037d0cce9b20d97dad949458bab0d8aee66"), looks := false }, kinds := [], alts := [], laidByText := true, laidKinds := [.data, .data], laidTests := true, laidLooks := .later }
def SweepLeastCardSaid : Prop := Claim7.holds Tryd.pinned (.plain (OpenSpec.ofChange sweepLeastSpec)) sweepLeastCard

/-- THE TIED CARD OF 'lampblacklaw03.SweepSame'. -/
def sweepSameCard : Claim7 := { stood := { row := sweepSameRow, standIns := [], harness := (true, "327ae8e070698ea2d8e0fbe7f09cf037d0cce9b20d97dad949458bab0d8aee66"), looks := false }, kinds := [], alts := [], laidByText := true, laidKinds := [.data, .data], laidTests := true, laidLooks := .later }
def SweepSameCardSaid : Prop := Claim7.holds Tryd.pinned (.plain (OpenSpec.ofChange sweepSameSpec)) sweepSameCard

/-- THE TIED CARD OF 'lampblacklaw03.SweepEither'. -/
def sweepEitherCard : Claim7 := { stood := { row := sweepEitherRow, standIns := [], harness := (true, "327ae8e070698ea2d8e0fbe7f09cf037d0cce9b20d97dad949458bab0d8aee66"), looks := false }, kinds := [], alts := [], laidByText := true, laidKinds := [.data, .data], laidTests := true, laidLooks := .later }
def SweepEitherCardSaid : Prop := Claim7.holds Tryd.pinned (.plain (OpenSpec.ofChange sweepEitherSpec)) sweepEitherCard

/-- THE TIED CARD OF 'lampblacklaw03.SweepOrders'. -/
def sweepOrdersCard : Claim7 := { stood := { row := sweepOrdersRow, standIns := [], harness := (true, "327ae8e070698ea2d8e0fbe7f09cf037d0cce9b20d97dad949458bab0d8aee66"), looks := false }, kinds := [], alts := [], laidByText := true, laidKinds := [.data, .data], laidTests := true, laidLooks := .later }
def SweepOrdersCardSaid : Prop := Claim7.holds Tryd.pinned (.plain (OpenSpec.ofChange sweepOrdersSpec)) sweepOrdersCard

/-- THE TIED CARD OF 'lampblacklaw03.SweepWider'. -/
def sweepWiderCard : Claim7 := { stood := { row := sweepWiderRow, standIns := [], harness := (true, "327ae8e070698ea2d8e0fbe7f09cf037d0cce9b20d97dad949458bab0d8aee66"), looks := false }, kinds := [], alts := [], laidByText := true, laidKinds := [.data, .data], laidTests := true, laidLooks := .later }
def SweepWiderCardSaid : Prop := Claim7.holds Tryd.pinned (.plain (OpenSpec.ofChange sweepWiderSpec)) sweepWiderCard

/-- THE TIED CARD OF 'lampblacklaw03.SweepParts'. -/
def sweepPartsCard : Claim7 := { stood := { row := sweepPartsRow, standIns := [], harness := (true, "327ae8e070698ea2d8e0fbe7f09cf037d0cce9b20d97dad949458bab0d8aee66"), looks := false }, kinds := [], alts := [], laidByText := true, laidKinds := [.data, .data], laidTests := true, laidLooks := .later }
def SweepPartsCardSaid : Prop := Claim7.holds Tryd.pinned (.plain (OpenSpec.ofChange sweepPartsSpec)) sweepPartsCard

/-- THE TIED CARD OF 'lampblacklaw03.SweepTurns'. -/
def sweepTurnsCard : Claim7 := { stood := { row := sweepTurnsRow, standIns := [], harness := (true, "327ae8e070698ea2d8e0fbe7f09cf037d0cce9b20d97dad949458bab0d8aee66"), looks := false }, kinds := [], alts := [], laidByText := true, laidKinds := [.data, .data], laidTests := true, laidLooks := .later }
def SweepTurnsCardSaid : Prop := Claim7.holds Tryd.pinned (.plain (OpenSpec.ofChange sweepTurnsSpec)) sweepTurnsCard

/-- THE SECOND FORM's CARD OF 'lampblacklaw03.SweepLayouts'. -/
def sweepLayoutsUptoCard : Claim7 := { stood := { row := sweepLayoutsUptoRow, standIns := [], harness := (true, "327ae8e070698ea2d8e0fbe7f09cf037d0cce9b20d97dad949458bab0d8aee66"), looks := false }, kinds := [], alts := [], laidByText := true, laidKinds := [.data, .data], laidTests := true, laidLooks := .later }
def SweepLayoutsUptoCardSaid : Prop := Claim7.holds Tryd.pinned (.plain (OpenSpec.upto sweepLayoutsSpec)) sweepLayoutsUptoCard

/-- THE SECOND FORM's CARD OF 'lampblacklaw03.SweepBags'. -/
def sweepBagsUptoCard : Claim7 := { stood := { row := sweepBagsUptoRow, standIns := [], harness := (true, "327ae8e070698ea2d8e0fbe7f09cf037d0cce9b20d97dad949458bab0d8aee66"), looks := false }, kinds := [], alts := [], laidByText := true, laidKinds := [.data, .data], laidTests := true, laidLooks := .later }
def SweepBagsUptoCardSaid : Prop := Claim7.holds Tryd.pinned (.plain (OpenSpec.upto sweepBagsSpec)) sweepBagsUptoCard

/-- THE SECOND FORM's CARD OF 'lampblacklaw03.SweepPaths'. -/
def sweepPathsUptoCard : Claim7 := { stood := { row := sweepPathsUptoRow, standIns := [], harness := (true, "327ae8e070698ea2d8e0fbe7f09cf037d0cce9b20d97dad949458bab0d8aee66"), looks := false }, kinds := [], alts := [], laidByText := true, laidKinds := [.data, .data], laidTests := true, laidLooks := .later }
def SweepPathsUptoCardSaid : Prop := Claim7.holds Tryd.pinned (.plain (OpenSpec.upto sweepPathsSpec)) sweepPathsUptoCard

/-- THE SECOND FORM's CARD OF 'lampblacklaw03.SweepPlays'. -/
def sweepPlaysUptoCard : Claim7 := { stood := { row := sweepPlaysUptoRow, standIns := [], harness := (true, "327ae8e070698ea2d8e0fbe7f09cf037d0cce9b20d97dad949458bab0d8aee66"), looks := false }, kinds := [], alts := [], laidByText := true, laidKinds := [.data, .data], laidTests := true, laidLooks := .later }
def SweepPlaysUptoCardSaid : Prop := Claim7.holds Tryd.pinned (.plain (OpenSpec.upto sweepPlaysSpec)) sweepPlaysUptoCard

/-- THE SECOND FORM's CARD OF 'lampblacklaw03.SweepPlans'. -/
def sweepPlansUptoCard : Claim7 := { stood := { row := sweepPlansUptoRow, standIns := [], harness := (true, "327ae8e070698ea2d8e0fbe7f09cf037d0cce9b20d97dad949458bab0d8aee66"), looks := false }, kinds := [], alts := [], laidByText := true, laidKinds := [.data, .data], laidTests := true, laidLooks := .later }
def SweepPlansUptoCardSaid : Prop := Claim7.holds Tryd.pinned (.plain (OpenSpec.upto sweepPlansSpec)) sweepPlansUptoCard

/-- THE SECOND FORM's CARD OF 'lampblacklaw03.SweepBlockages'. -/
def sweepBlockagesUptoCard : Claim7 := { stood := { row := sweepBlockagesUptoRow, standIns := [], harness := (true, "327ae8e070698ea2d8e0fbe7f09cf037d0cce9b20d97dad949458bab0d8aee66"), looks := false }, kinds := [], alts := [], laidByText := true, laidKinds := [.data, .data], laidTests := true, laidLooks := .later }
def SweepBlockagesUptoCardSaid : Prop := Claim7.holds Tryd.pinned (.plain (OpenSpec.upto sweepBlockagesSpec)) sweepBlockagesUptoCard

/-- THE SECOND FORM's CARD OF 'lampblacklaw03.SweepChecks'. -/
def sweepChecksUptoCard : Claim7 := { stood := { row := sweepChecksUptoRow, standIns := [], harness := (true, "327ae8e070698ea2d8e0fbe7f09cf037d0cce9b20d97dad949458bab0d8aee66"), looks := false }, kinds := [], alts := [], laidByText := true, laidKinds := [.data, .data], laidTests := true, laidLooks := .later }
def SweepChecksUptoCardSaid : Prop := Claim7.holds Tryd.pinned (.plain (OpenSpec.upto sweepChecksSpec)) sweepChecksUptoCard

/-- THE SECOND FORM's CARD OF 'lampblacklaw03.SweepLeast'. -/
def sweepLeastUptoCard : Claim7 := { stood := { row := sweepLeastUptoRow, standIns := [], harness := (true, "327ae8e070698ea2d8e0fbe7f09cf037d0cce9b20d97dad949458bab0d8aee66"), looks := false }, kinds := [], alts := [], laidByText := true, laidKinds := [.data, .data], laidTests := true, laidLooks := .later }
def SweepLeastUptoCardSaid : Prop := Claim7.holds Tryd.pinned (.plain (OpenSpec.upto sweepLeastSpec)) sweepLeastUptoCard

/-- THE SECOND FORM's CARD OF 'lampblacklaw03.SweepSame'. -/
def sweepSameUptoCard : Claim7 := { stood := { row := sweepSameUptoRow, standIns := [], harness := (true, "327ae8e070698ea2d8e0fbe7f09cf037d0cce9b20d97dad949458bab0d8aee66"), looks := false }, kinds := [], alts := [], laidByText := true, laidKinds := [.data, .data], laidTests := true, laidLooks := .later }
def SweepSameUptoCardSaid : Prop := Claim7.holds Tryd.pinned (.plain (OpenSpec.upto sweepSameSpec)) sweepSameUptoCard

/-- THE SECOND FORM's CARD OF 'lampblacklaw03.SweepEither'. -/
def sweepEitherUptoCard : Claim7 := { stood := { row := sweepEitherUptoRow, standIns := [], harness := (true, "327ae8e070698ea2d8e0fbe7f09cf037d0cce9b20d97dad949458bab0d8aee66"), looks := false }, kinds := [], alts := [], laidByText := true, laidKinds := [.data, .data], laidTests := true, laidLooks := .later }
def SweepEitherUptoCardSaid : Prop := Claim7.holds Tryd.pinned (.plain (OpenSpec.upto sweepEitherSpec)) sweepEitherUptoCard

/-- THE SECOND FORM's CARD OF 'lampblacklaw03.SweepOrders'. -/
def sweepOrdersUptoCard : Claim7 := { stood := { row := sweepOrdersUptoRow, standIns := [], harness := (true, "327ae8e070698ea2d8e0fbe7f09cf037d0cce9b20d97dad949458bab0d8aee66"), looks := false }, kinds := [], alts := [], laidByText := true, laidKinds := [.data, .data], laidTests := true, laidLooks := .later }
def SweepOrdersUptoCardSaid : Prop := Claim7.holds Tryd.pinned (.plain (OpenSpec.upto sweepOrdersSpec)) sweepOrdersUptoCard

/-- THE SECOND FORM's CARD OF 'lampblacklaw03.SweepWider'. -/
def sweepWiderUptoCard : Claim7 := { stood := { row := sweepWiderUptoRow, standIns := [], harness := (true, "327ae8e070698ea2d8e0fbe7f09cf037d0cce9b20d97dad949458bab0d8aee66"), looks := false }, kinds := [], alts := [], laidByText := true, laidKinds := [.data, .data], laidTests := true, laidLooks := .later }
def SweepWiderUptoCardSaid : Prop := Claim7.holds Tryd.pinned (.plain (OpenSpec.upto sweepWiderSpec)) sweepWiderUptoCard

/-- THE SECOND FORM's CARD OF 'lampblacklaw03.SweepParts'. -/
def sweepPartsUptoCard : Claim7 := { stood := { row := sweepPartsUptoRow, standIns := [], harness := (true, "327ae8e070698ea2d8e0fbe7f09cf037d0cce9b20d97dad949458bab0d8aee66"), looks := false }, kinds := [], alts := [], laidByText := true, laidKinds := [.data, .data], laidTests := true, laidLooks := .later }
def SweepPartsUptoCardSaid : Prop := Claim7.holds Tryd.pinned (.plain (OpenSpec.upto sweepPartsSpec)) sweepPartsUptoCard

/-- THE SECOND FORM's CARD OF 'lampblacklaw03.SweepTurns'. -/
def sweepTurnsUptoCard : Claim7 := { stood := { row := sweepTurnsUptoRow, standIns := [], harness := (true, "327ae8e070698ea2d8e0fbe7f09cf037d0cce9b20d97dad949458bab0d8aee66"), looks := false }, kinds := [], alts := [], laidByText := true, laidKinds := [.data, .data], laidTests := true, laidLooks := .later }
def SweepTurnsUptoCardSaid : Prop := Claim7.holds Tryd.pinned (.plain (OpenSpec.upto sweepTurnsSpec)) sweepTurnsUptoCard
end Rows
end Go.Proofs.YtgkpogaahndmoaaDoor
