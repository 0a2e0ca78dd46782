/-
  DERIVED. GIVEN WITH THE SEED: THE CARDS: each row of YtfmppncefbjicaaDoorRows.lean that lists a variable, with what it lists TIED to the program's text (the seventh form; the later family's looks); each row that meets fmt, with fmt's text TOLD by the authors' own Lean function (tested against real Go, not proved from fmt's source: count such statements apart). THE CARD IS WHAT COUNTS. Prove the row's statement (the work); the ties are given (YtfmppncefbjicaaDoorTie.lean); close each card by the builder's one call (the guide's Derived/Test/ToyasCard.lean, 'card_holds'). Laid BY PROGRAM, IN A SANDBOX (cutbox-door.mjs). By AI agents, Wed Nov 11 2026. No macro, syntax, notation, axiom, sorry.
-/
import Derived.Test.YtfmppncefbjicaaDoorRows
import GoSem.ClaimSeven
namespace Go.Proofs.YtfmppncefbjicaaDoor
namespace Rows

/-- THE TIED CARD OF 'lampblacklaw07.MinorModels'. -/
def minorModelsCard : Claim7 := { stood := { row := minorModelsRow, standIns := [], harness := (true, "b5d6218d9fdf972ea6c94117fc8aefd27b6983bf63278e289345b03ba6ce494c"), looks := false }, kinds := [], alts := [], laidByText := true, laidKinds := [.data, .data], laidTests := true, laidLooks := .later }
def MinorModelsCardSaid : Prop := Claim7.holds Tryd.pinned (.plain (OpenSpec.ofChange minorModelsSpec)) minorModelsCard

/-- THE TIED CARD OF 'lampblacklaw07.MinorNamed'. -/
def minorNamedCard : Claim7 := { stood := { row := minorNamedRow, standIns := [], harness := (true, "b5d6218d9fdf972ea6c94117fc8aefd27b6983bf63278e289345b03ba6ce494c"), looks := false }, kinds := [], alts := [], laidByText := true, laidKinds := [.data, .data], laidTests := true, laidLooks := .later }
def MinorNamedCardSaid : Prop := Claim7.holds Tryd.pinned (.plain (OpenSpec.ofChange minorNamedSpec)) minorNamedCard

/-- THE TIED CARD OF 'lampblacklaw07.MinorReduces'. -/
def minorReducesCard : Claim7 := { stood := { row := minorReducesRow, standIns := [], harness := (true, "b5d6218d9fdf972ea6c94117fc8aefd27b6983bf63278e289345b03ba6ce494c"), looks := false }, kinds := [], alts := [], laidByText := true, laidKinds := [.data, .data], laidTests := true, laidLooks := .later }
def MinorReducesCardSaid : Prop := Claim7.holds Tryd.pinned (.plain (OpenSpec.ofChange minorReducesSpec)) minorReducesCard

/-- THE TIED CARD OF 'lampblacklaw07.MinorOuters'. -/
def minorOutersCard : Claim7 := { stood := { row := minorOutersRow, standIns := [], harness := (true, "b5d6218d9fdf972ea6c94117fc8aefd27b6983bf63278e289345b03ba6ce494c"), looks := false }, kinds := [], alts := [], laidByText := true, laidKinds := [.data, .data], laidTests := true, laidLooks := .later }
def MinorOutersCardSaid : Prop := Claim7.holds Tryd.pinned (.plain (OpenSpec.ofChange minorOutersSpec)) minorOutersCard

/-- THE TIED CARD OF 'lampblacklaw07.MinorGreatest'. -/
def minorGreatestCard : Claim7 := { stood := { row := minorGreatestRow, standIns := [], harness := (true, "b5d6218d9fdf972ea6c94117fc8aefd27b6983bf63278e289345b03ba6ce494c"), looks := false }, kinds := [], alts := [], laidByText := true, laidKinds := [.data, .data], laidTests := true, laidLooks := .later }
def MinorGreatestCardSaid : Prop := Claim7.holds Tryd.pinned (.plain (OpenSpec.ofChange minorGreatestSpec)) minorGreatestCard

/-- THE TIED CARD OF 'lampblacklaw07.MinorLess'. -/
def minorLessCard : Claim7 := { stood := { row := minorLessRow, standIns := [], harness := (true, "b5d6218d9fdf972ea6c94117fc8aefd27b6983bf63278e289345b03ba6ce494c"), looks := false }, kinds := [], alts := [], laidByText := true, laidKinds := [.data, .data], laidTests := true, laidLooks := .later }
def MinorLessCardSaid : Prop := Claim7.holds Tryd.pinned (.plain (OpenSpec.ofChange minorLessSpec)) minorLessCard

/-- THE TIED CARD OF 'lampblacklaw07.MinorFound'. -/
def minorFoundCard : Claim7 := { stood := { row := minorFoundRow, standIns := [], harness := (true, "b5d6218d9fdf972ea6c94117fc8aefd27b6983bf63278e289345b03ba6ce494c"), looks := false }, kinds := [], alts := [], laidByText := true, laidKinds := [.data, .data], laidTests := true, laidLooks := .later }
def MinorFoundCardSaid : Prop := Claim7.holds Tryd.pinned (.plain (OpenSpec.ofChange minorFoundSpec)) minorFoundCard

/-- THE TIED CARD OF 'lampblacklaw07.MinorSeries'. -/
def minorSeriesCard : Claim7 := { stood := { row := minorSeriesRow, standIns := [], harness := (true, "b5d6218d9fdf972ea6c94117fc8aefd27b6983bf63278e289345b03ba6ce494c"), looks := false }, kinds := [], alts := [], laidByText := true, laidKinds := [.data, .data], laidTests := true, laidLooks := .later }
def MinorSeriesCardSaid : Prop := Claim7.holds Tryd.pinned (.plain (OpenSpec.ofChange minorSeriesSpec)) minorSeriesCard

/-- THE TIED CARD OF 'lampblacklaw07.MinorRound'. -/
def minorRoundCard : Claim7 := { stood := { row := minorRoundRow, standIns := [], harness := (true, "b5d6218d9fdf972ea6c94117fc8aefd27b6983bf63278e289345b03ba6ce494c"), looks := false }, kinds := [], alts := [], laidByText := true, laidKinds := [.data, .data], laidTests := true, laidLooks := .later }
def MinorRoundCardSaid : Prop := Claim7.holds Tryd.pinned (.plain (OpenSpec.ofChange minorRoundSpec)) minorRoundCard

/-- THE TIED CARD OF 'lampblacklaw07.MinorForests'. -/
def minorForestsCard : Claim7 := { stood := { row := minorForestsRow, standIns := [], harness := (true, "b5d6218d9fdf972ea6c94117fc8aefd27b6983bf63278e289345b03ba6ce494c"), looks := false }, kinds := [], alts := [], laidByText := true, laidKinds := [.data, .data], laidTests := true, laidLooks := .later }
def MinorForestsCardSaid : Prop := Claim7.holds Tryd.pinned (.plain (OpenSpec.ofChange minorForestsSpec)) minorForestsCard

/-- THE TIED CARD OF 'lampblacklaw07.MinorWidths'. -/
def minorWidthsCard : Claim7 := { stood := { row := minorWidthsRow, standIns := [], harness := (true, "b5d6218d9fdf972ea6c94117fc8aefd27b6983bf63278e289345b03ba6ce494c"), looks := false }, kinds := [], alts := [], laidByText := true, laidKinds := [.data, .data], laidTests := true, laidLooks := .later }
def MinorWidthsCardSaid : Prop := Claim7.holds Tryd.pinned (.plain (OpenSpec.ofChange minorWidthsSpec)) minorWidthsCard

/-- THE TIED CARD OF 'lampblacklaw07.MinorWheels'. -/
def minorWheelsCard : Claim7 := { stood := { row := minorWheelsRow, standIns := [], harness := (true, "b5d6218d9fdf972ea6c94117fc8aefd27b6983bf63278e289345b03ba6ce494c"), looks := false }, kinds := [], alts := [], laidByText := true, laidKinds := [.data, .data], laidTests := true, laidLooks := .later }
def MinorWheelsCardSaid : Prop := Claim7.holds Tryd.pinned (.plain (OpenSpec.ofChange minorWheelsSpec)) minorWheelsCard

/-- THE SECOND FORM's CARD OF 'lampblacklaw07.MinorModels'. -/
def minorModelsUptoCard : Claim7 := { stood := { row := minorModelsUptoRow, standIns := [], harness := (true, "b5d6218d9fdf972ea6c94117fc8aefd27b6983bf63278e289345b03ba6ce494c"), looks := false }, kinds := [], alts := [], laidByText := true, laidKinds := [.data, .data], laidTests := true, laidLooks := .later }
def MinorModelsUptoCardSaid : Prop := Claim7.holds Tryd.pinned (.plain (OpenSpec.upto minorModelsSpec)) minorModelsUptoCard

/-- THE SECOND FORM's CARD OF 'lampblacklaw07.MinorNamed'. -/
def minorNamedUptoCard : Claim7 := { stood := { row := minorNamedUptoRow, standIns := [], harness := (true, "b5d6218d9fdf972ea6c94117fc8aefd27b6983bf63278e289345b03ba6ce494c"), looks := false }, kinds := [], alts := [], laidByText := true, laidKinds := [.data, .data], laidTests := true, laidLooks := .later }
def MinorNamedUptoCardSaid : Prop := Claim7.holds Tryd.pinned (.plain (OpenSpec.upto minorNamedSpec)) minorNamedUptoCard

/-- THE SECOND FORM's CARD OF 'lampblacklaw07.MinorReduces'. -/
def minorReducesUptoCard : Claim7 := { stood := { row := minorReducesUptoRow, standIns := [], harness := (true, "b5d6218d9fdf972ea6c94117fc8aefd27b6983bf63278e289345b03ba6ce494c"), looks := false }, kinds := [], alts := [], laidByText := true, laidKinds := [.data, .data], laidTests := true, laidLooks := .later }
def MinorReducesUptoCardSaid : Prop := Claim7.holds Tryd.pinned (.plain (OpenSpec.upto minorReducesSpec)) minorReducesUptoCard

/-- THE SECOND FORM's CARD OF 'lampblacklaw07.MinorOuters'. -/
def minorOutersUptoCard : Claim7 := { stood := { row := minorOutersUptoRow, standIns := [], harness := (true, "b5d6218d9fdf972ea6c94117fc8aefd27b6983bf63278e289345b03ba6ce494c"), looks := false }, kinds := [], alts := [], laidByText := true, laidKinds := [.data, .data], laidTests := true, laidLooks := .later }
def MinorOutersUptoCardSaid : Prop := Claim7.holds Tryd.pinned (.plain (OpenSpec.upto minorOutersSpec)) minorOutersUptoCard

/-- THE SECOND FORM's CARD OF 'lampblacklaw07.MinorGreatest'. -/
def minorGreatestUptoCard : Claim7 := { stood := { row := minorGreatestUptoRow, standIns := [], harness := (true, "b5d6218d9fdf972ea6c94117fc8aefd27b6983bf63278e289345b03ba6ce494c"), looks := false }, kinds := [], alts := [], laidByText := true, laidKinds := [.data, .data], laidTests := true, laidLooks := .later }
def MinorGreatestUptoCardSaid : Prop := Claim7.holds Tryd.pinned (.plain (OpenSpec.upto minorGreatestSpec)) minorGreatestUptoCard

/-- THE SECOND FORM's CARD OF 'lampblacklaw07.MinorLess'. -/
def minorLessUptoCard : Claim7 := { stood := { row := minorLessUptoRow, standIns := [], harness := (true, "b5d6218d9fdf972ea6c94117fc8aefd27b6983bf63278e289345b03ba6ce494c"), looks := false }, kinds := [], alts := [], laidByText := true, laidKinds := [.data, .data], laidTests := true, laidLooks := .later }
def MinorLessUptoCardSaid : Prop := Claim7.holds Tryd.pinned (.plain (OpenSpec.upto minorLessSpec)) minorLessUptoCard

/-- THE SECOND FORM's CARD OF 'lampblacklaw07.MinorFound'. -/
def minorFoundUptoCard : Claim7 := { stood := { row := minorFoundUptoRow, standIns := [], harness := (true, "b5d6218d9fdf972ea6c94117fc8aefd27b6983bf63278e289345b03ba6ce494c"), looks := false }, kinds := [], alts := [], laidByText := true, laidKinds := [.data, .data], laidTests := true, laidLooks := .later }
def MinorFoundUptoCardSaid : Prop := Claim7.holds Tryd.pinned (.plain (OpenSpec.upto minorFoundSpec)) minorFoundUptoCard

/-- THE SECOND FORM's CARD OF 'lampblacklaw07.MinorSeries'. -/
def minorSeriesUptoCard : Claim7 := { stood := { row := minorSeriesUptoRow, standIns := [], harness := (true, "b5d6218d9fdf972ea6c94117fc8aefd27b6983bf63278e289345b03ba6ce494c"), looks := false }, kinds := [], alts := [], laidByText := true, laidKinds := [.data, .data], laidTests := true, laidLooks := .later }
def MinorSeriesUptoCardSaid : Prop := Claim7.holds Tryd.pinned (.plain (OpenSpec.upto minorSeriesSpec)) minorSeriesUptoCard

/-- THE SECOND FORM's CARD OF 'lampblacklaw07.MinorRound'. -/
def minorRoundUptoCard : Claim7 := { stood := { row := minorRoundUptoRow, standIns := [], harness := (true, "b5d6218d9fdf972ea6c94117fc8aefd27b6983bf63278e289345b03ba6ce494c"), looks := false }, kinds := [], alts := [], laidByText := true, laidKinds := [.data, .data], laidTests := true, laidLooks := .later }
def MinorRoundUptoCardSaid : Prop := Claim7.holds Tryd.pinned (.plain (OpenSpec.upto minorRoundSpec)) minorRoundUptoCard

/-- THE SECOND FORM's CARD OF 'lampblacklaw07.MinorForests'. -/
def minorForestsUptoCard : Claim7 := { stood := { row := minorForestsUptoRow, standIns := [], harness := (true, "b5d6218d9fdf972ea6c94117fc8aefd27b6983bf63278e289345b03ba6ce494c"), looks := false }, kinds := [], alts := [], laidByText := true, laidKinds := [.data, .data], laidTests := true, laidLooks := .later }
def MinorForestsUptoCardSaid : Prop := Claim7.holds Tryd.pinned (.plain (OpenSpec.upto minorForestsSpec)) minorForestsUptoCard

/-- THE SECOND FORM's CARD OF 'lampblacklaw07.MinorWidths'. -/
def minorWidthsUptoCard : Claim7 := { stood := { row := minorWidthsUptoRow, standIns := [], harness := (true, "b5d6218d9fdf972ea6c94117fc8aefd27b6983bf63278e289345b03ba6ce494c"), looks := false }, kinds := [], alts := [], laidByText := true, laidKinds := [.data, .data], laidTests := true, laidLooks := .later }
def MinorWidthsUptoCardSaid : Prop := Claim7.holds Tryd.pinned (.plain (OpenSpec.upto minorWidthsSpec)) minorWidthsUptoCard

/-- THE SECOND FORM's CARD OF 'lampblacklaw07.MinorWheels'. -/
def minorWheelsUptoCard : Claim7 := { stood := { row := minorWheelsUptoRow, standIns := [], harness := (true, "b5d6218d9fdf972ea6c94117fc8aefd27b6983bf63278e289345b03ba6ce494c"), looks := false }, kinds := [], alts := [], laidByText := true, laidKinds := [.data, .data], laidTests := true, laidLooks := .later }
def MinorWheelsUptoCardSaid : Prop := Claim7.holds Tryd.pinned (.plain (OpenSpec.upto minorWheelsSpec)) minorWheelsUptoCard
end Rows
end Go.Proofs.YtfmppncefbjicaaDoor
