/-
  DERIVED. GIVEN WITH THE SEED: THE CARDS: each row of YtcpdedgmhpehiaaDoorRows.lean that lists a variable, with what it lists TIED to the program's text (the seventh form; the later family's looks); each row that meets fmt, with fmt's text TOLD by the authors' own Lean function (tested against real Go, not proved from fmt's source: count such statements apart). THE CARD IS WHAT COUNTS. Prove the row's statement (the work); the ties are given (YtcpdedgmhpehiaaDoorTie.lean); close each card by the builder's one call (the guide's Derived/Test/ToyasCard.lean, 'card_holds'). Laid BY PROGRAM, IN A SANDBOX (cutbox-door.mjs). By AI agents, Wed Nov 11 2026. No macro, syntax, notation, axiom, sorry.
-/
import Derived.Test.YtcpdedgmhpehiaaDoorRows
import GoSem.ClaimSeven
namespace Go.Proofs.YtcpdedgmhpehiaaDoor
namespace Rows

/-- THE TIED CARD OF 'lampblacklaw04.EarsBlocks'. -/
def earsBlocksCard : Claim7 := { stood := { row := earsBlocksRow, standIns := [], harness := (true, "c5ea9d6796246f3df385a2f18122ef044984f1ac0468e7de72f0dbc00aa7a659"), looks := false }, kinds := [], alts := [], laidByText := true, laidKinds := [.data, .data], laidTests := true, laidLooks := .later }
def EarsBlocksCardSaid : Prop := Claim7.holds Tryd.pinned (.plain (OpenSpec.ofChange earsBlocksSpec)) earsBlocksCard

/-- THE TIED CARD OF 'lampblacklaw04.EarsTakes'. -/
def earsTakesCard : Claim7 := { stood := { row := earsTakesRow, standIns := [], harness := (true, "c5ea9d6796246f3df385a2f18122ef044984f1ac0468e7de72f0dbc00aa7a659"), looks := false }, kinds := [], alts := [], laidByText := true, laidKinds := [.data, .data], laidTests := true, laidLooks := .later }
def EarsTakesCardSaid : Prop := Claim7.holds Tryd.pinned (.plain (OpenSpec.ofChange earsTakesSpec)) earsTakesCard

/-- THE TIED CARD OF 'lampblacklaw04.EarsOrients'. -/
def earsOrientsCard : Claim7 := { stood := { row := earsOrientsRow, standIns := [], harness := (true, "c5ea9d6796246f3df385a2f18122ef044984f1ac0468e7de72f0dbc00aa7a659"), looks := false }, kinds := [], alts := [], laidByText := true, laidKinds := [.data, .data], laidTests := true, laidLooks := .later }
def EarsOrientsCardSaid : Prop := Claim7.holds Tryd.pinned (.plain (OpenSpec.ofChange earsOrientsSpec)) earsOrientsCard

/-- THE TIED CARD OF 'lampblacklaw04.EarsWays'. -/
def earsWaysCard : Claim7 := { stood := { row := earsWaysRow, standIns := [], harness := (true, "c5ea9d6796246f3df385a2f18122ef044984f1ac0468e7de72f0dbc00aa7a659"), looks := false }, kinds := [], alts := [], laidByText := true, laidKinds := [.data, .data], laidTests := true, laidLooks := .later }
def EarsWaysCardSaid : Prop := Claim7.holds Tryd.pinned (.plain (OpenSpec.ofChange earsWaysSpec)) earsWaysCard

/-- THE TIED CARD OF 'lampblacklaw04.EarsDouble'. -/
def earsDoubleCard : Claim7 := { stood := { row := earsDoubleRow, standIns := [], harness := (true, "c5ea9d6796246f3df385a2f18122ef044984f1ac0468e7de72f0dbc00aa7a659"), looks := false }, kinds := [], alts := [], laidByText := true, laidKinds := [.data, .data], laidTests := true, laidLooks := .later }
def EarsDoubleCardSaid : Prop := Claim7.holds Tryd.pinned (.plain (OpenSpec.ofChange earsDoubleSpec)) earsDoubleCard

/-- THE TIED CARD OF 'lampblacklaw04.EarsStrong'. -/
def earsStrongCard : Claim7 := { stood := { row := earsStrongRow, standIns := [], harness := (true, "c5ea9d6796246f3df385a2f18122ef044984f1ac0468e7de72f0dbc00aa7a659"), looks := false }, kinds := [], alts := [], laidByText := true, laidKinds := [.data, .data], laidTests := true, laidLooks := .later }
def EarsStrongCardSaid : Prop := Claim7.holds Tryd.pinned (.plain (OpenSpec.ofChange earsStrongSpec)) earsStrongCard

/-- THE TIED CARD OF 'lampblacklaw04.EarsMenger'. -/
def earsMengerCard : Claim7 := { stood := { row := earsMengerRow, standIns := [], harness := (true, "c5ea9d6796246f3df385a2f18122ef044984f1ac0468e7de72f0dbc00aa7a659"), looks := false }, kinds := [], alts := [], laidByText := true, laidKinds := [.data, .data], laidTests := true, laidLooks := .later }
def EarsMengerCardSaid : Prop := Claim7.holds Tryd.pinned (.plain (OpenSpec.ofChange earsMengerSpec)) earsMengerCard

/-- THE TIED CARD OF 'lampblacklaw04.EarsCounted'. -/
def earsCountedCard : Claim7 := { stood := { row := earsCountedRow, standIns := [], harness := (true, "c5ea9d6796246f3df385a2f18122ef044984f1ac0468e7de72f0dbc00aa7a659"), looks := false }, kinds := [], alts := [], laidByText := true, laidKinds := [.data, .data], laidTests := true, laidLooks := .later }
def EarsCountedCardSaid : Prop := Claim7.holds Tryd.pinned (.plain (OpenSpec.ofChange earsCountedSpec)) earsCountedCard

/-- THE TIED CARD OF 'lampblacklaw04.EarsNames'. -/
def earsNamesCard : Claim7 := { stood := { row := earsNamesRow, standIns := [], harness := (true, "c5ea9d6796246f3df385a2f18122ef044984f1ac0468e7de72f0dbc00aa7a659"), looks := false }, kinds := [], alts := [], laidByText := true, laidKinds := [.data, .data], laidTests := true, laidLooks := .later }
def EarsNamesCardSaid : Prop := Claim7.holds Tryd.pinned (.plain (OpenSpec.ofChange earsNamesSpec)) earsNamesCard

/-- THE TIED CARD OF 'lampblacktop.TopBlocks'. -/
def topBlocksCard : Claim7 := { stood := { row := topBlocksRow, standIns := [], harness := (true, "c5ea9d6796246f3df385a2f18122ef044984f1ac0468e7de72f0dbc00aa7a659"), looks := false }, kinds := [], alts := [], laidByText := true, laidKinds := [.data, .data], laidTests := true, laidLooks := .later }
def TopBlocksCardSaid : Prop := Claim7.holds Tryd.pinned (.plain (OpenSpec.ofChange topBlocksSpec)) topBlocksCard

/-- THE SECOND FORM's CARD OF 'lampblacklaw04.EarsBlocks'. -/
def earsBlocksUptoCard : Claim7 := { stood := { row := earsBlocksUptoRow, standIns := [], harness := (true, "c5ea9d6796246f3df385a2f18122ef044984f1ac0468e7de72f0dbc00aa7a659"), looks := false }, kinds := [], alts := [], laidByText := true, laidKinds := [.data, .data], laidTests := true, laidLooks := .later }
def EarsBlocksUptoCardSaid : Prop := Claim7.holds Tryd.pinned (.plain (OpenSpec.upto earsBlocksSpec)) earsBlocksUptoCard

/-- THE SECOND FORM's CARD OF 'lampblacklaw04.EarsTakes'. -/
def earsTakesUptoCard : Claim7 := { stood := { row := earsTakesUptoRow, standIns := [], harness := (true, "c5ea9d6796246f3df385a2f18122ef044984f1ac0468e7de72f0dbc00aa7a659"), looks := false }, kinds := [], alts := [], laidByText := true, laidKinds := [.data, .data], laidTests := true, laidLooks := .later }
def EarsTakesUptoCardSaid : Prop := Claim7.holds Tryd.pinned (.plain (OpenSpec.upto earsTakesSpec)) earsTakesUptoCard

/-- THE SECOND FORM's CARD OF 'lampblacklaw04.EarsOrients'. -/
def earsOrientsUptoCard : Claim7 := { stood := { row := earsOrientsUptoRow, standIns := [], harness := (true, "c5ea9d6796246f3df385a2f18122ef044984f1ac0468e7de72f0dbc00aa7a659"), looks := false }, kinds := [], alts := [], laidByText := true, laidKinds := [.data, .data], laidTests := true, laidLooks := .later }
def EarsOrientsUptoCardSaid : Prop := Claim7.holds Tryd.pinned (.plain (OpenSpec.upto earsOrientsSpec)) earsOrientsUptoCard

/-- THE SECOND FORM's CARD OF 'lampblacklaw04.EarsWays'. -/
def earsWaysUptoCard : Claim7 := { stood := { row := earsWaysUptoRow, standIns := [], harness := (true, "c5ea9d6796246f3df385a2f18122ef044984f1ac0468e7de72f0dbc00aa7a659"), looks := false }, kinds := [], alts := [], laidByText := true, laidKinds := [.data, .data], laidTests := true, laidLooks := .later }
def EarsWaysUptoCardSaid : Prop := Claim7.holds Tryd.pinned (.plain (OpenSpec.upto earsWaysSpec)) earsWaysUptoCard

/-- THE SECOND FORM's CARD OF 'lampblacklaw04.EarsDouble'. -/
def earsDoubleUptoCard : Claim7 := { stood := { row := earsDoubleUptoRow, standIns := [], harness := (true, "c5ea9d6796246f3df385a2f18122ef044984f1ac0468e7de72f0dbc00aa7a659"), looks := false }, kinds := [], alts := [], laidByText := true, laidKinds := [.data, .data], laidTests := true, laidLooks := .later }
def EarsDoubleUptoCardSaid : Prop := Claim7.holds Tryd.pinned (.plain (OpenSpec.upto earsDoubleSpec)) earsDoubleUptoCard

/-- THE SECOND FORM's CARD OF 'lampblacklaw04.EarsStrong'. -/
def earsStrongUptoCard : Claim7 := { stood := { row := earsStrongUptoRow, standIns := [], harness := (true, "c5ea9d6796246f3df385a2f18122ef044984f1ac0468e7de72f0dbc00aa7a659"), looks := false }, kinds := [], alts := [], laidByText := true, laidKinds := [.data, .data], laidTests := true, laidLooks := .later }
def EarsStrongUptoCardSaid : Prop := Claim7.holds Tryd.pinned (.plain (OpenSpec.upto earsStrongSpec)) earsStrongUptoCard

/-- THE SECOND FORM's CARD OF 'lampblacklaw04.EarsMenger'. -/
def earsMengerUptoCard : Claim7 := { stood := { row := earsMengerUptoRow, standIns := [], harness := (true, "c5ea9d6796246f3df385a2f18122ef044984f1ac0468e7de72f0dbc00aa7a659"), looks := false }, kinds := [], alts := [], laidByText := true, laidKinds := [.data, .data], laidTests := true, laidLooks := .later }
def EarsMengerUptoCardSaid : Prop := Claim7.holds Tryd.pinned (.plain (OpenSpec.upto earsMengerSpec)) earsMengerUptoCard

/-- THE SECOND FORM's CARD OF 'lampblacklaw04.EarsCounted'. -/
def earsCountedUptoCard : Claim7 := { stood := { row := earsCountedUptoRow, standIns := [], harness := (true, "c5ea9d6796246f3df385a2f18122ef044984f1ac0468e7de72f0dbc00aa7a659"), looks := false }, kinds := [], alts := [], laidByText := true, laidKinds := [.data, .data], laidTests := true, laidLooks := .later }
def EarsCountedUptoCardSaid : Prop := Claim7.holds Tryd.pinned (.plain (OpenSpec.upto earsCountedSpec)) earsCountedUptoCard

/-- THE SECOND FORM's CARD OF 'lampblacklaw04.EarsNames'. -/
def earsNamesUptoCard : Claim7 := { stood := { row := earsNamesUptoRow, standIns := [], harness := (true, "c5ea9d6796246f3df385a2f18122ef044984f1ac0468e7de72f0dbc00aa7a659"), looks := false }, kinds := [], alts := [], laidByText := true, laidKinds := [.data, .data], laidTests := true, laidLooks := .later }
def EarsNamesUptoCardSaid : Prop := Claim7.holds Tryd.pinned (.plain (OpenSpec.upto earsNamesSpec)) earsNamesUptoCard

/-- THE SECOND FORM's CARD OF 'lampblacktop.TopBlocks'. -/
def topBlocksUptoCard : Claim7 := { stood := { row := topBlocksUptoRow, standIns := [], harness := (true, "c5ea9d6796246f3df385a2f18122ef044984f1ac0468e7de72f0dbc00aa7a659"), looks := false }, kinds := [], alts := [], laidByText := true, laidKinds := [.data, .data], laidTests := true, laidLooks := .later }
def TopBlocksUptoCardSaid : Prop := Claim7.holds Tryd.pinned (.plain (OpenSpec.upto topBlocksSpec)) topBlocksUptoCard
end Rows
end Go.Proofs.YtcpdedgmhpehiaaDoor
