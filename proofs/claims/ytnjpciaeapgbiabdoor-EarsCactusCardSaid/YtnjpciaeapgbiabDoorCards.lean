/-
  DERIVED. GIVEN WITH THE SEED: THE CARDS: each row of YtnjpciaeapgbiabDoorRows.lean that lists a variable, with what it lists TIED to the program's text (the seventh form; the later family's looks); each row that meets fmt, with fmt's text TOLD by the authors' own Lean function (tested against real Go, not proved from fmt's source: count such statements apart). THE CARD IS WHAT COUNTS. Prove the row's statement (the work); the ties are given (YtnjpciaeapgbiabDoorTie.lean); close each card by the builder's one call (the guide's Derived/Test/ToyasCard.lean, 'card_holds'). Laid BY PROGRAM, IN A SANDBOX (cutbox-door.mjs). By AI agents, Wed Nov 11 2026. No macro, syntax, notation, axiom, sorry.
-/
import Derived.Test.YtnjpciaeapgbiabDoorRows
import GoSem.ClaimSeven
namespace Go.Proofs.YtnjpciaeapgbiabDoor
namespace Rows

/-- THE TIED CARD OF 'lampblacklaw04.EarsNames'. -/
def earsNamesCard : Claim7 := { stood := { row := earsNamesRow, standIns := [], harness := (true, "23dd3299cd38d7948a3bca957611ff57c132f385b505803f279d3f68c8e93269"), looks := false }, kinds := [], alts := [], laidByText := true, laidKinds := [.data, .data], laidTests := true, laidLooks := .later }
def EarsNamesCardSaid : Prop := Claim7.holds Tryd.pinned (.plain (OpenSpec.ofChange earsNamesSpec)) earsNamesCard

/-- THE TIED CARD OF 'lampblacklaw04.EarsCactus'. -/
def earsCactusCard : Claim7 := { stood := { row := earsCactusRow, standIns := [], harness := (true, "23dd3299cd38d7948a3bca957611ff57c132f385b505803f279d3f68c8e93269"), looks := false }, kinds := [], alts := [], laidByText := true, laidKinds := [.data, .data], laidTests := true, laidLooks := .later }
def EarsCactusCardSaid : Prop := Claim7.holds Tryd.pinned (.plain (OpenSpec.ofChange earsCactusSpec)) earsCactusCard

/-- THE TIED CARD OF 'lampblacktop.TopBlocks'. -/
def topBlocksCard : Claim7 := { stood := { row := topBlocksRow, standIns := [], harness := (true, "23dd3299cd38d7948a3bca957611ff57c132f385b505803f279d3f68c8e93269"), looks := false }, kinds := [], alts := [], laidByText := true, laidKinds := [.data, .data], laidTests := true, laidLooks := .later }
def TopBlocksCardSaid : Prop := Claim7.holds Tryd.pinned (.plain (OpenSpec.ofChange topBlocksSpec)) topBlocksCard

/-- THE SECOND FORM's CARD OF 'lampblacklaw04.EarsNames'. -/
def earsNamesUptoCard : Claim7 := { stood := { row := earsNamesUptoRow, standIns := [], harness := (true, "23dd3299cd38d7948a3bca957611ff57c132f385b505803f279d3f68c8e93269"), looks := false }, kinds := [], alts := [], laidByText := true, laidKinds := [.data, .data], laidTests := true, laidLooks := .later }
def EarsNamesUptoCardSaid : Prop := Claim7.holds Tryd.pinned (.plain (OpenSpec.upto earsNamesSpec)) earsNamesUptoCard

/-- THE SECOND FORM's CARD OF 'lampblacklaw04.EarsCactus'. -/
def earsCactusUptoCard : Claim7 := { stood := { row := earsCactusUptoRow, standIns := [], harness := (true, "23dd3299cd38d7948a3bca957611ff57c132f385b505803f279d3f68c8e93269"), looks := false }, kinds := [], alts := [], laidByText := true, laidKinds := [.data, .data], laidTests := true, laidLooks := .later }
def EarsCactusUptoCardSaid : Prop := Claim7.holds Tryd.pinned (.plain (OpenSpec.upto earsCactusSpec)) earsCactusUptoCard

/-- THE SECOND FORM's CARD OF 'lampblacktop.TopBlocks'. -/
def topBlocksUptoCard : Claim7 := { stood := { row := topBlocksUptoRow, standIns := [], harness := (true, "23dd3299cd38d7948a3bca957611ff57c132f385b505803f279d3f68c8e93269"), looks := false }, kinds := [], alts := [], laidByText := true, laidKinds := [.data, .data], laidTests := true, laidLooks := .later }
def TopBlocksUptoCardSaid : Prop := Claim7.holds Tryd.pinned (.plain (OpenSpec.upto topBlocksSpec)) topBlocksUptoCard
end Rows
end Go.Proofs.YtnjpciaeapgbiabDoor
