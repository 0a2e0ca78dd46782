/-
  DERIVED. GIVEN WITH THE SEED: THE CARDS: each row of YtbkbliieappkdaaDoorRows.lean that lists a variable, with what it lists TIED to the program's text (the seventh form; the later family's looks); each row that meets fmt, with fmt's text TOLD by the authors' own Lean function (tested against real Go, not proved from fmt's source: count such statements apart). THE CARD IS WHAT COUNTS. Prove the row's statement (the work); the ties are given (YtbkbliieappkdaaDoorTie.lean); close each card by the builder's one call (the guide's Derived/Test/ToyasCard.lean, 'card_holds'). Laid BY PROGRAM, IN A SANDBOX (cutbox-door.mjs). By AI agents, Wed Nov 11 2026. No macro, syntax, notation, axiom, sorry.
-/
import Derived.Test.YtbkbliieappkdaaDoorRows
import GoSem.ClaimSeven
namespace Go.Proofs.YtbkbliieappkdaaDoor
namespace Rows

/-- THE TIED CARD OF 'lampblacklaw02.WidthBrambles'. -/
def widthBramblesCard : Claim7 := { stood := { row := widthBramblesRow, standIns := [], harness := (true, "35243f7d7cfd5232c3500fa4895673fe41f7143592ac931374a4268b620099ca"), looks := true }, kinds := [], alts := [], laidByText := true, laidKinds := [.data, .data], laidTests := true, laidLooks := .later }
def WidthBramblesCardSaid : Prop := Claim7.holds Tryd.pinned (.plain (OpenSpec.ofChange widthBramblesSpec)) widthBramblesCard

/-- THE TIED CARD OF 'lampblacklaw02.WidthCovers'. -/
def widthCoversCard : Claim7 := { stood := { row := widthCoversRow, standIns := [], harness := (true, "35243f7d7cfd5232c3500fa4895673fe41f7143592ac931374a4268b620099ca"), looks := true }, kinds := [], alts := [], laidByText := true, laidKinds := [.data, .data], laidTests := true, laidLooks := .later }
def WidthCoversCardSaid : Prop := Claim7.holds Tryd.pinned (.plain (OpenSpec.ofChange widthCoversSpec)) widthCoversCard

/-- THE TIED CARD OF 'lampblacklaw02.WidthTouches'. -/
def widthTouchesCard : Claim7 := { stood := { row := widthTouchesRow, standIns := [], harness := (true, "35243f7d7cfd5232c3500fa4895673fe41f7143592ac931374a4268b620099ca"), looks := true }, kinds := [], alts := [], laidByText := true, laidKinds := [.data, .data], laidTests := true, laidLooks := .later }
def WidthTouchesCardSaid : Prop := Claim7.holds Tryd.pinned (.plain (OpenSpec.ofChange widthTouchesSpec)) widthTouchesCard

/-- THE TIED CARD OF 'lampblacklaw02.WidthDivides'. -/
def widthDividesCard : Claim7 := { stood := { row := widthDividesRow, standIns := [], harness := (true, "35243f7d7cfd5232c3500fa4895673fe41f7143592ac931374a4268b620099ca"), looks := true }, kinds := [], alts := [], laidByText := true, laidKinds := [.data, .data], laidTests := true, laidLooks := .later }
def WidthDividesCardSaid : Prop := Claim7.holds Tryd.pinned (.plain (OpenSpec.ofChange widthDividesSpec)) widthDividesCard

/-- THE TIED CARD OF 'lampblacklaw02.WidthDual'. -/
def widthDualCard : Claim7 := { stood := { row := widthDualRow, standIns := [], harness := (true, "35243f7d7cfd5232c3500fa4895673fe41f7143592ac931374a4268b620099ca"), looks := true }, kinds := [], alts := [], laidByText := true, laidKinds := [.data, .data], laidTests := true, laidLooks := .later }
def WidthDualCardSaid : Prop := Claim7.holds Tryd.pinned (.plain (OpenSpec.ofChange widthDualSpec)) widthDualCard

/-- THE TIED CARD OF 'lampblacklaw02.WidthDivided'. -/
def widthDividedCard : Claim7 := { stood := { row := widthDividedRow, standIns := [], harness := (true, "35243f7d7cfd5232c3500fa4895673fe41f7143592ac931374a4268b620099ca"), looks := true }, kinds := [], alts := [], laidByText := true, laidKinds := [.data, .data], laidTests := true, laidLooks := .later }
def WidthDividedCardSaid : Prop := Claim7.holds Tryd.pinned (.plain (OpenSpec.ofChange widthDividedSpec)) widthDividedCard

/-- THE TIED CARD OF 'lampblacktop.TopTrees'. -/
def topTreesCard : Claim7 := { stood := { row := topTreesRow, standIns := [], harness := (true, "35243f7d7cfd5232c3500fa4895673fe41f7143592ac931374a4268b620099ca"), looks := true }, kinds := [], alts := [], laidByText := true, laidKinds := [.data, .data], laidTests := true, laidLooks := .later }
def TopTreesCardSaid : Prop := Claim7.holds Tryd.pinned (.plain (OpenSpec.ofChange topTreesSpec)) topTreesCard

/-- THE SECOND FORM's CARD OF 'lampblacklaw02.WidthBrambles'. -/
def widthBramblesUptoCard : Claim7 := { stood := { row := widthBramblesUptoRow, standIns := [], harness := (true, "35243f7d7cfd5232c3500fa4895673fe41f7143592ac931374a4268b620099ca"), looks := true }, kinds := [], alts := [], laidByText := true, laidKinds := [.data, .data], laidTests := true, laidLooks := .later }
def WidthBramblesUptoCardSaid : Prop := Claim7.holds Tryd.pinned (.plain (OpenSpec.upto widthBramblesSpec)) widthBramblesUptoCard

/-- THE SECOND FORM's CARD OF 'lampblacklaw02.WidthCovers'. -/
def widthCoversUptoCard : Claim7 := { stood := { row := widthCoversUptoRow, standIns := [], harness := (true, "35243f7d7cfd5232c3500fa4895673fe41f7143592ac931374a4268b620099ca"), looks := true }, kinds := [], alts := [], laidByText := true, laidKinds := [.data, .data], laidTests := true, laidLooks := .later }
def WidthCoversUptoCardSaid : Prop := Claim7.holds Tryd.pinned (.plain (OpenSpec.upto widthCoversSpec)) widthCoversUptoCard

/-- THE SECOND FORM's CARD OF 'lampblacklaw02.WidthTouches'. -/
def widthTouchesUptoCard : Claim7 := { stood := { row := widthTouchesUptoRow, standIns := [], harness := (true, "35243f7d7cfd5232c3500fa4895673fe41f7143592ac931374a4268b620099ca"), looks := true }, kinds := [], alts := [], laidByText := true, laidKinds := [.data, .data], laidTests := true, laidLooks := .later }
def WidthTouchesUptoCardSaid : Prop := Claim7.holds Tryd.pinned (.plain (OpenSpec.upto widthTouchesSpec)) widthTouchesUptoCard

/-- THE SECOND FORM's CARD OF 'lampblacklaw02.WidthDivides'. -/
def widthDividesUptoCard : Claim7 := { stood := { row := widthDividesUptoRow, standIns := [], harness := (true, "35243f7d7cfd5232c3500fa4895673fe41f7143592ac931374a4268b620099ca"), looks := true }, kinds := [], alts := [], laidByText := true, laidKinds := [.data, .data], laidTests := true, laidLooks := .later }
def WidthDividesUptoCardSaid : Prop := Claim7.holds Tryd.pinned (.plain (OpenSpec.upto widthDividesSpec)) widthDividesUptoCard

/-- THE SECOND FORM's CARD OF 'lampblacklaw02.WidthDual'. -/
def widthDualUptoCard : Claim7 := { stood := { row := widthDualUptoRow, standIns := [], harness := (true, "35243f7d7cfd5232c3500fa4895673fe41f7143592ac931374a4268b620099ca"), looks := true }, kinds := [], alts := [], laidByText := true, laidKinds := [.data, .data], laidTests := true, laidLooks := .later }
def WidthDualUptoCardSaid : Prop := Claim7.holds Tryd.pinned (.plain (OpenSpec.upto widthDualSpec)) widthDualUptoCard

/-- THE SECOND FORM's CARD OF 'lampblacklaw02.WidthDivided'. -/
def widthDividedUptoCard : Claim7 := { stood := { row := widthDividedUptoRow, standIns := [], harness := (true, "35243f7d7cfd5232c3500fa4895673fe41f7143592ac931374a4268b620099ca"), looks := true }, kinds := [], alts := [], laidByText := true, laidKinds := [.data, .data], laidTests := true, laidLooks := .later }
def WidthDividedUptoCardSaid : Prop := Claim7.holds Tryd.pinned (.plain (OpenSpec.upto widthDividedSpec)) widthDividedUptoCard

/-- THE SECOND FORM's CARD OF 'lampblacktop.TopTrees'. -/
def topTreesUptoCard : Claim7 := { stood := { row := topTreesUptoRow, standIns := [], harness := (true, "35243f7d7cfd5232c3500fa4895673fe41f7143592ac931374a4268b620099ca"), looks := true }, kinds := [], alts := [], laidByText := true, laidKinds := [.data, .data], laidTests := true, laidLooks := .later }
def TopTreesUptoCardSaid : Prop := Claim7.holds Tryd.pinned (.plain (OpenSpec.upto topTreesSpec)) topTreesUptoCard
end Rows
end Go.Proofs.YtbkbliieappkdaaDoor
