/-
  DERIVED. GIVEN WITH THE SEED: THE CARDS: each row of YtbodgdbcbaggdaaDoorRows.lean that lists a variable, with what it lists TIED to the program's text (the seventh form; the later family's looks); each row that meets fmt, with fmt's text TOLD by the authors' own Lean function (tested against real Go, not proved from fmt's source: count such statements apart). THE CARD IS WHAT COUNTS. Prove the row's statement (the work); the ties are given (YtbodgdbcbaggdaaDoorTie.lean); close each card by the builder's one call (the guide's Derived/Test/ToyasCard.lean, 'card_holds'). Laid BY PROGRAM, IN A SANDBOX (cutbox-door.mjs). By AI agents, Wed Nov 11 2026. No macro, syntax, notation, axiom, sorry.
-/
import Derived.Test.YtbodgdbcbaggdaaDoorRows
import GoSem.ClaimSeven
namespace Go.Proofs.YtbodgdbcbaggdaaDoor
namespace Rows

/-- THE TIED CARD OF 'lampblacklaw01.ChaseApart'. -/
def chaseApartCard : Claim7 := { stood := { row := chaseApartRow, standIns := [], harness := (true, "9265a2b85592103c1d2700bb45b168b0ae27418d9bc84db3f49b56c65437ddf2"), looks := false }, kinds := [], alts := [], laidByText := true, laidKinds := [.data, .data], laidTests := true, laidLooks := .later }
def ChaseApartCardSaid : Prop := Claim7.holds Tryd.pinned (.plain (OpenSpec.ofChange chaseApartSpec)) chaseApartCard

/-- THE TIED CARD OF 'lampblacklaw01.ChaseOne'. -/
def chaseOneCard : Claim7 := { stood := { row := chaseOneRow, standIns := [], harness := (true, "9265a2b85592103c1d2700bb45b168b0ae27418d9bc84db3f49b56c65437ddf2"), looks := false }, kinds := [], alts := [], laidByText := true, laidKinds := [.data, .data], laidTests := true, laidLooks := .later }
def ChaseOneCardSaid : Prop := Claim7.holds Tryd.pinned (.plain (OpenSpec.ofChange chaseOneSpec)) chaseOneCard

/-- THE SECOND FORM's CARD OF 'lampblacklaw01.ChaseApart'. -/
def chaseApartUptoCard : Claim7 := { stood := { row := chaseApartUptoRow, standIns := [], harness := (true, "9265a2b85592103c1d2700bb45b168b0ae27418d9bc84db3f49b56c65437ddf2"), looks := false }, kinds := [], alts := [], laidByText := true, laidKinds := [.data, .data], laidTests := true, laidLooks := .later }
def ChaseApartUptoCardSaid : Prop := Claim7.holds Tryd.pinned (.plain (OpenSpec.upto chaseApartSpec)) chaseApartUptoCard

/-- THE SECOND FORM's CARD OF 'lampblacklaw01.ChaseOne'. -/
def chaseOneUptoCard : Claim7 := { stood := { row := chaseOneUptoRow, standIns := [], harness := (true, "9265a2b85592103c1d2700bb45b168b0ae27418d9bc84db3f49b56c65437ddf2"), looks := false }, kinds := [], alts := [], laidByText := true, laidKinds := [.data, .data], laidTests := true, laidLooks := .later }
def ChaseOneUptoCardSaid : Prop := Claim7.holds Tryd.pinned (.plain (OpenSpec.upto chaseOneSpec)) chaseOneUptoCard
end Rows
end Go.Proofs.YtbodgdbcbaggdaaDoor
