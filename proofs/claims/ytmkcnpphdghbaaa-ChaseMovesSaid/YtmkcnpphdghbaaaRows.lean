/-
  No cell of these rows narrows 'for every input' (looked for: loops, veiled, ifaces, maps, wideKeys, modest, calm, conditions, laid).
  DERIVED. THE GIVEN ROWS OF THIS SEAT. 9 by the template 'for every input the law returns true; each argument reads behind the call as it read before'; 0 by the template 'total and deterministic' (their statements: YtmkcnpphdghbaaaTotals.lean).
  GIVEN WITH THE SEED: the statements are not yours to turn. If you find one false, say at which input.
  Laid BY PROGRAM, IN A SANDBOX (cutbox-rows.mjs): the forced cells as the released guide's own fill.sh prints them over the translation b290cbece8cd1cd2… (all of the seat's roots in one cut). By AI agents, Wed Nov 11 2026. No macro, syntax, notation, axiom, sorry.
-/
import Derived.Test.YtmkcnpphdghbaaaChecked
import GoSem.Claim
import GoSem.ClaimJoined
import GoSem.ClaimMapViews
import Derived.JoinedTies
import Derived.KernelRfl
namespace Go.Proofs.Ytmkcnpphdghbaaa
/- THE CELL 'sum', in the pinned program and in every row, IS THE sha256 OF THE DUMP (.gsa) THAT YtmkcnpphdghbaaaProg.lean LOADS. Nothing in Lean hashes anything: it is a label: what it is worth is what the hold of that sum in a sandbox is worth. -/
noncomputable def Try.pinned : Pinned := { name := "ytmkcnpphdghbaaa", sum := "b290cbece8cd1cd28dcaa2971463a2b0a2a53d111eed58cb44a74403bc3e0f60", checked := Try.checked }
namespace Rows
def none {H : Type} : Left H := { results := [], args := [] }

/-- 'lampblacklaw01.ChaseRanks': WHATEVER THE INPUT: true; the input reads as it did. -/
def chaseRanksSpec : ChangeSpec := { name := "chaseRanks", fn := fun _ => fun
  | [d1, d2, d3] => { results := [.lit (.bool true)], args := [d1, d2, d3] }
  | _ => none }
def chaseRanksRow : OpenClaim := { program := "ytmkcnpphdghbaaa", sum := "b290cbece8cd1cd28dcaa2971463a2b0a2a53d111eed58cb44a74403bc3e0f60", func := "lampblack/lampblacklaw01.ChaseRanks", spec := "chaseRanks", plainKeys := false, apart := false }
def ChaseRanksSaid : Prop := chaseRanksRow.holds Try.pinned (OpenSpec.ofChange chaseRanksSpec)

/-- ITS FALSE NEIGHBOUR: 'it returns false'. Refute it at one input. -/
def chaseRanksWrong : ChangeSpec := { name := "chaseRanks", fn := fun _ => fun
  | [d1, d2, d3] => { results := [.lit (.bool false)], args := [d1, d2, d3] }
  | _ => none }
def ChaseRanksWrongFalsely : Prop := chaseRanksRow.holds Try.pinned (OpenSpec.ofChange chaseRanksWrong)

/-- 'lampblacklaw01.ChaseRounds': WHATEVER THE INPUT: true; the input reads as it did. -/
def chaseRoundsSpec : ChangeSpec := { name := "chaseRounds", fn := fun _ => fun
  | [d1, d2] => { results := [.lit (.bool true)], args := [d1, d2] }
  | _ => none }
def chaseRoundsRow : OpenClaim := { program := "ytmkcnpphdghbaaa", sum := "b290cbece8cd1cd28dcaa2971463a2b0a2a53d111eed58cb44a74403bc3e0f60", func := "lampblack/lampblacklaw01.ChaseRounds", spec := "chaseRounds", plainKeys := false, apart := false }
def ChaseRoundsSaid : Prop := chaseRoundsRow.holds Try.pinned (OpenSpec.ofChange chaseRoundsSpec)

/-- ITS FALSE NEIGHBOUR: 'it returns false'. Refute it at one input. -/
def chaseRoundsWrong : ChangeSpec := { name := "chaseRounds", fn := fun _ => fun
  | [d1, d2] => { results := [.lit (.bool false)], args := [d1, d2] }
  | _ => none }
def ChaseRoundsWrongFalsely : Prop := chaseRoundsRow.holds Try.pinned (OpenSpec.ofChange chaseRoundsWrong)

/-- 'lampblacklaw01.ChaseSafe': WHATEVER THE INPUT: true; the input reads as it did. -/
def chaseSafeSpec : ChangeSpec := { name := "chaseSafe", fn := fun _ => fun
  | [d1, d2] => { results := [.lit (.bool true)], args := [d1, d2] }
  | _ => none }
def chaseSafeRow : OpenClaim := { program := "ytmkcnpphdghbaaa", sum := "b290cbece8cd1cd28dcaa2971463a2b0a2a53d111eed58cb44a74403bc3e0f60", func := "lampblack/lampblacklaw01.ChaseSafe", spec := "chaseSafe", plainKeys := false, apart := false }
def ChaseSafeSaid : Prop := chaseSafeRow.holds Try.pinned (OpenSpec.ofChange chaseSafeSpec)

/-- ITS FALSE NEIGHBOUR: 'it returns false'. Refute it at one input. -/
def chaseSafeWrong : ChangeSpec := { name := "chaseSafe", fn := fun _ => fun
  | [d1, d2] => { results := [.lit (.bool false)], args := [d1, d2] }
  | _ => none }
def ChaseSafeWrongFalsely : Prop := chaseSafeRow.holds Try.pinned (OpenSpec.ofChange chaseSafeWrong)

/-- 'lampblacklaw01.ChaseChecks': WHATEVER THE INPUT: true; the input reads as it did. -/
def chaseChecksSpec : ChangeSpec := { name := "chaseChecks", fn := fun _ => fun
  | [d1, d2, d3] => { results := [.lit (.bool true)], args := [d1, d2, d3] }
  | _ => none }
def chaseChecksRow : OpenClaim := { program := "ytmkcnpphdghbaaa", sum := "b290cbece8cd1cd28dcaa2971463a2b0a2a53d111eed58cb44a74403bc3e0f60", func := "lampblack/lampblacklaw01.ChaseChecks", spec := "chaseChecks", plainKeys := false, apart := false }
def ChaseChecksSaid : Prop := chaseChecksRow.holds Try.pinned (OpenSpec.ofChange chaseChecksSpec)

/-- ITS FALSE NEIGHBOUR: 'it returns false'. Refute it at one input. -/
def chaseChecksWrong : ChangeSpec := { name := "chaseChecks", fn := fun _ => fun
  | [d1, d2, d3] => { results := [.lit (.bool false)], args := [d1, d2, d3] }
  | _ => none }
def ChaseChecksWrongFalsely : Prop := chaseChecksRow.holds Try.pinned (OpenSpec.ofChange chaseChecksWrong)

/-- 'lampblacklaw01.ChaseEither': WHATEVER THE INPUT: true; the input reads as it did. -/
def chaseEitherSpec : ChangeSpec := { name := "chaseEither", fn := fun _ => fun
  | [d1, d2, d3] => { results := [.lit (.bool true)], args := [d1, d2, d3] }
  | _ => none }
def chaseEitherRow : OpenClaim := { program := "ytmkcnpphdghbaaa", sum := "b290cbece8cd1cd28dcaa2971463a2b0a2a53d111eed58cb44a74403bc3e0f60", func := "lampblack/lampblacklaw01.ChaseEither", spec := "chaseEither", plainKeys := false, apart := false }
def ChaseEitherSaid : Prop := chaseEitherRow.holds Try.pinned (OpenSpec.ofChange chaseEitherSpec)

/-- ITS FALSE NEIGHBOUR: 'it returns false'. Refute it at one input. -/
def chaseEitherWrong : ChangeSpec := { name := "chaseEither", fn := fun _ => fun
  | [d1, d2, d3] => { results := [.lit (.bool false)], args := [d1, d2, d3] }
  | _ => none }
def ChaseEitherWrongFalsely : Prop := chaseEitherRow.holds Try.pinned (OpenSpec.ofChange chaseEitherWrong)

/-- 'lampblacklaw01.ChaseMoves': WHATEVER THE INPUT: true; the input reads as it did. -/
def chaseMovesSpec : ChangeSpec := { name := "chaseMoves", fn := fun _ => fun
  | [d1, d2, d3, d4] => { results := [.lit (.bool true)], args := [d1, d2, d3, d4] }
  | _ => none }
def chaseMovesRow : OpenClaim := { program := "ytmkcnpphdghbaaa", sum := "b290cbece8cd1cd28dcaa2971463a2b0a2a53d111eed58cb44a74403bc3e0f60", func := "lampblack/lampblacklaw01.ChaseMoves", spec := "chaseMoves", unfollowed := true, recurses := true, plainKeys := false, apart := false }
def ChaseMovesSaid : Prop := chaseMovesRow.holds Try.pinned (OpenSpec.ofChange chaseMovesSpec)

/-- ITS FALSE NEIGHBOUR: 'it returns false'. Refute it at one input. -/
def chaseMovesWrong : ChangeSpec := { name := "chaseMoves", fn := fun _ => fun
  | [d1, d2, d3, d4] => { results := [.lit (.bool false)], args := [d1, d2, d3, d4] }
  | _ => none }
def ChaseMovesWrongFalsely : Prop := chaseMovesRow.holds Try.pinned (OpenSpec.ofChange chaseMovesWrong)

/-- 'lampblacklaw01.ChaseTwo': WHATEVER THE INPUT: true; the input reads as it did. -/
def chaseTwoSpec : ChangeSpec := { name := "chaseTwo", fn := fun _ => fun
  | [d] => { results := [.lit (.bool true)], args := [d] }
  | _ => none }
def chaseTwoRow : OpenClaim := { program := "ytmkcnpphdghbaaa", sum := "b290cbece8cd1cd28dcaa2971463a2b0a2a53d111eed58cb44a74403bc3e0f60", func := "lampblack/lampblacklaw01.ChaseTwo", spec := "chaseTwo", plainKeys := false, apart := false }
def ChaseTwoSaid : Prop := chaseTwoRow.holds Try.pinned (OpenSpec.ofChange chaseTwoSpec)

/-- ITS FALSE NEIGHBOUR: 'it returns false'. Refute it at one input. -/
def chaseTwoWrong : ChangeSpec := { name := "chaseTwo", fn := fun _ => fun
  | [d] => { results := [.lit (.bool false)], args := [d] }
  | _ => none }
def ChaseTwoWrongFalsely : Prop := chaseTwoRow.holds Try.pinned (OpenSpec.ofChange chaseTwoWrong)

/-- 'lampblacklaw01.ChaseCorner': WHATEVER THE INPUT: true; the input reads as it did. -/
def chaseCornerSpec : ChangeSpec := { name := "chaseCorner", fn := fun _ => fun
  | [d1, d2] => { results := [.lit (.bool true)], args := [d1, d2] }
  | _ => none }
def chaseCornerRow : OpenClaim := { program := "ytmkcnpphdghbaaa", sum := "b290cbece8cd1cd28dcaa2971463a2b0a2a53d111eed58cb44a74403bc3e0f60", func := "lampblack/lampblacklaw01.ChaseCorner", spec := "chaseCorner", plainKeys := false, apart := false }
def ChaseCornerSaid : Prop := chaseCornerRow.holds Try.pinned (OpenSpec.ofChange chaseCornerSpec)

/-- ITS FALSE NEIGHBOUR: 'it returns false'. Refute it at one input. -/
def chaseCornerWrong : ChangeSpec := { name := "chaseCorner", fn := fun _ => fun
  | [d1, d2] => { results := [.lit (.bool false)], args := [d1, d2] }
  | _ => none }
def ChaseCornerWrongFalsely : Prop := chaseCornerRow.holds Try.pinned (OpenSpec.ofChange chaseCornerWrong)

/-- 'lampblacklaw01.ChaseNames': WHATEVER THE INPUT: true; the input reads as it did. -/
def chaseNamesSpec : ChangeSpec := { name := "chaseNames", fn := fun _ => fun
  | [d1, d2] => { results := [.lit (.bool true)], args := [d1, d2] }
  | _ => none }
def chaseNamesRow : OpenClaim := { program := "ytmkcnpphdghbaaa", sum := "b290cbece8cd1cd28dcaa2971463a2b0a2a53d111eed58cb44a74403bc3e0f60", func := "lampblack/lampblacklaw01.ChaseNames", spec := "chaseNames", plainKeys := false, apart := false }
def ChaseNamesSaid : Prop := chaseNamesRow.holds Try.pinned (OpenSpec.ofChange chaseNamesSpec)

/-- ITS FALSE NEIGHBOUR: 'it returns false'. Refute it at one input. -/
def chaseNamesWrong : ChangeSpec := { name := "chaseNames", fn := fun _ => fun
  | [d1, d2] => { results := [.lit (.bool false)], args := [d1, d2] }
  | _ => none }
def ChaseNamesWrongFalsely : Prop := chaseNamesRow.holds Try.pinned (OpenSpec.ofChange chaseNamesWrong)

/- THE SECOND FORM. 'bulk': how many values and letters a reading holds, each counted each time it is reached (what is shared counts as often as it is met; a slice's spare places count too). A statement '..UptoSaid' is the law's where the arguments, and the package variables that the reading takes, are together of bulk at most 1048576: NARROWER than '..Said'. Prove '..Said' where nothing that the law and all that it calls make is longer than what came in: it says more and counts as full. Else prove '..UptoSaid'. A law counts once. -/
mutual
def uptoBulk {H : Type} : DataW H → Nat
  | .lit (.string bytes) => bytes.length + 1
  | .lit _ => 1
  | .nil => 1
  | .ptr d => uptoBulk d + 1
  | .slice elems spare => uptoBulkAll elems + uptoBulkAll spare + 1
  | .agg parts => uptoBulkAll parts + 1
  | .iface _ d => uptoBulk d + 1
  | .map entries => uptoBulkEntries entries + 1
  | .held _ => 1
def uptoBulkAll {H : Type} : List (DataW H) → Nat
  | [] => 0
  | d :: r => uptoBulk d + uptoBulkAll r
def uptoBulkEntries {H : Type} : List (Lit × DataW H) → Nat
  | [] => 0
  | x :: r => uptoBulkEntry x + uptoBulkEntries r
def uptoBulkEntry {H : Type} : Lit × DataW H → Nat
  | (.string bytes, d) => bytes.length + uptoBulk d + 1
  | (_, d) => uptoBulk d + 1
 end
def uptoSmall : (H : Type) → List (DataW H) → Bool := fun _ ds => decide (uptoBulkAll ds ≤ 1048576)
def OpenSpec.upto (s : _root_.Go.ChangeSpec) : _root_.Go.OpenSpec := { _root_.Go.OpenSpec.ofChange s with cond := some uptoSmall }

/-- 'lampblacklaw01.ChaseRanks', WHERE WHAT IT READS IS OF BULK AT MOST 1048576: true; the input reads as it did. -/
def chaseRanksUptoRow : OpenClaim := { program := "ytmkcnpphdghbaaa", sum := "b290cbece8cd1cd28dcaa2971463a2b0a2a53d111eed58cb44a74403bc3e0f60", func := "lampblack/lampblacklaw01.ChaseRanks", spec := "chaseRanks", plainKeys := false, apart := false, narrowed := true }
def ChaseRanksUptoSaid : Prop := chaseRanksUptoRow.holds Try.pinned (OpenSpec.upto chaseRanksSpec)

/-- 'lampblacklaw01.ChaseRounds', WHERE WHAT IT READS IS OF BULK AT MOST 1048576: true; the input reads as it did. -/
def chaseRoundsUptoRow : OpenClaim := { program := "ytmkcnpphdghbaaa", sum := "b290cbece8cd1cd28dcaa2971463a2b0a2a53d111eed58cb44a74403bc3e0f60", func := "lampblack/lampblacklaw01.ChaseRounds", spec := "chaseRounds", plainKeys := false, apart := false, narrowed := true }
def ChaseRoundsUptoSaid : Prop := chaseRoundsUptoRow.holds Try.pinned (OpenSpec.upto chaseRoundsSpec)

/-- 'lampblacklaw01.ChaseSafe', WHERE WHAT IT READS IS OF BULK AT MOST 1048576: true; the input reads as it did. -/
def chaseSafeUptoRow : OpenClaim := { program := "ytmkcnpphdghbaaa", sum := "b290cbece8cd1cd28dcaa2971463a2b0a2a53d111eed58cb44a74403bc3e0f60", func := "lampblack/lampblacklaw01.ChaseSafe", spec := "chaseSafe", plainKeys := false, apart := false, narrowed := true }
def ChaseSafeUptoSaid : Prop := chaseSafeUptoRow.holds Try.pinned (OpenSpec.upto chaseSafeSpec)

/-- 'lampblacklaw01.ChaseChecks', WHERE WHAT IT READS IS OF BULK AT MOST 1048576: true; the input reads as it did. -/
def chaseChecksUptoRow : OpenClaim := { program := "ytmkcnpphdghbaaa", sum := "b290cbece8cd1cd28dcaa2971463a2b0a2a53d111eed58cb44a74403bc3e0f60", func := "lampblack/lampblacklaw01.ChaseChecks", spec := "chaseChecks", plainKeys := false, apart := false, narrowed := true }
def ChaseChecksUptoSaid : Prop := chaseChecksUptoRow.holds Try.pinned (OpenSpec.upto chaseChecksSpec)

/-- 'lampblacklaw01.ChaseEither', WHERE WHAT IT READS IS OF BULK AT MOST 1048576: true; the input reads as it did. -/
def chaseEitherUptoRow : OpenClaim := { program := "ytmkcnpphdghbaaa", sum := "b290cbece8cd1cd28dcaa2971463a2b0a2a53d111eed58cb44a74403bc3e0f60", func := "lampblack/lampblacklaw01.ChaseEither", spec := "chaseEither", plainKeys := false, apart := false, narrowed := true }
def ChaseEitherUptoSaid : Prop := chaseEitherUptoRow.holds Try.pinned (OpenSpec.upto chaseEitherSpec)

/-- 'lampblacklaw01.ChaseMoves', WHERE WHAT IT READS IS OF BULK AT MOST 1048576: true; the input reads as it did. -/
def chaseMovesUptoRow : OpenClaim := { program := "ytmkcnpphdghbaaa", sum := "b290cbece8cd1cd28dcaa2971463a2b0a2a53d111eed58cb44a74403bc3e0f60", func := "lampblack/lampblacklaw01.ChaseMoves", spec := "chaseMoves", unfollowed := true, recurses := true, plainKeys := false, apart := false, narrowed := true }
def ChaseMovesUptoSaid : Prop := chaseMovesUptoRow.holds Try.pinned (OpenSpec.upto chaseMovesSpec)

/-- 'lampblacklaw01.ChaseTwo', WHERE WHAT IT READS IS OF BULK AT MOST 1048576: true; the input reads as it did. -/
def chaseTwoUptoRow : OpenClaim := { program := "ytmkcnpphdghbaaa", sum := "b290cbece8cd1cd28dcaa2971463a2b0a2a53d111eed58cb44a74403bc3e0f60", func := "lampblack/lampblacklaw01.ChaseTwo", spec := "chaseTwo", plainKeys := false, apart := false, narrowed := true }
def ChaseTwoUptoSaid : Prop := chaseTwoUptoRow.holds Try.pinned (OpenSpec.upto chaseTwoSpec)

/-- 'lampblacklaw01.ChaseCorner', WHERE WHAT IT READS IS OF BULK AT MOST 1048576: true; the input reads as it did. -/
def chaseCornerUptoRow : OpenClaim := { program := "ytmkcnpphdghbaaa", sum := "b290cbece8cd1cd28dcaa2971463a2b0a2a53d111eed58cb44a74403bc3e0f60", func := "lampblack/lampblacklaw01.ChaseCorner", spec := "chaseCorner", plainKeys := false, apart := false, narrowed := true }
def ChaseCornerUptoSaid : Prop := chaseCornerUptoRow.holds Try.pinned (OpenSpec.upto chaseCornerSpec)

/-- 'lampblacklaw01.ChaseNames', WHERE WHAT IT READS IS OF BULK AT MOST 1048576: true; the input reads as it did. -/
def chaseNamesUptoRow : OpenClaim := { program := "ytmkcnpphdghbaaa", sum := "b290cbece8cd1cd28dcaa2971463a2b0a2a53d111eed58cb44a74403bc3e0f60", func := "lampblack/lampblacklaw01.ChaseNames", spec := "chaseNames", plainKeys := false, apart := false, narrowed := true }
def ChaseNamesUptoSaid : Prop := chaseNamesUptoRow.holds Try.pinned (OpenSpec.upto chaseNamesSpec)

end Rows
end Go.Proofs.Ytmkcnpphdghbaaa
