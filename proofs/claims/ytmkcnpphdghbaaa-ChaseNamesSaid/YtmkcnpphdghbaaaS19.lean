/- A set of at most eight nodes, counted (of C3c, where the bits' tables are not reached). -/
import Derived.Test.YtmkcnpphdghbaaaS15
namespace Go.Proofs.Ytmkcnpphdghbaaa
set_option linter.unusedSimpArgs false
set_option linter.unusedVariables false
open Go.RowKit

theorem szS_more {n T : Nat} (hT : T < 2 ^ n) : ∀ k, szS (n + k) T = szS n T
  | 0 => rfl
  | k + 1 => by
    have ih := szS_more hT k
    have h0 : T.testBit (n + k) = false := Nat.testBit_lt_two_pow (Nat.lt_of_lt_of_le hT (Nat.pow_le_pow_right (by omega) (by omega)))
    show szS (n + k + 1) T = _
    rw [← ih]
    unfold szS
    rw [List.range_succ, List.countP_append]
    simp [h0]
theorem szS_eight {n T : Nat} (hn : n ≤ 8) (hT : T < 2 ^ n) : szS 8 T = szS n T := by
  have := szS_more hT (8 - n)
  rwa [show n + (8 - n) = 8 by omega] at this

theorem Strip.pow {r : Nat → Nat} {n S : Nat} {L : List Nat} {T : Nat} (h : Strip r n S L T) (hS : S < 2 ^ n) : T < 2 ^ n := by
  induction h with
  | start => exact hS
  | step h0 h1 ih =>
    apply Nat.lt_pow_two_of_testBit
    intro i hi
    rw [testBit_off, Nat.testBit_lt_two_pow (Nat.lt_of_lt_of_le ih (Nat.pow_le_pow_right (by omega) hi))]
    rfl

end Go.Proofs.Ytmkcnpphdghbaaa
