/- The pairs of Corners, and a graph without a node as an argument. -/
import Derived.Test.YtmkcnpphdghbaaaC2r
namespace Go.Proofs.Ytmkcnpphdghbaaa
set_option linter.unusedSimpArgs false
set_option linter.unusedVariables false
open Go.RowKit

theorem rowTo_mem {q : Nat → Bool} {v : Nat} {p : Nat × Nat} : ∀ {n : Nat}, p ∈ rowTo q v n → p.1 = v ∧ p.2 < n ∧ q p.2 = true
  | 0, h => by cases h
  | n + 1, h => by
    unfold rowTo at h
    split at h
    · rename_i hq
      rcases List.mem_append.1 h with h | h
      · obtain ⟨h1, h2, h3⟩ := rowTo_mem h
        exact ⟨h1, by omega, h3⟩
      · rw [List.mem_singleton] at h
        rw [h]
        exact ⟨rfl, by show n < n + 1; omega, hq⟩
    · obtain ⟨h1, h2, h3⟩ := rowTo_mem h
      exact ⟨h1, by omega, h3⟩
theorem cornTo_mem {q : Nat → Nat → Bool} {n : Nat} {p : Nat × Nat} : ∀ {m : Nat}, p ∈ cornTo q n m → p.1 < m ∧ p.2 < n ∧ q p.1 p.2 = true
  | 0, h => by cases h
  | m + 1, h => by
    unfold cornTo at h
    rcases List.mem_append.1 h with h | h
    · obtain ⟨h1, h2, h3⟩ := cornTo_mem h
      exact ⟨by omega, h2, h3⟩
    · obtain ⟨h1, h2, h3⟩ := rowTo_mem h
      exact ⟨by omega, h2, by rw [h1]; exact h3⟩

/-- What a pair of Corners in the whole graph says. -/
theorem corner_pair {n : Nat} {z : Nat → Int} (h : ∀ i, i < n → 0 ≤ z i ∧ z i < 2 ^ n) {p : Nat × Nat} (hp : p ∈ cornTo (covP (reachOf z) (2 ^ n - 1)) n n) :
    p.1 < n ∧ p.2 < n ∧ p.2 ≠ p.1 ∧ ∀ d, (reachOf z p.1).testBit d = true → (reachOf z p.2).testBit d = true := by
  obtain ⟨h1, h2, h3⟩ := cornTo_mem hp
  unfold covP covB at h3
  simp only [Bool.and_eq_true] at h3
  obtain ⟨h4, h5⟩ := h3.2
  refine ⟨h1, h2, by simpa using h4, fun d hd => ?_⟩
  rw [diff_zero] at h5
  refine h5 d ?_
  rw [Nat.testBit_and, hd, Nat.testBit_two_pow_sub_one, decide_eq_true (town_rin h _ _ h1 hd)]
  rfl

theorem WoOwn.arg {w : World} {base : Nat} {u : Value} {z : Nat → Int} {v L : Nat} (h : WoOwn w base u z v L) (hL : L ≠ 0) : SliceArg w u L (woZ z v) := by
  have h' := h
  obtain ⟨h0, h1⟩ := h'
  rcases h1 with ⟨-, h1⟩ | ⟨g, cap, cur, rfl, hg, hh, h2, h3, -, -⟩
  · exact absurd h1 hL
  · obtain ⟨g', cap', e, -, hlt⟩ := own_form' h hL
    simp only [Value.slice.injEq, Option.some.injEq, Addr.mk.injEq] at e
    refine .inr ⟨_, cap, rfl, h2, h3, fun _ => ⟨g, 0, rfl, ?_, fun i hi => ?_⟩⟩
    · rw [e.1.1]; exact hlt
    · rw [Nat.zero_add, World.ownsRow.cellAt h i (by omega)]
      unfold woCells
      exact map_range_get _ hi

end Go.Proofs.Ytmkcnpphdghbaaa
