/- What the levels take of the texts on the reference, for a seat that does not reach it. -/
import Derived.Test.YtbkbliieappkdaaDoorChC1m
import Derived.Test.YtbkbliieappkdaaDoorChS1v
namespace Go.Proofs.YtbkbliieappkdaaDoor.Ch
set_option linter.unusedSimpArgs false
set_option linter.unusedVariables false
open Go.RowKit

theorem diff_zero (a b : Nat) : (diff a b == 0) = true ↔ ∀ i, a.testBit i = true → b.testBit i = true := by
  rw [beq_iff_eq]
  constructor
  · intro h i ha
    have := testBit_diff a b i
    rw [h, Nat.zero_testBit, ha] at this
    simpa using this.symm
  · intro h
    apply Nat.eq_of_testBit_eq
    intro i
    rw [testBit_diff, Nat.zero_testBit]
    cases ha : a.testBit i
    · rfl
    · rw [h i ha]; rfl
theorem testBit_catsS (n : Nat) (r : Nat → Nat) (F : Pl → Option Nat) (f : Nat × Nat) (c : Nat) : ∀ (C : List (Nat × Nat)) (acc : Nat),
    (catsS n r F f C acc).testBit c = (acc.testBit c || C.any fun t => canM r f t && (lostS n r F t).testBit c)
  | [], acc => by simp [catsS]
  | t :: C, acc => by
    unfold catsS
    rw [testBit_catsS n r F f c C]
    cases h : canM r f t
    · simp [h]
    · simp [h, Nat.testBit_or, Bool.or_assoc]
theorem mem_allPl {n : Nat} {C : List (Nat × Nat)} {p : Pl} : p ∈ allPl n C ↔ (p.1, p.2.1) ∈ C ∧ p.2.2 < n := by
  unfold allPl
  simp only [List.mem_flatMap, List.mem_map, List.mem_range]
  constructor
  · rintro ⟨ab, hab, c, hc, rfl⟩; exact ⟨hab, hc⟩
  · rintro ⟨h1, h2⟩; exact ⟨_, h1, _, h2, rfl⟩
theorem ranks_fix {n : Nat} {r : Nat → Nat} {C : List (Nat × Nat)} (hn : n < 16) (hC : C.length ≤ 256) : nextL n r (ranksF n r C) C = [] := by
  have h0 : noRank n r C 0 ≤ 4096 := Nat.le_trans (noRank_le n r C 0) (Nat.le_trans (Nat.mul_le_mul hC (Nat.le_of_lt hn)) (by decide))
  by_cases h : ∃ i, i ≤ 4096 ∧ nextL n r (ranksG n r C i) C = []
  · obtain ⟨i, hi, he⟩ := h
    rw [ranksF_eq he hi]
    exact he
  · exfalso
    have hs : ∀ i, i ≤ 4097 → noRank n r C i + i ≤ 4096 := by
      intro i
      induction i with
      | zero => intro _; omega
      | succ i ih =>
        intro hi
        have h1 := ih (by omega)
        have h2 := noRank_lt (n := n) (r := r) (C := C) (i := i) (fun e => h ⟨i, by omega, e⟩)
        omega
    have := hs 4097 (by omega)
    omega
theorem chs_mem {n k x y : Nat} (hk : k = 1 ∨ k = 2) : (x, y) ∈ chs n k ↔ x ≤ y ∧ y < n ∧ (k = 2 ∨ x = y) := by
  unfold chs
  simp only [List.mem_flatMap, List.mem_range, List.mem_map, Prod.mk.injEq]
  constructor
  · rintro ⟨a, ha, j, hj, rfl, rfl⟩
    rcases hk with rfl | rfl
    · simp at hj; subst hj; omega
    · simp at hj; omega
  · rintro ⟨h1, h2, h3⟩
    refine ⟨x, by omega, y - x, ?_, rfl, by omega⟩
    rcases hk with rfl | rfl
    · have : x = y := by omega
      subst this
      simp
    · simp; omega

end Go.Proofs.YtbkbliieappkdaaDoor.Ch
