/- The program's and the reference's words for a valid graph are the same. -/
import Derived.Test.YtbkbliieappkdaaDoorChC1m
namespace Go.Proofs.YtbkbliieappkdaaDoor.Ch
set_option linter.unusedSimpArgs false
set_option linter.unusedVariables false
open Go.RowKit Go.Maps

theorem or_pow_of_bit {f j : Nat} (h : f.testBit j = true) : f ||| 2 ^ j = f := by
  apply Nat.eq_of_testBit_eq
  intro i
  rw [Nat.testBit_or, Nat.testBit_two_pow]
  by_cases hij : j = i
  · subst hij; simp [h]
  · simp [hij]
theorem and_full {m n : Nat} (h : m < 2 ^ n) : m &&& (2 ^ n - 1) = m := by rw [Nat.and_two_pow_sub_one_eq_mod, Nat.mod_eq_of_lt h]

theorem sweep_met {r g : Nat → Nat} {n : Nat} (hr : ∀ i, i < n → r i = g i ||| 2 ^ i) (hg : ∀ i, i < n → g i < 2 ^ n) (f : Nat) : ∀ j, j ≤ n → sweepTo r f j = metTo g (2 ^ n - 1) f j := by
  intro j
  induction j with
  | zero => intro _; rfl
  | succ j ih =>
    intro hj
    unfold sweepTo metTo
    rw [ih (by omega)]
    split
    · rename_i hb
      rw [hr j (by omega), and_full (hg j (by omega)), Nat.or_comm (g j), ← Nat.or_assoc, or_pow_of_bit hb]
    · rfl
theorem found_met {r g : Nat → Nat} {n : Nat} (hr : ∀ i, i < n → r i = g i ||| 2 ^ i) (hg : ∀ i, i < n → g i < 2 ^ n) : ∀ k, foundIn n r k = metIn n g (2 ^ n - 1) 1 k := by
  intro k
  induction k with
  | zero => rfl
  | succ k ih =>
    unfold foundIn metIn
    rw [ih]
    exact sweep_met hr hg _ n (Nat.le_refl _)

theorem bitZ_toNat {z : Int} (h : 0 ≤ z) (j : Nat) : bitZ z j = z.toNat.testBit j := by
  have := bitZ_nat z.toNat j
  rw [Int.toNat_of_nonneg h] at this
  exact this

theorem okCell_eq {n : Nat} {z : Nat → Int} (i : Nat) : okCell n z i = okCellZ n z i := by
  unfold okCell okCellZ
  cases h : inB (z i) (2 ^ n)
  · rfl
  · rw [bitZ_toNat (inB_iff.1 h).1]

theorem testBit_reachOf (z : Nat → Int) (v u : Nat) : (reachOf z v).testBit u = ((z v).toNat.testBit u || decide (v = u)) := by
  unfold reachOf
  rw [Nat.testBit_or, Nat.testBit_two_pow]

theorem townB_valid (n : Nat) (z : Nat → Int) : townB n z = validB n z := by
  unfold townB validB graphB
  by_cases h1 : 1 ≤ n ∧ n ≤ 8
  · simp only [h1.1, h1.2, decide_true, Bool.true_and]
    by_cases hall : ∀ i, i < n → okCell n z i = true
    · have hc : (List.range n).all (okCell n z) = true := by rw [List.all_eq_true]; intro i hi; exact hall i (List.mem_range.1 hi)
      have hz : ∀ i, i < n → 0 ≤ z i ∧ z i < 2 ^ n := fun i hi => by
        have := hall i hi
        unfold okCell at this
        simp only [Bool.and_eq_true] at this
        exact inB_iff.1 this.1
      have hg : ∀ i, i < n → (z i).toNat < 2 ^ n := fun i hi => nat_pow_cast (hz i hi).2 (hz i hi).1
      have hconn : connB n (reachOf z) = (((metIn n (fun i => (z i).toNat) (2 ^ n - 1) 1 n : Nat) : Int) == 2 ^ n - 1) := by
        unfold connB
        rw [found_met (r := reachOf z) (g := fun i => (z i).toNat) (fun i _ => rfl) hg]
      rw [hc, Bool.true_and, hconn]
      congr 1
      rw [Bool.eq_iff_iff]
      unfold mutB
      simp only [List.all_eq_true, List.mem_range, beq_iff_eq, Bool.and_eq_true]
      constructor
      · intro h i hi
        refine ⟨by rw [← okCell_eq]; exact hall i hi, fun j hj => ?_⟩
        have := h i hi j hj
        rw [testBit_reachOf, testBit_reachOf] at this
        rw [bitZ_toNat (hz i hi).1, bitZ_toNat (hz j hj).1]
        by_cases hij : i = j
        · subst hij; rfl
        · simpa [hij, show ¬ j = i from fun h => hij h.symm] using this
      · intro h v hv u hu
        have := (h v hv).2 u hu
        rw [bitZ_toNat (hz v hv).1, bitZ_toNat (hz u hu).1] at this
        rw [testBit_reachOf, testBit_reachOf, this]
        by_cases hij : v = u
        · subst hij; rfl
        · simp [hij, show ¬ u = v from fun h => hij h.symm]
    · have hc : (List.range n).all (okCell n z) = false := by
        rw [Bool.eq_false_iff]
        intro h
        rw [List.all_eq_true] at h
        exact hall fun i hi => h i (List.mem_range.2 hi)
      have hc2 : ((List.range n).all fun i => okCellZ n z i && (List.range n).all fun j => bitZ (z i) j == bitZ (z j) i) = false := by
        rw [Bool.eq_false_iff]
        intro h
        rw [List.all_eq_true] at h
        refine hall fun i hi => ?_
        have := h i (List.mem_range.2 hi)
        rw [Bool.and_eq_true] at this
        rw [okCell_eq]; exact this.1
      rw [hc, hc2]; rfl
  · by_cases h2 : 1 ≤ n
    · have h3 : ¬ n ≤ 8 := fun h => h1 ⟨h2, h⟩
      simp [h3]
    · simp [h2]

theorem townB_few (n : Nat) (z : Nat → Int) : townB (min n 13) z = validB n z := by
  by_cases h : n ≤ 13
  · rw [Nat.min_eq_left h, townB_valid]
  · rw [Nat.min_eq_right (by omega)]
    have h1 : validB n z = false := by
      unfold validB
      rw [graphB_no (by omega)]; rfl
    rw [h1]
    unfold townB
    simp

theorem validB_graph {n : Nat} {z : Nat → Int} (h : validB n z = true) : graphB n 8 z = true := by
  unfold validB at h
  rw [Bool.and_eq_true] at h
  exact h.1

end Go.Proofs.YtbkbliieappkdaaDoor.Ch
