/- What a watch holds, step by step. -/
import Derived.Test.YthbhhfeiianmcaaDoorQbd
namespace Go.Proofs.YthbhhfeiianmcaaDoor
set_option linter.unusedSimpArgs false
set_option linter.unusedVariables false

theorem clrS_on {n v : Nat} {r : Nat → Nat} {s : Sit} (hn : n ≤ 10) (h : Along n r s) (hg : s.G.testBit v = false) (hv : v < n) {x : Nat} (hx : x < n) :
    clrS (smS n r s.C) (s.G ^^^ 2 ^ v) v (bitsOf (s.G ^^^ 2 ^ v)) x = smS n r (step n r (true, v) s).C x := by
  apply Nat.eq_of_testBit_eq
  intro u
  have hb : ((x ∈ bitsOf (s.G ^^^ 2 ^ v))) ↔ (s.G ^^^ 2 ^ v).testBit x = true := by
    rw [mem_bitsOf]
    exact ⟨fun h => h.2, fun h => ⟨by omega, h⟩⟩
  have key : (clrS (smS n r s.C) (s.G ^^^ 2 ^ v) v (bitsOf (s.G ^^^ 2 ^ v)) x).testBit u = ((smS n r s.C x).testBit u && !(decide (x = v) && (s.G ^^^ 2 ^ v).testBit u) && !(decide (v = u) && (s.G ^^^ 2 ^ v).testBit x)) := by
    unfold clrS
    by_cases hm : x ∈ bitsOf (s.G ^^^ 2 ^ v)
    · rw [if_pos hm, hb.1 hm, testBit_diff, Nat.testBit_two_pow]
      by_cases e : x = v
      · subst e
        rw [if_pos rfl, testBit_diff]; simp
      · rw [if_neg e]; simp [e]
    · have h0 : (s.G ^^^ 2 ^ v).testBit x = false := by
        cases hc : (s.G ^^^ 2 ^ v).testBit x
        · rfl
        · exact absurd (hb.2 hc) hm
      rw [if_neg hm, h0]
      by_cases e : x = v
      · subst e
        rw [if_pos rfl, testBit_diff]; simp
      · rw [if_neg e]; simp [e]
  rw [key, testBit_smS, testBit_smS]
  by_cases hu : u < n
  · rw [step_on h hg hx hu]
    have e1 : decide (v = u) = decide (u = v) := by rw [Bool.eq_iff_iff, decide_eq_true_eq, decide_eq_true_eq]; exact eq_comm
    rw [e1]
    cases decide (u < n) <;> cases (r x).testBit u <;> cases s.C x u <;> cases decide (x = v) <;> cases decide (u = v) <;> cases (s.G ^^^ 2 ^ v).testBit u <;> cases (s.G ^^^ 2 ^ v).testBit x <;> rfl
  · rw [decide_eq_false hu]; simp
theorem smS_congr {n : Nat} {r : Nat → Nat} {C C' : Nat → Nat → Bool} {x : Nat} (h : ∀ y, y < n → C' x y = C x y) : smS n r C' x = smS n r C x := by
  apply Nat.eq_of_testBit_eq
  intro u
  rw [testBit_smS, testBit_smS]
  by_cases hu : u < n
  · rw [h u hu]
  · rw [decide_eq_false hu]; simp

end Go.Proofs.YthbhhfeiianmcaaDoor
