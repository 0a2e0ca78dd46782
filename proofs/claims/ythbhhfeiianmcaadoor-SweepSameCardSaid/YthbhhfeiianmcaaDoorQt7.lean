/- What a watch holds along a plan that never goes back. -/
import Derived.Test.YthbhhfeiianmcaaDoorQz
namespace Go.Proofs.YthbhhfeiianmcaaDoor
set_option linter.unusedSimpArgs false
set_option linter.unusedVariables false

/-- The neighbours of a node to which its streets are smoky. -/
def smS (n : Nat) (r : Nat → Nat) (C : Nat → Nat → Bool) (v : Nat) : Nat := (List.range n).foldl (fun acc u => if (r v).testBit u && !C v u then acc ||| 2 ^ u else acc) 0
theorem testBit_smS {n : Nat} {r : Nat → Nat} {C : Nat → Nat → Bool} {v u : Nat} : (smS n r C v).testBit u = (decide (u < n) && (r v).testBit u && !C v u) := by
  unfold smS
  have key : ∀ k, ((List.range k).foldl (fun acc u => if (r v).testBit u && !C v u then acc ||| 2 ^ u else acc) 0).testBit u = (decide (u < k) && (r v).testBit u && !C v u) := by
    intro k
    induction k with
    | zero => simp
    | succ k ih =>
      rw [List.range_succ, List.foldl_append]
      simp only [List.foldl_cons, List.foldl_nil]
      by_cases e : u = k
      · subst e
        have h0 : decide (u < u) = false := decide_eq_false (by omega)
        rw [h0, Bool.false_and, Bool.false_and] at ih
        rw [decide_eq_true (show u < u + 1 by omega), Bool.true_and]
        cases hc : ((r v).testBit u && !C v u)
        · simp only [Bool.false_eq_true, if_false]; exact ih
        · simp only [if_true]
          rw [Nat.testBit_or, ih, Nat.testBit_two_pow]; simp
      · have h1 : decide (u < k + 1) = decide (u < k) := by
          rw [Bool.eq_iff_iff, decide_eq_true_eq, decide_eq_true_eq]; omega
        rw [h1, ← ih]
        split
        · rw [Nat.testBit_or, Nat.testBit_two_pow, decide_eq_false (fun h => e h.symm), Bool.or_false]
        · rfl
  exact key n
theorem smS_lt (n : Nat) (r : Nat → Nat) (C : Nat → Nat → Bool) (v : Nat) : smS n r C v < 2 ^ n := by
  apply Nat.lt_pow_two_of_testBit
  intro i hi
  rw [testBit_smS, decide_eq_false (by omega)]; rfl
theorem smS_zero {n : Nat} {r : Nat → Nat} {C : Nat → Nat → Bool} {v : Nat} : smS n r C v = 0 ↔ ∀ u, u < n → (r v).testBit u = true → C v u = true := by
  constructor
  · intro h u hu ha
    have := congrArg (fun t => t.testBit u) h
    simp only [testBit_smS, Nat.zero_testBit, decide_eq_true hu, ha, Bool.true_and] at this
    simpa using this
  · intro h
    apply Nat.eq_of_testBit_eq
    intro u
    rw [testBit_smS, Nat.zero_testBit]
    by_cases hu : u < n
    · cases ha : (r v).testBit u
      · simp
      · rw [h u hu ha]; simp
    · rw [decide_eq_false hu]; rfl
theorem smS_all {n : Nat} {r : Nat → Nat} {C : Nat → Nat → Bool} {v : Nat} (hr : r v < 2 ^ n) (h : ∀ u, u < n → C v u = false) : smS n r C v = r v := by
  apply Nat.eq_of_testBit_eq
  intro u
  rw [testBit_smS]
  by_cases hu : u < n
  · rw [h u hu, decide_eq_true hu]; simp
  · rw [decide_eq_false hu, Nat.testBit_lt_two_pow (Nat.lt_of_lt_of_le hr (Nat.pow_le_pow_right (by omega) (by omega)))]; rfl

/-- What holds all along. -/
structure Along (n : Nat) (r : Nat → Nat) (s : Sit) : Prop where
  both : ∀ x y, x < n → y < n → (r x).testBit y = true → s.G.testBit x = true → s.G.testBit y = true → s.C x y = true
  hadG : ∀ x, s.G.testBit x = true → s.had.testBit x = true
  most : szS n s.G ≤ s.most
theorem along_zero {n : Nat} {r : Nat → Nat} : Along n r sit0 := ⟨fun x y _ _ _ h => (by rw [show sit0.G = 0 from rfl, Nat.zero_testBit] at h; cases h), fun x h => h, by show szS n 0 ≤ 0; rw [szS_zero]; exact Nat.le_refl _⟩
theorem along_step {n : Nat} {r : Nat → Nat} {a : Bool × Nat} {s : Sit} : Along n r (step n r a s) := by
  refine ⟨fun x y hx hy ha h1 h2 => ?_, fun x h => ?_, ?_⟩
  · show (s.C x y || ((r x).testBit y && (s.G ^^^ 2 ^ a.2).testBit x && (s.G ^^^ 2 ^ a.2).testBit y)) = true
    have h1 : (s.G ^^^ 2 ^ a.2).testBit x = true := h1
    have h2 : (s.G ^^^ 2 ^ a.2).testBit y = true := h2
    rw [ha, h1, h2]; simp
  · show (s.had ||| (s.G ^^^ 2 ^ a.2)).testBit x = true
    have h : (s.G ^^^ 2 ^ a.2).testBit x = true := h
    rw [Nat.testBit_or, h, Bool.or_true]
  · exact Nat.le_max_right _ _
theorem along_at {n : Nat} {r : Nat → Nat} {L : Acts} (h : okRun n r L sit0) : ∀ t, t ≤ L.length → Along n r (run n r (L.take t) sit0)
  | 0, _ => along_zero
  | t + 1, ht => by rw [(okRun_at h t (by omega)).2]; exact along_step

/-- A guard goes away. -/
theorem step_off {n : Nat} {r : Nat → Nat} {v : Nat} {s : Sit} (h : Along n r s) (hg : s.G.testBit v = true) :
    (step n r (false, v) s).had = s.had ∧ (step n r (false, v) s).most = s.most ∧ ∀ x y, x < n → y < n → (step n r (false, v) s).C x y = s.C x y := by
  have hle : ∀ x, (s.G ^^^ 2 ^ v).testBit x = true → s.G.testBit x = true := by
    intro x hx
    rw [bit_xor] at hx
    by_cases e : v = x
    · subst e; exact hg
    · simpa [e] using hx
  refine ⟨?_, ?_, fun x y hx hy => ?_⟩
  · show s.had ||| (s.G ^^^ 2 ^ v) = s.had
    apply Nat.eq_of_testBit_eq
    intro x
    rw [Nat.testBit_or]
    cases hx : (s.G ^^^ 2 ^ v).testBit x
    · rw [Bool.or_false]
    · rw [h.hadG x (hle x hx)]; rfl
  · show max s.most (szS n (s.G ^^^ 2 ^ v)) = s.most
    have h1 := sub_size (n := n) hle
    have := h.most
    omega
  · show (s.C x y || ((r x).testBit y && (s.G ^^^ 2 ^ v).testBit x && (s.G ^^^ 2 ^ v).testBit y)) = s.C x y
    cases hc : ((r x).testBit y && (s.G ^^^ 2 ^ v).testBit x && (s.G ^^^ 2 ^ v).testBit y)
    · rw [Bool.or_false]
    · rw [Bool.and_eq_true, Bool.and_eq_true] at hc
      rw [h.both x y hx hy hc.1.1 (hle x hc.1.2) (hle y hc.2)]; rfl
/-- A guard comes: what clears then are the streets between it and the others. -/
theorem step_on {n : Nat} {r : Nat → Nat} {v x y : Nat} {s : Sit} (h : Along n r s) (hg : s.G.testBit v = false) (hx : x < n) (hy : y < n) :
    (step n r (true, v) s).C x y = (s.C x y || ((r x).testBit y && ((decide (x = v) && (s.G ^^^ 2 ^ v).testBit y) || (decide (y = v) && (s.G ^^^ 2 ^ v).testBit x)))) := by
  show (s.C x y || ((r x).testBit y && (s.G ^^^ 2 ^ v).testBit x && (s.G ^^^ 2 ^ v).testBit y)) = _
  cases ha : (r x).testBit y
  · simp
  · rw [bit_xor, bit_xor]
    by_cases ex : v = x
    · subst ex
      rw [hg]
      by_cases ey : v = y
      · subst ey; rw [hg]; simp
      · simp [ey, Ne.symm ey]
    · by_cases ey : v = y
      · subst ey; rw [hg]; simp [ex, Ne.symm ex]
      · simp only [decide_eq_false ex, decide_eq_false ey, decide_eq_false (Ne.symm ex), decide_eq_false (Ne.symm ey), Bool.xor_false, Bool.false_and, Bool.or_false, Bool.and_false, Bool.true_and]
        cases h1 : s.G.testBit x
        · simp
        · cases h2 : s.G.testBit y
          · simp
          · rw [h.both x y hx hy ha h1 h2]; rfl
/-- Smoke spreads nowhere. -/
theorem still {n : Nat} {r : Nat → Nat} {s : Sit} (h : NoBack n r s) (hr : ∀ i, i < n → r i < 2 ^ n) {v : Nat} (hv : v < n) (hg : s.G.testBit v = false) : smS n r s.C v = 0 ∨ smS n r s.C v = r v := by
  by_cases hc : ∃ u, u < n ∧ s.C v u = true
  · left
    obtain ⟨u, hu, hcu⟩ := hc
    have h1 := (h v u hv hu hcu).1
    refine smS_zero.2 fun u' hu' ha => ?_
    unfold smk at h1
    rw [hg] at h1
    cases hcc : s.C v u'
    · exfalso
      have : ((List.range n).any fun u => (r v).testBit u && !s.C v u) = true := List.any_eq_true.2 ⟨u', List.mem_range.2 hu', by rw [ha, hcc]; rfl⟩
      rw [this] at h1; cases h1
    · rfl
  · right
    exact smS_all (hr v hv) fun u hu => by
      cases hcc : s.C v u
      · rfl
      · exact absurd ⟨u, hu, hcc⟩ hc

end Go.Proofs.YthbhhfeiianmcaaDoor
