/- The reference's way to ask for a path decomposition: runs of bags. The plan of bags. -/
import Derived.Test.YthbhhfeiianmcaaDoorQf
namespace Go.Proofs.YthbhhfeiianmcaaDoor
set_option linter.unusedSimpArgs false
set_option linter.unusedVariables false

/-- How often a node comes anew among the first bags. -/
def runTo (B : Nat → Nat) (v : Nat) : Nat → Nat
  | 0 => 0
  | k + 1 => if (B k).testBit v && (k == 0 || !(B (k - 1)).testBit v) then runTo B v k + 1 else runTo B v k
theorem runTo_le (B : Nat → Nat) (v : Nat) : ∀ k, runTo B v k ≤ k
  | 0 => Nat.le_refl _
  | k + 1 => by have := runTo_le B v k; unfold runTo; split <;> omega
theorem runTo_none {B : Nat → Nat} {v : Nat} : ∀ m, runTo B v m = 0 ↔ ∀ i, i < m → (B i).testBit v = false := by
  intro m
  induction m with
  | zero => exact ⟨fun _ i hi => by omega, fun _ => rfl⟩
  | succ k ih =>
    constructor
    · intro h i hi
      unfold runTo at h
      split at h
      · omega
      · rename_i hc
        have h1 := ih.1 h
        by_cases e : i = k
        · subst e
          cases hb : (B i).testBit v
          · rfl
          · exfalso
            apply hc
            rw [hb, Bool.true_and, Bool.or_eq_true]
            by_cases e0 : i = 0
            · left; simp [e0]
            · right; rw [h1 (i - 1) (by omega)]; rfl
        · exact h1 i (by omega)
    · intro h
      unfold runTo
      rw [if_neg, ih.2 fun i hi => h i (by omega)]
      rw [h k (by omega)]; simp
/-- No node comes again. -/
def NoGap (B : Nat → Nat) (v m : Nat) : Prop := ∀ i j k, i < j → j < k → k < m → (B i).testBit v = true → (B k).testBit v = true → (B j).testBit v = true
theorem run_one {B : Nat → Nat} {v : Nat} : ∀ m, runTo B v m = 1 ↔ (∃ i, i < m ∧ (B i).testBit v = true) ∧ NoGap B v m := by
  intro m
  induction m with
  | zero => exact ⟨fun h => (by cases h), fun ⟨⟨i, hi, _⟩, _⟩ => by omega⟩
  | succ m ih =>
    constructor
    · intro h
      unfold runTo at h
      split at h
      · rename_i hc
        have h0 := (runTo_none m).1 (show runTo B v m = 0 by omega)
        rw [Bool.and_eq_true] at hc
        refine ⟨⟨m, by omega, hc.1⟩, fun i j k hij hjk hk hi _ => ?_⟩
        rw [h0 i (by omega)] at hi; cases hi
      · rename_i hc
        obtain ⟨⟨i0, h1, h2⟩, h3⟩ := ih.1 h
        refine ⟨⟨i0, by omega, h2⟩, fun i j k hij hjk hk hi hkb => ?_⟩
        by_cases e : k = m
        · subst e
          have hm : (B (k - 1)).testBit v = true := by
            cases hb : (B (k - 1)).testBit v
            · exact absurd (by rw [hkb, hb]; simp) hc
            · rfl
          by_cases e2 : j = k - 1
          · subst e2; exact hm
          · exact h3 i j (k - 1) hij (by omega) (by omega) hi hm
        · exact h3 i j k hij hjk (by omega) hi hkb
    · rintro ⟨⟨i0, h1, h2⟩, h3⟩
      have h3' : NoGap B v m := fun i j k hij hjk hk => h3 i j k hij hjk (by omega)
      unfold runTo
      by_cases h0 : runTo B v m = 0
      · have hn := (runTo_none m).1 h0
        have e : i0 = m := by
          apply Classical.byContradiction
          intro e
          rw [hn i0 (by omega)] at h2; cases h2
        subst e
        rw [if_pos, h0]
        rw [h2, Bool.true_and, Bool.or_eq_true]
        by_cases e0 : i0 = 0
        · left; simp [e0]
        · right; rw [hn (i0 - 1) (by omega)]; rfl
      · have hex : ∃ i, i < m ∧ (B i).testBit v = true := by
          apply Classical.byContradiction
          intro hne
          apply h0
          refine (runTo_none m).2 fun i hi => ?_
          cases hb : (B i).testBit v
          · rfl
          · exact absurd ⟨i, hi, hb⟩ hne
        rw [if_neg, ih.2 ⟨hex, h3'⟩]
        intro hc
        obtain ⟨i, hi, hib⟩ := hex
        rw [Bool.and_eq_true, Bool.or_eq_true] at hc
        obtain ⟨hm, hc⟩ := hc
        rcases hc with hc | hc
        · have : m = 0 := by simpa using hc
          omega
        · have hp : (B (m - 1)).testBit v = false := by simpa using hc
          by_cases e : i = m - 1
          · subst e; rw [hib] at hp; cases hp
          · rw [h3 i (m - 1) m (by omega) (by omega) (by omega) hib hm] at hp; cases hp

/-- What the reference asks of a node. -/
def nodeOk (r : Nat → Nat) (B : Nat → Nat) (m v : Nat) : Bool := runTo B v m == 1 && diff (r v) (togTo B v m) == 0
theorem path_runs {n m : Nat} {r : Nat → Nat} {z : Nat → Int} (h1 : 1 ≤ m) (h2 : m ≤ 30) (h3 : ∀ k, k < m → 0 ≤ z k ∧ z k < 2 ^ n) : pathB n r m z = true ↔ ∀ v, v < n → nodeOk r (setZ z) m v = true := by
  rw [path_iff]
  have hset : ∀ k, k < m → setZ z k < 2 ^ n := fun k hk => by
    have := (h3 k hk).2
    rw [pow_cast] at this
    have := (h3 k hk).1
    show (z k).toNat < _
    omega
  constructor
  · rintro ⟨_, _, _, hp⟩ v hv
    unfold nodeOk
    rw [Bool.and_eq_true, beq_iff_eq, beq_iff_eq]
    exact ⟨(run_one m).2 ⟨hp.node v hv, hp.run v⟩, diff_zero.2 fun u hu => (testBit_tog m u).2 (hp.edge v u hv hu)⟩
  · intro h
    have h' : ∀ v, v < n → runTo (setZ z) v m = 1 ∧ diff (r v) (togTo (setZ z) v m) = 0 := fun v hv => by
      have := h v hv
      unfold nodeOk at this
      rw [Bool.and_eq_true, beq_iff_eq, beq_iff_eq] at this
      exact this
    refine ⟨h1, h2, h3, ⟨fun v i j k hij hjk hk hi hkb => ?_, fun v u hv hu => (testBit_tog m u).1 (diff_zero.1 (h' v hv).2 u hu), fun v hv => ((run_one m).1 (h' v hv).1).1⟩⟩
    have hv : v < n := bit_lt (hset k hk) hkb
    exact ((run_one m).1 (h' v hv).1).2 i j k hij hjk hk hi hkb
theorem path_no_node {n m v : Nat} {r : Nat → Nat} {z : Nat → Int} (hv : v < n) (h : nodeOk r (setZ z) m v = false) : pathB n r m z = false := by
  rw [Bool.eq_false_iff]
  intro hp
  obtain ⟨h1, h2, h3, _⟩ := path_iff.1 hp
  have := (path_runs h1 h2 h3).1 hp v hv
  rw [h] at this; cases this
theorem path_no_set {n m k : Nat} {r : Nat → Nat} {z : Nat → Int} (hk : k < m) (h : ¬ (0 ≤ z k ∧ z k < 2 ^ n)) : pathB n r m z = false := by
  rw [Bool.eq_false_iff]
  intro hp
  exact h ((path_iff.1 hp).2.2.1 k hk)

/-! ### the plan of bags -/

/-- Acts: whether a guard is placed, and where. -/
abbrev Acts := List (Bool × Nat)
def offs (old new : Nat) : List Nat := bitsOf (diff old new)
def actsOf (old new : Nat) : Acts := (offs old new).map (fun v => (false, v)) ++ (offs new old).map (fun v => (true, v))
/-- The bags, and behind the last one the empty one. -/
def bagN (B : Nat → Nat) (m k : Nat) : Nat := if k < m then B k else 0
def wasN (B : Nat → Nat) (m : Nat) : Nat → Nat
  | 0 => 0
  | k + 1 => bagN B m k
def folL (B : Nat → Nat) (m : Nat) : Nat → Acts
  | 0 => []
  | k + 1 => folL B m k ++ actsOf (wasN B m k) (bagN B m k)
theorem bits_len (s : Nat) : (bitsOf s).length ≤ 10 := by
  unfold bitsOf
  exact Nat.le_trans (List.length_filter_le _ _) (by simp)
theorem acts_len (a b : Nat) : (actsOf a b).length ≤ 20 := by
  unfold actsOf offs
  rw [List.length_append, List.length_map, List.length_map]
  have h1 := bits_len (diff a b)
  have h2 := bits_len (diff b a)
  omega
theorem fol_len (B : Nat → Nat) (m : Nat) : ∀ k, (folL B m k).length ≤ 20 * k
  | 0 => Nat.le_refl _
  | k + 1 => by
    have h1 := fol_len B m k
    have h2 := acts_len (wasN B m k) (bagN B m k)
    show (folL B m k ++ _).length ≤ _
    rw [List.length_append]; omega
theorem bits_upto {n s : Nat} (hn : n ≤ 10) (hs : s < 2 ^ n) : bitsOf s = (List.range n).filter s.testBit := by
  unfold bitsOf
  have h := filter_range (p := fun i => s.testBit i) (n := n) (fun i hi => Nat.testBit_lt_two_pow (Nat.lt_of_lt_of_le hs (Nat.pow_le_pow_right (by omega) hi))) (10 - n)
  rw [show n + (10 - n) = 10 by omega] at h
  exact h
def bitsTo (s k : Nat) : List Nat := (List.range k).filter s.testBit
theorem bitsTo_succ (s k : Nat) : bitsTo s (k + 1) = if s.testBit k then bitsTo s k ++ [k] else bitsTo s k := by
  unfold bitsTo
  rw [List.range_succ, List.filter_append]
  cases h : s.testBit k <;> simp [h]
theorem bitsTo_len (s k : Nat) : (bitsTo s k).length ≤ k := by
  unfold bitsTo
  exact Nat.le_trans (List.length_filter_le _ _) (by simp)

end Go.Proofs.YthbhhfeiianmcaaDoor
