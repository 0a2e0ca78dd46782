/- A graph without one node; without a corner it is a retract. -/
import Derived.Test.YtbkbliieappkdaaDoorChS10
import Derived.Test.YtbkbliieappkdaaDoorChS1v
namespace Go.Proofs.YtbkbliieappkdaaDoor.Ch
set_option linter.unusedSimpArgs false
set_option linter.unusedVariables false
open Go.RowKit

/-- The node that comes to place x when node v is taken away. -/
def eI (v x : Nat) : Nat := if x < v then x else x + 1
/-- The place of node x when node v, which is folded to u, is taken away. -/
def fI (v u x : Nat) : Nat := if x = v then (if u < v then u else u - 1) else if x < v then x else x - 1
/-- A set of nodes when node v is taken away. -/
def wo (v s : Nat) : Nat := (s &&& (2 ^ v - 1)) ||| ((s >>> (v + 1)) <<< v)
def woZ (z : Nat → Int) (v x : Nat) : Int := ((wo v (z (eI v x)).toNat : Nat) : Int)

theorem testBit_wo (v s y : Nat) : (wo v s).testBit y = s.testBit (eI v y) := by
  unfold wo eI
  rw [Nat.testBit_or, Nat.testBit_and, Nat.testBit_two_pow_sub_one, Nat.testBit_shiftLeft, Nat.testBit_shiftRight]
  by_cases h : y < v
  · rw [if_pos h, decide_eq_true h, decide_eq_false (by omega), Bool.and_true, Bool.false_and, Bool.or_false]
  · rw [if_neg h, decide_eq_false h, decide_eq_true (by omega), Bool.and_false, Bool.false_or, Bool.true_and, show v + 1 + (y - v) = y + 1 by omega]
theorem wo_lt {v s m : Nat} (hv : v < m + 1) (hs : s < 2 ^ (m + 1)) : wo v s < 2 ^ m := by
  apply Nat.lt_pow_two_of_testBit
  intro y hy
  rw [testBit_wo]
  apply Nat.testBit_lt_two_pow
  refine Nat.lt_of_lt_of_le hs (Nat.pow_le_pow_right (by omega) ?_)
  unfold eI
  split <;> omega
theorem eI_inj {v x y : Nat} : eI v x = eI v y ↔ x = y := by
  unfold eI
  split <;> split <;> omega
theorem testBit_woZ (z : Nat → Int) (v x y : Nat) : (reachOf (woZ z v) x).testBit y = (reachOf z (eI v x)).testBit (eI v y) := by
  rw [testBit_reachOf, testBit_reachOf]
  unfold woZ
  rw [Int.toNat_natCast, testBit_wo, decide_eq_decide.2 eI_inj]

/-- What a town is. -/
theorem town_iff {n : Nat} {z : Nat → Int} : townB n z = true ↔ 1 ≤ n ∧ n ≤ 8 ∧ (∀ i, i < n → (0 ≤ z i ∧ z i < 2 ^ n) ∧ (z i).toNat.testBit i = false) ∧
    (∀ v u, v < n → u < n → (reachOf z v).testBit u = (reachOf z u).testBit v) ∧ connB n (reachOf z) = true := by
  unfold townB
  simp only [Bool.and_eq_true, decide_eq_true_eq, List.all_eq_true, List.mem_range]
  constructor
  · rintro ⟨⟨⟨⟨h1, h2⟩, h3⟩, h4⟩, h5⟩
    refine ⟨h1, h2, fun i hi => ?_, fun v u hv hu => ?_, h5⟩
    · have := h3 i hi
      unfold okCell at this
      rw [Bool.and_eq_true, inB_iff] at this
      exact ⟨this.1, by simpa using this.2⟩
    · unfold mutB at h4
      simp only [List.all_eq_true, List.mem_range, beq_iff_eq] at h4
      exact h4 v hv u hu
  · rintro ⟨h1, h2, h3, h4, h5⟩
    refine ⟨⟨⟨⟨h1, h2⟩, fun i hi => ?_⟩, mutB_true fun v hv u hu => h4 v u hv hu⟩, h5⟩
    unfold okCell
    rw [Bool.and_eq_true, inB_iff]
    exact ⟨(h3 i hi).1, by simp [(h3 i hi).2]⟩
theorem town_rin {n : Nat} {z : Nat → Int} (h : ∀ i, i < n → 0 ≤ z i ∧ z i < 2 ^ n) : ∀ v u, v < n → (reachOf z v).testBit u = true → u < n := by
  intro v u hv hb
  rw [testBit_reachOf, Bool.or_eq_true] at hb
  rcases hb with hb | hb
  · rcases Nat.lt_or_ge u n with h1 | h1
    · exact h1
    · have h2 := nat_pow_cast (h v hv).2 (h v hv).1
      have h3 := Nat.testBit_lt_two_pow (Nat.lt_of_lt_of_le h2 (Nat.pow_le_pow_right (n := 2) (by omega) h1))
      rw [h3] at hb; cases hb
  · have := of_decide_eq_true hb; omega

/-- A graph without a corner is a retract. -/
theorem retr_wo {m v u : Nat} {z : Nat → Int} (h : townB (m + 1) z = true) (hv : v < m + 1) (hu : u < m + 1) (huv : u ≠ v) (hc : ∀ d, (reachOf z v).testBit d = true → (reachOf z u).testBit d = true) :
    Retr (m + 1) m (reachOf z) (reachOf (woZ z v)) (eI v) (fI v u) := by
  obtain ⟨h1, h2, h3, h4, h5⟩ := town_iff.1 h
  have hrin := town_rin (fun i hi => (h3 i hi).1)
  have hef : ∀ x, eI v (fI v u x) = if x = v then u else x := by
    intro x
    unfold eI fI
    split <;> (try split) <;> (try split) <;> omega
  have helt : ∀ x, x < m → eI v x < m + 1 := fun x hx => by unfold eI; split <;> omega
  have hflt : ∀ x, x < m + 1 → fI v u x < m := fun x hx => by unfold fI; split <;> (try split) <;> omega
  have hrefl : ∀ x, x < m + 1 → (reachOf z x).testBit x = true := fun x _ => by rw [testBit_reachOf]; simp
  have hsin : ∀ a b, a < m → (reachOf (woZ z v) a).testBit b = true → b < m := by
    intro a b ha hb
    rw [testBit_woZ] at hb
    have := hrin _ _ (helt a ha) hb
    unfold eI at this
    split at this <;> omega
  refine ⟨helt, hflt, fun x hx => ?_, fun a b ha hb hab => ?_, fun x y hx hy hxy => ?_, hrefl, fun x d hx hd => ?_, hrin, hsin⟩
  · unfold fI eI
    split <;> (try split) <;> (try split) <;> omega
  · rw [testBit_woZ, hef, hef]
    by_cases ha' : a = v
    · subst ha'
      rw [if_pos rfl]
      by_cases hb' : b = a
      · rw [if_pos hb']; exact hrefl u hu
      · rw [if_neg hb']; exact hc b hab
    · rw [if_neg ha']
      by_cases hb' : b = v
      · subst hb'
        rw [if_pos rfl, h4 _ _ ha hu]
        rw [h4 _ _ ha hv] at hab
        exact hc a hab
      · rw [if_neg hb']; exact hab
  · rw [testBit_woZ] at hxy; exact hxy
  · rw [hef]
    by_cases hx' : x = v
    · subst hx'; rw [if_pos rfl]; exact hc d hd
    · rw [if_neg hx']; exact hd

/-- A graph without a corner is a graph. -/
theorem town_wo {m v u : Nat} {z : Nat → Int} (h : townB (m + 1) z = true) (hv : v < m + 1) (hu : u < m + 1) (huv : u ≠ v) (hc : ∀ d, (reachOf z v).testBit d = true → (reachOf z u).testBit d = true) :
    townB m (woZ z v) = true := by
  have T := retr_wo h hv hu huv hc
  obtain ⟨h1, h2, h3, h4, h5⟩ := town_iff.1 h
  rw [town_iff]
  refine ⟨by omega, by omega, fun i hi => ?_, T.mut h4, T.conn (by omega) h4 h5⟩
  have h6 := h3 (eI v i) (T.elt i hi)
  unfold woZ
  rw [Int.toNat_natCast, testBit_wo]
  refine ⟨⟨by omega, ?_⟩, h6.2⟩
  have := wo_lt hv (nat_pow_cast h6.1.2 h6.1.1)
  rw [pow_cast]; omega
/-- A corner that is taken away changes no game. -/
theorem best_wo {m k v u : Nat} {z : Nat → Int} (hk : k = 1 ∨ k = 2) (h : townB (m + 1) z = true) (hv : v < m + 1) (hu : u < m + 1) (huv : u ≠ v) (hc : ∀ d, (reachOf z v).testBit d = true → (reachOf z u).testBit d = true) :
    (bestG (m + 1) z k).2 = -1 ↔ (bestG m (woZ z v) k).2 = -1 := by
  have T := retr_wo h hv hu huv hc
  have h8 := (town_iff.1 h).2.1
  exact T.best hk (by omega) (chs_le _ _ (by omega))

end Go.Proofs.YtbkbliieappkdaaDoor.Ch
