/- What it means that a graph hangs together; it goes over to a retract. -/
import Derived.Test.YtbkbliieappkdaaDoorChS9
namespace Go.Proofs.YtbkbliieappkdaaDoor.Ch
set_option linter.unusedSimpArgs false
set_option linter.unusedVariables false
open Go.RowKit

theorem sweep_grow {r : Nat → Nat} {f : Nat} {x : Nat} (h : f.testBit x = true) : ∀ j, (sweepTo r f j).testBit x = true
  | 0 => h
  | j + 1 => by
    unfold sweepTo
    split
    · rw [Nat.testBit_or, sweep_grow h j, Bool.true_or]
    · exact sweep_grow h j
theorem sweep_up {r : Nat → Nat} {f : Nat} {x : Nat} : ∀ {i j : Nat}, i ≤ j → (sweepTo r f i).testBit x = true → (sweepTo r f j).testBit x = true
  | i, 0, h, hx => by rwa [show i = 0 by omega] at hx
  | i, j + 1, h, hx => by
    rcases Nat.lt_or_ge i (j + 1) with h1 | h1
    · have := sweep_up (i := i) (j := j) (by omega) hx
      unfold sweepTo
      split
      · rw [Nat.testBit_or, this, Bool.true_or]
      · exact this
    · rwa [show i = j + 1 by omega] at hx
theorem sweep_step {r : Nat → Nat} {f n a b : Nat} (ha : f.testBit a = true) (hn : a < n) (hb : (r a).testBit b = true) : (sweepTo r f n).testBit b = true := by
  refine sweep_up (i := a + 1) hn ?_
  unfold sweepTo
  rw [if_pos (sweep_grow ha a), Nat.testBit_or, hb, Bool.or_true]
theorem sweep_in {r : Nat → Nat} {f n : Nat} {S : Nat → Prop} (hf : ∀ x, f.testBit x = true → S x) (hS : ∀ a b, a < n → S a → (r a).testBit b = true → S b) : ∀ j, j ≤ n → ∀ x, (sweepTo r f j).testBit x = true → S x
  | 0, _, x, h => hf x h
  | j + 1, hj, x, h => by
    unfold sweepTo at h
    split at h
    · rename_i hb
      rw [Nat.testBit_or, Bool.or_eq_true] at h
      rcases h with h | h
      · exact sweep_in hf hS j (by omega) x h
      · exact hS j x (by omega) (sweep_in hf hS j (by omega) j hb) h
    · exact sweep_in hf hS j (by omega) x h
theorem found_in {r : Nat → Nat} {n : Nat} {S : Nat → Prop} (h0 : S 0) (hS : ∀ a b, a < n → S a → (r a).testBit b = true → S b) : ∀ k x, (foundIn n r k).testBit x = true → S x
  | 0, x, h => by
    have hx : x = 0 := by
      unfold foundIn at h
      rw [show (1 : Nat) = 2 ^ 0 from rfl, Nat.testBit_two_pow] at h
      have := of_decide_eq_true h
      omega
    rw [hx]; exact h0
  | k + 1, x, h => sweep_in (found_in h0 hS k) hS n (Nat.le_refl _) x h
theorem found_lt {r : Nat → Nat} {n : Nat} (hn : 1 ≤ n) (hr : ∀ v u, v < n → (r v).testBit u = true → u < n) (k x : Nat) (h : (foundIn n r k).testBit x = true) : x < n :=
  found_in (S := fun x => x < n) (by omega) (fun a b ha _ hb => hr a b ha hb) k x h
theorem found_grow {r : Nat → Nat} {n k x : Nat} (h : (foundIn n r k).testBit x = true) : (foundIn n r (k + 1)).testBit x = true := sweep_grow h n

/-- The number of nodes that are found. -/
def fcount (n : Nat) (r : Nat → Nat) (k : Nat) : Nat := (List.range n).countP fun x => (foundIn n r k).testBit x
theorem fcount_le (n : Nat) (r : Nat → Nat) (k : Nat) : fcount n r k ≤ n := by
  have := List.countP_le_length (p := fun x => (foundIn n r k).testBit x) (l := List.range n)
  rw [List.length_range] at this
  exact this
theorem found_still {r : Nat → Nat} {n k : Nat} (h : foundIn n r (k + 1) = foundIn n r k) : ∀ j, foundIn n r (k + j) = foundIn n r k
  | 0 => rfl
  | j + 1 => by
    have ih := found_still h j
    show sweepTo r (foundIn n r (k + j)) n = _
    rw [ih]; exact h
theorem found_end {r : Nat → Nat} {n : Nat} (hn : 1 ≤ n) (hr : ∀ v u, v < n → (r v).testBit u = true → u < n) : foundIn n r (n + 1) = foundIn n r n := by
  have hc : ∀ k, (∃ j, j ≤ k ∧ foundIn n r (j + 1) = foundIn n r j) ∨ k + 2 ≤ fcount n r (k + 1) := by
    intro k
    have hstep : ∀ k, foundIn n r (k + 1) = foundIn n r k ∨ fcount n r k < fcount n r (k + 1) := by
      intro k
      by_cases h : ∀ x, x < n → (foundIn n r (k + 1)).testBit x = true → (foundIn n r k).testBit x = true
      · left
        apply Nat.eq_of_testBit_eq
        intro x
        rw [Bool.eq_iff_iff]
        exact ⟨fun hx => h x (found_lt hn hr _ _ hx) hx, found_grow⟩
      · right
        have hex : ∃ x, x < n ∧ (foundIn n r (k + 1)).testBit x = true ∧ (foundIn n r k).testBit x = false := by
          apply Classical.byContradiction
          intro hno
          apply h
          intro x hx hx1
          cases hb : (foundIn n r k).testBit x
          · exact absurd ⟨x, hx, hx1, hb⟩ hno
          · rfl
        obtain ⟨x, hx, hx1, hx2⟩ := hex
        exact countP_lt (fun x => (foundIn n r (k + 1)).testBit x) (fun x => (foundIn n r k).testBit x) _ x (List.mem_range.2 hx) hx1 hx2 (fun b hb => found_grow hb)
    have h0 : 1 ≤ fcount n r 0 := by
      unfold fcount
      exact List.countP_pos_iff.2 ⟨0, List.mem_range.2 (by omega), by simp [foundIn]⟩
    induction k with
    | zero =>
      rcases hstep 0 with h | h
      · exact .inl ⟨0, Nat.le_refl _, h⟩
      · right; omega
    | succ k ih =>
      rcases ih with ⟨j, hj, h⟩ | ih
      · exact .inl ⟨j, by omega, h⟩
      · rcases hstep (k + 1) with h | h
        · exact .inl ⟨k + 1, Nat.le_refl _, h⟩
        · right; omega
  rcases hc (n - 1) with ⟨j, hj, h⟩ | h
  · have h1 := found_still h (n - j)
    have h2 := found_still h (n + 1 - j)
    rw [show j + (n - j) = n by omega] at h1
    rw [show j + (n + 1 - j) = n + 1 by omega] at h2
    rw [h1, h2]
  · have := fcount_le n r (n - 1 + 1)
    omega

/-- A graph hangs together exactly if each closed set with node 0 is the whole. -/
theorem conn_iff {r : Nat → Nat} {n : Nat} (hn : 1 ≤ n) (hr : ∀ v u, v < n → (r v).testBit u = true → u < n) :
    connB n r = true ↔ ∀ S : Nat → Prop, S 0 → (∀ a b, a < n → S a → (r a).testBit b = true → S b) → ∀ v, v < n → S v := by
  have hpow : ((2 : Int) ^ n - 1) = ((2 ^ n - 1 : Nat) : Int) := by rw [pow_cast]; have := Nat.one_le_two_pow (n := n); omega
  unfold connB
  rw [beq_iff_eq, hpow]
  constructor
  · intro h S h0 hS v hv
    have h1 : foundIn n r n = 2 ^ n - 1 := by omega
    refine found_in h0 hS n v ?_
    rw [h1, Nat.testBit_two_pow_sub_one]
    exact decide_eq_true hv
  · intro h
    have h1 : foundIn n r n = 2 ^ n - 1 := by
      apply Nat.eq_of_testBit_eq
      intro x
      rw [Nat.testBit_two_pow_sub_one, Bool.eq_iff_iff, decide_eq_true_eq]
      refine ⟨found_lt hn hr n x, fun hx => ?_⟩
      refine h (fun x => (foundIn n r n).testBit x = true) ?_ ?_ x hx
      · have : ∀ k, (foundIn n r k).testBit 0 = true := by
          intro k
          induction k with
          | zero => simp [foundIn]
          | succ k ih => exact found_grow ih
        exact this n
      · intro a b ha h1 h2
        rw [← found_end hn hr]
        exact sweep_step h1 ha h2
    rw [h1]

/-- With neighbours both ways any node will do. -/
theorem conn_any {r : Nat → Nat} {n : Nat} (hn : 1 ≤ n) (hr : ∀ v u, v < n → (r v).testBit u = true → u < n) (hm : ∀ v u, v < n → u < n → (r v).testBit u = (r u).testBit v)
    (h : connB n r = true) (S : Nat → Prop) {x : Nat} (hx : x < n) (h0 : S x) (hS : ∀ a b, a < n → S a → (r a).testBit b = true → S b) : ∀ v, v < n → S v := by
  rw [conn_iff hn hr] at h
  by_cases hz : S 0
  · exact h S hz hS
  · have := h (fun v => ¬ (v < n ∧ S v)) (fun h1 => hz h1.2) (fun a b ha h1 h2 h3 => h1 ⟨ha, hS b a h3.1 h3.2 (by rw [hm b a h3.1 ha]; exact h2)⟩) x hx
    exact absurd ⟨hx, h0⟩ this

theorem Retr.bit {n m : Nat} {r s e f : Nat → Nat} (T : Retr n m r s e f) {x y : Nat} (hx : x < m) (hy : y < m) : (s x).testBit y = (r (e x)).testBit (e y) := by
  rw [Bool.eq_iff_iff]
  refine ⟨T.emb x y hx hy, fun h => ?_⟩
  have := T.hom _ _ (T.elt x hx) (T.elt y hy) h
  rwa [T.fe x hx, T.fe y hy] at this
/-- A retract hangs together if the whole does. -/
theorem Retr.conn {n m : Nat} {r s e f : Nat → Nat} (T : Retr n m r s e f) (hm : 1 ≤ m) (hmut : ∀ v u, v < n → u < n → (r v).testBit u = (r u).testBit v) (h : connB n r = true) : connB m s = true := by
  have hn : 1 ≤ n := by have := T.elt 0 (by omega); omega
  rw [conn_iff hm T.sin]
  intro S h0 hS v hv
  have := conn_any hn T.rin hmut h (fun a => S (f a)) (T.elt 0 (by omega)) (show S (f (e 0)) by rw [T.fe 0 (by omega)]; exact h0) (fun a b ha h1 h2 => hS (f a) (f b) (T.flt a ha) h1 (T.hom a b ha (T.rin a b ha h2) h2)) (e v) (T.elt v hv)
  rwa [T.fe v hv] at this
theorem Retr.mut {n m : Nat} {r s e f : Nat → Nat} (T : Retr n m r s e f) (hmut : ∀ v u, v < n → u < n → (r v).testBit u = (r u).testBit v) : ∀ x y, x < m → y < m → (s x).testBit y = (s y).testBit x := by
  intro x y hx hy
  rw [T.bit hx hy, T.bit hy hx, hmut _ _ (T.elt x hx) (T.elt y hy)]

end Go.Proofs.YtbkbliieappkdaaDoor.Ch
