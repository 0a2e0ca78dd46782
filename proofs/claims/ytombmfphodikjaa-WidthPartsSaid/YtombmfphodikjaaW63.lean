/- The graphs of the law WidthParts: without a node, without an edge, two neighbours joined; their widths. -/
import Derived.Test.YtombmfphodikjaaW62
namespace Go.Proofs.Ytombmfphodikjaa
set_option linter.unusedSimpArgs false
set_option linter.unusedVariables false

/-- A graph in plain words. -/
theorem graph_of {n : Nat} {r : Nat → Nat} (h1 : 1 ≤ n) (h9 : n ≤ 9) (hr : ∀ i, i < n → r i < 2 ^ n) (hl : ∀ i, i < n → (r i).testBit i = false) (hs : ∀ u x, u < n → x < n → (r u).testBit x = (r x).testBit u) : graphB n 9 (fun i => ((r i : Nat) : Int)) = true := by
  refine graphB_yes h1 h9 fun i hi => ⟨?_, fun j hj => ?_⟩
  · show (inB ((r i : Nat) : Int) (2 ^ n) && !bitZ ((r i : Nat) : Int) i) = true
    rw [bitZ_nat, hl i hi, inB_true (by omega) (by rw [pow_cast]; have := hr i hi; omega)]
    rfl
  · rw [bitZ_nat, bitZ_nat]; exact hs i j hi hj
/-- What a graph is. -/
structure Plain (n : Nat) (r : Nat → Nat) : Prop where
  one : 1 ≤ n
  le : n ≤ 9
  bd : ∀ i, i < n → r i < 2 ^ n
  loop : ∀ i, i < n → (r i).testBit i = false
  sym : ∀ u x, u < n → x < n → (r u).testBit x = (r x).testBit u
theorem plain_of {n : Nat} {z : Nat → Int} (h : graphB n 9 z = true) : Plain n (natG z) := by
  have h3 := graphB_le h
  exact ⟨h3.1, h3.2.1, fun i hi => nat_pow_cast (h3.2.2 i hi).2 (h3.2.2 i hi).1, g_loop h, g_sym h⟩
theorem Plain.graph {n : Nat} {r : Nat → Nat} (h : Plain n r) : graphB n 9 (fun i => ((r i : Nat) : Int)) = true := graph_of h.one h.le h.bd h.loop h.sym

/-- The width of a graph, of its plain rows. -/
abbrev wid (n : Nat) (r : Nat → Nat) : Nat := rst n (tn n r) 0

/-! ### without a node -/

def woN (r : Nat → Nat) (v x : Nat) : Nat := wo v (r (unD v x))
theorem woN_bit (r : Nat → Nat) (v x y : Nat) : (woN r v x).testBit y = (r (unD v x)).testBit (unD v y) := testBit_wo _ _ _
theorem woN_plain {n v : Nat} {r : Nat → Nat} (h : Plain n r) (h2 : 2 ≤ n) (hv : v < n) : Plain (n - 1) (woN r v) := by
  have hd : ∀ i, i < n - 1 → unD v i < n := fun i hi => unD_lt hi
  refine ⟨by omega, by have := h.le; omega, fun i hi => wo_lt (m := n - 1) (by omega) (by rw [show n - 1 + 1 = n by omega]; exact h.bd _ (hd i hi)), fun i hi => ?_, fun u x hu hx => ?_⟩
  · rw [woN_bit]; exact h.loop _ (hd i hi)
  · rw [woN_bit, woN_bit]; exact h.sym _ _ (hd u hu) (hd x hx)
theorem woN_woR {n v : Nat} {r : Nat → Nat} (h : Plain n r) (h2 : 2 ≤ n) (hv : v < n) : woR r v (woN r v) n :=
  ⟨(woN_plain h h2 hv).bd, fun u x _ _ => woN_bit r v u x⟩
theorem wid_del {n v : Nat} {r : Nat → Nat} (h : Plain n r) (h2 : 2 ≤ n) (hv : v < n) : wid (n - 1) (woN r v) ≤ wid n r := rst_del hv h.bd (woN_woR h h2 hv)
theorem wid_add {n v : Nat} {r : Nat → Nat} (h : Plain n r) (h2 : 2 ≤ n) (hv : v < n) : wid n r ≤ wid (n - 1) (woN r v) + 1 := rst_add hv h.bd (woN_woR h h2 hv)

/-! ### without an edge -/

def cutN (r : Nat → Nat) (a b x : Nat) : Nat := if x = a then diff (r a) (2 ^ b) else if x = b then diff (r b) (2 ^ a) else r x
theorem cutN_bit {r : Nat → Nat} {a b : Nat} (hab : a ≠ b) (x y : Nat) : (cutN r a b x).testBit y = ((r x).testBit y && !(decide (x = a) && decide (y = b)) && !(decide (x = b) && decide (y = a))) := by
  unfold cutN
  split
  · rename_i e
    subst e
    rw [testBit_diff, Nat.testBit_two_pow, decide_eq_false (p := x = b) hab, decide_eq_true (p := x = x) rfl]
    by_cases e2 : b = y
    · subst e2; simp
    · simp [e2, Ne.symm e2]
  · rename_i e
    split
    · rename_i e2
      subst e2
      rw [testBit_diff, Nat.testBit_two_pow, decide_eq_false (p := x = a) e, decide_eq_true (p := x = x) rfl]
      by_cases e3 : a = y
      · subst e3; simp
      · simp [e3, Ne.symm e3]
    · rename_i e2
      simp [e, e2]
theorem cutN_plain {n a b : Nat} {r : Nat → Nat} (h : Plain n r) (ha : a < n) (hb : b < n) (hab : a ≠ b) : Plain n (cutN r a b) := by
  refine ⟨h.one, h.le, fun i hi => ?_, fun i hi => ?_, fun u x hu hx => ?_⟩
  · unfold cutN
    split
    · exact Nat.lt_of_le_of_lt (diff_le _ _) (h.bd a ha)
    · split
      · exact Nat.lt_of_le_of_lt (diff_le _ _) (h.bd b hb)
      · exact h.bd i hi
  · rw [cutN_bit hab, h.loop i hi]; rfl
  · rw [cutN_bit hab, cutN_bit hab, h.sym u x hu hx, Bool.and_assoc, Bool.and_assoc]
    congr 1
    rw [Bool.and_comm, Bool.and_comm (decide (u = a)), Bool.and_comm (decide (u = b))]
theorem wid_cut {n a b : Nat} {r : Nat → Nat} (h : Plain n r) (h2 : 2 ≤ n) (ha : a < n) (hb : b < n) (hab : a ≠ b) : wid n (cutN r a b) ≤ wid n r ∧ wid n r ≤ wid n (cutN r a b) + 1 := by
  have hc := cutN_plain h ha hb hab
  refine ⟨rst_sub h.bd hc.bd fun u x hu hx hb2 => ?_, ?_⟩
  · rw [cutN_bit hab, Bool.and_assoc, Bool.and_eq_true] at hb2; exact hb2.1
  · have h3 := wid_add h h2 ha
    have h4 : wid (n - 1) (woN r a) ≤ wid n (cutN r a b) := rst_del ha hc.bd ⟨(woN_plain h h2 ha).bd, fun u x _ _ => by
      rw [woN_bit, cutN_bit hab, decide_eq_false (p := unD a u = a) (unD_ne a u), decide_eq_false (p := unD a x = a) (unD_ne a x)]; simp⟩
    omega

/-! ### two neighbours joined -/

/-- The rows after the first k nodes were looked at. -/
def joTo (r : Nat → Nat) (a b : Nat) : Nat → Nat → Nat
  | 0, x => r x
  | k + 1, x => if k ≠ a ∧ (r b).testBit k = true then (if x = a then joTo r a b k a ||| 2 ^ k else if x = k then joTo r a b k k ||| 2 ^ a else joTo r a b k x) else joTo r a b k x
theorem joTo_bit {r : Nat → Nat} {a b : Nat} (k x y : Nat) : (joTo r a b k x).testBit y = ((r x).testBit y || (decide (x = a) && decide (y < k) && decide (y ≠ a) && (r b).testBit y) || (decide (y = a) && decide (x < k) && decide (x ≠ a) && (r b).testBit x)) := by
  induction k generalizing x y with
  | zero => simp [joTo]
  | succ k ih =>
    unfold joTo
    by_cases hc : k ≠ a ∧ (r b).testBit k = true
    · rw [if_pos hc]
      obtain ⟨h1, h2⟩ := hc
      by_cases e : x = a
      · subst e
        rw [if_pos rfl, or_bit, ih]
        by_cases e2 : k = y
        · subst e2; simp [h1, h2]
        · rw [decide_eq_false e2]
          have : decide (y < k + 1) = decide (y < k) := decide_eq_decide.2 (by omega)
          rw [this]; simp
      · rw [if_neg e]
        by_cases e2 : x = k
        · subst e2
          rw [if_pos rfl, or_bit, ih]
          by_cases e3 : a = y
          · subst e3; simp [h1, h2]
          · simp [e, e3, Ne.symm e3]
        · rw [if_neg e2, ih]
          have : decide (x < k + 1) = decide (x < k) := decide_eq_decide.2 (by omega)
          rw [this]; simp [e]
    · rw [if_neg hc, ih]
      have hx : ∀ x, (decide (x < k + 1) && decide (x ≠ a) && (r b).testBit x) = (decide (x < k) && decide (x ≠ a) && (r b).testBit x) := by
        intro x
        by_cases e : x = k
        · subst e
          by_cases e2 : x = a
          · simp [e2]
          · have : (r b).testBit x = false := by
              cases h : (r b).testBit x
              · rfl
              · exact absurd ⟨e2, h⟩ hc
            simp [this]
        · have : decide (x < k + 1) = decide (x < k) := decide_eq_decide.2 (by omega)
          rw [this]
      have h1 := hx x
      have h2 := hx y
      simp only [Bool.and_assoc] at h1 h2 ⊢
      rw [h1, h2]
theorem joTo_lt {n a b : Nat} {r : Nat → Nat} (h : Plain n r) (ha : a < n) : ∀ k, k ≤ n → ∀ x, x < n → joTo r a b k x < 2 ^ n := by
  intro k
  induction k with
  | zero => intro _ x hx; exact h.bd x hx
  | succ k ih =>
    intro hk x hx
    have ih := ih (by omega)
    unfold joTo
    split
    · split
      · exact Nat.or_lt_two_pow (ih a ha) (pow_lt_pow (by omega))
      · split
        · exact Nat.or_lt_two_pow (ih k (by omega)) (pow_lt_pow ha)
        · exact ih x hx
    · exact ih x hx
/-- The rows of the graph in which b is joined to a, before b is taken out. -/
def joN (r : Nat → Nat) (a b n x : Nat) : Nat := if x = a then diff (joTo r a b n a) (2 ^ a) else joTo r a b n x
theorem joN_bit {n a b : Nat} {r : Nat → Nat} (h : Plain n r) (ha : a < n) {x y : Nat} (hx : x < n) (hy : y < n) : (joN r a b n x).testBit y = ((r x).testBit y || (decide (x = a) && decide (y ≠ a) && (r b).testBit y) || (decide (y = a) && decide (x ≠ a) && (r b).testBit x)) := by
  have e : (joN r a b n x).testBit y = (joTo r a b n x).testBit y := by
    unfold joN
    split
    · rename_i e
      subst e
      rw [testBit_diff, Nat.testBit_two_pow]
      by_cases e2 : x = y
      · subst e2
        rw [joTo_bit, h.loop x hx]; simp
      · simp [e2]
    · rfl
  rw [e, joTo_bit, decide_eq_true hx, decide_eq_true hy]
  simp [Bool.and_assoc]
theorem joN_plain {n a b : Nat} {r : Nat → Nat} (h : Plain n r) (ha : a < n) : Plain n (joN r a b n) := by
  refine ⟨h.one, h.le, fun i hi => ?_, fun i hi => ?_, fun u x hu hx => ?_⟩
  · unfold joN
    split
    · exact Nat.lt_of_le_of_lt (diff_le _ _) (joTo_lt h ha n (Nat.le_refl _) a ha)
    · exact joTo_lt h ha n (Nat.le_refl _) i hi
  · rw [joN_bit h ha hi hi, h.loop i hi]
    by_cases e : i = a <;> simp [e]
  · rw [joN_bit h ha hu hx, joN_bit h ha hx hu, h.sym u x hu hx, Bool.or_assoc, Bool.or_assoc]
    congr 1
    rw [Bool.or_comm]
theorem wid_join {n a b : Nat} {r : Nat → Nat} (h : Plain n r) (h2 : 2 ≤ n) (ha : a < n) (hb : b < n) (hab : a ≠ b) (hadj : (r a).testBit b = true) : wid (n - 1) (woN (joN r a b n) b) ≤ wid n r ∧ wid n r ≤ wid (n - 1) (woN (joN r a b n) b) + 1 := by
  have hj := joN_plain (b := b) h ha
  have hjw := woN_plain hj h2 hb
  refine ⟨rst_join ha hb hab h.bd h.sym hadj ⟨hjw.bd, fun u x hu hx => ?_⟩, ?_⟩
  · rw [woN_bit, joN_bit h ha (unD_lt hu) (unD_lt hx)]
    by_cases e : u = x
    · subst e
      rw [h.loop _ (unD_lt hu)]
      by_cases e2 : unD b u = a <;> simp [e2]
    · have hne : unD b u ≠ unD b x := fun h => e (unD_inj h)
      simp only [Bool.or_eq_true, Bool.and_eq_true, decide_eq_true_eq]
      constructor
      · rintro ((h3 | ⟨⟨h3, _⟩, h4⟩) | ⟨⟨h3, _⟩, h4⟩)
        · exact ⟨e, Or.inl h3⟩
        · exact ⟨e, Or.inr (Or.inl ⟨h3, h4⟩)⟩
        · exact ⟨e, Or.inr (Or.inr ⟨h3, h4⟩)⟩
      · rintro ⟨_, h3 | ⟨h3, h4⟩ | ⟨h3, h4⟩⟩
        · exact Or.inl (Or.inl h3)
        · exact Or.inl (Or.inr ⟨⟨h3, fun e2 => hne (h3.trans e2.symm)⟩, h4⟩)
        · exact Or.inr ⟨⟨h3, fun e2 => hne (e2.trans h3.symm)⟩, h4⟩
  · have h3 := wid_add h h2 hb
    have h4 : wid (n - 1) (woN r b) ≤ wid (n - 1) (woN (joN r a b n) b) := rst_sub hjw.bd (woN_plain h h2 hb).bd fun u x hu hx hb2 => by
      rw [woN_bit] at hb2
      rw [woN_bit, joN_bit h ha (unD_lt hu) (unD_lt hx), hb2]; rfl
    omega

end Go.Proofs.Ytombmfphodikjaa
