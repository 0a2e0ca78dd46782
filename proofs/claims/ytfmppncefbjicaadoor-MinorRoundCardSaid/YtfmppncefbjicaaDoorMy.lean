/- Package minor: the reference's models in plain words, and the program's: they are the same. -/
import Derived.Test.YtfmppncefbjicaaDoorMg
import Derived.Test.YtfmppncefbjicaaDoorMw
namespace Go.Proofs.YtfmppncefbjicaaDoor
set_option linter.unusedSimpArgs false
set_option linter.unusedVariables false

theorem findSome_congr {α β : Type} {f g : α → Option β} : ∀ {l : List α}, (∀ x ∈ l, f x = g x) → l.findSome? f = l.findSome? g
  | [], _ => rfl
  | x :: l, h => by
    simp only [List.findSome?_cons]
    rw [h x (List.mem_cons_self ..), findSome_congr fun y hy => h y (List.mem_cons_of_mem _ hy)]
theorem findSome_more {β : Type} {f : Nat → Option β} {a b : Nat} (hab : a ≤ b) (h : ∀ s, a ≤ s → s < b → f s = none) : (List.range b).findSome? f = (List.range a).findSome? f := by
  rw [show b = a + (b - a) by omega, List.range_add, List.findSome?_append]
  have : (List.map (fun x => a + x) (List.range (b - a))).findSome? f = none := by
    rw [List.findSome?_eq_none_iff]
    intro x hx
    obtain ⟨y, hy, rfl⟩ := List.mem_map.1 hx
    have := List.mem_range.1 hy
    exact h _ (by omega) (by omega)
  rw [this]; simp
theorem findSome_first {β : Type} {f g : Nat → Option β} : ∀ m, (∀ i, i < m → (∀ j, j < i → g j = none) → f i = g i) → (List.range m).findSome? f = (List.range m).findSome? g := by
  intro m
  induction m with
  | zero => intro _; rfl
  | succ m ih =>
    intro h
    have ih := ih fun i hi => h i (by omega)
    rw [List.range_succ, List.findSome?_append, List.findSome?_append, ih]
    cases hg : (List.range m).findSome? g with
    | some x => rfl
    | none =>
      rw [List.findSome?_eq_none_iff] at hg
      have := h m (by omega) fun j hj => hg j (List.mem_range.2 hj)
      simp [this]

/-- Whether a set may be the next one of a model of so many nodes, of which k sets more are to come. -/
def okX (n : Nat) (r pr : Nat → Nat) (B : List Nat) (met left k s : Nat) : Bool := s &&& met == 0 && (decide (szS n s + k ≤ left) && (conB n r s && rchB r s (pr B.length) B))
def exL (n : Nat) (r pr : Nat → Nat) : Nat → List Nat → Nat → Nat → Option (List Nat)
  | 0, B, _, left => if left = 0 then some B else none
  | k + 1, B, met, left => (List.range (2 ^ n)).findSome? fun s => if okX n r pr B met left k s then exL n r pr k (B ++ [s]) (met ||| s) (left - szS n s) else none
def refM (n q : Nat) (r pr : Nat → Nat) : Option (List Nat) := (List.range (n + 1 - q)).findSome? fun i => exL n r pr q [] 0 (q + i)

theorem sz_pos0 {n s : Nat} (h0 : 0 < s) (hs : s < 2 ^ n) : 0 < szS n s := by
  apply Classical.byContradiction
  intro h
  have h1 : szS n s = 0 := by omega
  unfold szS at h1
  rw [List.countP_eq_zero] at h1
  have : s = 0 := by
    apply Nat.eq_of_testBit_eq
    intro i
    rw [Nat.zero_testBit]
    by_cases hi : i < n
    · simpa using h1 i (List.mem_range.2 hi)
    · exact Nat.testBit_lt_two_pow (Nat.lt_of_lt_of_le hs (Nat.pow_le_pow_right (by omega) (by omega)))
  omega
theorem conB_pos {n : Nat} {r : Nat → Nat} {s : Nat} (h : conB n r s = true) : 0 < s := by
  unfold conB at h
  rw [Bool.and_eq_true, decide_eq_true_eq] at h
  exact h.1
theorem exL_low {n : Nat} {r pr : Nat → Nat} : ∀ k B met left, left < k → exL n r pr k B met left = none
  | 0, _, _, _, h => by omega
  | k + 1, B, met, left, h => by
    unfold exL
    rw [List.findSome?_eq_none_iff]
    intro s hs
    rw [if_neg]
    intro ho
    unfold okX at ho
    simp only [Bool.and_eq_true, decide_eq_true_eq] at ho
    have := sz_pos0 (conB_pos ho.2.2.1) (List.mem_range.1 hs)
    omega
theorem within_iff {n met s : Nat} (hs : s < 2 ^ n) : (diff s (diff (2 ^ n - 1) met) == 0) = (s &&& met == 0) := by
  rw [Bool.eq_iff_iff, beq_iff_eq, beq_iff_eq]
  constructor
  · intro h
    apply Nat.eq_of_testBit_eq
    intro i
    have := congrArg (fun x => x.testBit i) h
    simp only [testBit_diff, Nat.testBit_two_pow_sub_one, Nat.zero_testBit] at this
    rw [Nat.testBit_and, Nat.zero_testBit]
    cases h1 : s.testBit i
    · rfl
    · have hi := bit_lt hs h1
      rw [h1, decide_eq_true hi] at this
      simpa using this
  · intro h
    apply Nat.eq_of_testBit_eq
    intro i
    have := congrArg (fun x => x.testBit i) h
    simp only [Nat.testBit_and, Nat.zero_testBit] at this
    rw [testBit_diff, testBit_diff, Nat.testBit_two_pow_sub_one, Nat.zero_testBit]
    cases h1 : s.testBit i
    · rfl
    · have hi := bit_lt hs h1
      rw [h1] at this
      rw [decide_eq_true hi]
      simpa using this
theorem free_less {n met s : Nat} : diff (diff (2 ^ n - 1) met) s = diff (2 ^ n - 1) (met ||| s) := by
  apply Nat.eq_of_testBit_eq
  intro i
  rw [testBit_diff, testBit_diff, testBit_diff, Nat.testBit_or, Bool.not_or, Bool.and_assoc]
theorem within_le {s f : Nat} (h : (diff s f == 0) = true) : s ≤ f := by
  rw [beq_iff_eq] at h
  refine Nat.le_of_not_lt fun hl => ?_
  obtain ⟨i, h1, h2⟩ : ∃ i, s.testBit i = true ∧ f.testBit i = false := by
    apply Classical.byContradiction
    intro hno
    have : s ≤ f := by
      have h3 : s ||| f = f := by
        apply Nat.eq_of_testBit_eq
        intro i
        rw [Nat.testBit_or]
        cases h1 : s.testBit i
        · rfl
        · cases h2 : f.testBit i
          · exact absurd ⟨i, h1, h2⟩ hno
          · rfl
      rw [← h3]; exact Nat.left_le_or
    omega
  have := congrArg (fun x => x.testBit i) h
  simp [testBit_diff, h1, h2] at this

theorem ext_exact {n : Nat} {r pr : Nat → Nat} : ∀ k B met left, (∀ l, l < left → exL n r pr k B met l = none) → extL n r pr k B (diff (2 ^ n - 1) met) left = exL n r pr k B met left := by
  intro k
  induction k with
  | zero =>
    intro B met left h
    have h0 : left = 0 := by
      apply Classical.byContradiction
      intro hne
      have := h 0 (by omega)
      simp [exL] at this
    subst h0
    simp [exL, extL]
  | succ k ih =>
    intro B met left h
    have hfl : diff (2 ^ n - 1) met + 1 ≤ 2 ^ n := by
      have := diff_le (2 ^ n - 1) met
      have := Nat.two_pow_pos n
      omega
    unfold extL exL
    rw [← findSome_more hfl (f := fun s => if okE n r pr B (diff (2 ^ n - 1) met) (left - k) s then extL n r pr k (B ++ [s]) (diff (diff (2 ^ n - 1) met) s) (left - szS n s) else none) (fun s hs _ => by
      rw [if_neg]
      intro ho
      unfold okE at ho
      rw [Bool.and_eq_true] at ho
      have := within_le ho.1
      omega)]
    refine findSome_congr fun s hs => ?_
    have hs := List.mem_range.1 hs
    have hok : okE n r pr B (diff (2 ^ n - 1) met) (left - k) s = okX n r pr B met left k s := by
      unfold okE okX
      rw [within_iff hs]
      cases hc : conB n r s
      · simp
      · have := sz_pos0 (conB_pos hc) hs
        rw [show decide (szS n s ≤ left - k) = decide (szS n s + k ≤ left) from decide_eq_decide.2 (by omega)]
        simp
    rw [hok]
    by_cases ho : okX n r pr B met left k s = true
    · rw [if_pos ho, if_pos ho, free_less]
      refine ih _ _ _ fun l hl => ?_
      by_cases hkl : k ≤ l
      · have h1 := h (l + szS n s) (by omega)
        unfold exL at h1
        rw [List.findSome?_eq_none_iff] at h1
        have h2 := h1 s (List.mem_range.2 hs)
        rw [if_pos, Nat.add_sub_cancel] at h2
        · exact h2
        · unfold okX at ho ⊢
          simp only [Bool.and_eq_true, decide_eq_true_eq] at ho ⊢
          exact ⟨ho.1, by omega, ho.2.2⟩
      · exact exL_low _ _ _ _ (by omega)
    · rw [if_neg ho, if_neg ho]

theorem mod_exact {n q wt wp : Nat} {r pr : Nat → Nat} (hw : wt < wp → refM n q r pr = none) : modL n q r pr wt wp = refM n q r pr := by
  unfold modL
  by_cases h : n < q
  · rw [if_pos (Or.inl h)]
    unfold refM
    rw [show n + 1 - q = 0 by omega]; rfl
  · by_cases h2 : wt < wp
    · rw [if_pos (Or.inr h2), hw h2]
    · rw [if_neg (by omega)]
      unfold refM
      refine findSome_first _ fun i hi hj => ?_
      unfold modOf
      have := ext_exact (n := n) (r := r) (pr := pr) q [] 0 (q + i) fun l hl => by
        by_cases hl2 : l < q
        · exact exL_low _ _ _ _ hl2
        · have := hj (l - q) (by omega)
          rwa [show q + (l - q) = l by omega] at this
      rw [← this]
      congr 1
      apply Nat.eq_of_testBit_eq
      intro i
      rw [testBit_diff]; simp

end Go.Proofs.YtfmppncefbjicaaDoor
