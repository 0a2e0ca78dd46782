/- Orders: their widths, and the first one of least width. -/
import Derived.Test.YtfmppncefbjicaaDoorW1
namespace Go.Proofs.YtfmppncefbjicaaDoor
set_option linter.unusedSimpArgs false
set_option linter.unusedVariables false

/-! ### slices of nodes -/

/-- The set of the first k numbers of a slice. -/
def metO (z : Nat → Int) : Nat → Nat
  | 0 => 0
  | k + 1 => metO z k ||| 2 ^ (z k).toNat
def okO (n : Nat) (z : Nat → Int) (k : Nat) : Bool := inB (z k) n && !(metO z k).testBit (z k).toNat
def ordB (n m : Nat) (z : Nat → Int) : Bool := m == n && (List.range m).all (okO n z)
/-- The width of an order, as far as its first k numbers go. -/
def alo (t : Nat → Nat → Nat) (z : Nat → Int) : Nat → Nat
  | 0 => 0
  | k + 1 => max (alo t z k) (t (metO z k) (z k).toNat)

theorem ordB_len {n m : Nat} {z : Nat → Int} (h : m ≠ n) : ordB n m z = false := by
  unfold ordB
  rw [show (m == n) = false from beq_eq_false_iff_ne.2 h]; rfl
theorem ordB_bad {n m : Nat} {z : Nat → Int} {k : Nat} (hk : k < m) (h : okO n z k = false) : ordB n m z = false := by
  rw [Bool.eq_false_iff]
  intro ht
  unfold ordB at ht
  simp only [Bool.and_eq_true, List.all_eq_true, List.mem_range] at ht
  have := ht.2 k hk
  rw [h] at this; cases this
theorem ordB_good {n : Nat} {z : Nat → Int} (h : ∀ k, k < n → okO n z k = true) : ordB n n z = true := by
  unfold ordB
  simp only [beq_self_eq_true, Bool.true_and, List.all_eq_true, List.mem_range]
  exact h
theorem ordB_iff {n m : Nat} {z : Nat → Int} (h : ordB n m z = true) : m = n ∧ ∀ k, k < n → okO n z k = true := by
  unfold ordB at h
  simp only [Bool.and_eq_true, List.all_eq_true, List.mem_range, beq_iff_eq] at h
  obtain ⟨rfl, h⟩ := h
  exact ⟨rfl, h⟩
theorem okO_iff {n : Nat} {z : Nat → Int} {k : Nat} (h : okO n z k = true) : 0 ≤ z k ∧ z k < n ∧ (z k).toNat < n ∧ (metO z k).testBit (z k).toNat = false := by
  unfold okO at h
  rw [Bool.and_eq_true] at h
  obtain ⟨h1, h2⟩ := inB_iff.1 h.1
  exact ⟨h1, h2, by omega, by simpa using h.2⟩
theorem metO_lt {n : Nat} {z : Nat → Int} : ∀ k, (∀ i, i < k → okO n z i = true) → metO z k < 2 ^ n := by
  intro k
  induction k with
  | zero => intro _; exact Nat.two_pow_pos n
  | succ k ih =>
    intro h
    exact Nat.or_lt_two_pow (ih fun i hi => h i (by omega)) (pow_lt_pow (okO_iff (h k (by omega))).2.2.1)
theorem sz_or {n g v : Nat} (hv : v < n) (h : g.testBit v = false) : szS n (g ||| 2 ^ v) = szS n g + 1 := by
  have e : ∀ m, m ≤ n → szS m (g ||| 2 ^ v) = szS m g + (if v < m then 1 else 0) := by
    intro m
    induction m with
    | zero => intro _; simp [szS]
    | succ m ih =>
      intro hm
      have ih := ih (by omega)
      unfold szS at *
      rw [List.range_succ, List.countP_append, List.countP_append, ih]
      simp only [List.countP_cons, List.countP_nil, Nat.testBit_or, Nat.testBit_two_pow]
      by_cases hvm : v = m
      · subst hvm; simp [h]
      · by_cases hlt : v < m
        · simp [hvm, hlt, show v < m + 1 by omega]; omega
        · simp [hvm, hlt, show ¬ v < m + 1 by omega]
  have := e n (Nat.le_refl _)
  simpa [hv] using this
theorem metO_sz {n : Nat} {z : Nat → Int} : ∀ k, (∀ i, i < k → okO n z i = true) → szS n (metO z k) = k := by
  intro k
  induction k with
  | zero => intro _; simp [metO, szS]
  | succ k ih =>
    intro h
    obtain ⟨_, _, h1, h2⟩ := okO_iff (h k (by omega))
    show szS n (metO z k ||| 2 ^ (z k).toNat) = k + 1
    rw [sz_or h1 h2, ih fun i hi => h i (by omega)]
theorem sz_full {n g : Nat} (hg : g < 2 ^ n) (h : szS n g = n) : g = 2 ^ n - 1 := by
  apply Nat.eq_of_testBit_eq
  intro i
  rw [Nat.testBit_two_pow_sub_one]
  by_cases hi : i < n
  · simp only [hi, decide_true]
    unfold szS at h
    have h2 := List.countP_eq_length.1 (h.trans (List.length_range (n := n)).symm)
    exact h2 i (List.mem_range.2 hi)
  · simp only [hi, decide_false]
    exact Nat.testBit_lt_two_pow (Nat.lt_of_lt_of_le hg (Nat.pow_le_pow_right (by omega) (by omega)))
theorem sz_all (n : Nat) : szS n (2 ^ n - 1) = n := by
  unfold szS
  have h : (List.range n).countP (fun v => (2 ^ n - 1).testBit v) = (List.range n).length := List.countP_eq_length.2 fun v hv => by
    rw [Nat.testBit_two_pow_sub_one]; exact decide_eq_true (List.mem_range.1 hv)
  rw [h, List.length_range]

/-! ### the first order of least width -/

def nxtB (n : Nat) (t : Nat → Nat → Nat) (W gone v : Nat) : Bool := !gone.testBit v && decide (t gone v ≤ W) && decide (rst n t (gone ||| 2 ^ v) ≤ W)
theorem nxtB_iff {n : Nat} {t : Nat → Nat → Nat} {W gone v : Nat} : nxtB n t W gone v = true ↔ gone.testBit v = false ∧ t gone v ≤ W ∧ rst n t (gone ||| 2 ^ v) ≤ W := by
  unfold nxtB
  simp only [Bool.and_eq_true, Bool.not_eq_true', decide_eq_true_eq, and_assoc]
/-- The order along which the first node that keeps to W is taken each time. -/
def ordW (n : Nat) (t : Nat → Nat → Nat) (W : Nat) : Nat → Nat → List Nat
  | 0, _ => []
  | k + 1, gone => match (List.range n).find? (nxtB n t W gone) with
    | some v => v :: ordW n t W k (gone ||| 2 ^ v)
    | none => []
theorem ordW_succ (n : Nat) (t : Nat → Nat → Nat) (W k gone : Nat) : ordW n t W (k + 1) gone = match (List.range n).find? (nxtB n t W gone) with
    | some v => v :: ordW n t W k (gone ||| 2 ^ v)
    | none => [] := rfl
theorem ordW_step {n : Nat} {t : Nat → Nat → Nat} {W k gone v : Nat} (hv : v < n) (h : nxtB n t W gone v = true) (hno : ∀ u, u < v → nxtB n t W gone u = false) : ordW n t W (k + 1) gone = v :: ordW n t W k (gone ||| 2 ^ v) := by
  have : (List.range n).find? (nxtB n t W gone) = some v := by
    rw [List.find?_eq_some_iff_getElem]
    refine ⟨h, v, by simpa using hv, by simp, fun j hj => ?_⟩
    simp [hno j hj]
  rw [ordW_succ, this]
/-- The state of the search for it. -/
structure Going (n : Nat) (t : Nat → Nat → Nat) (W : Nat) (L : List Nat) (gone : Nat) : Prop where
  lt : gone < 2 ^ n
  sz : szS n gone = L.length
  rest : rst n t gone ≤ W
  all : L ++ ordW n t W (n - L.length) gone = ordW n t W n 0
  bd : ∀ x ∈ L, x < n
theorem Going.start {n : Nat} {t : Nat → Nat → Nat} {W : Nat} (h : rst n t 0 ≤ W) : Going n t W [] 0 :=
  ⟨Nat.two_pow_pos n, by simp [szS], h, by simp, by simp⟩
theorem Going.len {n : Nat} {t : Nat → Nat → Nat} {W : Nat} {L : List Nat} {gone : Nat} (h : Going n t W L gone) : L.length ≤ n := by
  rw [← h.sz]; exact szS_le _ _
theorem Going.more {n : Nat} {t : Nat → Nat → Nat} {W : Nat} {L : List Nat} {gone : Nat} (h : Going n t W L gone) (hne : gone ≠ 2 ^ n - 1) : L.length < n := by
  rcases Nat.lt_or_eq_of_le h.len with h1 | h1
  · exact h1
  · exact absurd (sz_full h.lt (h.sz.trans h1)) hne
theorem Going.step {n : Nat} {t : Nat → Nat → Nat} {W : Nat} {L : List Nat} {gone v : Nat} (h : Going n t W L gone) (hv : v < n) (hx : nxtB n t W gone v = true) (hno : ∀ u, u < v → nxtB n t W gone u = false) : Going n t W (L ++ [v]) (gone ||| 2 ^ v) := by
  obtain ⟨h1, h2, h3⟩ := nxtB_iff.1 hx
  have hsz := sz_or hv h1
  have hlen : (L ++ [v]).length = L.length + 1 := by simp
  have hle : L.length + 1 ≤ n := by have := szS_le n (gone ||| 2 ^ v); have := h.sz; omega
  refine ⟨Nat.or_lt_two_pow h.lt (pow_lt_pow hv), by rw [hsz, h.sz, hlen], h3, ?_, ?_⟩
  · rw [← h.all, hlen, List.append_assoc]
    congr 1
    rw [show n - L.length = (n - (L.length + 1)) + 1 by omega, ordW_step hv hx hno]; rfl
  · intro x hx
    rcases List.mem_append.1 hx with hx | hx
    · exact h.bd x hx
    · rw [List.mem_singleton.1 hx]; exact hv
theorem Going.done {n : Nat} {t : Nat → Nat → Nat} {W : Nat} {L : List Nat} (h : Going n t W L (2 ^ n - 1)) : L = ordW n t W n 0 ∧ L.length = n := by
  have hl : L.length = n := by rw [← h.sz, sz_all]
  have := h.all
  rw [hl, Nat.sub_self] at this
  exact ⟨by rw [← this]; simp [ordW], hl⟩
/-- As long as not all nodes are gone there is a next one. -/
theorem Going.next {n : Nat} {t : Nat → Nat → Nat} {W : Nat} {L : List Nat} {gone : Nat} (h : Going n t W L gone) (hne : gone ≠ 2 ^ n - 1) (ht : ∀ v, v < n → t gone v ≤ n) : ∃ v, v < n ∧ nxtB n t W gone v = true := by
  obtain ⟨v, hv, h1, h2, h3⟩ := rst_next h.lt hne ht h.rest
  exact ⟨v, hv, nxtB_iff.2 ⟨h1, h2, h3⟩⟩

/-! ### no order has a lesser width -/

theorem alo_mono {t : Nat → Nat → Nat} {z : Nat → Int} : ∀ {k m : Nat}, k ≤ m → alo t z k ≤ alo t z m := by
  intro k m
  induction m with
  | zero => intro h; rw [show k = 0 by omega]; exact Nat.le_refl _
  | succ m ih =>
    intro h
    rcases Nat.lt_or_eq_of_le h with h1 | h1
    · have := ih (by omega)
      show _ ≤ max (alo t z m) _
      omega
    · rw [h1]; exact Nat.le_refl _
theorem metO_ne {n : Nat} {z : Nat → Int} (h : ∀ i, i < n → okO n z i = true) {k : Nat} (hk : k < n) : metO z k ≠ 2 ^ n - 1 := by
  intro e
  have := metO_sz k fun i hi => h i (by omega)
  rw [e, sz_all] at this
  omega
theorem alo_ge {n : Nat} {t : Nat → Nat → Nat} {z : Nat → Int} (h : ∀ i, i < n → okO n z i = true) : ∀ j k, k + j = n → rst n t (metO z k) ≤ alo t z n := by
  intro j
  induction j with
  | zero =>
    intro k hk
    have hk' : k = n := by omega
    subst hk'
    have hlt := metO_lt (n := k) (z := z) k h
    rw [sz_full hlt (metO_sz k h), rst_all]
    omega
  | succ j ih =>
    intro k hk
    have hok := okO_iff (h k (by omega))
    have h1 := ih (k + 1) (by omega)
    have hlt := metO_lt (n := n) (z := z) k fun i hi => h i (by omega)
    rw [rst_best hlt (metO_ne h (by omega))]
    have h2 := bestW_at (n := n) (t := t) (gone := metO z k) n (z k).toNat hok.2.2.1 hok.2.2.2
    have h3 : max (alo t z k) (t (metO z k) (z k).toNat) ≤ alo t z n := alo_mono (t := t) (z := z) (k := k + 1) (m := n) (by omega)
    have h4 : rst n t (metO z k ||| 2 ^ (z k).toNat) ≤ alo t z n := h1
    omega
theorem alo_least {n : Nat} {t : Nat → Nat → Nat} {z : Nat → Int} (h : ∀ i, i < n → okO n z i = true) : rst n t 0 ≤ alo t z n := alo_ge h n 0 (by omega)

end Go.Proofs.YtfmppncefbjicaaDoor
