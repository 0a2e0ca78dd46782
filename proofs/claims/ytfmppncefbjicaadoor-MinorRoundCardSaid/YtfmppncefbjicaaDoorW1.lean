/- What hangs together, what is left of a node at its turn, and the least widths, in plain words. -/
import Derived.Test.YtfmppncefbjicaaDoorW0
namespace Go.Proofs.YtfmppncefbjicaaDoor
set_option linter.unusedSimpArgs false
set_option linter.unusedVariables false

/-! ### sets -/

def szS (n T : Nat) : Nat := (List.range n).countP fun v => T.testBit v

theorem sub_le {a b : Nat} (h : ∀ i, a.testBit i = true → b.testBit i = true) : a ≤ b := by
  have : a = b &&& a := by
    apply Nat.eq_of_testBit_eq
    intro i
    rw [Nat.testBit_and]
    cases h1 : a.testBit i
    · simp
    · simp [h i h1]
  rw [this]; exact Nat.and_le_left

/-! ### the neighbours of a set -/

def nbTo (r : Nat → Nat) (s : Nat) : Nat → Nat
  | 0 => 0
  | j + 1 => if s.testBit j then nbTo r s j ||| r j else nbTo r s j
theorem testBit_nbTo (r : Nat → Nat) (s : Nat) : ∀ k i, (nbTo r s k).testBit i = true ↔ ∃ j, j < k ∧ s.testBit j = true ∧ (r j).testBit i = true := by
  intro k
  induction k with
  | zero => intro i; simp [nbTo]
  | succ k ih =>
    intro i
    unfold nbTo
    split
    · rename_i h
      rw [Nat.testBit_or, Bool.or_eq_true, ih]
      constructor
      · rintro (⟨j, h1, h2⟩ | h1)
        · exact ⟨j, by omega, h2⟩
        · exact ⟨k, by omega, h, h1⟩
      · rintro ⟨j, h1, h2, h3⟩
        rcases Nat.lt_succ_iff_lt_or_eq.1 h1 with h4 | h4
        · exact Or.inl ⟨j, h4, h2, h3⟩
        · subst h4; exact Or.inr h3
    · rename_i h
      rw [ih]
      constructor
      · rintro ⟨j, h1, h2⟩; exact ⟨j, by omega, h2⟩
      · rintro ⟨j, h1, h2, h3⟩
        rcases Nat.lt_succ_iff_lt_or_eq.1 h1 with h4 | h4
        · exact ⟨j, h4, h2, h3⟩
        · subst h4; exact absurd h2 h
theorem nbTo_lt {r : Nat → Nat} {n m : Nat} (s : Nat) (hr : ∀ i, i < n → r i < 2 ^ m) : ∀ k, k ≤ n → nbTo r s k < 2 ^ m := by
  intro k
  induction k with
  | zero => intro _; exact Nat.two_pow_pos m
  | succ k ih =>
    intro hk
    have := ih (by omega)
    unfold nbTo
    split
    · exact Nat.or_lt_two_pow this (hr k (by omega))
    · exact this

/-- The nodes around a set. -/
def arnd (n : Nat) (r : Nat → Nat) (s : Nat) : Nat := diff (nbTo r s n) s
theorem testBit_arnd (n : Nat) (r : Nat → Nat) (s i : Nat) : (arnd n r s).testBit i = true ↔ (∃ j, j < n ∧ s.testBit j = true ∧ (r j).testBit i = true) ∧ s.testBit i = false := by
  unfold arnd
  rw [testBit_diff, Bool.and_eq_true, testBit_nbTo]
  simp
theorem arnd_lt {r : Nat → Nat} {n : Nat} (s : Nat) (hr : ∀ i, i < n → r i < 2 ^ n) : arnd n r s < 2 ^ n :=
  Nat.lt_of_le_of_lt (diff_le _ _) (nbTo_lt s hr n (Nat.le_refl _))

/-! ### what hangs together -/

/-- What is met from node v within a set. -/
abbrev partS (n : Nat) (r : Nat → Nat) (set v : Nat) : Nat := metIn n r set (2 ^ v) n

theorem metTo_sub {g : Nat → Nat} {set f : Nat} : ∀ j i, f.testBit i = true → (metTo g set f j).testBit i = true := by
  intro j
  induction j with
  | zero => intro i h; exact h
  | succ j ih =>
    intro i h
    unfold metTo
    split
    · rw [Nat.testBit_or, ih i h]; rfl
    · exact ih i h
theorem metTo_has {g : Nat → Nat} {set f : Nat} : ∀ j u, u < j → f.testBit u = true → ∀ x, (g u).testBit x = true → set.testBit x = true → (metTo g set f j).testBit x = true := by
  intro j
  induction j with
  | zero => intro u h; omega
  | succ j ih =>
    intro u hu h x h1 h2
    unfold metTo
    rcases Nat.lt_succ_iff_lt_or_eq.1 hu with h4 | h4
    · split
      · rw [Nat.testBit_or, ih u h4 h x h1 h2]; rfl
      · exact ih u h4 h x h1 h2
    · subst h4
      rw [if_pos (metTo_sub _ _ h), Nat.testBit_or, Nat.testBit_and, h1, h2]
      simp
theorem metTo_in {g : Nat → Nat} {set f X n : Nat} (hf : ∀ i, f.testBit i = true → X.testBit i = true) (hX : ∀ u, u < n → X.testBit u = true → ∀ x, (g u).testBit x = true → set.testBit x = true → X.testBit x = true) : ∀ j, j ≤ n → ∀ i, (metTo g set f j).testBit i = true → X.testBit i = true := by
  intro j
  induction j with
  | zero => intro _ i h; exact hf i h
  | succ j ih =>
    intro hj i
    have ih := ih (by omega)
    unfold metTo
    split
    · rename_i hb
      rw [Nat.testBit_or, Bool.or_eq_true, Nat.testBit_and, Bool.and_eq_true]
      rintro (h | ⟨h1, h2⟩)
      · exact ih i h
      · exact hX j (by omega) (ih j hb) i h1 h2
    · exact ih i
theorem metIn_sub {g : Nat → Nat} {n set f : Nat} : ∀ k i, f.testBit i = true → (metIn n g set f k).testBit i = true := by
  intro k
  induction k with
  | zero => intro i h; exact h
  | succ k ih => intro i h; exact metTo_sub _ _ (ih i h)
theorem metIn_in {g : Nat → Nat} {set f X n : Nat} (hf : ∀ i, f.testBit i = true → X.testBit i = true) (hX : ∀ u, u < n → X.testBit u = true → ∀ x, (g u).testBit x = true → set.testBit x = true → X.testBit x = true) : ∀ k i, (metIn n g set f k).testBit i = true → X.testBit i = true := by
  intro k
  induction k with
  | zero => exact hf
  | succ k ih => exact metTo_in ih hX n (Nat.le_refl _)
theorem metIn_lt2 {g : Nat → Nat} {n m set f : Nat} (hf : f < 2 ^ m) (hr : ∀ i, i < n → g i < 2 ^ m) : ∀ k, metIn n g set f k < 2 ^ m := by
  have hto : ∀ f, f < 2 ^ m → ∀ j, j ≤ n → metTo g set f j < 2 ^ m := by
    intro f hf j
    induction j with
    | zero => intro _; exact hf
    | succ j ih =>
      intro hj
      have h1 := ih (by omega)
      unfold metTo
      split
      · exact Nat.or_lt_two_pow h1 (Nat.lt_of_le_of_lt Nat.and_le_left (hr j (by omega)))
      · exact h1
  intro k
  induction k with
  | zero => exact hf
  | succ k ih => exact hto _ ih n (Nat.le_refl _)

/-- How many numbers below n are in a set. -/
theorem szS_le (n T : Nat) : szS n T ≤ n := by
  unfold szS
  have := List.countP_le_length (p := fun v => T.testBit v) (l := List.range n)
  simpa using this
theorem countP_lt {α : Type} {p q : α → Bool} : ∀ {l : List α}, (∀ x ∈ l, p x = true → q x = true) → (∃ x ∈ l, p x = false ∧ q x = true) → l.countP p < l.countP q := by
  intro l
  induction l with
  | nil => intro _ h; obtain ⟨x, hx, _⟩ := h; cases hx
  | cons a l ih =>
    intro h1 h2
    have hle : l.countP p ≤ l.countP q := List.countP_mono_left fun x hx => h1 x (List.mem_cons_of_mem _ hx)
    rw [List.countP_cons, List.countP_cons]
    obtain ⟨x, hx, hp, hq⟩ := h2
    rcases List.mem_cons.1 hx with rfl | hx
    · simp [hp, hq]; omega
    · have := ih (fun x hx => h1 x (List.mem_cons_of_mem _ hx)) ⟨x, hx, hp, hq⟩
      have := h1 a (List.mem_cons_self ..)
      cases hpa : p a
      · simp; split <;> omega
      · simp [this hpa]; omega
theorem szS_mono {n a b : Nat} (h : ∀ i, i < n → a.testBit i = true → b.testBit i = true) : szS n a ≤ szS n b :=
  List.countP_mono_left fun x hx => h x (List.mem_range.1 hx)
theorem szS_lt {n a b : Nat} (h : ∀ i, i < n → a.testBit i = true → b.testBit i = true) {i : Nat} (hi : i < n) (h1 : a.testBit i = false) (h2 : b.testBit i = true) : szS n a < szS n b :=
  countP_lt (fun x hx => h x (List.mem_range.1 hx)) ⟨i, List.mem_range.2 hi, h1, h2⟩
theorem sz_pos {n a i : Nat} (hi : i < n) (h : a.testBit i = true) : 0 < szS n a := by
  unfold szS
  rw [List.countP_pos_iff]
  exact ⟨i, List.mem_range.2 hi, h⟩

theorem metIn_closed {g : Nat → Nat} {n set f : Nat} (hf : f < 2 ^ n) (hr : ∀ i, i < n → g i < 2 ^ n) (h0 : ∃ v, v < n ∧ f.testBit v = true) :
    ∀ u, u < n → (metIn n g set f n).testBit u = true → ∀ x, (g u).testBit x = true → set.testBit x = true → (metIn n g set f n).testBit x = true := by
  -- after k rounds either all is closed, or there are more than k in it
  have key : ∀ k, (∀ u, u < n → (metIn n g set f k).testBit u = true → ∀ x, (g u).testBit x = true → set.testBit x = true → (metIn n g set f k).testBit x = true) ∨ k < szS n (metIn n g set f k) := by
    intro k
    induction k with
    | zero =>
      obtain ⟨v, hv, hb⟩ := h0
      exact Or.inr (sz_pos hv hb)
    | succ k ih =>
      rcases ih with ih | ih
      · left
        have e : metIn n g set f (k + 1) = metIn n g set f k := by
          apply Nat.eq_of_testBit_eq
          intro i
          rw [Bool.eq_iff_iff]
          exact ⟨metTo_in (fun i h => h) ih n (Nat.le_refl _) i, metTo_sub n i⟩
        rw [e]; exact ih
      · by_cases hc : ∀ u, u < n → (metIn n g set f k).testBit u = true → ∀ x, (g u).testBit x = true → set.testBit x = true → (metIn n g set f k).testBit x = true
        · left
          have e : metIn n g set f (k + 1) = metIn n g set f k := by
            apply Nat.eq_of_testBit_eq
            intro i
            rw [Bool.eq_iff_iff]
            exact ⟨metTo_in (fun i h => h) hc n (Nat.le_refl _) i, metTo_sub n i⟩
          rw [e]; exact hc
        · right
          simp only [Classical.not_forall] at hc
          obtain ⟨u, hu, h1, x, h2, h3, h4⟩ := hc
          have hx : x < n := by
            apply Classical.byContradiction
            intro hx
            have := Nat.testBit_lt_two_pow (i := x) (Nat.lt_of_lt_of_le (hr u hu) (Nat.pow_le_pow_right (by omega) (by omega)))
            rw [this] at h2; cases h2
          have := szS_lt (n := n) (a := metIn n g set f k) (b := metIn n g set f (k + 1)) (fun i _ h => metTo_sub n i h) hx (by simpa using h4) (metTo_has n u hu h1 x h2 h3)
          omega
  rcases key n with h | h
  · exact h
  · have := szS_le n (metIn n g set f n); omega

/-- What is met is the least set with the node that nothing leaves. -/
theorem partS_is {r : Nat → Nat} {n set v f : Nat} (hv : v < n) (hr : ∀ i, i < n → r i < 2 ^ n) (h0 : f.testBit v = true)
    (hsub : ∀ i, f.testBit i = true → (partS n r set v).testBit i = true) (hcl : ∀ u, u < n → f.testBit u = true → ∀ x, (r u).testBit x = true → set.testBit x = true → f.testBit x = true) : f = partS n r set v := by
  apply Nat.eq_of_testBit_eq
  intro i
  rw [Bool.eq_iff_iff]
  refine ⟨hsub i, metIn_in (fun i h => ?_) hcl n i⟩
  rw [Nat.testBit_two_pow] at h
  have : v = i := of_decide_eq_true h
  subst this; exact h0
theorem pow_lt_pow {v n : Nat} (hv : v < n) : 2 ^ v < 2 ^ n := Nat.pow_lt_pow_right (by omega) hv
theorem bit_pow (v : Nat) : (2 ^ v).testBit v = true := by rw [Nat.testBit_two_pow]; simp
theorem partS_closed {r : Nat → Nat} {n set v : Nat} (hv : v < n) (hr : ∀ i, i < n → r i < 2 ^ n) : ∀ u, u < n → (partS n r set v).testBit u = true → ∀ x, (r u).testBit x = true → set.testBit x = true → (partS n r set v).testBit x = true :=
  metIn_closed (pow_lt_pow hv) hr ⟨v, hv, bit_pow v⟩
theorem partS_self {r : Nat → Nat} {n set v : Nat} : (partS n r set v).testBit v = true := metIn_sub n v (bit_pow v)
theorem partS_lt {r : Nat → Nat} {n set v : Nat} (hv : v < n) (hr : ∀ i, i < n → r i < 2 ^ n) : partS n r set v < 2 ^ n := metIn_lt2 (pow_lt_pow hv) hr n
theorem partS_in {r : Nat → Nat} {n set v i : Nat} (h : (partS n r set v).testBit i = true) : i = v ∨ set.testBit i = true := by
  have := metIn_in (g := r) (set := set) (f := 2 ^ v) (X := set ||| 2 ^ v) (n := n) (fun i h => by rw [Nat.testBit_or, h]; simp) (fun u _ _ x _ h => by rw [Nat.testBit_or, h]; rfl) n i h
  rw [Nat.testBit_or, Bool.or_eq_true, Nat.testBit_two_pow] at this
  rcases this with h1 | h1
  · exact Or.inr h1
  · exact Or.inl (of_decide_eq_true h1).symm

/-! ### turns -/

/-- The neighbours that node v has at its turn. -/
def leftS (n : Nat) (r : Nat → Nat) (gone v : Nat) : Nat := arnd n r (partS n r (gone ||| 2 ^ v) v)
/-- Their number, as the reference reckons it. -/
def turnR (n : Nat) (r : Nat → Nat) (gone v : Nat) : Nat := szS n (diff (diff (nbTo r (partS n r (gone ||| 2 ^ v) v) n) gone) (2 ^ v))
theorem left_turn {n : Nat} {r : Nat → Nat} (hr : ∀ i, i < n → r i < 2 ^ n) {gone v : Nat} (hv : v < n) : diff (diff (nbTo r (partS n r (gone ||| 2 ^ v) v) n) gone) (2 ^ v) = leftS n r gone v := by
  have hcl := partS_closed (set := gone ||| 2 ^ v) hv hr
  have hself := partS_self (r := r) (n := n) (set := gone ||| 2 ^ v) (v := v)
  have hin := fun i => partS_in (r := r) (n := n) (set := gone ||| 2 ^ v) (v := v) (i := i)
  unfold leftS arnd
  generalize partS n r (gone ||| 2 ^ v) v = P at *
  apply Nat.eq_of_testBit_eq
  intro i
  rw [testBit_diff, testBit_diff, testBit_diff]
  cases hb : (nbTo r P n).testBit i
  · rfl
  · obtain ⟨j, hj, h1, h2⟩ := (testBit_nbTo r P n i).1 hb
    have := hcl j hj h1 i h2
    rw [Nat.testBit_or] at this
    cases hp : P.testBit i
    · rw [hp] at this
      have h3 : (gone.testBit i || (2 ^ v).testBit i) = false := by
        cases h4 : (gone.testBit i || (2 ^ v).testBit i)
        · rfl
        · exact absurd (this h4) (by simp)
      simp only [Bool.or_eq_false_iff] at h3
      rw [h3.1, h3.2]; rfl
    · rcases hin i hp with h3 | h3
      · subst h3; rw [bit_pow]; simp
      · rw [Nat.testBit_or] at h3
        cases h4 : gone.testBit i
        · rw [h4] at h3; simp at h3; simp [h3]
        · simp

/-! ### the least widths -/

/-- The least width of an order of the nodes that are left. -/
def restW (n : Nat) (t : Nat → Nat → Nat) : Nat → Nat → Nat
  | 0, _ => 0
  | k + 1, gone => if gone = 2 ^ n - 1 then 0 else (List.range n).foldl (fun b v => if gone.testBit v then b else min b (max (restW n t k (gone ||| 2 ^ v)) (t gone v))) n

theorem or_pow_gt {gone v : Nat} (h : gone.testBit v = false) : gone < gone ||| 2 ^ v := by
  have h1 : gone ≤ gone ||| 2 ^ v := Nat.left_le_or
  rcases Nat.lt_or_eq_of_le h1 with h2 | h2
  · exact h2
  · have : (gone ||| 2 ^ v).testBit v = true := by rw [Nat.testBit_or, bit_pow]; simp
    rw [← h2, h] at this; cases this
theorem foldl_congr2 {α β : Type} {f g : β → α → β} : ∀ (l : List α) (b : β), (∀ b x, x ∈ l → f b x = g b x) → l.foldl f b = l.foldl g b := by
  intro l
  induction l with
  | nil => intro b _; rfl
  | cons a l ih =>
    intro b h
    rw [List.foldl_cons, List.foldl_cons, h b a (List.mem_cons_self ..)]
    exact ih _ fun b x hx => h b x (List.mem_cons_of_mem _ hx)
theorem restW_fuel {n : Nat} {t : Nat → Nat → Nat} : ∀ k k' gone, gone < 2 ^ n → 2 ^ n - gone ≤ k → 2 ^ n - gone ≤ k' → restW n t k gone = restW n t k' gone := by
  intro k
  induction k with
  | zero => intro k' gone h1 h2; omega
  | succ k ih =>
    intro k' gone h1 h2 h3
    obtain ⟨k', rfl⟩ : ∃ j, k' = j + 1 := ⟨k' - 1, by omega⟩
    unfold restW
    split
    · rfl
    · apply foldl_congr2
      intro b v hv
      have hv := List.mem_range.1 hv
      cases hb : gone.testBit v
      · have := or_pow_gt hb
        have hl : gone ||| 2 ^ v < 2 ^ n := Nat.or_lt_two_pow h1 (pow_lt_pow hv)
        rw [ih k' (gone ||| 2 ^ v) hl (by omega) (by omega)]
      · rfl
/-- The same with fuel enough. -/
def rst (n : Nat) (t : Nat → Nat → Nat) (gone : Nat) : Nat := restW n t (2 ^ n) gone
/-- The best among the first nodes. -/
def bestW (n : Nat) (t : Nat → Nat → Nat) (gone : Nat) : Nat → Nat
  | 0 => n
  | v + 1 => if gone.testBit v then bestW n t gone v else min (bestW n t gone v) (max (rst n t (gone ||| 2 ^ v)) (t gone v))
theorem bestW_succ (n : Nat) (t : Nat → Nat → Nat) (gone v : Nat) : bestW n t gone (v + 1) = if gone.testBit v then bestW n t gone v else min (bestW n t gone v) (max (rst n t (gone ||| 2 ^ v)) (t gone v)) := rfl
theorem rst_all (n : Nat) (t : Nat → Nat → Nat) : rst n t (2 ^ n - 1) = 0 := by
  unfold rst
  obtain ⟨k, hk⟩ : ∃ j, 2 ^ n = j + 1 := ⟨2 ^ n - 1, by have := Nat.two_pow_pos n; omega⟩
  rw [hk]; unfold restW; rw [← hk, if_pos rfl]
theorem rst_best {n : Nat} {t : Nat → Nat → Nat} {gone : Nat} (h : gone < 2 ^ n) (hne : gone ≠ 2 ^ n - 1) : rst n t gone = bestW n t gone n := by
  unfold rst
  obtain ⟨k, hk⟩ : ∃ j, 2 ^ n = j + 1 := ⟨2 ^ n - 1, by omega⟩
  have hfold : ∀ m, m ≤ n → (List.range m).foldl (fun b v => if gone.testBit v then b else min b (max (restW n t k (gone ||| 2 ^ v)) (t gone v))) n = bestW n t gone m := by
    intro m
    induction m with
    | zero => intro _; rfl
    | succ m ih =>
      intro hm
      rw [List.range_succ, List.foldl_append, ih (by omega)]
      rw [bestW_succ]
      show (if gone.testBit m then _ else _) = _
      cases hb : gone.testBit m
      · have h1 := or_pow_gt hb
        have hl : gone ||| 2 ^ m < 2 ^ n := Nat.or_lt_two_pow h (pow_lt_pow (by omega))
        rw [if_neg (by simp), if_neg (by simp), show restW n t k (gone ||| 2 ^ m) = rst n t (gone ||| 2 ^ m) from restW_fuel _ _ _ hl (by omega) (by omega)]
      · rfl
  conv => lhs; rw [hk]
  unfold restW
  rw [if_neg hne, hfold n (Nat.le_refl _)]
theorem bestW_le {n : Nat} {t : Nat → Nat → Nat} {gone : Nat} : ∀ k, bestW n t gone k ≤ n := by
  intro k
  induction k with
  | zero => exact Nat.le_refl _
  | succ k ih => unfold bestW; split <;> omega
theorem rst_le {n : Nat} {t : Nat → Nat → Nat} {gone : Nat} (h : gone < 2 ^ n) : rst n t gone ≤ n := by
  by_cases hne : gone = 2 ^ n - 1
  · rw [hne, rst_all]; omega
  · rw [rst_best h hne]; exact bestW_le n
theorem bestW_at {n : Nat} {t : Nat → Nat → Nat} {gone : Nat} : ∀ k v, v < k → gone.testBit v = false → bestW n t gone k ≤ max (rst n t (gone ||| 2 ^ v)) (t gone v) := by
  intro k
  induction k with
  | zero => intro v h; omega
  | succ k ih =>
    intro v hv hb
    unfold bestW
    rcases Nat.lt_succ_iff_lt_or_eq.1 hv with h4 | h4
    · have := ih v h4 hb
      split <;> omega
    · subst h4; rw [hb, if_neg (by simp)]; omega
theorem bestW_some {n : Nat} {t : Nat → Nat → Nat} {gone : Nat} : ∀ k, bestW n t gone k = n ∨ ∃ v, v < k ∧ gone.testBit v = false ∧ bestW n t gone k = max (rst n t (gone ||| 2 ^ v)) (t gone v) := by
  intro k
  induction k with
  | zero => exact Or.inl rfl
  | succ k ih =>
    unfold bestW
    cases hb : gone.testBit k
    · rw [if_neg (by simp)]
      by_cases h : bestW n t gone k ≤ max (rst n t (gone ||| 2 ^ k)) (t gone k)
      · rw [Nat.min_eq_left h]
        rcases ih with h1 | ⟨v, h1, h2⟩
        · exact Or.inl h1
        · exact Or.inr ⟨v, by omega, h2⟩
      · rw [Nat.min_eq_right (by omega)]
        exact Or.inr ⟨k, by omega, hb, rfl⟩
    · rw [if_pos rfl]
      rcases ih with h1 | ⟨v, h1, h2⟩
      · exact Or.inl h1
      · exact Or.inr ⟨v, by omega, h2⟩
/-- Some node keeps to the width that is reached. -/
theorem rst_next {n : Nat} {t : Nat → Nat → Nat} {gone W : Nat} (h : gone < 2 ^ n) (hne : gone ≠ 2 ^ n - 1) (ht : ∀ v, v < n → t gone v ≤ n) (hW : rst n t gone ≤ W) : ∃ v, v < n ∧ gone.testBit v = false ∧ t gone v ≤ W ∧ rst n t (gone ||| 2 ^ v) ≤ W := by
  rw [rst_best h hne] at hW
  rcases bestW_some (n := n) (t := t) (gone := gone) n with h1 | ⟨v, h1, h2, h3⟩
  · -- any node that is left
    have : ∃ v, v < n ∧ gone.testBit v = false := by
      apply Classical.byContradiction
      intro hc
      apply hne
      apply Nat.eq_of_testBit_eq
      intro i
      rw [Nat.testBit_two_pow_sub_one]
      by_cases hi : i < n
      · simp only [hi, decide_true]
        cases hb : gone.testBit i
        · exact absurd ⟨i, hi, hb⟩ hc
        · rfl
      · simp only [hi, decide_false]
        exact Nat.testBit_lt_two_pow (Nat.lt_of_lt_of_le h (Nat.pow_le_pow_right (by omega) (by omega)))
    obtain ⟨v, hv, hb⟩ := this
    have := ht v hv
    have := rst_le (t := t) (Nat.or_lt_two_pow h (pow_lt_pow hv))
    exact ⟨v, hv, hb, by omega, by omega⟩
  · exact ⟨v, h1, h2, by omega, by omega⟩

end Go.Proofs.YtfmppncefbjicaaDoor
