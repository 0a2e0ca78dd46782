/- A node or an edge less, or two neighbours joined to one: what becomes of the least width of an order. -/
import Derived.Test.YtombmfphodikjaaW41
namespace Go.Proofs.Ytombmfphodikjaa
set_option linter.unusedSimpArgs false
set_option linter.unusedVariables false

/-! ### ways -/

/-- What is reached from a node within a set. -/
inductive Rch (r : Nat → Nat) (s v : Nat) : Nat → Prop
  | refl : Rch r s v v
  | step {u x : Nat} : Rch r s v u → (r u).testBit x = true → s.testBit x = true → Rch r s v x
theorem bit_lt {x n i : Nat} (h : x < 2 ^ n) (hb : x.testBit i = true) : i < n := by
  apply Classical.byContradiction
  intro hn
  have := Nat.testBit_lt_two_pow (i := i) (Nat.lt_of_lt_of_le h (Nat.pow_le_pow_right (by omega) (by omega)))
  rw [this] at hb; cases hb
theorem met_rch {r : Nat → Nat} {s v f : Nat} (hf : ∀ i, f.testBit i = true → Rch r s v i) : ∀ j i, (metTo r s f j).testBit i = true → Rch r s v i := by
  intro j
  induction j with
  | zero => exact hf
  | succ j ih =>
    intro i
    unfold metTo
    split
    · rename_i hb
      rw [Nat.testBit_or, Bool.or_eq_true, Nat.testBit_and, Bool.and_eq_true]
      rintro (h | ⟨h1, h2⟩)
      · exact ih i h
      · exact .step (ih j hb) h1 h2
    · exact ih i
theorem part_rch {n : Nat} {r : Nat → Nat} {s v i : Nat} : (partS n r s v).testBit i = true → Rch r s v i := by
  have key : ∀ k i, (metIn n r s (2 ^ v) k).testBit i = true → Rch r s v i := by
    intro k
    induction k with
    | zero =>
      intro i h
      have h : (2 ^ v).testBit i = true := h
      rw [Nat.testBit_two_pow] at h
      have : v = i := of_decide_eq_true h
      subst this; exact .refl
    | succ k ih => exact met_rch ih n
  exact key n i
theorem rch_part {n : Nat} {r : Nat → Nat} {s v i : Nat} (hv : v < n) (hr : ∀ i, i < n → r i < 2 ^ n) (h : Rch r s v i) : (partS n r s v).testBit i = true := by
  induction h with
  | refl => exact partS_self
  | @step u x _ h1 h2 ih => exact partS_closed hv hr u (bit_lt (partS_lt hv hr) ih) ih x h1 h2
theorem left_iff {n : Nat} {r : Nat → Nat} (hr : ∀ i, i < n → r i < 2 ^ n) {g v u : Nat} (hv : v < n) : (leftS n r g v).testBit u = true ↔ (∃ j, j < n ∧ Rch r (g ||| 2 ^ v) v j ∧ (r j).testBit u = true) ∧ g.testBit u = false ∧ u ≠ v := by
  constructor
  · intro h
    obtain ⟨h1, h2, _⟩ := left_not hr hv h
    obtain ⟨⟨j, hj, h3, h4⟩, _⟩ := left_bit.1 h
    exact ⟨⟨j, hj, part_rch h3, h4⟩, h1, h2⟩
  · rintro ⟨⟨j, hj, h1, h2⟩, h3, h4⟩
    refine left_bit.2 ⟨⟨j, hj, rch_part hv hr h1, h2⟩, ?_⟩
    cases hp : (partS n r (g ||| 2 ^ v) v).testBit u
    · rfl
    · rcases partS_in hp with h5 | h5
      · exact absurd h5 h4
      · rw [Nat.testBit_or, h3, Nat.testBit_two_pow] at h5
        simp at h5
        exact absurd h5.symm h4

/-! ### numbers of nodes -/

theorem szS_cov1 {n m A B : Nat} (a : Nat) (f : Nat → Nat) (h : ∀ u, u < n → A.testBit u = true → u = a ∨ ∃ x, x < m ∧ B.testBit x = true ∧ f x = u) : szS n A ≤ szS m B + 1 := by
  unfold szS
  rw [List.countP_eq_length_filter, List.countP_eq_length_filter]
  have hnd : ((List.range n).filter fun v => A.testBit v).Nodup := List.nodup_range.filter _
  have := List.Nodup.length_le_of_subset hnd (l₂ := a :: ((List.range m).filter fun v => B.testBit v).map f) (fun u hu => by
    obtain ⟨h1, h2⟩ := List.mem_filter.1 hu
    rcases h u (List.mem_range.1 h1) h2 with h3 | ⟨x, h3, h4, h5⟩
    · rw [h3]; exact List.mem_cons_self ..
    · exact List.mem_cons_of_mem _ (List.mem_map.2 ⟨x, List.mem_filter.2 ⟨List.mem_range.2 h3, h4⟩, h5⟩))
  simpa using this
theorem szS_cov {n m A B : Nat} (f : Nat → Nat) (h : ∀ u, u < n → A.testBit u = true → ∃ x, x < m ∧ B.testBit x = true ∧ f x = u) : szS n A ≤ szS m B := by
  unfold szS
  rw [List.countP_eq_length_filter, List.countP_eq_length_filter]
  have hnd : ((List.range n).filter fun v => A.testBit v).Nodup := List.nodup_range.filter _
  have := List.Nodup.length_le_of_subset hnd (l₂ := ((List.range m).filter fun v => B.testBit v).map f) (fun u hu => by
    obtain ⟨h1, h2⟩ := List.mem_filter.1 hu
    obtain ⟨x, h3, h4, h5⟩ := h u (List.mem_range.1 h1) h2
    exact List.mem_map.2 ⟨x, List.mem_filter.2 ⟨List.mem_range.2 h3, h4⟩, h5⟩)
  simpa using this

/-! ### one elimination led by another one -/

theorem rst_sim {n n' c : Nat} {t t' : Nat → Nat → Nat} (hT : ∀ g v, v < n → t g v ≤ n) (S : Nat → Nat → Prop) (hlt : ∀ g g', S g g' → g < 2 ^ n ∧ g' < 2 ^ n') (hend : ∀ g', S (2 ^ n - 1) g' → rst n' t' g' ≤ c)
    (hstep : ∀ g g' v, S g g' → v < n → g.testBit v = false → S (g ||| 2 ^ v) g' ∨ ∃ v', v' < n' ∧ g'.testBit v' = false ∧ t' g' v' ≤ t g v + c ∧ S (g ||| 2 ^ v) (g' ||| 2 ^ v')) (W : Nat) :
    ∀ k g g', 2 ^ n - g ≤ k → S g g' → rst n t g ≤ W → rst n' t' g' ≤ W + c := by
  intro k
  induction k with
  | zero => intro g g' h1 h2; have := (hlt g g' h2).1; omega
  | succ k ih =>
    intro g g' h1 h2 h3
    obtain ⟨l1, l2⟩ := hlt g g' h2
    by_cases hne : g = 2 ^ n - 1
    · subst hne; have := hend g' h2; omega
    · obtain ⟨v, hv, b1, b2, b3⟩ := rst_next l1 hne (fun v hv => hT g v hv) h3
      have hgt := or_pow_gt b1
      rcases hstep g g' v h2 hv b1 with h4 | ⟨v', hv', c1, c2, c3⟩
      · exact ih _ g' (by omega) h4 b3
      · have h5 := ih _ _ (by omega) c3 b3
        have hne' : g' ≠ 2 ^ n' - 1 := by
          intro e
          rw [e, Nat.testBit_two_pow_sub_one, decide_eq_true hv'] at c1
          cases c1
        rw [rst_best l2 hne']
        have := bestW_at (n := n') (t := t') (gone := g') n' v' hv' c1
        omega
theorem rst_led {n n' c : Nat} {t t' : Nat → Nat → Nat} (hT : ∀ g v, v < n → t g v ≤ n) (S : Nat → Nat → Prop) (hlt : ∀ g g', S g g' → g < 2 ^ n ∧ g' < 2 ^ n') (hend : ∀ g', S (2 ^ n - 1) g' → rst n' t' g' ≤ c)
    (hstep : ∀ g g' v, S g g' → v < n → g.testBit v = false → S (g ||| 2 ^ v) g' ∨ ∃ v', v' < n' ∧ g'.testBit v' = false ∧ t' g' v' ≤ t g v + c ∧ S (g ||| 2 ^ v) (g' ||| 2 ^ v')) (h0 : S 0 0) : rst n' t' 0 ≤ rst n t 0 + c :=
  rst_sim hT S hlt hend hstep _ (2 ^ n) 0 0 (Nat.sub_le _ _) h0 (Nat.le_refl _)

theorem or_bit {g v u : Nat} : (g ||| 2 ^ v).testBit u = (g.testBit u || decide (v = u)) := by rw [Nat.testBit_or, Nat.testBit_two_pow]
theorem all_of {n g : Nat} (hg : g < 2 ^ n) (h : ∀ u, u < n → g.testBit u = true) : g = 2 ^ n - 1 := by
  apply Nat.eq_of_testBit_eq
  intro i
  rw [Nat.testBit_two_pow_sub_one]
  by_cases hi : i < n
  · rw [h i hi, decide_eq_true hi]
  · rw [decide_eq_false hi]
    exact Nat.testBit_lt_two_pow (Nat.lt_of_lt_of_le hg (Nat.pow_le_pow_right (by omega) (by omega)))
theorem all_bit {n u : Nat} (h : u < n) : (2 ^ n - 1).testBit u = true := by rw [Nat.testBit_two_pow_sub_one, decide_eq_true h]

/-- Fewer edges. -/
theorem rst_sub {n : Nat} {r r' : Nat → Nat} (hr : ∀ i, i < n → r i < 2 ^ n) (hr' : ∀ i, i < n → r' i < 2 ^ n) (h : ∀ u x, u < n → x < n → (r' u).testBit x = true → (r u).testBit x = true) : rst n (tn n r') 0 ≤ rst n (tn n r) 0 := by
  have := rst_led (n := n) (n' := n) (c := 0) (t := tn n r) (t' := tn n r') (fun g v _ => tn_le _ _ _ _) (fun g g' => g = g' ∧ g < 2 ^ n) (by rintro g g' ⟨rfl, h⟩; exact ⟨h, h⟩) (by rintro g' ⟨rfl, h⟩; rw [rst_all]; omega) ?_ ⟨rfl, Nat.two_pow_pos n⟩
  · simpa using this
  · rintro g g' v ⟨rfl, hg⟩ hv hb
    refine Or.inr ⟨v, hv, hb, ?_, rfl, Nat.or_lt_two_pow hg (pow_lt_pow hv)⟩
    refine szS_mono fun u hu hx => ?_
    obtain ⟨⟨j, hj, h1, h2⟩, h3, h4⟩ := (left_iff hr' hv).1 hx
    refine (left_iff hr hv).2 ⟨⟨j, hj, ?_, h j u hj hu h2⟩, h3, h4⟩
    clear h2 hx h3 h4 hu
    induction h1 with
    | refl => exact .refl
    | @step a b h5 h6 h7 ih =>
      have ha : a < n := by
        have := rch_part hv hr' h5
        exact bit_lt (partS_lt hv hr') this
      exact .step (ih ha) (h a b ha hj h6) h7

/-! ### a node less -/

/-- The graph without node a. -/
def woR (r : Nat → Nat) (a : Nat) (r' : Nat → Nat) (n : Nat) : Prop := (∀ u, u < n - 1 → r' u < 2 ^ (n - 1)) ∧ ∀ u x, u < n - 1 → x < n - 1 → (r' u).testBit x = (r (unD a u)).testBit (unD a x)

theorem rst_del {n a : Nat} {r r' : Nat → Nat} (ha : a < n) (hr : ∀ i, i < n → r i < 2 ^ n) (h : woR r a r' n) : rst (n - 1) (tn (n - 1) r') 0 ≤ rst n (tn n r) 0 := by
  obtain ⟨hr', he⟩ := h
  have := rst_led (n := n) (n' := n - 1) (c := 0) (t := tn n r) (t' := tn (n - 1) r') (fun g v _ => tn_le _ _ _ _) (fun g g' => g < 2 ^ n ∧ g' < 2 ^ (n - 1) ∧ ∀ u, u < n - 1 → g'.testBit u = g.testBit (unD a u)) (by rintro g g' ⟨h1, h2, _⟩; exact ⟨h1, h2⟩) ?_ ?_ ⟨Nat.two_pow_pos _, Nat.two_pow_pos _, fun u _ => by simp⟩
  · simpa using this
  · rintro g' ⟨_, h1, h2⟩
    rw [all_of h1 fun u hu => by rw [h2 u hu, all_bit (unD_lt hu)], rst_all]; omega
  · rintro g g' v ⟨h1, h2, h3⟩ hv hb
    by_cases e : v = a
    · subst e
      refine Or.inl ⟨Nat.or_lt_two_pow h1 (pow_lt_pow hv), h2, fun u hu => ?_⟩
      rw [or_bit, h3 u hu, decide_eq_false (fun e => unD_ne v u e.symm), Bool.or_false]
    · have hv' := reD_lt ha hv e
      refine Or.inr ⟨reD a v, hv', by rw [h3 _ hv', un_re e]; exact hb, ?_, Nat.or_lt_two_pow h1 (pow_lt_pow hv), Nat.or_lt_two_pow h2 (pow_lt_pow hv'), fun u hu => ?_⟩
      · refine szS_cov (reD a) fun u hu hx => ?_
        refine ⟨unD a u, unD_lt hu, ?_, re_un a u⟩
        obtain ⟨⟨j, hj, h4, h5⟩, h6, h7⟩ := (left_iff hr' hv').1 hx
        refine (left_iff hr hv).2 ⟨⟨unD a j, unD_lt hj, ?_, by rw [← he j u hj hu]; exact h5⟩, by rw [← h3 u hu]; exact h6, fun e2 => h7 (by rw [← e2, re_un])⟩
        clear h5 hx h6 h7 hu
        induction h4 with
        | refl => rw [un_re e]; exact .refl
        | @step x y h8 h9 h10 ih =>
          have hx : x < n - 1 := bit_lt (partS_lt hv' hr') (rch_part hv' hr' h8)
          refine .step (ih hx) (by rw [← he x y hx hj]; exact h9) ?_
          rw [or_bit] at h10 ⊢
          rw [h3 y hj] at h10
          rcases Bool.or_eq_true _ _ ▸ h10 with h11 | h11
          · rw [h11]; rfl
          · have : reD a v = y := of_decide_eq_true h11
            rw [← this, un_re e]; simp
      · rw [or_bit, or_bit, h3 u hu]
        congr 1
        rw [Bool.eq_iff_iff, decide_eq_true_eq, decide_eq_true_eq]
        exact ⟨fun h => by rw [← h, un_re e], fun h => by rw [h, re_un]⟩

theorem rst_add {n a : Nat} {r r' : Nat → Nat} (ha : a < n) (hr : ∀ i, i < n → r i < 2 ^ n) (h : woR r a r' n) : rst n (tn n r) 0 ≤ rst (n - 1) (tn (n - 1) r') 0 + 1 := by
  obtain ⟨hr', he⟩ := h
  refine rst_led (n := n - 1) (n' := n) (c := 1) (t := tn (n - 1) r') (t' := tn n r) (fun g v _ => tn_le _ _ _ _) (fun g' g => g < 2 ^ n ∧ g' < 2 ^ (n - 1) ∧ g.testBit a = false ∧ ∀ u, u < n - 1 → g'.testBit u = g.testBit (unD a u)) (by rintro g g' ⟨h1, h2, _⟩; exact ⟨h2, h1⟩) ?_ ?_ ⟨Nat.two_pow_pos _, Nat.two_pow_pos _, by simp, fun u _ => by simp⟩
  · rintro g ⟨h1, _, h2, h3⟩
    have hfull : ∀ u, u < n → u ≠ a → g.testBit u = true := by
      intro u hu hne
      have h4 := reD_lt ha hu hne
      have := h3 _ h4
      rw [all_bit h4, un_re hne] at this
      exact this.symm
    have hne : g ≠ 2 ^ n - 1 := by
      intro e
      rw [e, all_bit ha] at h2; cases h2
    rw [rst_best h1 hne]
    have h4 := bestW_at (n := n) (t := tn n r) (gone := g) n a ha h2
    have h5 : g ||| 2 ^ a = 2 ^ n - 1 := all_of (Nat.or_lt_two_pow h1 (pow_lt_pow ha)) fun u hu => by
      rw [or_bit]
      by_cases e : a = u
      · simp [e]
      · rw [hfull u hu (fun e2 => e e2.symm)]; rfl
    rw [h5, rst_all] at h4
    have h6 : tn n r g a ≤ szS 0 0 := szS_cov id fun u hu hx => by
      obtain ⟨_, h7, h8⟩ := (left_iff hr ha).1 hx
      rw [hfull u hu h8] at h7; cases h7
    have : szS 0 0 = 0 := rfl
    omega
  · rintro g' g v' ⟨h1, h2, h3, h4⟩ hv' hb
    have hv := unD_lt (i := a) hv'
    refine Or.inr ⟨unD a v', hv, by rw [← h4 v' hv']; exact hb, ?_, Nat.or_lt_two_pow h1 (pow_lt_pow hv), Nat.or_lt_two_pow h2 (pow_lt_pow hv'), by rw [or_bit, h3, decide_eq_false (unD_ne a v')]; rfl, fun u hu => ?_⟩
    · refine szS_cov1 a (unD a) fun u hu hx => ?_
      by_cases e : u = a
      · exact Or.inl e
      · right
        have hu' := reD_lt ha hu e
        refine ⟨reD a u, hu', ?_, un_re e⟩
        obtain ⟨⟨j, hj, h5, h6⟩, h7, h8⟩ := (left_iff hr hv).1 hx
        have key : ∀ j, Rch r (g ||| 2 ^ unD a v') (unD a v') j → j ≠ a ∧ (j < n) ∧ Rch r' (g' ||| 2 ^ v') v' (reD a j) := by
          intro j hj
          induction hj with
          | refl => exact ⟨unD_ne a v', hv, by rw [re_un]; exact .refl⟩
          | @step x y h8 h9 h10 ih =>
            obtain ⟨i1, i2, i3⟩ := ih
            rw [or_bit] at h10
            have hya : y ≠ a := by
              intro e2
              subst e2
              rw [h3, decide_eq_false (unD_ne y v')] at h10; cases h10
            have hyn : y < n := bit_lt (hr x i2) h9
            have hy' := reD_lt ha hyn hya
            refine ⟨hya, hyn, .step i3 ?_ ?_⟩
            · rw [he _ _ (reD_lt ha i2 i1) hy', un_re i1, un_re hya]; exact h9
            · rw [or_bit, h4 _ hy', un_re hya]
              rcases Bool.or_eq_true _ _ ▸ h10 with h11 | h11
              · rw [h11]; rfl
              · have h12 : unD a v' = y := of_decide_eq_true h11
                rw [← h12, re_un]; simp
        obtain ⟨k1, k2, k3⟩ := key j h5
        refine (left_iff hr' hv').2 ⟨⟨reD a j, reD_lt ha k2 k1, k3, ?_⟩, by rw [h4 _ hu', un_re e]; exact h7, fun e2 => h8 (by rw [← e2, un_re e])⟩
        rw [he _ _ (reD_lt ha k2 k1) hu', un_re k1, un_re e]; exact h6
    · rw [or_bit, or_bit, h4 u hu]
      congr 1
      rw [Bool.eq_iff_iff, decide_eq_true_eq, decide_eq_true_eq]
      exact ⟨fun h => by rw [h], fun h => unD_inj h⟩

/-! ### two neighbours joined to one -/

/-- The graph in which b is joined to a, without b. -/
def joR (r : Nat → Nat) (a b : Nat) (r' : Nat → Nat) (n : Nat) : Prop := (∀ u, u < n - 1 → r' u < 2 ^ (n - 1)) ∧ ∀ u x, u < n - 1 → x < n - 1 → ((r' u).testBit x = true ↔ u ≠ x ∧ ((r (unD b u)).testBit (unD b x) = true ∨ (unD b u = a ∧ (r b).testBit (unD b x) = true) ∨ (unD b x = a ∧ (r b).testBit (unD b u) = true)))

theorem rst_join {n a b : Nat} {r r' : Nat → Nat} (ha : a < n) (hb : b < n) (hab : a ≠ b) (hr : ∀ i, i < n → r i < 2 ^ n) (hs : ∀ u x, u < n → x < n → (r u).testBit x = (r x).testBit u) (hadj : (r a).testBit b = true) (h : joR r a b r' n) : rst (n - 1) (tn (n - 1) r') 0 ≤ rst n (tn n r) 0 := by
  obtain ⟨hr', he⟩ := h
  have hadj' : (r b).testBit a = true := by rw [hs b a hb ha]; exact hadj
  have ha' := reD_lt hb ha hab
  have hea : unD b (reD b a) = a := un_re hab
  -- ways in the graph that is joined are ways in the graph, where both are in the set, or neither counts
  have way : ∀ (s s' v v' : Nat), v < n → v' < n - 1 → (∀ u, u < n - 1 → unD b u ≠ a → s'.testBit u = true → s.testBit (unD b u) = true) → (s'.testBit (reD b a) = true → s.testBit a = true ∧ s.testBit b = true) →
      (unD b v' ≠ a → Rch r s v (unD b v')) → (unD b v' = a → Rch r s v a ∧ Rch r s v b) → ∀ j, Rch r' s' v' j → j < n - 1 ∧ (unD b j ≠ a → Rch r s v (unD b j)) ∧ (unD b j = a → Rch r s v a ∧ Rch r s v b) := by
    intro s s' v v' hv hv' q1 q2 q3 q4 j hj
    induction hj with
    | refl => exact ⟨hv', q3, q4⟩
    | @step x y h1 h2 h3 ih =>
      obtain ⟨i1, i2, i3⟩ := ih
      have hy : y < n - 1 := bit_lt (hr' x i1) h2
      have hyn := unD_lt (i := b) hy
      have hxn := unD_lt (i := b) i1
      obtain ⟨hne, h4⟩ := (he x y i1 hy).1 h2
      -- y is a neighbour of something that is reached
      have near : ∃ z, z < n ∧ Rch r s v z ∧ ((unD b y ≠ a → (r z).testBit (unD b y) = true) ∧ (unD b y = a → (r z).testBit a = true ∨ (r z).testBit b = true)) := by
        by_cases ex : unD b x = a
        · obtain ⟨r1, r2⟩ := i3 ex
          rcases h4 with h5 | ⟨_, h5⟩ | ⟨h5, h6⟩
          · exact ⟨a, ha, r1, fun _ => by rw [← ex]; exact h5, fun e => by rw [ex, e] at h5; exact Or.inl h5⟩
          · exact ⟨b, hb, r2, fun _ => h5, fun e => by rw [e] at h5; exact Or.inl h5⟩
          · exact absurd (unD_inj (ex.trans h5.symm)) hne
        · refine ⟨unD b x, hxn, i2 ex, ?_, ?_⟩
          · intro ey
            rcases h4 with h5 | ⟨h5, _⟩ | ⟨h5, _⟩
            · exact h5
            · exact absurd h5 ex
            · exact absurd h5 ey
          · intro ey
            rcases h4 with h5 | ⟨h5, _⟩ | ⟨_, h5⟩
            · rw [ey] at h5; exact Or.inl h5
            · exact absurd h5 ex
            · right; rw [hs _ _ hxn hb]; exact h5
      obtain ⟨z, hz, h5, h6, h7⟩ := near
      refine ⟨hy, fun ey => .step h5 (h6 ey) (q1 y hy ey h3), fun ey => ?_⟩
      have e2 : y = reD b a := by rw [← ey, re_un]
      rw [e2] at h3
      obtain ⟨s1, s2⟩ := q2 h3
      rcases h7 ey with h8 | h8
      · have := Rch.step h5 h8 s1
        exact ⟨this, .step this hadj s2⟩
      · have := Rch.step h5 h8 s2
        exact ⟨.step this hadj' s1, this⟩
  -- what is a neighbour of what is reached
  have nb : ∀ (s v : Nat), ∀ j u, j < n - 1 → u < n - 1 → (unD b j ≠ a → Rch r s v (unD b j)) → (unD b j = a → Rch r s v a ∧ Rch r s v b) → (r' j).testBit u = true → ∃ z, z < n ∧ Rch r s v z ∧ ((unD b u ≠ a → (r z).testBit (unD b u) = true) ∧ (unD b u = a → (r z).testBit a = true ∨ (r z).testBit b = true)) := by
    intro s v j u hj hu i2 i3 h2
    have hyn := unD_lt (i := b) hu
    have hxn := unD_lt (i := b) hj
    obtain ⟨hne, h4⟩ := (he j u hj hu).1 h2
    by_cases ex : unD b j = a
    · obtain ⟨r1, r2⟩ := i3 ex
      rcases h4 with h5 | ⟨_, h5⟩ | ⟨h5, h6⟩
      · exact ⟨a, ha, r1, fun _ => by rw [← ex]; exact h5, fun e => by rw [ex, e] at h5; exact Or.inl h5⟩
      · exact ⟨b, hb, r2, fun _ => h5, fun e => by rw [e] at h5; exact Or.inl h5⟩
      · exact absurd (unD_inj (ex.trans h5.symm)) hne
    · refine ⟨unD b j, hxn, i2 ex, ?_, ?_⟩
      · intro ey
        rcases h4 with h5 | ⟨h5, _⟩ | ⟨h5, _⟩
        · exact h5
        · exact absurd h5 ex
        · exact absurd h5 ey
      · intro ey
        rcases h4 with h5 | ⟨h5, _⟩ | ⟨_, h5⟩
        · rw [ey] at h5; exact Or.inl h5
        · exact absurd h5 ex
        · right; rw [hs _ _ hxn hb]; exact h5
  have := rst_led (n := n) (n' := n - 1) (c := 0) (t := tn n r) (t' := tn (n - 1) r') (fun g v _ => tn_le _ _ _ _) (fun g g' => g < 2 ^ n ∧ g' < 2 ^ (n - 1) ∧ (∀ u, u < n - 1 → unD b u ≠ a → g'.testBit u = g.testBit (unD b u)) ∧ g'.testBit (reD b a) = (g.testBit a && g.testBit b)) (by rintro g g' ⟨h1, h2, _⟩; exact ⟨h1, h2⟩) ?_ ?_ ⟨Nat.two_pow_pos _, Nat.two_pow_pos _, fun u _ _ => by simp, by simp⟩
  · simpa using this
  · rintro g' ⟨_, h1, h2, h3⟩
    rw [all_of h1 fun u hu => ?_, rst_all]
    · omega
    · by_cases e : unD b u = a
      · have e2 : u = reD b a := by rw [← e, re_un]
        rw [e2, h3, all_bit ha, all_bit hb]; rfl
      · rw [h2 u hu e, all_bit (unD_lt hu)]
  · rintro g g' v ⟨h1, h2, h3, h4⟩ hv hbv
    have hg1 := Nat.or_lt_two_pow h1 (pow_lt_pow hv)
    by_cases hvab : v = a ∨ v = b
    · -- one of the two
      obtain ⟨o, ho, hov, hvo⟩ : ∃ o, o < n ∧ o ≠ v ∧ ((v = a ∧ o = b) ∨ (v = b ∧ o = a)) := by
        rcases hvab with e | e
        · exact ⟨b, hb, by omega, Or.inl ⟨e, rfl⟩⟩
        · exact ⟨a, ha, by omega, Or.inr ⟨e, rfl⟩⟩
      have hvo' : (r v).testBit o = true := by rcases hvo with ⟨e1, e2⟩ | ⟨e1, e2⟩ <;> subst e1 <;> subst e2 <;> assumption
      have other : ∀ u, u < n - 1 → unD b u ≠ a → (g ||| 2 ^ v).testBit (unD b u) = g.testBit (unD b u) := by
        intro u hu hne
        have := unD_ne b u
        rw [or_bit, decide_eq_false (by rcases hvab with e | e <;> omega), Bool.or_false]
      have hboth : (g ||| 2 ^ v).testBit a = (g.testBit a || decide (v = a)) := or_bit
      have hboth2 : (g ||| 2 ^ v).testBit b = (g.testBit b || decide (v = b)) := or_bit
      cases hgo : g.testBit o
      · refine Or.inl ⟨hg1, h2, fun u hu hne => by rw [other u hu hne]; exact h3 u hu hne, ?_⟩
        rw [h4, hboth, hboth2]
        rcases hvo with ⟨e1, e2⟩ | ⟨e1, e2⟩
        · subst e1; subst e2
          rw [hgo, hbv]; simp [hab]
        · subst e1; subst e2
          rw [hgo, hbv]; simp [hab, Ne.symm hab]
      · have hga' : g'.testBit (reD b a) = false := by
          rw [h4]
          rcases hvo with ⟨e1, e2⟩ | ⟨e1, e2⟩
          · subst e1; rw [hbv]; rfl
          · subst e1; rw [hbv]; simp
        refine Or.inr ⟨reD b a, ha', hga', ?_, hg1, Nat.or_lt_two_pow h2 (pow_lt_pow ha'), fun u hu hne => ?_, ?_⟩
        · refine szS_cov (reD b) fun u hu hx => ?_
          obtain ⟨⟨j, hj, h5, h6⟩, h7, h8⟩ := (left_iff hr' ha').1 hx
          have une : unD b u ≠ a := fun e => h8 (by rw [← e, re_un])
          have rv : Rch r (g ||| 2 ^ v) v o := .step .refl hvo' (by rw [or_bit, hgo]; rfl)
          have rab : Rch r (g ||| 2 ^ v) v a ∧ Rch r (g ||| 2 ^ v) v b := by
            rcases hvo with ⟨e1, e2⟩ | ⟨e1, e2⟩
            · subst e1; subst e2; exact ⟨.refl, rv⟩
            · subst e1; subst e2; exact ⟨rv, .refl⟩
          have sab : (g ||| 2 ^ v).testBit a = true ∧ (g ||| 2 ^ v).testBit b = true := by
            rw [hboth, hboth2]
            rcases hvo with ⟨e1, e2⟩ | ⟨e1, e2⟩
            · subst e1; subst e2; rw [hgo]; simp
            · subst e1; subst e2; rw [hgo]; simp
          obtain ⟨k1, k2, k3⟩ := way (g ||| 2 ^ v) (g' ||| 2 ^ reD b a) v (reD b a) hv ha' (fun u hu hne hb2 => by
            rw [or_bit, decide_eq_false (fun e => hne (by rw [← e, hea])), Bool.or_false, h3 u hu hne] at hb2
            rw [or_bit, hb2]; rfl) (fun _ => sab) (fun e => absurd hea e) (fun _ => rab) j h5
          obtain ⟨z, z1, z2, z3, _⟩ := nb (g ||| 2 ^ v) v j u k1 hu k2 k3 h6
          refine ⟨unD b u, unD_lt hu, (left_iff hr hv).2 ⟨⟨z, z1, z2, z3 une⟩, by rw [← h3 u hu une]; exact h7, fun e => ?_⟩, re_un b u⟩
          have := unD_ne b u
          rcases hvab with e2 | e2 <;> omega
        · rw [other u hu hne, or_bit, h3 u hu hne, decide_eq_false (fun e => hne (by rw [← e, hea])), Bool.or_false]
        · rw [or_bit, hboth, hboth2]
          rcases hvo with ⟨e1, e2⟩ | ⟨e1, e2⟩
          · subst e1; subst e2; rw [hgo]; simp
          · subst e1; subst e2; rw [hgo]; simp
    · have va : v ≠ a := fun e => hvab (Or.inl e)
      have vb : v ≠ b := fun e => hvab (Or.inr e)
      have hv' := reD_lt hb hv vb
      have hev : unD b (reD b v) = v := un_re vb
      have hbit : ∀ u, u < n - 1 → unD b u ≠ a → (g' ||| 2 ^ reD b v).testBit u = (g ||| 2 ^ v).testBit (unD b u) := by
        intro u hu hne
        rw [or_bit, or_bit, h3 u hu hne]
        congr 1
        rw [Bool.eq_iff_iff, decide_eq_true_eq, decide_eq_true_eq]
        exact ⟨fun h => by rw [← h, hev], fun h => by rw [h, re_un]⟩
      have hne2 : reD b v ≠ reD b a := fun e => va (by rw [← hev, e, hea])
      have hab2 : (g' ||| 2 ^ reD b v).testBit (reD b a) = ((g ||| 2 ^ v).testBit a && (g ||| 2 ^ v).testBit b) := by
        rw [or_bit, or_bit, or_bit, decide_eq_false hne2, decide_eq_false va, decide_eq_false vb, h4]; simp
      refine Or.inr ⟨reD b v, hv', by rw [h3 _ hv' (by rw [hev]; exact va), hev]; exact hbv, ?_, hg1, Nat.or_lt_two_pow h2 (pow_lt_pow hv'), hbit, hab2⟩
      refine szS_cov (fun x => if x = b then reD b a else reD b x) fun u hu hx => ?_
      obtain ⟨⟨j, hj, h5, h6⟩, h7, h8⟩ := (left_iff hr' hv').1 hx
      obtain ⟨k1, k2, k3⟩ := way (g ||| 2 ^ v) (g' ||| 2 ^ reD b v) v (reD b v) hv hv' (fun u hu hne hb2 => by rw [← hbit u hu hne]; exact hb2) (fun e => by rw [hab2, Bool.and_eq_true] at e; exact e) (fun _ => by rw [hev]; exact .refl) (fun e => absurd (hev.symm.trans e) va) j h5
      obtain ⟨z, z1, z2, z3, z4⟩ := nb (g ||| 2 ^ v) v j u k1 hu k2 k3 h6
      by_cases eu : unD b u = a
      · have e2 : u = reD b a := by rw [← eu, re_un]
        -- a or b is left
        have hgo : (g.testBit a && g.testBit b) = false := by rw [← h4, ← e2]; exact h7
        have fa : (leftS n r g v).testBit a = true → ∃ x, x < n ∧ (leftS n r g v).testBit x = true ∧ (if x = b then reD b a else reD b x) = u := fun h => ⟨a, ha, h, by rw [if_neg hab, e2]⟩
        have fb : (leftS n r g v).testBit b = true → ∃ x, x < n ∧ (leftS n r g v).testBit x = true ∧ (if x = b then reD b a else reD b x) = u := fun h => ⟨b, hb, h, by rw [if_pos rfl, e2]⟩
        cases hga : g.testBit a
        · cases hgb : g.testBit b
          · rcases z4 eu with h9 | h9
            · exact fa ((left_iff hr hv).2 ⟨⟨z, z1, z2, h9⟩, hga, fun e => va e.symm⟩)
            · exact fb ((left_iff hr hv).2 ⟨⟨z, z1, z2, h9⟩, hgb, fun e => vb e.symm⟩)
          · rcases z4 eu with h9 | h9
            · exact fa ((left_iff hr hv).2 ⟨⟨z, z1, z2, h9⟩, hga, fun e => va e.symm⟩)
            · exact fa ((left_iff hr hv).2 ⟨⟨b, hb, .step z2 h9 (by rw [or_bit, hgb]; rfl), hadj'⟩, hga, fun e => va e.symm⟩)
        · have hgb : g.testBit b = false := by rw [hga] at hgo; simpa using hgo
          rcases z4 eu with h9 | h9
          · exact fb ((left_iff hr hv).2 ⟨⟨a, ha, .step z2 h9 (by rw [or_bit, hga]; rfl), hadj⟩, hgb, fun e => vb e.symm⟩)
          · exact fb ((left_iff hr hv).2 ⟨⟨z, z1, z2, h9⟩, hgb, fun e => vb e.symm⟩)
      · refine ⟨unD b u, unD_lt hu, (left_iff hr hv).2 ⟨⟨z, z1, z2, z3 eu⟩, by rw [← h3 u hu eu]; exact h7, fun e => h8 (by rw [← e, re_un])⟩, ?_⟩
        show (if unD b u = b then reD b a else reD b (unD b u)) = u
        rw [if_neg (unD_ne b u), re_un]

end Go.Proofs.Ytombmfphodikjaa
