/- Package minor: a minor is no wider than the town (ways and rst_led as in width's text W60). -/
import Derived.Test.YtfmppncefbjicaaDoorWdW12
namespace Go.Proofs.YtfmppncefbjicaaDoor
set_option linter.unusedSimpArgs false
set_option linter.unusedVariables false

theorem left_bit {n : Nat} {r : Nat → Nat} {gone v u : Nat} : (leftS n r gone v).testBit u = true ↔ (∃ j, j < n ∧ (partS n r (gone ||| 2 ^ v) v).testBit j = true ∧ (r j).testBit u = true) ∧ (partS n r (gone ||| 2 ^ v) v).testBit u = false := testBit_arnd _ _ _ _
theorem left_not {n : Nat} {r : Nat → Nat} (hr : ∀ i, i < n → r i < 2 ^ n) {gone v u : Nat} (hv : v < n) (h : (leftS n r gone v).testBit u = true) : gone.testBit u = false ∧ u ≠ v ∧ u < n := by
  obtain ⟨⟨j, hj, h1, h2⟩, h3⟩ := left_bit.1 h
  refine ⟨?_, fun e => ?_, ?_⟩
  · cases hg : gone.testBit u
    · rfl
    · rw [partS_closed hv hr j hj h1 u h2 (by rw [Nat.testBit_or, hg]; rfl)] at h3; cases h3
  · subst e; rw [partS_self] at h3; cases h3
  · apply Classical.byContradiction
    intro hn
    have := Nat.testBit_lt_two_pow (i := u) (Nat.lt_of_lt_of_le (hr j hj) (Nat.pow_le_pow_right (by omega) (by omega)))
    rw [this] at h2; cases h2

/-! ### ways -/

/-- What is reached from a node within a set. -/
inductive Rch (r : Nat → Nat) (s v : Nat) : Nat → Prop
  | refl : Rch r s v v
  | step {u x : Nat} : Rch r s v u → (r u).testBit x = true → s.testBit x = true → Rch r s v x
theorem bit_lt {x n i : Nat} (h : x < 2 ^ n) (hb : x.testBit i = true) : i < n := by
  apply Classical.byContradiction
  intro hn
  have := Nat.testBit_lt_two_pow (i := i) (Nat.lt_of_lt_of_le h (Nat.pow_le_pow_right (by omega) (by omega)))
  rw [this] at hb; cases hb
theorem met_rch {r : Nat → Nat} {s v f : Nat} (hf : ∀ i, f.testBit i = true → Rch r s v i) : ∀ j i, (metTo r s f j).testBit i = true → Rch r s v i := by
  intro j
  induction j with
  | zero => exact hf
  | succ j ih =>
    intro i
    unfold metTo
    split
    · rename_i hb
      rw [Nat.testBit_or, Bool.or_eq_true, Nat.testBit_and, Bool.and_eq_true]
      rintro (h | ⟨h1, h2⟩)
      · exact ih i h
      · exact .step (ih j hb) h1 h2
    · exact ih i
theorem part_rch {n : Nat} {r : Nat → Nat} {s v i : Nat} : (partS n r s v).testBit i = true → Rch r s v i := by
  have key : ∀ k i, (metIn n r s (2 ^ v) k).testBit i = true → Rch r s v i := by
    intro k
    induction k with
    | zero =>
      intro i h
      have h : (2 ^ v).testBit i = true := h
      rw [Nat.testBit_two_pow] at h
      have : v = i := of_decide_eq_true h
      subst this; exact .refl
    | succ k ih => exact met_rch ih n
  exact key n i
theorem rch_part {n : Nat} {r : Nat → Nat} {s v i : Nat} (hv : v < n) (hr : ∀ i, i < n → r i < 2 ^ n) (h : Rch r s v i) : (partS n r s v).testBit i = true := by
  induction h with
  | refl => exact partS_self
  | @step u x _ h1 h2 ih => exact partS_closed hv hr u (bit_lt (partS_lt hv hr) ih) ih x h1 h2
theorem left_iff {n : Nat} {r : Nat → Nat} (hr : ∀ i, i < n → r i < 2 ^ n) {g v u : Nat} (hv : v < n) : (leftS n r g v).testBit u = true ↔ (∃ j, j < n ∧ Rch r (g ||| 2 ^ v) v j ∧ (r j).testBit u = true) ∧ g.testBit u = false ∧ u ≠ v := by
  constructor
  · intro h
    obtain ⟨h1, h2, _⟩ := left_not hr hv h
    obtain ⟨⟨j, hj, h3, h4⟩, _⟩ := left_bit.1 h
    exact ⟨⟨j, hj, part_rch h3, h4⟩, h1, h2⟩
  · rintro ⟨⟨j, hj, h1, h2⟩, h3, h4⟩
    refine left_bit.2 ⟨⟨j, hj, rch_part hv hr h1, h2⟩, ?_⟩
    cases hp : (partS n r (g ||| 2 ^ v) v).testBit u
    · rfl
    · rcases partS_in hp with h5 | h5
      · exact absurd h5 h4
      · rw [Nat.testBit_or, h3, Nat.testBit_two_pow] at h5
        simp at h5
        exact absurd h5.symm h4

/-! ### numbers of nodes -/

theorem szS_cov1 {n m A B : Nat} (a : Nat) (f : Nat → Nat) (h : ∀ u, u < n → A.testBit u = true → u = a ∨ ∃ x, x < m ∧ B.testBit x = true ∧ f x = u) : szS n A ≤ szS m B + 1 := by
  unfold szS
  rw [List.countP_eq_length_filter, List.countP_eq_length_filter]
  have hnd : ((List.range n).filter fun v => A.testBit v).Nodup := List.nodup_range.filter _
  have := List.Nodup.length_le_of_subset hnd (l₂ := a :: ((List.range m).filter fun v => B.testBit v).map f) (fun u hu => by
    obtain ⟨h1, h2⟩ := List.mem_filter.1 hu
    rcases h u (List.mem_range.1 h1) h2 with h3 | ⟨x, h3, h4, h5⟩
    · rw [h3]; exact List.mem_cons_self ..
    · exact List.mem_cons_of_mem _ (List.mem_map.2 ⟨x, List.mem_filter.2 ⟨List.mem_range.2 h3, h4⟩, h5⟩))
  simpa using this
theorem szS_cov {n m A B : Nat} (f : Nat → Nat) (h : ∀ u, u < n → A.testBit u = true → ∃ x, x < m ∧ B.testBit x = true ∧ f x = u) : szS n A ≤ szS m B := by
  unfold szS
  rw [List.countP_eq_length_filter, List.countP_eq_length_filter]
  have hnd : ((List.range n).filter fun v => A.testBit v).Nodup := List.nodup_range.filter _
  have := List.Nodup.length_le_of_subset hnd (l₂ := ((List.range m).filter fun v => B.testBit v).map f) (fun u hu => by
    obtain ⟨h1, h2⟩ := List.mem_filter.1 hu
    obtain ⟨x, h3, h4, h5⟩ := h u (List.mem_range.1 h1) h2
    exact List.mem_map.2 ⟨x, List.mem_filter.2 ⟨List.mem_range.2 h3, h4⟩, h5⟩)
  simpa using this

/-! ### one elimination led by another one -/

theorem rst_sim {n n' c : Nat} {t t' : Nat → Nat → Nat} (hT : ∀ g v, v < n → t g v ≤ n) (S : Nat → Nat → Prop) (hlt : ∀ g g', S g g' → g < 2 ^ n ∧ g' < 2 ^ n') (hend : ∀ g', S (2 ^ n - 1) g' → rst n' t' g' ≤ c)
    (hstep : ∀ g g' v, S g g' → v < n → g.testBit v = false → S (g ||| 2 ^ v) g' ∨ ∃ v', v' < n' ∧ g'.testBit v' = false ∧ t' g' v' ≤ t g v + c ∧ S (g ||| 2 ^ v) (g' ||| 2 ^ v')) (W : Nat) :
    ∀ k g g', 2 ^ n - g ≤ k → S g g' → rst n t g ≤ W → rst n' t' g' ≤ W + c := by
  intro k
  induction k with
  | zero => intro g g' h1 h2; have := (hlt g g' h2).1; omega
  | succ k ih =>
    intro g g' h1 h2 h3
    obtain ⟨l1, l2⟩ := hlt g g' h2
    by_cases hne : g = 2 ^ n - 1
    · subst hne; have := hend g' h2; omega
    · obtain ⟨v, hv, b1, b2, b3⟩ := rst_next l1 hne (fun v hv => hT g v hv) h3
      have hgt := or_pow_gt b1
      rcases hstep g g' v h2 hv b1 with h4 | ⟨v', hv', c1, c2, c3⟩
      · exact ih _ g' (by omega) h4 b3
      · have h5 := ih _ _ (by omega) c3 b3
        have hne' : g' ≠ 2 ^ n' - 1 := by
          intro e
          rw [e, Nat.testBit_two_pow_sub_one, decide_eq_true hv'] at c1
          cases c1
        rw [rst_best l2 hne']
        have := bestW_at (n := n') (t := t') (gone := g') n' v' hv' c1
        omega
theorem rst_led {n n' c : Nat} {t t' : Nat → Nat → Nat} (hT : ∀ g v, v < n → t g v ≤ n) (S : Nat → Nat → Prop) (hlt : ∀ g g', S g g' → g < 2 ^ n ∧ g' < 2 ^ n') (hend : ∀ g', S (2 ^ n - 1) g' → rst n' t' g' ≤ c)
    (hstep : ∀ g g' v, S g g' → v < n → g.testBit v = false → S (g ||| 2 ^ v) g' ∨ ∃ v', v' < n' ∧ g'.testBit v' = false ∧ t' g' v' ≤ t g v + c ∧ S (g ||| 2 ^ v) (g' ||| 2 ^ v')) (h0 : S 0 0) : rst n' t' 0 ≤ rst n t 0 + c :=
  rst_sim hT S hlt hend hstep _ (2 ^ n) 0 0 (Nat.sub_le _ _) h0 (Nat.le_refl _)

theorem or_bit {g v u : Nat} : (g ||| 2 ^ v).testBit u = (g.testBit u || decide (v = u)) := by rw [Nat.testBit_or, Nat.testBit_two_pow]
theorem all_of {n g : Nat} (hg : g < 2 ^ n) (h : ∀ u, u < n → g.testBit u = true) : g = 2 ^ n - 1 := by
  apply Nat.eq_of_testBit_eq
  intro i
  rw [Nat.testBit_two_pow_sub_one]
  by_cases hi : i < n
  · rw [h i hi, decide_eq_true hi]
  · rw [decide_eq_false hi]
    exact Nat.testBit_lt_two_pow (Nat.lt_of_lt_of_le hg (Nat.pow_le_pow_right (by omega) (by omega)))
theorem all_bit {n u : Nat} (h : u < n) : (2 ^ n - 1).testBit u = true := by rw [Nat.testBit_two_pow_sub_one, decide_eq_true h]

theorem Rch.mono {r : Nat → Nat} {s s' v u : Nat} (hs : ∀ x, s.testBit x = true → s'.testBit x = true) (h : Rch r s v u) : Rch r s' v u := by
  induction h with
  | refl => exact .refl
  | @step a b _ h2 h3 ih => exact .step ih h2 (hs b h3)
theorem Rch.trans {r : Nat → Nat} {s v u x : Nat} (h : Rch r s v u) (k : Rch r s u x) : Rch r s v x := by
  induction k with
  | refl => exact h
  | @step a b _ h2 h3 ih => exact .step ih h2 h3
theorem Rch.in_ {r : Nat → Nat} {s v u : Nat} (h : Rch r s v u) (hv : s.testBit v = true) : s.testBit u = true := by
  cases h with
  | refl => exact hv
  | step _ _ h3 => exact h3
theorem Rch.symm {n : Nat} {r : Nat → Nat} {s v u : Nat} (hr : ∀ i, i < n → r i < 2 ^ n) (hs : ∀ u x, u < n → x < n → (r u).testBit x = (r x).testBit u) (hv : v < n) (hsv : s.testBit v = true) (h : Rch r s v u) : u < n ∧ Rch r s u v := by
  induction h with
  | refl => exact ⟨hv, .refl⟩
  | @step a b h1 h2 h3 ih =>
    have hb : b < n := bit_lt (hr a ih.1) h2
    refine ⟨hb, Rch.trans (.step .refl (by rw [hs b a hb ih.1]; exact h2) (h1.in_ hsv)) ih.2⟩

/-- A town is no wider than one that it is a minor of: the sets, one for each node. -/
structure ModelOf (n q : Nat) (r pr B : Nat → Nat) : Prop where
  lt : ∀ i, i < q → B i < 2 ^ n
  some_ : ∀ i, i < q → ∃ x, (B i).testBit x = true
  apart : ∀ i j x, i < q → j < q → (B i).testBit x = true → (B j).testBit x = true → i = j
  conn : ∀ i x y, i < q → (B i).testBit x = true → (B i).testBit y = true → Rch r (B i) x y
  edge : ∀ i j, i < q → j < q → (pr i).testBit j = true → ∃ x y, (B i).testBit x = true ∧ (B j).testBit y = true ∧ (r x).testBit y = true
/-- The set in which a node is. -/
def idxB (q : Nat) (B : Nat → Nat) (x : Nat) : Nat := ((List.range q).find? fun i => (B i).testBit x).getD 0
theorem ModelOf.idx {n q : Nat} {r pr B : Nat → Nat} (M : ModelOf n q r pr B) {i x : Nat} (hi : i < q) (hx : (B i).testBit x = true) : idxB q B x = i := by
  unfold idxB
  cases hf : (List.range q).find? fun i => (B i).testBit x with
  | none =>
    rw [List.find?_eq_none] at hf
    exact absurd hx (hf i (List.mem_range.2 hi))
  | some j =>
    have h1 := List.find?_some hf
    have h2 := List.mem_range.1 (List.mem_of_find?_eq_some hf)
    exact M.apart j i x h2 hi h1 hx

theorem rst_minor {n q : Nat} {r pr B : Nat → Nat} (hr : ∀ i, i < n → r i < 2 ^ n) (hpr : ∀ i, i < q → pr i < 2 ^ q) (M : ModelOf n q r pr B) : rst q (Wd.tn q pr) 0 ≤ rst n (Wd.tn n r) 0 := by
  have := rst_led (n := n) (n' := q) (c := 0) (t := Wd.tn n r) (t' := Wd.tn q pr) (fun g v _ => Wd.tn_le _ _ _ _) (fun g g' => g < 2 ^ n ∧ g' < 2 ^ q ∧ ∀ i, i < q → (g'.testBit i = true ↔ ∀ x, (B i).testBit x = true → g.testBit x = true)) (by rintro g g' ⟨h1, h2, _⟩; exact ⟨h1, h2⟩) ?_ ?_ ⟨Nat.two_pow_pos _, Nat.two_pow_pos _, fun i hi => ?_⟩
  · simpa using this
  · rintro g' ⟨_, h1, h2⟩
    rw [all_of h1 fun u hu => (h2 u hu).2 fun x hx => all_bit (bit_lt (M.lt u hu) hx), rst_all]; omega
  · rintro g g' v ⟨h1, h2, h3⟩ hv hbv
    have hg1 := Nat.or_lt_two_pow h1 (pow_lt_pow hv)
    by_cases hx : ∃ i, i < q ∧ (B i).testBit v = true ∧ ∀ x, (B i).testBit x = true → (g ||| 2 ^ v).testBit x = true
    · obtain ⟨i, hi, hiv, hall⟩ := hx
      have hi' : g'.testBit i = false := by
        rw [Bool.eq_false_iff]
        intro h
        have := (h3 i hi).1 h v hiv
        rw [hbv] at this; cases this
      refine Or.inr ⟨i, hi, hi', ?_, hg1, Nat.or_lt_two_pow h2 (pow_lt_pow hi), fun m hm => ?_⟩
      · refine szS_cov (idxB q B) fun j hj hx => ?_
        obtain ⟨⟨k, hk, h5, h6⟩, h7, h8⟩ := (left_iff hpr hi).1 hx
        have lift : ∀ k, Rch pr (g' ||| 2 ^ i) i k → k < q ∧ ∀ x, (B k).testBit x = true → Rch r (g ||| 2 ^ v) v x := by
          intro k hk
          induction hk with
          | refl => exact ⟨hi, fun x hx => (M.conn i v x hi hiv hx).mono hall⟩
          | @step u x _ h10 h11 ih =>
            obtain ⟨i1, i2⟩ := ih
            have hxq : x < q := bit_lt (hpr u i1) h10
            have hin : ∀ y, (B x).testBit y = true → (g ||| 2 ^ v).testBit y = true := by
              rw [or_bit] at h11
              rcases Bool.or_eq_true _ _ ▸ h11 with h12 | h12
              · intro y hy
                rw [or_bit, (h3 x hxq).1 h12 y hy]; rfl
              · have : i = x := of_decide_eq_true h12
                subst this; exact hall
            obtain ⟨a, b, ha, hb, hab⟩ := M.edge u x i1 hxq h10
            refine ⟨hxq, fun y hy => Rch.trans (.step (i2 a ha) hab (hin b hb)) ((M.conn x b y hxq hb hy).mono hin)⟩
        obtain ⟨hkq, hk2⟩ := lift k h5
        obtain ⟨a, b, ha, hb, hab⟩ := M.edge k j hkq hj h6
        have hvj : (B j).testBit v = false := by
          rw [Bool.eq_false_iff]
          intro h
          exact h8 (M.apart i j v hi hj hiv h).symm
        obtain ⟨y, hy1, hy2⟩ : ∃ y, (B j).testBit y = true ∧ g.testBit y = false := by
          apply Classical.byContradiction
          intro hno
          have : g'.testBit j = true := (h3 j hj).2 fun x hx => by
            apply Classical.byContradiction
            intro hxg
            exact hno ⟨x, hx, by simpa using hxg⟩
          rw [h7] at this; cases this
        have way : ∀ y, Rch r (B j) b y → (∃ x c, (B j).testBit x = true ∧ g.testBit x = false ∧ Rch r (g ||| 2 ^ v) v c ∧ (r c).testBit x = true) ∨ (g.testBit y = true ∧ Rch r (g ||| 2 ^ v) v y) := by
          intro y hy
          induction hy with
          | refl =>
            cases hgb : g.testBit b
            · exact Or.inl ⟨b, a, hb, hgb, hk2 a ha, hab⟩
            · exact Or.inr ⟨rfl, .step (hk2 a ha) hab (by rw [or_bit, hgb]; rfl)⟩
          | @step u x _ h10 h11 ih =>
            rcases ih with ih | ⟨_, i2⟩
            · exact Or.inl ih
            · cases hgb : g.testBit x
              · exact Or.inl ⟨x, u, h11, hgb, i2, h10⟩
              · exact Or.inr ⟨rfl, .step i2 h10 (by rw [or_bit, hgb]; rfl)⟩
        rcases way y (M.conn j b y hj hb hy1) with ⟨x, c, x1, x2, x3, x4⟩ | ⟨h, _⟩
        · have hcn : c < n := bit_lt (partS_lt hv hr) (rch_part hv hr x3)
          refine ⟨x, bit_lt (M.lt j hj) x1, (left_iff hr hv).2 ⟨⟨c, hcn, x3, x4⟩, x2, fun e => ?_⟩, M.idx hj x1⟩
          rw [e, hvj] at x1; cases x1
        · rw [hy2] at h; cases h
      · rw [or_bit, Bool.or_eq_true, decide_eq_true_eq]
        constructor
        · rintro (h | h)
          · intro x hx
            rw [or_bit, (h3 m hm).1 h x hx]; rfl
          · subst h; exact hall
        · intro h
          by_cases e : i = m
          · exact Or.inr e
          · left
            refine (h3 m hm).2 fun x hx => ?_
            have := h x hx
            rw [or_bit] at this
            rcases Bool.or_eq_true _ _ ▸ this with h9 | h9
            · exact h9
            · have : v = x := of_decide_eq_true h9
              subst this
              exact absurd (M.apart i m v hi hm hiv hx) e
    · refine Or.inl ⟨hg1, h2, fun m hm => ?_⟩
      rw [h3 m hm]
      constructor
      · intro h x hx
        rw [or_bit, h x hx]; rfl
      · intro h x hxm
        have := h x hxm
        rw [or_bit] at this
        rcases Bool.or_eq_true _ _ ▸ this with h9 | h9
        · exact h9
        · have : v = x := of_decide_eq_true h9
          subst this
          exact absurd ⟨m, hm, hxm, h⟩ hx
  · obtain ⟨x, hx⟩ := M.some_ i hi
    constructor
    · intro h; simp at h
    · intro h
      have := h x hx
      simp at this

end Go.Proofs.YtfmppncefbjicaaDoor
