/- Package minor: a model is found exactly if there is one; a minor of a minor is one. -/
import Derived.Test.YtfmppncefbjicaaDoorMz
namespace Go.Proofs.YtfmppncefbjicaaDoor
set_option linter.unusedSimpArgs false
set_option linter.unusedVariables false
open Go.RowKit Go.Maps

/-- The sets of a model together, and how many nodes they have. -/
def orF (B : Nat → Nat) : Nat → Nat
  | 0 => 0
  | k + 1 => orF B k ||| B k
theorem orF_bit {B : Nat → Nat} {x : Nat} : ∀ k, (orF B k).testBit x = true ↔ ∃ i, i < k ∧ (B i).testBit x = true := by
  intro k
  induction k with
  | zero => simp [orF]
  | succ k ih =>
    unfold orF
    rw [Nat.testBit_or, Bool.or_eq_true, ih]
    constructor
    · rintro (⟨i, h1, h2⟩ | h)
      · exact ⟨i, by omega, h2⟩
      · exact ⟨k, by omega, h⟩
    · rintro ⟨i, h1, h2⟩
      by_cases e : i = k
      · subst e; exact Or.inr h2
      · exact Or.inl ⟨i, by omega, h2⟩
theorem orF_lt {n : Nat} {B : Nat → Nat} : ∀ k, (∀ i, i < k → B i < 2 ^ n) → orF B k < 2 ^ n := by
  intro k
  induction k with
  | zero => intro _; exact Nat.two_pow_pos n
  | succ k ih => intro h; exact Nat.or_lt_two_pow (ih fun i hi => h i (by omega)) (h k (by omega))
def sumF (n : Nat) (B : Nat → Nat) : Nat → Nat
  | 0 => 0
  | k + 1 => sumF n B k + szS n (B k)
theorem szS_or {A B : Nat} : ∀ n, (∀ x, A.testBit x = true → B.testBit x = false) → szS n (A ||| B) = szS n A + szS n B := by
  intro n h
  unfold szS
  induction n with
  | zero => rfl
  | succ n ih =>
    rw [List.range_succ, List.countP_append, List.countP_append, List.countP_append, ih]
    simp only [List.countP_cons, List.countP_nil, Nat.testBit_or]
    cases h1 : A.testBit n
    · cases B.testBit n <;> simp <;> omega
    · rw [h n h1]; simp; omega
theorem sumF_or {n : Nat} {B : Nat → Nat} : ∀ k, (∀ i j x, i < k → j < k → (B i).testBit x = true → (B j).testBit x = true → i = j) → szS n (orF B k) = sumF n B k := by
  intro k
  induction k with
  | zero => intro _; unfold orF sumF szS; rw [List.countP_eq_zero]; simp
  | succ k ih =>
    intro h
    unfold orF sumF
    rw [szS_or, ih fun i j x hi hj => h i j x (by omega) (by omega)]
    intro x hx
    obtain ⟨i, hi, hb⟩ := (orF_bit k).1 hx
    rw [Bool.eq_false_iff]
    intro hk
    have := h i k x (by omega) (by omega) hb hk
    omega

theorem con_of {n : Nat} {r : Nat → Nat} (hn : n ≤ 8) (hr : ∀ i, i < n → r i < 2 ^ n) {s : Nat} (hlt : s < 2 ^ n) (h0 : 0 < s) (hc : ∀ x y, s.testBit x = true → s.testBit y = true → Rch r s x y) : conB n r s = true := by
  have hlow := lowN_ltm hn h0 hlt
  have h8 := pow_le8 hn
  obtain ⟨_, l2, _⟩ := lowN_all s (by omega) h0
  unfold conB
  rw [decide_eq_true h0, Bool.true_and, beq_iff_eq]
  apply Nat.eq_of_testBit_eq
  intro i
  rw [Bool.eq_iff_iff]
  exact ⟨fun h => (part_rch h).in_ l2, fun h => rch_part hlow hr (hc _ _ l2 h)⟩
theorem pos_of_bit {s x : Nat} (h : s.testBit x = true) : 0 < s := by
  apply Nat.pos_of_ne_zero
  rintro rfl
  simp at h

/-- A model's next set passes. -/
theorem ModelOf.con {n q : Nat} {r pr B : Nat → Nat} (M : ModelOf n q r pr B) (hn : n ≤ 8) (hr : ∀ i, i < n → r i < 2 ^ n) {i : Nat} (hi : i < q) : conB n r (B i) = true := by
  obtain ⟨x, hx⟩ := M.some_ i hi
  exact con_of hn hr (M.lt i hi) (pos_of_bit hx) fun x y h1 h2 => M.conn i x y hi h1 h2
theorem map_len {B : Nat → Nat} {i : Nat} : ((List.range i).map B).length = i := by simp
theorem map_getD {B : Nat → Nat} {i j : Nat} (h : j < i) : ((List.range i).map B).getD j 0 = B j := by
  rw [List.getD_eq_getElem?_getD, map_range_get _ h]; rfl
theorem ModelOf.rch {n q : Nat} {r pr B : Nat → Nat} (M : ModelOf n q r pr B) (hn : n ≤ 8) {i : Nat} (hi : i < q) : rchB r (B i) (pr i) ((List.range i).map B) = true := by
  refine rchB_yes fun j hj hp => ?_
  rw [map_len] at hj
  rw [map_getD hj]
  obtain ⟨x, y, h1, h2, h3⟩ := M.edge i j hi (by omega) hp
  have h4 : (aroN r (B i)).testBit y = true := (testBit_aro hn (M.lt i hi) y).2 ⟨x, bit_lt (M.lt i hi) h1, h1, h3⟩
  intro h0
  have := congrArg (fun t => t.testBit y) h0
  simp [Nat.testBit_and, h4, h2] at this
theorem ModelOf.fresh {n q : Nat} {r pr B : Nat → Nat} (M : ModelOf n q r pr B) {i : Nat} (hi : i < q) : B i &&& orF B i = 0 := by
  apply Nat.eq_of_testBit_eq
  intro x
  rw [Nat.testBit_and, Nat.zero_testBit, Bool.eq_false_iff]
  intro h
  rw [Bool.and_eq_true, orF_bit] at h
  obtain ⟨h1, j, hj, h2⟩ := h
  have := M.apart i j x hi (by omega) h1 h2
  omega
theorem ModelOf.pos {n q : Nat} {r pr B : Nat → Nat} (M : ModelOf n q r pr B) {i : Nat} (hi : i < q) : 0 < szS n (B i) := by
  obtain ⟨x, hx⟩ := M.some_ i hi
  exact sz_pos0 (pos_of_bit hx) (M.lt i hi)
theorem ModelOf.few {n q : Nat} {r pr B : Nat → Nat} (M : ModelOf n q r pr B) : ∀ k, k ≤ q → k ≤ sumF n B k := by
  intro k
  induction k with
  | zero => intro _; exact Nat.zero_le _
  | succ k ih =>
    intro h
    have := M.pos (i := k) (by omega)
    have := ih (by omega)
    rw [show sumF n B (k + 1) = sumF n B k + szS n (B k) from rfl]
    omega
theorem ModelOf.rest {n q : Nat} {r pr B : Nat → Nat} (M : ModelOf n q r pr B) : ∀ k i, i + k = q → sumF n B i + k ≤ sumF n B q := by
  intro k
  induction k with
  | zero => intro i h; rw [← h]; simp
  | succ k ih =>
    intro i h
    have := M.pos (i := i) (by omega)
    have := ih (i + 1) (by omega)
    rw [show sumF n B (i + 1) = sumF n B i + szS n (B i) from rfl] at this
    omega
theorem exL_found {n q : Nat} {r pr B : Nat → Nat} (M : ModelOf n q r pr B) (hn : n ≤ 8) (hr : ∀ i, i < n → r i < 2 ^ n) :
    ∀ k i, i + k = q → exL n r pr k ((List.range i).map B) (orF B i) (sumF n B q - sumF n B i) ≠ none := by
  intro k
  induction k with
  | zero =>
    intro i h
    have : i = q := by omega
    subst this
    unfold exL
    rw [Nat.sub_self, if_pos rfl]
    intro h; cases h
  | succ k ih =>
    intro i h hno
    unfold exL at hno
    rw [List.findSome?_eq_none_iff] at hno
    have h1 := hno (B i) (List.mem_range.2 (M.lt i (by omega)))
    have h2 := M.rest k (i + 1) (by omega)
    have h3 : sumF n B (i + 1) = sumF n B i + szS n (B i) := rfl
    rw [if_pos (by
      unfold okX
      rw [map_len, M.fresh (by omega), M.con hn hr (by omega), M.rch hn (by omega), decide_eq_true (by omega)]
      rfl)] at h1
    refine ih (i + 1) (by omega) ?_
    rw [List.range_succ, List.map_append, show orF B (i + 1) = orF B i ||| B i from rfl, show sumF n B q - sumF n B (i + 1) = sumF n B q - sumF n B i - szS n (B i) by omega]
    exact h1
theorem refM_found {n q : Nat} {r pr B : Nat → Nat} (M : ModelOf n q r pr B) (hn : n ≤ 8) (hr : ∀ i, i < n → r i < 2 ^ n) : refM n q r pr ≠ none := by
  intro hno
  unfold refM at hno
  rw [List.findSome?_eq_none_iff] at hno
  have h1 := M.few q (Nat.le_refl _)
  have h2 := szS_le n (orF B q)
  rw [sumF_or q M.apart] at h2
  have h3 := hno (sumF n B q - q) (List.mem_range.2 (by omega))
  have h4 := exL_found M hn hr q 0 (by omega)
  rw [show q + (sumF n B q - q) = sumF n B q by omega] at h3
  exact h4 h3

/-- How many nodes a model has that is found. -/
def sumL (n : Nat) (L : List Nat) : Nat := (L.map (szS n)).sum
theorem exL_sum {n : Nat} {r pr : Nat → Nat} : ∀ k B met left B', exL n r pr k B met left = some B' → sumL n B' = sumL n B + left := by
  intro k
  induction k with
  | zero =>
    intro B met left B' h
    unfold exL at h
    split at h
    · cases h; omega
    · cases h
  | succ k ih =>
    intro B met left B' h
    unfold exL at h
    obtain ⟨s, hs, h⟩ := List.exists_of_findSome?_eq_some h
    split at h
    · rename_i ho
      unfold okX at ho
      simp only [Bool.and_eq_true, decide_eq_true_eq] at ho
      have := ih _ _ _ _ h
      unfold sumL at this ⊢
      rw [List.map_append, List.sum_append] at this
      simp at this
      omega
    · cases h
theorem sumF_L {n : Nat} : ∀ (L : List Nat), sumF n (fun i => L.getD i 0) L.length = sumL n L := by
  intro L
  have key : ∀ k, k ≤ L.length → sumF n (fun i => L.getD i 0) k = sumL n (L.take k) := by
    intro k
    induction k with
    | zero => intro _; rfl
    | succ k ih =>
      intro h
      unfold sumF
      rw [ih (by omega), List.take_add_one, List.getElem?_eq_getElem (by omega)]
      unfold sumL
      rw [List.map_append, List.sum_append]
      simp [List.getD_eq_getElem?_getD, List.getElem?_eq_getElem (show k < L.length by omega)]
  have := key L.length (Nat.le_refl _)
  rwa [List.take_length] at this
theorem findSome_min {β : Type} {f : Nat → Option β} {y : β} : ∀ m, (List.range m).findSome? f = some y → ∃ i, i < m ∧ f i = some y ∧ ∀ j, j < i → f j = none := by
  intro m
  induction m with
  | zero => intro h; simp at h
  | succ m ih =>
    intro h
    rw [List.range_succ, List.findSome?_append] at h
    cases h1 : (List.range m).findSome? f with
    | some v =>
      rw [h1] at h
      have : v = y := by simpa using h
      subst this
      obtain ⟨i, h2, h3⟩ := ih h1
      exact ⟨i, by omega, h3⟩
    | none =>
      rw [h1] at h
      refine ⟨m, by omega, by simpa using h, fun j hj => ?_⟩
      rw [List.findSome?_eq_none_iff] at h1
      exact h1 j (List.mem_range.2 hj)
theorem good_nil {n : Nat} {r pr : Nat → Nat} : Good n r pr [] 0 := ⟨fun i hi => by simp at hi, fun i j hi => by simp at hi, fun i x hi => by simp at hi, fun i j x hi => by simp at hi⟩

/-- What is found is a model, with as few nodes as any. -/
theorem refM_model {n q : Nat} {r pr : Nat → Nat} {L : List Nat} (h : refM n q r pr = some L) (hn : n ≤ 8) (hr : ∀ i, i < n → r i < 2 ^ n) (hs : ∀ u x, u < n → x < n → (r u).testBit x = (r x).testBit u) (hps : ∀ u x, u < q → x < q → (pr u).testBit x = (pr x).testBit u) (hpl : ∀ u, u < q → (pr u).testBit u = false) :
    L.length = q ∧ ModelOf n q r pr (fun i => L.getD i 0) ∧ ∀ B, ModelOf n q r pr B → szS n (orF (fun i => L.getD i 0) q) ≤ szS n (orF B q) := by
  unfold refM at h
  obtain ⟨i, hi, h1, hmin⟩ := findSome_min _ h
  obtain ⟨⟨met, h2⟩, h3⟩ := exL_good _ _ _ _ _ h1 good_nil
  have hl : L.length = q := by simpa using h3
  have M := h2.model hl hn hr hs hps hpl
  refine ⟨hl, M, fun B MB => ?_⟩
  rw [sumF_or q M.apart, sumF_or q MB.apart]
  have h4 := exL_sum _ _ _ _ _ h1
  have h5 := sumF_L (n := n) L
  rw [hl, h4] at h5
  rw [h5]
  have h6 := MB.few q (Nat.le_refl _)
  have h7 := exL_found MB hn hr q 0 (by omega)
  show sumL n [] + (q + i) ≤ _
  have h8 : sumL n [] = 0 := rfl
  rw [h8]
  apply Classical.byContradiction
  intro hlt
  have := hmin (sumF n B q - q) (by omega)
  rw [show q + (sumF n B q - q) = sumF n B q by omega] at this
  exact h7 this

/-! ### numbers that are a model -/

theorem goM_no {n : Nat} {r pr : Nat → Nat} {y : Nat → Int} : ∀ k B met, goM n r pr y k B met = true → Good n r pr B met → (∀ j, j < B.length → y j = (B.getD j 0 : Nat)) → ∃ B' met', Good n r pr B' met' ∧ B'.length = B.length + k ∧ ∀ j, j < B'.length → y j = (B'.getD j 0 : Nat) := by
  intro k
  induction k with
  | zero => intro B met _ hg hy; exact ⟨B, met, hg, rfl, hy⟩
  | succ k ih =>
    intro B met h hg hy
    unfold goM at h
    rw [Bool.and_eq_true] at h
    obtain ⟨ho, h⟩ := h
    unfold okS at ho
    simp only [Bool.and_eq_true, decide_eq_true_eq, beq_iff_eq] at ho
    obtain ⟨⟨h0, h1⟩, h2, h3, h4⟩ := ho
    have hlt : (y B.length).toNat < 2 ^ n := by rw [pow_cast n] at h1; omega
    obtain ⟨B', met', g1, g2, g3⟩ := ih _ _ h (hg.more (left := szS n (y B.length).toNat + k) (k := k) hlt (by
      unfold okX
      rw [h3, h2, h4, decide_eq_true (Nat.le_refl _)]
      rfl)) (fun j hj => by
        by_cases e : j = B.length
        · subst e; rw [getD_new]; omega
        · rw [List.length_append, List.length_singleton] at hj
          rw [getD_old (by omega)]; exact hy j (by omega))
    exact ⟨B', met', g1, by rw [g2, List.length_append, List.length_singleton]; omega, g3⟩
theorem isM_model {n q m : Nat} {r pr : Nat → Nat} {y : Nat → Int} (h : isM n q r pr m y = true) (hn : n ≤ 8) (hr : ∀ i, i < n → r i < 2 ^ n) (hs : ∀ u x, u < n → x < n → (r u).testBit x = (r x).testBit u) (hps : ∀ u x, u < q → x < q → (pr u).testBit x = (pr x).testBit u) (hpl : ∀ u, u < q → (pr u).testBit u = false) :
    m = q ∧ ∃ B : Nat → Nat, ModelOf n q r pr B ∧ ∀ j, j < q → y j = (B j : Nat) := by
  unfold isM at h
  rw [Bool.and_eq_true, decide_eq_true_eq] at h
  obtain ⟨rfl, h⟩ := h
  obtain ⟨B', met', g1, g2, g3⟩ := goM_no m [] 0 h good_nil (fun j hj => by simp at hj)
  have g4 : B'.length = m := by simpa using g2
  exact ⟨rfl, fun i => B'.getD i 0, g1.model g4 hn hr hs hps hpl, fun j hj => g3 j (by omega)⟩
theorem goM_yes {n q : Nat} {r pr B : Nat → Nat} {y : Nat → Int} (M : ModelOf n q r pr B) (hn : n ≤ 8) (hr : ∀ i, i < n → r i < 2 ^ n) (hy : ∀ j, j < q → y j = (B j : Nat)) :
    ∀ k i, i + k = q → goM n r pr y k ((List.range i).map B) (orF B i) = true := by
  intro k
  induction k with
  | zero => intro i _; rfl
  | succ k ih =>
    intro i h
    unfold goM
    rw [map_len, hy i (by omega), Int.toNat_natCast, Bool.and_eq_true]
    have hlt := M.lt i (by omega)
    obtain ⟨x, hx⟩ := M.some_ i (by omega)
    have hpos := pos_of_bit hx
    refine ⟨?_, ?_⟩
    · unfold okS
      rw [map_len, Int.toNat_natCast, M.fresh (by omega), M.con hn hr (by omega), M.rch hn (by omega), decide_eq_true (by omega), decide_eq_true (by rw [pow_cast n]; omega)]
      rfl
    · have := ih (i + 1) (by omega)
      rw [List.range_succ, List.map_append] at this
      exact this
theorem isM_of {n q : Nat} {r pr B : Nat → Nat} {y : Nat → Int} (M : ModelOf n q r pr B) (hn : n ≤ 8) (hr : ∀ i, i < n → r i < 2 ^ n) (hy : ∀ j, j < q → y j = (B j : Nat)) : isM n q r pr q y = true := by
  unfold isM
  rw [decide_eq_true rfl, Bool.true_and]
  exact goM_yes M hn hr hy q 0 (by omega)

/-! ### a minor of a minor -/

/-- Some sets together. -/
def uniF (m : Nat) (P : Nat → Nat) (s : Nat) : Nat := orF (fun u => if s.testBit u then P u else 0) m
theorem uniF_bit {m : Nat} {P : Nat → Nat} {s x : Nat} : (uniF m P s).testBit x = true ↔ ∃ u, u < m ∧ s.testBit u = true ∧ (P u).testBit x = true := by
  unfold uniF
  rw [orF_bit]
  constructor
  · rintro ⟨u, h1, h2⟩
    by_cases h : s.testBit u = true
    · rw [if_pos h] at h2; exact ⟨u, h1, h, h2⟩
    · rw [if_neg h] at h2; simp at h2
  · rintro ⟨u, h1, h2, h3⟩
    exact ⟨u, h1, by rw [if_pos h2]; exact h3⟩
theorem ModelOf.minor {n m q : Nat} {r t pr P B : Nat → Nat} (hm : ModelOf n m r t P) (hb : ModelOf m q t pr B) (ht : ∀ i, i < m → t i < 2 ^ m) : ModelOf n q r pr (fun i => uniF m P (B i)) := by
  refine ⟨fun i hi => orF_lt _ fun u hu => ?_, fun i hi => ?_, fun i j x hi hj h1 h2 => ?_, fun i x y hi h1 h2 => ?_, fun i j hi hj hp => ?_⟩
  · show (if (B i).testBit u then P u else 0) < 2 ^ n
    split
    · exact hm.lt u hu
    · exact Nat.two_pow_pos n
  · obtain ⟨u, hu⟩ := hb.some_ i hi
    have hum := bit_lt (hb.lt i hi) hu
    obtain ⟨x, hx⟩ := hm.some_ u hum
    exact ⟨x, uniF_bit.2 ⟨u, hum, hu, hx⟩⟩
  · obtain ⟨u, hu, u1, u2⟩ := uniF_bit.1 h1
    obtain ⟨v, hv, v1, v2⟩ := uniF_bit.1 h2
    have := hm.apart u v x hu hv u2 v2
    subst this
    exact hb.apart i j u hi hj u1 v1
  · obtain ⟨u, hu, u1, u2⟩ := uniF_bit.1 h1
    obtain ⟨v, hv, v1, v2⟩ := uniF_bit.1 h2
    have key : ∀ v, Rch t (B i) u v → v < m ∧ (B i).testBit v = true ∧ ∀ y, (P v).testBit y = true → Rch r (uniF m P (B i)) x y := by
      intro v h
      induction h with
      | refl => exact ⟨hu, u1, fun y hy => (hm.conn u x y hu u2 hy).mono fun z hz => uniF_bit.2 ⟨u, hu, u1, hz⟩⟩
      | @step a b _ h3 h4 ih =>
        obtain ⟨i1, i2, i3⟩ := ih
        have hbm : b < m := bit_lt (ht a i1) h3
        refine ⟨hbm, h4, fun y hy => ?_⟩
        obtain ⟨c, d, c1, d1, e1⟩ := hm.edge a b i1 hbm h3
        exact Rch.trans (.step (i3 c c1) e1 (uniF_bit.2 ⟨b, hbm, h4, d1⟩)) ((hm.conn b d y hbm d1 hy).mono fun z hz => uniF_bit.2 ⟨b, hbm, h4, hz⟩)
    exact (key v (hb.conn i u v hi u1 v1)).2.2 y v2
  · obtain ⟨u, v, u1, v1, h3⟩ := hb.edge i j hi hj hp
    have hum := bit_lt (hb.lt i hi) u1
    have hvm := bit_lt (hb.lt j hj) v1
    obtain ⟨c, d, c1, d1, e1⟩ := hm.edge u v hum hvm h3
    exact ⟨c, d, uniF_bit.2 ⟨u, hum, u1, c1⟩, uniF_bit.2 ⟨v, hvm, v1, d1⟩, e1⟩

end Go.Proofs.YtfmppncefbjicaaDoor
