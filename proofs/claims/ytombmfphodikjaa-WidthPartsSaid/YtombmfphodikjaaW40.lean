/- Tree decompositions in plain words: what decB says, bags that are merged, bags of which none is a part of another. -/
import Derived.Test.YtombmfphodikjaaW32
namespace Go.Proofs.Ytombmfphodikjaa
set_option linter.unusedSimpArgs false
set_option linter.unusedVariables false

/-! ### counting -/

def cntTo (f : Nat → Bool) : Nat → Nat
  | 0 => 0
  | k + 1 => if f k then cntTo f k + 1 else cntTo f k
theorem cnt_zero {f : Nat → Bool} : ∀ k, cntTo f k = 0 ↔ ∀ i, i < k → f i = false := by
  intro k
  induction k with
  | zero => exact ⟨fun _ i hi => by omega, fun _ => rfl⟩
  | succ k ih =>
    unfold cntTo
    cases hf : f k
    · rw [if_neg (by simp), ih]
      exact ⟨fun h i hi => by rcases Nat.lt_succ_iff_lt_or_eq.1 hi with h4 | h4; exact h i h4; rw [h4]; exact hf, fun h i hi => h i (by omega)⟩
    · rw [if_pos rfl]
      exact ⟨fun h => by omega, fun h => by have := h k (by omega); rw [hf] at this; cases this⟩
theorem cnt_one {f : Nat → Bool} : ∀ k, cntTo f k = 1 ↔ (∃ i, i < k ∧ f i = true) ∧ ∀ i j, i < k → j < k → f i = true → f j = true → i = j := by
  intro k
  induction k with
  | zero => exact ⟨fun h => (by cases h), fun ⟨⟨i, hi, _⟩, _⟩ => (by omega)⟩
  | succ k ih =>
    unfold cntTo
    cases hf : f k
    · rw [if_neg (by simp), ih]
      constructor
      · rintro ⟨⟨i, hi, h1⟩, h2⟩
        refine ⟨⟨i, by omega, h1⟩, fun a b ha hb hfa hfb => ?_⟩
        rcases Nat.lt_succ_iff_lt_or_eq.1 ha with h4 | h4
        · rcases Nat.lt_succ_iff_lt_or_eq.1 hb with h5 | h5
          · exact h2 a b h4 h5 hfa hfb
          · subst h5; rw [hf] at hfb; cases hfb
        · subst h4; rw [hf] at hfa; cases hfa
      · rintro ⟨⟨i, hi, h1⟩, h2⟩
        refine ⟨?_, fun a b ha hb => h2 a b (by omega) (by omega)⟩
        rcases Nat.lt_succ_iff_lt_or_eq.1 hi with h4 | h4
        · exact ⟨i, h4, h1⟩
        · subst h4; rw [hf] at h1; cases h1
    · rw [if_pos rfl]
      constructor
      · intro h
        have h0 := (cnt_zero k).1 (show cntTo f k = 0 by omega)
        refine ⟨⟨k, by omega, hf⟩, fun a b ha hb hfa hfb => ?_⟩
        rcases Nat.lt_succ_iff_lt_or_eq.1 ha with h4 | h4
        · rw [h0 a h4] at hfa; cases hfa
        · rcases Nat.lt_succ_iff_lt_or_eq.1 hb with h5 | h5
          · rw [h0 b h5] at hfb; cases hfb
          · omega
      · rintro ⟨_, h2⟩
        have : cntTo f k = 0 := (cnt_zero k).2 fun i hi => by
          cases hfi : f i
          · rfl
          · have := h2 i k (by omega) (by omega) hfi hf; omega
        omega
theorem cnt_front {f : Nat → Bool} : ∀ k, cntTo f (k + 1) = (if f 0 then 1 else 0) + cntTo (fun j => f (j + 1)) k := by
  intro k
  induction k with
  | zero => unfold cntTo; unfold cntTo; split <;> rfl
  | succ k ih =>
    rw [cntTo, ih, cntTo]
    split <;> omega

theorem roots_cnt (p : Nat → Int) : ∀ k, rootsTo p k = cntTo (fun i => decide (p i = -1)) k := by
  intro k
  induction k with
  | zero => rfl
  | succ k ih =>
    unfold rootsTo cntTo
    rw [ih]
    by_cases h : p k = -1
    · rw [if_pos h, if_pos (decide_eq_true h)]
    · rw [if_neg h, if_neg (by rw [decide_eq_false h]; simp)]
theorem tops_cnt (z p : Nat → Int) (v : Nat) : ∀ k, topsTo z p v k = cntTo (topB z p v) k := by
  intro k
  induction k with
  | zero => rfl
  | succ k ih => unfold topsTo cntTo; rw [ih]
theorem tog_bit (z : Nat → Int) (v u : Nat) : ∀ k, (togTo z v k).testBit u = true ↔ ∃ j, j < k ∧ (z j).toNat.testBit v = true ∧ (z j).toNat.testBit u = true := by
  intro k
  induction k with
  | zero => exact ⟨fun h => by simp [togTo] at h, fun ⟨j, hj, _⟩ => by omega⟩
  | succ k ih =>
    unfold togTo
    split
    · rename_i h
      rw [Nat.testBit_or, Bool.or_eq_true, ih]
      constructor
      · rintro (⟨j, h1, h2⟩ | h1)
        · exact ⟨j, by omega, h2⟩
        · exact ⟨k, by omega, h, h1⟩
      · rintro ⟨j, h1, h2, h3⟩
        rcases Nat.lt_succ_iff_lt_or_eq.1 h1 with h4 | h4
        · exact Or.inl ⟨j, h4, h2, h3⟩
        · subst h4; exact Or.inr h3
    · rename_i h
      rw [ih]
      constructor
      · rintro ⟨j, h1, h2⟩; exact ⟨j, by omega, h2⟩
      · rintro ⟨j, h1, h2, h3⟩
        rcases Nat.lt_succ_iff_lt_or_eq.1 h1 with h4 | h4
        · exact ⟨j, h4, h2, h3⟩
        · subst h4; exact absurd h2 h

theorem diff_zero {a b : Nat} : diff a b = 0 ↔ ∀ i, a.testBit i = true → b.testBit i = true := by
  constructor
  · intro h i ha
    have := testBit_diff a b i
    rw [h, Nat.zero_testBit, ha] at this
    simpa using this.symm
  · intro h
    apply Nat.eq_of_testBit_eq
    intro i
    rw [testBit_diff, Nat.zero_testBit]
    cases ha : a.testBit i
    · rfl
    · simp [h i ha]

/-! ### ranks -/

theorem upTo_front {p : Nat → Int} {i : Nat} : ∀ k, upTo p (i : Nat) (k + 1) = upTo p (p i) k := by
  intro k
  induction k with
  | zero => show (if ((i : Nat) : Int) = -1 then (-1 : Int) else p ((i : Nat) : Int).toNat) = p i; rw [if_neg (by omega)]; rfl
  | succ k ih =>
    show (if upTo p (i : Nat) (k + 1) = -1 then (-1 : Int) else p (upTo p (i : Nat) (k + 1)).toNat) = _
    rw [ih]; rfl
/-- Numbers that grow from a bag's parent to the bag. -/
def Ranks (m : Nat) (p : Nat → Int) (d : Nat → Nat) : Prop := ∀ i, i < m → p i ≠ -1 → d (p i).toNat < d i
theorem ranks_of {m : Nat} {p : Nat → Int} (hp : ∀ i, i < m → -1 ≤ p i ∧ p i < m) (h : cycB m p = false) : ∃ d, Ranks m p d := by
  have hc : ∀ i : Nat, i < m → upTo p (i : Nat) m = -1 := by
    intro i hi
    apply Classical.byContradiction
    intro hne
    have := cycB_yes hi hne
    rw [h] at this; cases this
  refine ⟨fun i => cntTo (fun k => upTo p (i : Nat) k != -1) (m + 1), fun i hi hr => ?_⟩
  obtain ⟨j, hj⟩ : ∃ j : Nat, p i = j := ⟨(p i).toNat, by have := (hp i hi).1; omega⟩
  have hjm : j < m := by have := (hp i hi).2; omega
  show cntTo (fun k => upTo p ((p i).toNat : Nat) k != -1) (m + 1) < cntTo (fun k => upTo p (i : Nat) k != -1) (m + 1)
  have e1 : (fun k => upTo p (i : Nat) (k + 1) != -1) = fun k => upTo p (j : Nat) k != -1 := by
    funext k
    rw [upTo_front, hj]
  have e2 : cntTo (fun k => upTo p (j : Nat) k != -1) (m + 1) = cntTo (fun k => upTo p (j : Nat) k != -1) m := by
    rw [cntTo, if_neg (by rw [hc j hjm]; simp)]
  rw [hj, Int.toNat_natCast, e2, cnt_front (f := fun k => upTo p (i : Nat) k != -1), e1]
  rw [if_pos (show (upTo p (i : Nat) 0 != -1) = true by show (((i : Nat) : Int) != -1) = true; simp)]
  omega
theorem cyc_of {m : Nat} {p : Nat → Int} {d : Nat → Nat} (hp : ∀ i, i < m → -1 ≤ p i ∧ p i < m) (h : Ranks m p d) : cycB m p = false := by
  apply cycB_no
  intro i hi
  -- ranks below m
  let c : Nat → Nat := fun x => (List.range m).countP fun j => decide (d j < d x)
  have hlt : ∀ x, x < m → c x < m := by
    intro x hx
    have := countP_lt (l := List.range m) (p := fun j => decide (d j < d x)) (q := fun _ => true) (fun _ _ _ => rfl) ⟨x, List.mem_range.2 hx, by simp, rfl⟩
    simpa [c] using this
  have hstep : ∀ x, x < m → p x ≠ -1 → c (p x).toNat < c x := by
    intro x hx hr
    have h1 := h x hx hr
    have h2 := hp x hx
    exact countP_lt (fun j _ hj => decide_eq_true (Nat.lt_trans (of_decide_eq_true hj) h1)) ⟨(p x).toNat, List.mem_range.2 (by omega), by simp, decide_eq_true h1⟩
  have key : ∀ k, upTo p (i : Nat) k = -1 ∨ ∃ x : Nat, x < m ∧ upTo p (i : Nat) k = x ∧ c x + k ≤ c i := by
    intro k
    induction k with
    | zero => exact Or.inr ⟨i, hi, rfl, Nat.le_refl _⟩
    | succ k ih =>
      rcases ih with ih | ⟨x, hx, he, hk⟩
      · left; show (if upTo p (i : Nat) k = -1 then (-1 : Int) else _) = -1; rw [if_pos ih]
      · have e : upTo p (i : Nat) (k + 1) = p x := by
          show (if upTo p (i : Nat) k = -1 then (-1 : Int) else p (upTo p (i : Nat) k).toNat) = p x
          rw [he, if_neg (by omega)]; rfl
        by_cases hr : p x = -1
        · left; rw [e, hr]
        · right
          have h2 := hp x hx
          have h3 := hstep x hx hr
          exact ⟨(p x).toNat, by omega, by rw [e]; omega, by omega⟩
  rcases key m with h1 | ⟨x, hx, _, hk⟩
  · exact h1
  · have := hlt i hi; omega

/-! ### tree decompositions -/

structure Dec (n : Nat) (r : Nat → Nat) (m : Nat) (z p : Nat → Int) : Prop where
  one : 1 ≤ m
  most : m ≤ 30
  par : ∀ i, i < m → -1 ≤ p i ∧ p i < m
  root : ∃ i, i < m ∧ p i = -1
  roots : ∀ i j, i < m → j < m → p i = -1 → p j = -1 → i = j
  rank : ∃ d, Ranks m p d
  bags : BagsOK n m z
  top : ∀ v, v < n → ∃ j, j < m ∧ topB z p v j = true
  tops : ∀ v i j, v < n → i < m → j < m → topB z p v i = true → topB z p v j = true → i = j
  near : ∀ v u, v < n → (r v).testBit u = true → ∃ j, j < m ∧ (z j).toNat.testBit v = true ∧ (z j).toNat.testBit u = true

theorem dec_iff {n : Nat} {r : Nat → Nat} {m q : Nat} {z p : Nat → Int} : decB n r m q z p = true ↔ q = m ∧ Dec n r m z p := by
  rw [decB_iff]
  constructor
  · rintro ⟨h1, h2, h3⟩
    obtain ⟨a1, a2, a3, a4, a5, a6⟩ := treeB_iff h1
    rw [roots_cnt, cnt_one] at a5
    obtain ⟨⟨i, hi, b1⟩, b2⟩ := a5
    refine ⟨a3, a1, a2, a4, ⟨i, hi, of_decide_eq_true b1⟩, fun i j hi hj h1 h2 => b2 i j hi hj (decide_eq_true h1) (decide_eq_true h2), ranks_of a4 a6, h2, ?_, ?_, ?_⟩
    · intro v hv
      have := h3 v hv
      unfold nodeB at this
      rw [Bool.and_eq_true, decide_eq_true_eq, tops_cnt, cnt_one] at this
      exact this.1.1
    · intro v i j hv hi hj
      have := h3 v hv
      unfold nodeB at this
      rw [Bool.and_eq_true, decide_eq_true_eq, tops_cnt, cnt_one] at this
      exact this.1.2 i j hi hj
    · intro v u hv hu
      have := h3 v hv
      unfold nodeB at this
      rw [Bool.and_eq_true, beq_iff_eq, diff_zero] at this
      exact (tog_bit z v u m).1 (this.2 u hu)
  · rintro ⟨rfl, D⟩
    obtain ⟨d, hd⟩ := D.rank
    refine ⟨?_, D.bags, fun v hv => ?_⟩
    · rw [treeB_is D.one D.most, parB_good D.par, cyc_of D.par hd]
      have : rootsTo p q = 1 := by
        rw [roots_cnt, cnt_one]
        obtain ⟨i, hi, h⟩ := D.root
        exact ⟨⟨i, hi, decide_eq_true h⟩, fun i j hi hj h1 h2 => D.roots i j hi hj (of_decide_eq_true h1) (of_decide_eq_true h2)⟩
      rw [decide_eq_true this]; rfl
    · unfold nodeB
      rw [Bool.and_eq_true, decide_eq_true_eq, tops_cnt, cnt_one, beq_iff_eq, diff_zero]
      exact ⟨⟨D.top v hv, fun i j hi hj => D.tops v i j hv hi hj⟩, fun u hu => (tog_bit z v u q).2 (D.near v u hv hu)⟩

theorem topB_iff {z p : Nat → Int} {v j : Nat} : topB z p v j = true ↔ (z j).toNat.testBit v = true ∧ (p j = -1 ∨ (z (p j).toNat).toNat.testBit v = false) := by
  unfold topB
  simp

/-- From a bag with a node one comes to the top bag of its piece. -/
inductive Desc (m : Nat) (p : Nat → Int) (i : Nat) : Nat → Prop
  | refl : Desc m p i i
  | step {j : Nat} : j < m → p j ≠ -1 → Desc m p i (p j).toNat → Desc m p i j
theorem Desc.le {m : Nat} {p : Nat → Int} {d : Nat → Nat} (hd : Ranks m p d) {i j : Nat} (h : Desc m p i j) : d i ≤ d j := by
  induction h with
  | refl => exact Nat.le_refl _
  | step hj hr _ ih => have := hd _ hj hr; omega
theorem Desc.lt {m : Nat} {p : Nat → Int} {d : Nat → Nat} (hd : Ranks m p d) {i j : Nat} (h : Desc m p i j) (hne : i ≠ j) : d i < d j := by
  cases h with
  | refl => exact absurd rfl hne
  | step hj hr h2 => have := hd _ hj hr; have := h2.le hd; omega
theorem Desc.trans {m : Nat} {p : Nat → Int} {i j k : Nat} (h : Desc m p i j) (h2 : Desc m p j k) : Desc m p i k := by
  induction h2 with
  | refl => exact h
  | step hj hr _ ih => exact .step hj hr ih
theorem climb {m : Nat} {z p : Nat → Int} {d : Nat → Nat} (hd : Ranks m p d) (hp : ∀ i, i < m → -1 ≤ p i ∧ p i < m) (v : Nat) : ∀ k j, d j ≤ k → j < m → (z j).toNat.testBit v = true → ∃ t, t < m ∧ topB z p v t = true ∧ Desc m p t j := by
  intro k
  induction k with
  | zero =>
    intro j h1 hj hv
    refine ⟨j, hj, topB_iff.2 ⟨hv, Or.inl ?_⟩, .refl⟩
    apply Classical.byContradiction
    intro hr
    have := hd j hj hr; omega
  | succ k ih =>
    intro j h1 hj hv
    by_cases hr : p j = -1
    · exact ⟨j, hj, topB_iff.2 ⟨hv, Or.inl hr⟩, .refl⟩
    · cases hq : (z (p j).toNat).toNat.testBit v
      · exact ⟨j, hj, topB_iff.2 ⟨hv, Or.inr hq⟩, .refl⟩
      · have h2 := hd j hj hr
        have h3 := hp j hj
        obtain ⟨t, t1, t2, t3⟩ := ih (p j).toNat (by omega) (by omega) hq
        exact ⟨t, t1, t2, .step hj hr t3⟩

/-! ### two bags made one -/

def unD (i k : Nat) : Nat := if k < i then k else k + 1
def reD (i j : Nat) : Nat := if j < i then j else j - 1
theorem unD_ne (i k : Nat) : unD i k ≠ i := by unfold unD; split <;> omega
theorem un_re {i j : Nat} (h : j ≠ i) : unD i (reD i j) = j := by unfold unD reD; (repeat' split) <;> omega
theorem re_un (i k : Nat) : reD i (unD i k) = k := by unfold unD reD; (repeat' split) <;> omega
theorem unD_lt {i k m : Nat} (h : k < m - 1) : unD i k < m := by unfold unD; split <;> omega
theorem reD_lt {i j m : Nat} (hi : i < m) (hj : j < m) (h : j ≠ i) : reD i j < m - 1 := by unfold reD; split <;> omega
theorem unD_inj {i a b : Nat} (h : unD i a = unD i b) : a = b := by rw [← re_un i a, h, re_un]

/-- The bags and the parents behind the joining of bag i to its parent P, before bag i is taken out. -/
def jnZ (z : Nat → Int) (i P j : Nat) : Int := if j = P then (((z P).toNat ||| (z i).toNat : Nat) : Int) else z j
def jnP (p : Nat → Int) (i P j : Nat) : Int := if p j = i then (P : Int) else p j
def mrgZ (z : Nat → Int) (i P k : Nat) : Int := jnZ z i P (unD i k)
def mrgP (p : Nat → Int) (i P k : Nat) : Int := if jnP p i P (unD i k) > i then jnP p i P (unD i k) - 1 else jnP p i P (unD i k)

theorem jnZ_sub {z : Nat → Int} {i P j v : Nat} (h : (z j).toNat.testBit v = true) : (jnZ z i P j).toNat.testBit v = true := by
  unfold jnZ
  split
  · rename_i e; subst e; rw [Int.toNat_natCast, Nat.testBit_or, h]; rfl
  · exact h
theorem jnZ_at {z : Nat → Int} {i P v : Nat} : (jnZ z i P P).toNat.testBit v = ((z P).toNat.testBit v || (z i).toNat.testBit v) := by
  unfold jnZ
  rw [if_pos rfl, Int.toNat_natCast, Nat.testBit_or]
theorem jnZ_ne {z : Nat → Int} {i P j : Nat} (h : j ≠ P) : jnZ z i P j = z j := by unfold jnZ; rw [if_neg h]

theorem Dec.merge {n : Nat} {r : Nat → Nat} {m : Nat} {z p : Nat → Int} (D : Dec n r m z p) {i P : Nat} (hi : i < m) (hP : p i = P) : Dec n r (m - 1) (mrgZ z i P) (mrgP p i P) := by
  obtain ⟨d, hd⟩ := D.rank
  have hPm : P < m := by have := (D.par i hi).2; omega
  have hdP : d P < d i := by have := hd i hi (by omega); rwa [hP, Int.toNat_natCast] at this
  have hPi : P ≠ i := fun e => by subst e; omega
  -- the parents behind the joining
  have jp : ∀ j, j < m → -1 ≤ jnP p i P j ∧ jnP p i P j < m ∧ jnP p i P j ≠ i := by
    intro j hj
    have := D.par j hj
    unfold jnP
    split <;> omega
  have jm1 : ∀ j, jnP p i P j = -1 ↔ p j = -1 := by
    intro j
    unfold jnP
    split <;> omega
  have jd : ∀ j, j < m → jnP p i P j ≠ -1 → d (jnP p i P j).toNat < d j := by
    intro j hj hne
    have hne' : p j ≠ -1 := fun e => hne ((jm1 j).2 e)
    have h1 := hd j hj hne'
    unfold jnP
    split
    · rename_i e
      rw [e, Int.toNat_natCast] at h1
      rw [Int.toNat_natCast]; omega
    · exact h1
  -- the parents at the new places
  have mp : ∀ k, k < m - 1 → mrgP p i P k = if jnP p i P (unD i k) = -1 then -1 else ((reD i (jnP p i P (unD i k)).toNat : Nat) : Int) := by
    intro k hk
    have := jp _ (unD_lt (i := i) hk)
    unfold mrgP reD
    split
    · rw [if_neg (by omega), if_neg (by omega)]; omega
    · split
      · assumption
      · rw [if_pos (by omega)]; omega
  have mm1 : ∀ k, k < m - 1 → (mrgP p i P k = -1 ↔ p (unD i k) = -1) := by
    intro k hk
    rw [mp k hk, ← jm1]
    split
    · exact ⟨fun _ => by assumption, fun _ => rfl⟩
    · exact ⟨fun h => by omega, fun h => by contradiction⟩
  have mtop : ∀ v k, k < m - 1 → (topB (mrgZ z i P) (mrgP p i P) v k = true ↔ (jnZ z i P (unD i k)).toNat.testBit v = true ∧ (p (unD i k) = -1 ∨ (jnZ z i P (jnP p i P (unD i k)).toNat).toNat.testBit v = false)) := by
    intro v k hk
    rw [topB_iff, mm1 k hk]
    by_cases h1 : p (unD i k) = -1
    · simp [h1, mrgZ]
    · have h2 : ¬ jnP p i P (unD i k) = -1 := fun e => h1 ((jm1 _).1 e)
      have h3 := jp _ (unD_lt (i := i) hk)
      rw [mp k hk, if_neg h2, Int.toNat_natCast]
      unfold mrgZ
      rw [un_re (by omega)]
  obtain ⟨i0, hi0, hr0⟩ := D.root
  have hi0i : i0 ≠ i := fun e => by subst e; omega
  refine ⟨by have : P < m := hPm; omega, by have := D.most; omega, ?_, ⟨reD i i0, reD_lt hi hi0 hi0i, (mm1 _ (reD_lt hi hi0 hi0i)).2 (by rw [un_re hi0i]; exact hr0)⟩, ?_, ⟨fun k => d (unD i k), ?_⟩, ?_, ?_, ?_, ?_⟩
  · intro k hk
    have h3 := jp _ (unD_lt (i := i) hk)
    rw [mp k hk]
    split
    · omega
    · have := reD_lt (i := i) (j := (jnP p i P (unD i k)).toNat) hi (by omega) (by omega)
      omega
  · intro a b ha hb h1 h2
    exact unD_inj (D.roots _ _ (unD_lt ha) (unD_lt hb) ((mm1 a ha).1 h1) ((mm1 b hb).1 h2))
  · intro k hk hne
    have h1 : ¬ jnP p i P (unD i k) = -1 := fun e => hne (by rw [mp k hk, if_pos e])
    have h3 := jp _ (unD_lt (i := i) hk)
    show d (unD i (mrgP p i P k).toNat) < d (unD i k)
    rw [mp k hk, if_neg h1, Int.toNat_natCast, un_re (by omega)]
    exact jd _ (unD_lt hk) h1
  · intro k hk
    have hb := D.bags _ (unD_lt (i := i) hk)
    unfold mrgZ jnZ
    split
    · exact ⟨by omega, by rw [Int.toNat_natCast]; exact Nat.or_lt_two_pow (D.bags P hPm).2 (D.bags i hi).2⟩
    · exact hb
  · -- there is a top bag
    intro v hv
    have up : ∀ k j, d j ≤ k → j < m → j ≠ i → (jnZ z i P j).toNat.testBit v = true → ∃ t, t < m - 1 ∧ topB (mrgZ z i P) (mrgP p i P) v t = true := by
      intro k
      induction k with
      | zero =>
        intro j h1 hj hji hv
        refine ⟨reD i j, reD_lt hi hj hji, (mtop v _ (reD_lt hi hj hji)).2 ?_⟩
        rw [un_re hji]
        refine ⟨hv, Or.inl ?_⟩
        apply Classical.byContradiction
        intro hr
        have := hd j hj hr; omega
      | succ k ih =>
        intro j h1 hj hji hv
        by_cases hr : p j = -1
        · refine ⟨reD i j, reD_lt hi hj hji, (mtop v _ (reD_lt hi hj hji)).2 ?_⟩
          rw [un_re hji]
          exact ⟨hv, Or.inl hr⟩
        · cases hq : (jnZ z i P (jnP p i P j).toNat).toNat.testBit v
          · refine ⟨reD i j, reD_lt hi hj hji, (mtop v _ (reD_lt hi hj hji)).2 ?_⟩
            rw [un_re hji]
            exact ⟨hv, Or.inr hq⟩
          · have h2 := jd j hj (fun e => hr ((jm1 j).1 e))
            have h3 := jp j hj
            have h4 : jnP p i P j ≠ -1 := fun e => hr ((jm1 j).1 e)
            exact ih (jnP p i P j).toNat (by omega) (by omega) (by omega) hq
    obtain ⟨j, hj, ht⟩ := D.top v hv
    have hz := (topB_iff.1 ht).1
    by_cases hji : j = i
    · subst hji
      exact up (d P) P (Nat.le_refl _) hPm hPi (by rw [jnZ_at, hz]; simp)
    · exact up (d j) j (Nat.le_refl _) hj hji (jnZ_sub hz)
  · -- and only one
    intro v a b hv ha hb h1 h2
    have old : ∀ k, k < m - 1 → topB (mrgZ z i P) (mrgP p i P) v k = true → ∃ t, t < m ∧ topB z p v t = true ∧ (t = unD i k ∨ (unD i k = P ∧ t = i)) := by
      intro k hk h
      obtain ⟨g1, g2⟩ := (mtop v k hk).1 h
      have hjm := unD_lt (i := i) hk
      by_cases hjP : unD i k = P
      · rw [hjP] at g1 g2
        rw [jnZ_at, Bool.or_eq_true] at g1
        cases hvP : (z P).toNat.testBit v
        · rw [hvP] at g1
          refine ⟨i, hi, topB_iff.2 ⟨by simpa using g1, Or.inr ?_⟩, Or.inr ⟨hjP, rfl⟩⟩
          rw [hP]; exact hvP
        · refine ⟨P, hPm, topB_iff.2 ⟨hvP, ?_⟩, Or.inl hjP.symm⟩
          rcases g2 with g2 | g2
          · exact Or.inl g2
          · by_cases hr : p P = -1
            · exact Or.inl hr
            · right
              have hpi : p P ≠ i := fun e => by
                have := hd P hPm hr
                rw [e, Int.toNat_natCast] at this; omega
              have e : jnP p i P P = p P := by unfold jnP; rw [if_neg hpi]
              rw [e] at g2
              cases hc : (z (p P).toNat).toNat.testBit v
              · rfl
              · rw [jnZ_sub hc] at g2; cases g2
      · rw [jnZ_ne hjP] at g1
        refine ⟨unD i k, hjm, topB_iff.2 ⟨g1, ?_⟩, Or.inl rfl⟩
        rcases g2 with g2 | g2
        · exact Or.inl g2
        · right
          by_cases hpi : p (unD i k) = i
          · have e : jnP p i P (unD i k) = P := by unfold jnP; rw [if_pos hpi]
            rw [e, Int.toNat_natCast, jnZ_at, Bool.or_eq_false_iff] at g2
            rw [hpi, Int.toNat_natCast]; exact g2.2
          · have e : jnP p i P (unD i k) = p (unD i k) := by unfold jnP; rw [if_neg hpi]
            rw [e] at g2
            cases hc : (z (p (unD i k)).toNat).toNat.testBit v
            · rfl
            · rw [jnZ_sub hc] at g2; cases g2
    obtain ⟨s, s1, s2, s3⟩ := old a ha h1
    obtain ⟨t, t1, t2, t3⟩ := old b hb h2
    have hst := D.tops v s t hv s1 t1 s2 t2
    subst hst
    have n1 := unD_ne i a
    have n2 := unD_ne i b
    apply unD_inj (i := i)
    rcases s3 with s3 | ⟨s3, s4⟩ <;> rcases t3 with t3 | ⟨t3, t4⟩ <;> omega
  · intro v u hv hu
    obtain ⟨j, hj, g1, g2⟩ := D.near v u hv hu
    by_cases hji : j = i
    · subst hji
      refine ⟨reD j P, reD_lt hi hPm hPi, ?_, ?_⟩
      · unfold mrgZ; rw [un_re hPi, jnZ_at, g1]; simp
      · unfold mrgZ; rw [un_re hPi, jnZ_at, g2]; simp
    · refine ⟨reD i j, reD_lt hi hj hji, ?_, ?_⟩
      · unfold mrgZ; rw [un_re hji]; exact jnZ_sub g1
      · unfold mrgZ; rw [un_re hji]; exact jnZ_sub g2

/-! ### the width stays, and the bags are bags that were -/

theorem sub_or {a b : Nat} (h : diff a b = 0) : b ||| a = b := by
  apply Nat.eq_of_testBit_eq
  intro i
  rw [Nat.testBit_or]
  cases ha : a.testBit i
  · simp
  · simp [diff_zero.1 h i ha]
/-- One of two bags that are joined is a part of the other one. -/
def Parts2 (z : Nat → Int) (i P : Nat) : Prop := diff (z i).toNat (z P).toNat = 0 ∨ diff (z P).toNat (z i).toNat = 0
theorem merge_old {n m : Nat} {z : Nat → Int} (hz : BagsOK n m z) {i P : Nat} (hi : i < m) (hP : P < m) (h : Parts2 z i P) {k : Nat} (hk : k < m - 1) : ∃ j, j < m ∧ mrgZ z i P k = z j := by
  unfold mrgZ jnZ
  split
  · rcases h with h | h
    · exact ⟨P, hP, by rw [sub_or h]; have := (hz P hP).1; omega⟩
    · exact ⟨i, hi, by rw [Nat.or_comm, sub_or h]; have := (hz i hi).1; omega⟩
  · exact ⟨_, unD_lt hk, rfl⟩
theorem mx_le {n : Nat} {z : Nat → Int} {W : Nat} : ∀ m, mxTo n z m ≤ W ↔ ∀ i, i < m → szS n (z i).toNat ≤ W := by
  intro m
  induction m with
  | zero => exact ⟨fun _ i hi => by omega, fun _ => Nat.zero_le _⟩
  | succ m ih =>
    unfold mxTo
    rw [Nat.max_le, ih]
    exact ⟨fun ⟨h1, h2⟩ i hi => by rcases Nat.lt_succ_iff_lt_or_eq.1 hi with h4 | h4; exact h1 i h4; rw [h4]; exact h2, fun h => ⟨fun i hi => h i (by omega), h m (by omega)⟩⟩
theorem merge_width {n m : Nat} {z : Nat → Int} (hz : BagsOK n m z) {i P : Nat} (hi : i < m) (hP : P < m) (hne : P ≠ i) (h : Parts2 z i P) : mxTo n (mrgZ z i P) (m - 1) = mxTo n z m := by
  apply Nat.le_antisymm
  · rw [mx_le]
    intro k hk
    obtain ⟨j, hj, e⟩ := merge_old hz hi hP h hk
    rw [e]
    exact (mx_le m).1 (Nat.le_refl _) j hj
  · rw [mx_le]
    intro j hj
    have new : ∀ k, k < m - 1 → szS n (mrgZ z i P k).toNat ≤ mxTo n (mrgZ z i P) (m - 1) := (mx_le (m - 1)).1 (Nat.le_refl _)
    by_cases hji : j = i
    · subst hji
      refine Nat.le_trans (szS_mono fun x _ hx => ?_) (new (reD j P) (reD_lt hj hP hne))
      unfold mrgZ; rw [un_re hne, jnZ_at, hx]; simp
    · refine Nat.le_trans (szS_mono fun x _ hx => ?_) (new (reD i j) (reD_lt hi hj hji))
      unfold mrgZ; rw [un_re hji]; exact jnZ_sub hx

/-! ### where nothing can be merged no bag is a part of another one -/

theorem Desc.child {m : Nat} {p : Nat → Int} {i j : Nat} (hi : i < m) (hp : ∀ i, i < m → -1 ≤ p i ∧ p i < m) (h : Desc m p i j) (hne : i ≠ j) : ∃ c, c < m ∧ p c = i ∧ Desc m p c j := by
  induction h with
  | refl => exact absurd rfl hne
  | @step j hj hr h2 ih =>
    by_cases e : i = (p j).toNat
    · exact ⟨j, hj, by have := hp j hj; omega, .refl⟩
    · obtain ⟨c, c1, c2, c3⟩ := ih e
      exact ⟨c, c1, c2, .step hj hr c3⟩
theorem Dec.between {n : Nat} {r : Nat → Nat} {m : Nat} {z p : Nat → Int} (D : Dec n r m z p) {v i c j : Nat} (hv : v < n) (hi : i < m) (hc : c < m) (hpc : p c = i) (h : Desc m p c j) (h1 : (z i).toNat.testBit v = true) (h2 : (z j).toNat.testBit v = true) (hj : j < m) : (z c).toNat.testBit v = true := by
  obtain ⟨d, hd⟩ := D.rank
  obtain ⟨t, t1, t2, t3⟩ := climb hd D.par v (d i) i (Nat.le_refl _) hi h1
  have hci : d i < d c := by have := hd c hc (by omega); rwa [hpc, Int.toNat_natCast] at this
  have hti := t3.le hd
  induction h with
  | refl => exact h2
  | @step j hj' hr h3 ih =>
    have hp := D.par j hj
    apply ih _ (by omega)
    cases hq : (z (p j).toNat).toNat.testBit v
    · have := D.tops v j t hv hj t1 (topB_iff.2 ⟨h2, Or.inr hq⟩) t2
      subst this
      have h4 := hd j hj hr
      have h5 := h3.le hd
      omega
    · rfl
theorem Dec.narrow {n : Nat} {r : Nat → Nat} {m : Nat} {z p : Nat → Int} (D : Dec n r m z p) (hno : ∀ i, i < m → p i ≠ -1 → ¬ Parts2 z i (p i).toNat) {i j : Nat} (hi : i < m) (hj : j < m) (hij : i ≠ j) : diff (z i).toNat (z j).toNat ≠ 0 := by
  intro h0
  rw [diff_zero] at h0
  obtain ⟨d, hd⟩ := D.rank
  have bit : ∀ v, (z i).toNat.testBit v = true → v < n := by
    intro v hv
    apply Classical.byContradiction
    intro hn
    have := Nat.testBit_lt_two_pow (i := v) (Nat.lt_of_lt_of_le (D.bags i hi).2 (Nat.pow_le_pow_right (by omega) (by omega)))
    rw [this] at hv; cases hv
  by_cases hdesc : Desc m p i j
  · obtain ⟨c, c1, c2, c3⟩ := hdesc.child hi D.par hij
    apply hno c c1 (by omega)
    right
    rw [c2, Int.toNat_natCast, diff_zero]
    intro v hv
    exact D.between (bit v hv) hi c1 c2 c3 hv (h0 v hv) hj
  · -- bag i is not the root, since all bags come to the root
    have toRoot : ∀ k x, d x ≤ k → x < m → ∃ t, t < m ∧ p t = -1 ∧ Desc m p t x := by
      intro k
      induction k with
      | zero =>
        intro x h1 hx
        refine ⟨x, hx, ?_, .refl⟩
        apply Classical.byContradiction
        intro hr
        have := hd x hx hr; omega
      | succ k ih =>
        intro x h1 hx
        by_cases hr : p x = -1
        · exact ⟨x, hx, hr, .refl⟩
        · have h2 := hd x hx hr
          have h3 := D.par x hx
          obtain ⟨t, t1, t2, t3⟩ := ih (p x).toNat (by omega) (by omega)
          exact ⟨t, t1, t2, .step hx hr t3⟩
    have hr : p i ≠ -1 := by
      intro hr
      obtain ⟨t, t1, t2, t3⟩ := toRoot (d j) j (Nat.le_refl _) hj
      have := D.roots i t hi t1 hr t2
      subst this
      exact hdesc t3
    apply hno i hi hr
    left
    rw [diff_zero]
    intro v hv
    cases hq : (z (p i).toNat).toNat.testBit v
    · obtain ⟨t, t1, t2, t3⟩ := climb hd D.par v (d j) j (Nat.le_refl _) hj (h0 v hv)
      have := D.tops v i t (bit v hv) hi t1 (topB_iff.2 ⟨hv, Or.inr hq⟩) t2
      subst this
      exact absurd t3 hdesc
    · rfl
/-- Then there are no more bags than nodes. -/
theorem Dec.few {n : Nat} {r : Nat → Nat} {m : Nat} {z p : Nat → Int} (D : Dec n r m z p) (hn : 1 ≤ n) (hno : ∀ i j, i < m → j < m → i ≠ j → diff (z i).toNat (z j).toNat ≠ 0) : m ≤ n := by
  by_cases h1 : m = 1
  · omega
  · -- each bag is the top bag of some node
    have own : ∀ i, i < m → ∃ v, v < n ∧ topB z p v i = true := by
      intro i hi
      have bit : ∀ v, (z i).toNat.testBit v = true → v < n := by
        intro v hv
        apply Classical.byContradiction
        intro hn
        have := Nat.testBit_lt_two_pow (i := v) (Nat.lt_of_lt_of_le (D.bags i hi).2 (Nat.pow_le_pow_right (by omega) (by omega)))
        rw [this] at hv; cases hv
      by_cases hr : p i = -1
      · obtain ⟨j, hj, hij⟩ : ∃ j, j < m ∧ i ≠ j := by
          by_cases h0 : i = 0
          · exact ⟨1, by have := D.one; omega, by omega⟩
          · exact ⟨0, by omega, h0⟩
        have hne := hno i j hi hj hij
        obtain ⟨v, hv⟩ : ∃ v, (z i).toNat.testBit v = true := by
          apply Classical.byContradiction
          intro hc
          exact hne (diff_zero.2 fun v hv => absurd ⟨v, hv⟩ hc)
        exact ⟨v, bit v hv, topB_iff.2 ⟨hv, Or.inl hr⟩⟩
      · obtain ⟨d, hd⟩ := D.rank
        have h2 := D.par i hi
        have h3 := hd i hi hr
        have hne := hno i (p i).toNat hi (by omega) (fun e => by rw [← e] at h3; omega)
        obtain ⟨v, hv, hw⟩ : ∃ v, (z i).toNat.testBit v = true ∧ (z (p i).toNat).toNat.testBit v = false := by
          apply Classical.byContradiction
          intro hc
          refine hne (diff_zero.2 fun v hv => ?_)
          cases hq : (z (p i).toNat).toNat.testBit v
          · exact absurd ⟨v, hv, hq⟩ hc
          · rfl
        exact ⟨v, bit v hv, topB_iff.2 ⟨hv, Or.inr hw⟩⟩
    obtain ⟨f, hf⟩ : ∃ f : Nat → Nat, ∀ v, v < n → f v < m ∧ topB z p v (f v) = true :=
      ⟨fun v => if h : v < n then (D.top v h).choose else 0, fun v hv => by simp only [hv, dif_pos]; exact (D.top v hv).choose_spec⟩
    -- the bags are among the values of f
    have hnd : (List.range m).Nodup := List.nodup_range
    have hsub : ∀ i ∈ List.range m, i ∈ (List.range n).map f := by
      intro i hi
      have hi := List.mem_range.1 hi
      obtain ⟨v, hv, ht⟩ := own i hi
      obtain ⟨g1, g2⟩ := hf v hv
      exact List.mem_map.2 ⟨v, List.mem_range.2 hv, D.tops v (f v) i hv g1 hi g2 ht⟩
    have := List.Nodup.length_le_of_subset hnd (fun i hi => hsub i hi)
    simpa using this

end Go.Proofs.Ytombmfphodikjaa
