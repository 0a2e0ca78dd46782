/- A node or an edge less: what becomes of the least breadth of a layout. -/
import Derived.Test.YthbhhfeiianmcaaDoorQf
namespace Go.Proofs.YthbhhfeiianmcaaDoor
set_option linter.unusedSimpArgs false
set_option linter.unusedVariables false

theorem szS_cov1 {n m A B : Nat} (a : Nat) (f : Nat → Nat) (h : ∀ u, u < n → A.testBit u = true → u = a ∨ ∃ x, x < m ∧ B.testBit x = true ∧ f x = u) : szS n A ≤ szS m B + 1 := by
  unfold szS
  rw [List.countP_eq_length_filter, List.countP_eq_length_filter]
  have hnd : ((List.range n).filter fun v => A.testBit v).Nodup := List.nodup_range.filter _
  have := List.Nodup.length_le_of_subset hnd (l₂ := a :: ((List.range m).filter fun v => B.testBit v).map f) (fun u hu => by
    obtain ⟨h1, h2⟩ := List.mem_filter.1 hu
    rcases h u (List.mem_range.1 h1) h2 with h3 | ⟨x, h3, h4, h5⟩
    · rw [h3]; exact List.mem_cons_self ..
    · exact List.mem_cons_of_mem _ (List.mem_map.2 ⟨x, List.mem_filter.2 ⟨List.mem_range.2 h3, h4⟩, h5⟩))
  simpa using this
theorem szS_cov {n m A B : Nat} (f : Nat → Nat) (h : ∀ u, u < n → A.testBit u = true → ∃ x, x < m ∧ B.testBit x = true ∧ f x = u) : szS n A ≤ szS m B := by
  unfold szS
  rw [List.countP_eq_length_filter, List.countP_eq_length_filter]
  have hnd : ((List.range n).filter fun v => A.testBit v).Nodup := List.nodup_range.filter _
  have := List.Nodup.length_le_of_subset hnd (l₂ := ((List.range m).filter fun v => B.testBit v).map f) (fun u hu => by
    obtain ⟨h1, h2⟩ := List.mem_filter.1 hu
    obtain ⟨x, h3, h4, h5⟩ := h u (List.mem_range.1 h1) h2
    exact List.mem_map.2 ⟨x, List.mem_filter.2 ⟨List.mem_range.2 h3, h4⟩, h5⟩)
  simpa using this
theorem rst_sim {n n' c : Nat} {t t' : Nat → Nat → Nat} (hT : ∀ g v, v < n → t g v ≤ n) (S : Nat → Nat → Prop) (hlt : ∀ g g', S g g' → g < 2 ^ n ∧ g' < 2 ^ n') (hend : ∀ g', S (2 ^ n - 1) g' → rst n' t' g' ≤ c)
    (hstep : ∀ g g' v, S g g' → v < n → g.testBit v = false → S (g ||| 2 ^ v) g' ∨ ∃ v', v' < n' ∧ g'.testBit v' = false ∧ t' g' v' ≤ t g v + c ∧ S (g ||| 2 ^ v) (g' ||| 2 ^ v')) (W : Nat) :
    ∀ k g g', 2 ^ n - g ≤ k → S g g' → rst n t g ≤ W → rst n' t' g' ≤ W + c := by
  intro k
  induction k with
  | zero => intro g g' h1 h2; have := (hlt g g' h2).1; omega
  | succ k ih =>
    intro g g' h1 h2 h3
    obtain ⟨l1, l2⟩ := hlt g g' h2
    by_cases hne : g = 2 ^ n - 1
    · subst hne; have := hend g' h2; omega
    · obtain ⟨v, hv, b1, b2, b3⟩ := rst_next l1 hne (fun v hv => hT g v hv) h3
      have hgt := or_pow_gt b1
      rcases hstep g g' v h2 hv b1 with h4 | ⟨v', hv', c1, c2, c3⟩
      · exact ih _ g' (by omega) h4 b3
      · have h5 := ih _ _ (by omega) c3 b3
        have hne' : g' ≠ 2 ^ n' - 1 := by
          intro e
          rw [e, Nat.testBit_two_pow_sub_one, decide_eq_true hv'] at c1
          cases c1
        rw [rst_best l2 hne']
        have := bestW_at (n := n') (t := t') (gone := g') n' v' hv' c1
        omega
theorem rst_led {n n' c : Nat} {t t' : Nat → Nat → Nat} (hT : ∀ g v, v < n → t g v ≤ n) (S : Nat → Nat → Prop) (hlt : ∀ g g', S g g' → g < 2 ^ n ∧ g' < 2 ^ n') (hend : ∀ g', S (2 ^ n - 1) g' → rst n' t' g' ≤ c)
    (hstep : ∀ g g' v, S g g' → v < n → g.testBit v = false → S (g ||| 2 ^ v) g' ∨ ∃ v', v' < n' ∧ g'.testBit v' = false ∧ t' g' v' ≤ t g v + c ∧ S (g ||| 2 ^ v) (g' ||| 2 ^ v')) (h0 : S 0 0) : rst n' t' 0 ≤ rst n t 0 + c :=
  rst_sim hT S hlt hend hstep _ (2 ^ n) 0 0 (Nat.sub_le _ _) h0 (Nat.le_refl _)
theorem or_bit {g v u : Nat} : (g ||| 2 ^ v).testBit u = (g.testBit u || decide (v = u)) := by rw [Nat.testBit_or, Nat.testBit_two_pow]
theorem all_of {n g : Nat} (hg : g < 2 ^ n) (h : ∀ u, u < n → g.testBit u = true) : g = 2 ^ n - 1 := by
  apply Nat.eq_of_testBit_eq
  intro i
  rw [Nat.testBit_two_pow_sub_one]
  by_cases hi : i < n
  · rw [h i hi, decide_eq_true hi]
  · rw [decide_eq_false hi]
    exact Nat.testBit_lt_two_pow (Nat.lt_of_lt_of_le hg (Nat.pow_le_pow_right (by omega) (by omega)))
theorem all_bit {n u : Nat} (h : u < n) : (2 ^ n - 1).testBit u = true := by rw [Nat.testBit_two_pow_sub_one, decide_eq_true h]

/-! ### a node less, an edge less -/

def unD (i k : Nat) : Nat := if k < i then k else k + 1
def reD (i j : Nat) : Nat := if j < i then j else j - 1
theorem unD_ne (i k : Nat) : unD i k ≠ i := by unfold unD; split <;> omega
theorem un_re {i j : Nat} (h : j ≠ i) : unD i (reD i j) = j := by unfold unD reD; (repeat' split) <;> omega
theorem re_un (i k : Nat) : reD i (unD i k) = k := by unfold unD reD; (repeat' split) <;> omega
theorem unD_lt {i k m : Nat} (h : k < m - 1) : unD i k < m := by unfold unD; split <;> omega
theorem reD_lt {i j m : Nat} (hi : i < m) (hj : j < m) (h : j ≠ i) : reD i j < m - 1 := by unfold reD; split <;> omega
theorem unD_inj {i a b : Nat} (h : unD i a = unD i b) : a = b := by rw [← re_un i a, h, re_un]
def wo (v s : Nat) : Nat := (s &&& (2 ^ v - 1)) ||| ((s >>> (v + 1)) <<< v)
def woZ (z : Nat → Int) (v x : Nat) : Int := ((wo v (z (unD v x)).toNat : Nat) : Int)
theorem testBit_wo (v s y : Nat) : (wo v s).testBit y = s.testBit (unD v y) := by
  unfold wo unD
  rw [Nat.testBit_or, Nat.testBit_and, Nat.testBit_two_pow_sub_one, Nat.testBit_shiftLeft, Nat.testBit_shiftRight]
  by_cases h : y < v
  · rw [if_pos h, decide_eq_true h, decide_eq_false (by omega), Bool.and_true, Bool.false_and, Bool.or_false]
  · rw [if_neg h, decide_eq_false h, decide_eq_true (by omega), Bool.and_false, Bool.false_or, Bool.true_and, show v + 1 + (y - v) = y + 1 by omega]
theorem wo_lt {v s m : Nat} (hv : v < m + 1) (hs : s < 2 ^ (m + 1)) : wo v s < 2 ^ m := by
  apply Nat.lt_pow_two_of_testBit
  intro y hy
  rw [testBit_wo]
  apply Nat.testBit_lt_two_pow
  refine Nat.lt_of_lt_of_le hs (Nat.pow_le_pow_right (by omega) ?_)
  unfold unD
  split <;> omega
theorem shr_val (s v : Nat) : ((s : Nat) : Int) / 2 ^ v = ((s >>> v : Nat) : Int) := by
  rw [Nat.shiftRight_eq_div_pow, Int.natCast_ediv, Int.natCast_pow]; rfl
theorem shl_val (s v : Nat) : ((s : Nat) : Int) * 2 ^ v = ((s <<< v : Nat) : Int) := by
  rw [Nat.shiftLeft_eq, Int.natCast_mul, Int.natCast_pow]; rfl
theorem mask_val (v : Nat) : (2 : Int) ^ v - 1 = ((2 ^ v - 1 : Nat) : Int) := by rw [pow_cast]; have := Nat.one_le_two_pow (n := v); omega

def woN (r : Nat → Nat) (v x : Nat) : Nat := wo v (r (unD v x))
theorem woN_bit (r : Nat → Nat) (v x y : Nat) : (woN r v x).testBit y = (r (unD v x)).testBit (unD v y) := testBit_wo _ _ _
theorem woN_pl {n v : Nat} {r : Nat → Nat} (h : Pl n r) (h2 : 2 ≤ n) (hv : v < n) : Pl (n - 1) (woN r v) := by
  have hd : ∀ i, i < n - 1 → unD v i < n := fun i hi => unD_lt hi
  refine ⟨by omega, by have := h.le; omega, fun i hi => wo_lt (m := n - 1) (by omega) (by rw [show n - 1 + 1 = n by omega]; exact h.bd _ (hd i hi)), fun i hi => ?_, fun u x hu hx => ?_⟩
  · rw [woN_bit]; exact h.loop _ (hd i hi)
  · rw [woN_bit, woN_bit]; exact h.sym _ _ (hd u hu) (hd x hx)
def cutN (r : Nat → Nat) (a b x : Nat) : Nat := if x = a then diff (r a) (2 ^ b) else if x = b then diff (r b) (2 ^ a) else r x
theorem cutN_bit {r : Nat → Nat} {a b : Nat} (hab : a ≠ b) (x y : Nat) : (cutN r a b x).testBit y = ((r x).testBit y && !(decide (x = a) && decide (y = b)) && !(decide (x = b) && decide (y = a))) := by
  unfold cutN
  split
  · rename_i e
    subst e
    rw [testBit_diff, Nat.testBit_two_pow, decide_eq_false (p := x = b) hab, decide_eq_true (p := x = x) rfl]
    by_cases e2 : b = y
    · subst e2; simp
    · simp [e2, Ne.symm e2]
  · rename_i e
    split
    · rename_i e2
      subst e2
      rw [testBit_diff, Nat.testBit_two_pow, decide_eq_false (p := x = a) e, decide_eq_true (p := x = x) rfl]
      by_cases e3 : a = y
      · subst e3; simp
      · simp [e3, Ne.symm e3]
    · rename_i e2
      simp [e, e2]
theorem cutN_pl {n a b : Nat} {r : Nat → Nat} (h : Pl n r) (ha : a < n) (hb : b < n) (hab : a ≠ b) : Pl n (cutN r a b) := by
  refine ⟨h.one, h.le, fun i hi => ?_, fun i hi => ?_, fun u x hu hx => ?_⟩
  · unfold cutN
    split
    · exact Nat.lt_of_le_of_lt (diff_le _ _) (h.bd a ha)
    · split
      · exact Nat.lt_of_le_of_lt (diff_le _ _) (h.bd b hb)
      · exact h.bd i hi
  · rw [cutN_bit hab, h.loop i hi]; rfl
  · rw [cutN_bit hab, cutN_bit hab, h.sym u x hu hx, Bool.and_assoc, Bool.and_assoc]
    congr 1
    rw [Bool.and_comm, Bool.and_comm (decide (u = a)), Bool.and_comm (decide (u = b))]

/-- The path width. -/
abbrev pw (n : Nat) (r : Nat → Nat) : Nat := rst n (tbd n r) 0
theorem tbd_le (n : Nat) (r : Nat → Nat) (g v : Nat) : tbd n r g v ≤ n := szS_le _ _
/-- Fewer edges. -/
theorem pw_sub {n : Nat} {r r' : Nat → Nat} (hn : n ≤ 10) (hr' : ∀ i, i < n → r' i < 2 ^ n) (h : ∀ u x, u < n → x < n → (r' u).testBit x = true → (r u).testBit x = true) : pw n r' ≤ pw n r := by
  have := rst_led (n := n) (n' := n) (c := 0) (t := tbd n r) (t' := tbd n r') (fun g v _ => tbd_le _ _ _ _) (fun g g' => g = g' ∧ g < 2 ^ n) (by rintro g g' ⟨rfl, h⟩; exact ⟨h, h⟩) (by rintro g' ⟨rfl, h⟩; rw [rst_all]; omega) ?_ ⟨rfl, Nat.two_pow_pos n⟩
  · simpa using this
  · rintro g g' v ⟨rfl, hg⟩ hv hb
    have hlt : g ||| 2 ^ v < 2 ^ n := Nat.or_lt_two_pow hg (pow_lt_pow hv)
    refine Or.inr ⟨v, hv, hb, ?_, rfl, hlt⟩
    refine szS_mono fun u hu hx => ?_
    obtain ⟨h1, x, h2, h3⟩ := (testBit_bord hn hlt).1 hx
    exact (testBit_bord hn hlt).2 ⟨h1, x, h u x hu (bit_lt (hr' u hu) h2) h2, h3⟩

/-- The graph without node a. -/
def woR (r : Nat → Nat) (a : Nat) (r' : Nat → Nat) (n : Nat) : Prop := (∀ u, u < n - 1 → r' u < 2 ^ (n - 1)) ∧ ∀ u x, u < n - 1 → x < n - 1 → (r' u).testBit x = (r (unD a u)).testBit (unD a x)
theorem pw_del {n a : Nat} {r r' : Nat → Nat} (hn : n ≤ 10) (ha : a < n) (h : woR r a r' n) : pw (n - 1) r' ≤ pw n r := by
  obtain ⟨hr', he⟩ := h
  have := rst_led (n := n) (n' := n - 1) (c := 0) (t := tbd n r) (t' := tbd (n - 1) r') (fun g v _ => tbd_le _ _ _ _) (fun g g' => g < 2 ^ n ∧ g' < 2 ^ (n - 1) ∧ ∀ u, u < n - 1 → g'.testBit u = g.testBit (unD a u)) (by rintro g g' ⟨h1, h2, _⟩; exact ⟨h1, h2⟩) ?_ ?_ ⟨Nat.two_pow_pos _, Nat.two_pow_pos _, fun u _ => by simp⟩
  · simpa using this
  · rintro g' ⟨_, h1, h2⟩
    rw [all_of h1 fun u hu => by rw [h2 u hu, all_bit (unD_lt hu)], rst_all]; omega
  · rintro g g' v ⟨h1, h2, h3⟩ hv hb
    by_cases e : v = a
    · subst e
      refine Or.inl ⟨Nat.or_lt_two_pow h1 (pow_lt_pow hv), h2, fun u hu => ?_⟩
      rw [or_bit, h3 u hu, decide_eq_false (fun e => unD_ne v u e.symm), Bool.or_false]
    · have hv' := reD_lt ha hv e
      have l1 : g ||| 2 ^ v < 2 ^ n := Nat.or_lt_two_pow h1 (pow_lt_pow hv)
      have l2 : g' ||| 2 ^ reD a v < 2 ^ (n - 1) := Nat.or_lt_two_pow h2 (pow_lt_pow hv')
      have hsame : ∀ u, u < n - 1 → (g' ||| 2 ^ reD a v).testBit u = (g ||| 2 ^ v).testBit (unD a u) := by
        intro u hu
        rw [or_bit, or_bit, h3 u hu]
        congr 1
        rw [Bool.eq_iff_iff, decide_eq_true_eq, decide_eq_true_eq]
        exact ⟨fun h => by rw [← h, un_re e], fun h => by rw [h, re_un]⟩
      refine Or.inr ⟨reD a v, hv', by rw [h3 _ hv', un_re e]; exact hb, ?_, l1, l2, hsame⟩
      refine szS_cov (reD a) fun u hu hx => ?_
      refine ⟨unD a u, unD_lt hu, ?_, re_un a u⟩
      obtain ⟨h4, x, h5, h6⟩ := (testBit_bord (by omega) l2).1 hx
      have hxl : x < n - 1 := bit_lt (hr' u hu) h5
      exact (testBit_bord hn l1).2 ⟨by rw [← hsame u hu]; exact h4, unD a x, by rw [← he u x hu hxl]; exact h5, by rw [← hsame x hxl]; exact h6⟩
theorem pw_add {n a : Nat} {r r' : Nat → Nat} (hn : n ≤ 10) (ha : a < n) (hr : ∀ i, i < n → r i < 2 ^ n) (h : woR r a r' n) : pw n r ≤ pw (n - 1) r' + 1 := by
  obtain ⟨hr', he⟩ := h
  have h0 := Nat.two_pow_pos n
  have hp : 2 ^ a < 2 ^ n := pow_lt_pow ha
  have key := rst_sim (n := n - 1) (n' := n) (c := 1) (t := tbd (n - 1) r') (t' := tbd n r) (fun g v _ => tbd_le _ _ _ _) (fun g' g => g < 2 ^ n ∧ g' < 2 ^ (n - 1) ∧ g.testBit a = true ∧ ∀ u, u < n - 1 → g'.testBit u = g.testBit (unD a u)) (by rintro g g' ⟨h1, h2, _⟩; exact ⟨h2, h1⟩) ?_ ?_ (pw (n - 1) r') (2 ^ (n - 1)) 0 (2 ^ a) (Nat.sub_le _ _) ⟨hp, Nat.two_pow_pos _, by rw [Nat.testBit_two_pow]; simp, fun u hu => by rw [Nat.zero_testBit, Nat.testBit_two_pow, decide_eq_false fun e => unD_ne a u e.symm]⟩ (Nat.le_refl _)
  · by_cases hone : (0 : Nat) = 2 ^ n - 1
    · have : rst n (tbd n r) 0 = 0 := by have h := rst_all n (tbd n r); rw [← hone] at h; exact h
      show rst n (tbd n r) 0 ≤ _
      omega
    · show rst n (tbd n r) 0 ≤ _
      rw [rst_best h0 hone]
      have h4 := bestW_at (n := n) (t := tbd n r) (gone := 0) n a ha (by simp)
      rw [Nat.zero_or] at h4
      have h5 : tbd n r 0 a ≤ 1 := by
        have : szS n (bord r (0 ||| 2 ^ a)) ≤ szS 0 0 + 1 := szS_cov1 a id fun u hu hx => by
          rw [Nat.zero_or] at hx
          obtain ⟨h6, _⟩ := (testBit_bord hn hp).1 hx
          rw [Nat.testBit_two_pow] at h6
          exact Or.inl (of_decide_eq_true h6).symm
        exact this
      omega
  · rintro g ⟨h1, _, h2, h3⟩
    have : g = 2 ^ n - 1 := all_of h1 fun u hu => by
      by_cases e : u = a
      · subst e; exact h2
      · have h4 := reD_lt ha hu e
        have := h3 _ h4
        rw [all_bit h4, un_re e] at this
        exact this.symm
    rw [this, rst_all]; omega
  · rintro g' g v' ⟨h1, h2, h3, h4⟩ hv' hb
    have hv := unD_lt (i := a) hv'
    have l1 : g ||| 2 ^ unD a v' < 2 ^ n := Nat.or_lt_two_pow h1 (pow_lt_pow hv)
    have l2 : g' ||| 2 ^ v' < 2 ^ (n - 1) := Nat.or_lt_two_pow h2 (pow_lt_pow hv')
    have hsame : ∀ u, u < n - 1 → (g' ||| 2 ^ v').testBit u = (g ||| 2 ^ unD a v').testBit (unD a u) := by
      intro u hu
      rw [or_bit, or_bit, h4 u hu]
      congr 1
      rw [Bool.eq_iff_iff, decide_eq_true_eq, decide_eq_true_eq]
      exact ⟨fun h => by rw [h], fun h => unD_inj h⟩
    refine Or.inr ⟨unD a v', hv, by rw [← h4 v' hv']; exact hb, ?_, l1, l2, by rw [or_bit, h3]; rfl, hsame⟩
    refine szS_cov1 a (unD a) fun u hu hx => ?_
    by_cases e : u = a
    · exact Or.inl e
    · right
      have hu' := reD_lt ha hu e
      refine ⟨reD a u, hu', ?_, un_re e⟩
      obtain ⟨h5, x, h6, h7⟩ := (testBit_bord hn l1).1 hx
      have hxa : x ≠ a := by
        intro e2
        subst e2
        rw [or_bit, h3] at h7; cases h7
      have hxn : x < n := bit_lt (hr u hu) h6
      have hx' := reD_lt ha hxn hxa
      refine (testBit_bord (by omega) l2).2 ⟨by rw [hsame _ hu', un_re e]; exact h5, reD a x, ?_, by rw [hsame _ hx', un_re hxa]; exact h7⟩
      rw [he _ _ hu' hx', un_re e, un_re hxa]; exact h6

theorem pw_wo {n v : Nat} {r : Nat → Nat} (h : Pl n r) (h2 : 2 ≤ n) (hv : v < n) : pw (n - 1) (woN r v) ≤ pw n r ∧ pw n r ≤ pw (n - 1) (woN r v) + 1 := by
  have hn : n ≤ 10 := by have := h.le; omega
  have hw : woR r v (woN r v) n := ⟨(woN_pl h h2 hv).bd, fun u x _ _ => woN_bit r v u x⟩
  exact ⟨pw_del hn hv hw, pw_add hn hv h.bd hw⟩
theorem pw_cut {n a b : Nat} {r : Nat → Nat} (h : Pl n r) (h2 : 2 ≤ n) (ha : a < n) (hb : b < n) (hab : a ≠ b) : pw n (cutN r a b) ≤ pw n r ∧ pw n r ≤ pw n (cutN r a b) + 1 := by
  have hn : n ≤ 10 := by have := h.le; omega
  have hc := cutN_pl h ha hb hab
  refine ⟨pw_sub hn hc.bd fun u x hu hx hb2 => ?_, ?_⟩
  · rw [cutN_bit hab, Bool.and_assoc, Bool.and_eq_true] at hb2; exact hb2.1
  · have h3 := (pw_wo h h2 ha).2
    have h4 : pw (n - 1) (woN r a) ≤ pw n (cutN r a b) := pw_del hn ha ⟨(woN_pl h h2 ha).bd, fun u x _ _ => by
      rw [woN_bit, cutN_bit hab, decide_eq_false (p := unD a u = a) (unD_ne a u), decide_eq_false (p := unD a x = a) (unD_ne a x)]; simp⟩
    omega

end Go.Proofs.YthbhhfeiianmcaaDoor
