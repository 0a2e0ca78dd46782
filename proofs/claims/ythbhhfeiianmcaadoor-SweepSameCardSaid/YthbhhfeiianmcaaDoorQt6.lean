/- A plan that follows a path decomposition never goes back and clears all. -/
import Derived.Test.YthbhhfeiianmcaaDoorQt5
namespace Go.Proofs.YthbhhfeiianmcaaDoor
set_option linter.unusedSimpArgs false
set_option linter.unusedVariables false

/-- How a plan stands: the guards, the streets that are clear, who had a guard, the most guards so far. -/
structure Sit where
  G : Nat
  C : Nat → Nat → Bool
  had : Nat
  most : Nat
def step (n : Nat) (r : Nat → Nat) (a : Bool × Nat) (s : Sit) : Sit where
  G := s.G ^^^ 2 ^ a.2
  C := fun x y => s.C x y || ((r x).testBit y && (s.G ^^^ 2 ^ a.2).testBit x && (s.G ^^^ 2 ^ a.2).testBit y)
  had := s.had ||| (s.G ^^^ 2 ^ a.2)
  most := max s.most (szS n (s.G ^^^ 2 ^ a.2))
/-- Whether smoke comes from a node. -/
def smk (n : Nat) (r : Nat → Nat) (s : Sit) (x : Nat) : Bool := ((List.range n).any fun u => (r x).testBit u && !s.C x u) && !s.G.testBit x
def NoBack (n : Nat) (r : Nat → Nat) (s : Sit) : Prop := ∀ x y, x < n → y < n → s.C x y = true → smk n r s x = false ∧ smk n r s y = false
def goodAct (n : Nat) (r : Nat → Nat) (a : Bool × Nat) (s : Sit) : Prop := a.2 < n ∧ s.G.testBit a.2 = !a.1 ∧ NoBack n r (step n r a s)
def okRun (n : Nat) (r : Nat → Nat) : Acts → Sit → Prop
  | [], _ => True
  | a :: l, s => goodAct n r a s ∧ okRun n r l (step n r a s)
def run (n : Nat) (r : Nat → Nat) (l : Acts) (s : Sit) : Sit := l.foldl (fun s a => step n r a s) s
theorem run_append (n : Nat) (r : Nat → Nat) (l l' : Acts) (s : Sit) : run n r (l ++ l') s = run n r l' (run n r l s) := by unfold run; rw [List.foldl_append]
theorem okRun_append {n : Nat} {r : Nat → Nat} : ∀ {l l' : Acts} {s : Sit}, okRun n r l s → okRun n r l' (run n r l s) → okRun n r (l ++ l') s
  | [], _, _, _, h => h
  | a :: l, l', s, h, h' => ⟨h.1, okRun_append (l := l) h.2 h'⟩
def sit0 : Sit := { G := 0, C := fun _ _ => false, had := 0, most := 0 }

theorem bit_xor (g v x : Nat) : (g ^^^ 2 ^ v).testBit x = (g.testBit x ^^ decide (v = x)) := by rw [Nat.testBit_xor, Nat.testBit_two_pow]

/-- The greatest number of nodes of the first bags. -/
def mxN (n : Nat) (B : Nat → Nat) (m : Nat) : Nat → Nat
  | 0 => 0
  | k + 1 => max (mxN n B m k) (szS n (bagN B m k))
theorem mxN_ge {n : Nat} {B : Nat → Nat} {m : Nat} : ∀ k i, i < k → szS n (bagN B m i) ≤ mxN n B m k := by
  intro k
  induction k with
  | zero => intro i hi; omega
  | succ k ih =>
    intro i hi
    show _ ≤ max (mxN n B m k) (szS n (bagN B m k))
    by_cases e : i = k
    · subst e; omega
    · have := ih i (by omega); omega

structure Inv (n : Nat) (r : Nat → Nat) (B : Nat → Nat) (m k : Nat) (s : Sit) : Prop where
  core : ∀ x, (wasN B m k).testBit x = true → (bagN B m k).testBit x = true → s.G.testBit x = true
  lt : s.G < 2 ^ n
  left : ∀ x y, x < n → y < n → s.C x y = true → (s.G.testBit x = true ∨ ∃ i, i < k ∧ (bagN B m i).testBit x = true) ∧ (s.G.testBit y = true ∨ ∃ i, i < k ∧ (bagN B m i).testBit y = true)
  full : ∀ x y, x < n → y < n → (r x).testBit y = true → (∃ i, i < k ∧ (bagN B m i).testBit x = true ∧ (bagN B m i).testBit y = true) → s.C x y = true
  both : ∀ x y, x < n → y < n → (r x).testBit y = true → s.G.testBit x = true → s.G.testBit y = true → s.C x y = true
  hadB : ∀ i x, i < k → (bagN B m i).testBit x = true → s.had.testBit x = true
  hadG : ∀ x, s.G.testBit x = true → s.had.testBit x = true
  hadlt : s.had < 2 ^ n
  most : s.most = max (mxN n B m k) (szS n s.G)

section
variable {n m : Nat} {r B : Nat → Nat}

theorem bagN_at {k : Nat} (h : k < m) : bagN B m k = B k := if_pos h
theorem bagN_bit {k x : Nat} (h : (bagN B m k).testBit x = true) : k < m ∧ (B k).testBit x = true := by
  unfold bagN at h
  split at h
  · rename_i hk; exact ⟨hk, h⟩
  · rw [Nat.zero_testBit] at h; cases h

theorem Inv.noBack {k : Nat} {s : Sit} (h : Inv n r B m k s) (hp : Path n r m B) (hr : ∀ i, i < n → r i < 2 ^ n) : NoBack n r s := by
  have key : ∀ x, x < n → (s.G.testBit x = true ∨ ∃ i, i < k ∧ (bagN B m i).testBit x = true) → smk n r s x = false := by
    intro x hx hl
    rw [Bool.eq_false_iff]
    intro hs
    unfold smk at hs
    rw [Bool.and_eq_true, List.any_eq_true] at hs
    obtain ⟨⟨u, hu, hc⟩, hg⟩ := hs
    have hu := List.mem_range.1 hu
    rw [Bool.and_eq_true] at hc
    have hgf : s.G.testBit x = false := by simpa using hg
    have hcf : s.C x u = false := by simpa using hc.2
    obtain ⟨i, hi, hix⟩ : ∃ i, i < k ∧ (bagN B m i).testBit x = true := by
      rcases hl with h1 | h1
      · rw [hgf] at h1; cases h1
      · exact h1
    obtain ⟨j, hj, hjx, hju⟩ := hp.edge x u hx hc.1
    by_cases hjk : j < k
    · have := h.full x u hx hu hc.1 ⟨j, hjk, by rw [bagN_at hj]; exact hjx, by rw [bagN_at hj]; exact hju⟩
      rw [hcf] at this; cases this
    · obtain ⟨hi1, hi2⟩ := bagN_bit hix
      obtain ⟨k', rfl⟩ : ∃ k', k = k' + 1 := ⟨k - 1, by omega⟩
      have hk1 : (B k').testBit x = true := by
        by_cases e : i = k'
        · subst e; exact hi2
        · exact hp.run x i k' j (by omega) (by omega) hj hi2 hjx
      have hk2 : (B (k' + 1)).testBit x = true := by
        by_cases e : j = k' + 1
        · subst e; exact hjx
        · exact hp.run x i (k' + 1) j (by omega) (by omega) hj hi2 hjx
      have := h.core x (by show (bagN B m k').testBit x = true; rw [bagN_at (by omega)]; exact hk1) (by rw [bagN_at (by omega)]; exact hk2)
      rw [hgf] at this; cases this
  intro x y hx hy hc
  obtain ⟨h1, h2⟩ := h.left x y hx hy hc
  exact ⟨key x hx h1, key y hy h2⟩

theorem sub_size {a b : Nat} (h : ∀ x, a.testBit x = true → b.testBit x = true) : szS n a ≤ szS n b := szS_mono fun i _ hi => h i hi

theorem Inv.off {k v : Nat} {s : Sit} (h : Inv n r B m k s) (hsub : ∀ x, s.G.testBit x = true → (wasN B m k).testBit x = true) (hv : v < n) (hold : (wasN B m k).testBit v = true) (hnew : (bagN B m k).testBit v = false) (hg : s.G.testBit v = true) :
    Inv n r B m k (step n r (false, v) s) ∧ (∀ x, (step n r (false, v) s).G.testBit x = (s.G.testBit x && decide (v ≠ x))) := by
  have hb : ∀ x, (s.G ^^^ 2 ^ v).testBit x = (s.G.testBit x && decide (v ≠ x)) := by
    intro x
    rw [bit_xor]
    by_cases e : v = x
    · subst e; rw [hg]; simp
    · simp [e]
  have hle : ∀ x, (s.G ^^^ 2 ^ v).testBit x = true → s.G.testBit x = true := fun x hx => by rw [hb, Bool.and_eq_true] at hx; exact hx.1
  obtain ⟨k', rfl⟩ : ∃ k', k = k' + 1 := by
    cases k with
    | zero => rw [show wasN B m 0 = 0 from rfl, Nat.zero_testBit] at hold; cases hold
    | succ k => exact ⟨k, rfl⟩
  have hmx : szS n s.G ≤ mxN n B m (k' + 1) := Nat.le_trans (sub_size hsub) (mxN_ge (k' + 1) k' (by omega))
  have hsz : szS n (s.G ^^^ 2 ^ v) ≤ szS n s.G := sub_size hle
  have hlt : s.G ^^^ 2 ^ v < 2 ^ n := Nat.xor_lt_two_pow h.lt (pow_lt_pow hv)
  refine ⟨⟨fun x h1 h2 => ?_, hlt, fun x y hx hy hc => ?_, fun x y hx hy ha hi => ?_, fun x y hx hy ha h1 h2 => ?_, fun i x hi hx => ?_, fun x hx => ?_, Nat.or_lt_two_pow h.hadlt hlt, ?_⟩, hb⟩
  · show (s.G ^^^ 2 ^ v).testBit x = true
    rw [hb, h.core x h1 h2, Bool.true_and, decide_eq_true_eq]
    intro e; subst e; rw [hnew] at h2; cases h2
  · have hkey : ∀ x, (s.G.testBit x = true ∨ ∃ i, i < k' + 1 ∧ (bagN B m i).testBit x = true) → ((s.G ^^^ 2 ^ v).testBit x = true ∨ ∃ i, i < k' + 1 ∧ (bagN B m i).testBit x = true) := by
      intro x hx
      rcases hx with h1 | h1
      · by_cases e : v = x
        · subst e; exact Or.inr ⟨k', by omega, hold⟩
        · left; rw [hb, h1]; simp [e]
      · exact Or.inr h1
    have hc : (s.C x y || ((r x).testBit y && (s.G ^^^ 2 ^ v).testBit x && (s.G ^^^ 2 ^ v).testBit y)) = true := hc
    rw [Bool.or_eq_true] at hc
    rcases hc with h1 | h1
    · obtain ⟨a1, a2⟩ := h.left x y hx hy h1
      exact ⟨hkey x a1, hkey y a2⟩
    · rw [Bool.and_eq_true, Bool.and_eq_true] at h1
      exact ⟨Or.inl h1.1.2, Or.inl h1.2⟩
  · show (s.C x y || _) = true
    rw [h.full x y hx hy ha hi]; rfl
  · show (s.C x y || ((r x).testBit y && (s.G ^^^ 2 ^ v).testBit x && (s.G ^^^ 2 ^ v).testBit y)) = true
    have h1 : (s.G ^^^ 2 ^ v).testBit x = true := h1
    have h2 : (s.G ^^^ 2 ^ v).testBit y = true := h2
    rw [ha, h1, h2]; simp
  · show (s.had ||| _).testBit x = true
    rw [Nat.testBit_or, h.hadB i x hi hx]; rfl
  · show (s.had ||| (s.G ^^^ 2 ^ v)).testBit x = true
    have hx : (s.G ^^^ 2 ^ v).testBit x = true := hx
    rw [Nat.testBit_or, hx, Bool.or_true]
  · show max s.most (szS n (s.G ^^^ 2 ^ v)) = max _ (szS n (s.G ^^^ 2 ^ v))
    rw [h.most]; omega

theorem Inv.on {k v : Nat} {s : Sit} (h : Inv n r B m k s) (hv : v < n) (hg : s.G.testBit v = false) :
    Inv n r B m k (step n r (true, v) s) ∧ (∀ x, (step n r (true, v) s).G.testBit x = (s.G.testBit x || decide (v = x))) := by
  have hb : ∀ x, (s.G ^^^ 2 ^ v).testBit x = (s.G.testBit x || decide (v = x)) := by
    intro x
    rw [bit_xor]
    by_cases e : v = x
    · subst e; rw [hg]; simp
    · simp [e]
  have hge : ∀ x, s.G.testBit x = true → (s.G ^^^ 2 ^ v).testBit x = true := fun x hx => by rw [hb, hx]; rfl
  have hsz : szS n s.G ≤ szS n (s.G ^^^ 2 ^ v) := sub_size hge
  have hlt : s.G ^^^ 2 ^ v < 2 ^ n := Nat.xor_lt_two_pow h.lt (pow_lt_pow hv)
  refine ⟨⟨fun x h1 h2 => hge x (h.core x h1 h2), hlt, fun x y hx hy hc => ?_, fun x y hx hy ha hi => ?_, fun x y hx hy ha h1 h2 => ?_, fun i x hi hx => ?_, fun x hx => ?_, Nat.or_lt_two_pow h.hadlt hlt, ?_⟩, hb⟩
  · have hc : (s.C x y || ((r x).testBit y && (s.G ^^^ 2 ^ v).testBit x && (s.G ^^^ 2 ^ v).testBit y)) = true := hc
    rw [Bool.or_eq_true] at hc
    rcases hc with h1 | h1
    · obtain ⟨a1, a2⟩ := h.left x y hx hy h1
      exact ⟨a1.imp (hge x) id, a2.imp (hge y) id⟩
    · rw [Bool.and_eq_true, Bool.and_eq_true] at h1
      exact ⟨Or.inl h1.1.2, Or.inl h1.2⟩
  · show (s.C x y || _) = true
    rw [h.full x y hx hy ha hi]; rfl
  · show (s.C x y || ((r x).testBit y && (s.G ^^^ 2 ^ v).testBit x && (s.G ^^^ 2 ^ v).testBit y)) = true
    have h1 : (s.G ^^^ 2 ^ v).testBit x = true := h1
    have h2 : (s.G ^^^ 2 ^ v).testBit y = true := h2
    rw [ha, h1, h2]; simp
  · show (s.had ||| _).testBit x = true
    rw [Nat.testBit_or, h.hadB i x hi hx]; rfl
  · show (s.had ||| (s.G ^^^ 2 ^ v)).testBit x = true
    have hx : (s.G ^^^ 2 ^ v).testBit x = true := hx
    rw [Nat.testBit_or, hx, Bool.or_true]
  · show max s.most (szS n (s.G ^^^ 2 ^ v)) = max _ (szS n (s.G ^^^ 2 ^ v))
    rw [h.most]; omega

theorem offs_run (hp : Path n r m B) (hr : ∀ i, i < n → r i < 2 ^ n) {k : Nat} : ∀ (l : List Nat) (s : Sit), l.Nodup → (∀ v, v ∈ l → v < n ∧ (wasN B m k).testBit v = true ∧ (bagN B m k).testBit v = false ∧ s.G.testBit v = true) → (∀ x, s.G.testBit x = true → (wasN B m k).testBit x = true) → Inv n r B m k s →
    okRun n r (l.map fun v => (false, v)) s ∧ Inv n r B m k (run n r (l.map fun v => (false, v)) s) ∧ ∀ x, (run n r (l.map fun v => (false, v)) s).G.testBit x = (s.G.testBit x && decide (x ∉ l)) := by
  intro l
  induction l with
  | nil => intro s _ _ _ h; exact ⟨trivial, h, fun x => by show s.G.testBit x = _; simp⟩
  | cons v l ih =>
    intro s hnd hl hsub h
    obtain ⟨hv, h1, h2, h3⟩ := hl v (by simp)
    obtain ⟨hi, hb⟩ := h.off hsub hv h1 h2 h3
    have hnd' := List.nodup_cons.1 hnd
    obtain ⟨i1, i2, i3⟩ := ih (step n r (false, v) s) hnd'.2 (fun u hu => by
      obtain ⟨a1, a2, a3, a4⟩ := hl u (by simp [hu])
      refine ⟨a1, a2, a3, ?_⟩
      rw [hb, a4, Bool.true_and, decide_eq_true_eq]
      intro e; subst e; exact hnd'.1 hu) (fun x hx => by rw [hb, Bool.and_eq_true] at hx; exact hsub x hx.1) hi
    refine ⟨⟨⟨hv, h3, hi.noBack hp hr⟩, i1⟩, i2, fun x => ?_⟩
    show (run n r (l.map fun v => (false, v)) (step n r (false, v) s)).G.testBit x = _
    rw [i3, hb, Bool.and_assoc]
    congr 1
    by_cases e : v = x
    · subst e; simp
    · simp [e, Ne.symm e]
theorem ons_run (hp : Path n r m B) (hr : ∀ i, i < n → r i < 2 ^ n) {k : Nat} : ∀ (l : List Nat) (s : Sit), l.Nodup → (∀ v, v ∈ l → v < n ∧ s.G.testBit v = false) → Inv n r B m k s →
    okRun n r (l.map fun v => (true, v)) s ∧ Inv n r B m k (run n r (l.map fun v => (true, v)) s) ∧ ∀ x, (run n r (l.map fun v => (true, v)) s).G.testBit x = (s.G.testBit x || decide (x ∈ l)) := by
  intro l
  induction l with
  | nil => intro s _ _ h; exact ⟨trivial, h, fun x => by show s.G.testBit x = _; simp⟩
  | cons v l ih =>
    intro s hnd hl h
    obtain ⟨hv, h3⟩ := hl v (by simp)
    obtain ⟨hi, hb⟩ := h.on hv h3
    have hnd' := List.nodup_cons.1 hnd
    obtain ⟨i1, i2, i3⟩ := ih (step n r (true, v) s) hnd'.2 (fun u hu => by
      obtain ⟨a1, a4⟩ := hl u (by simp [hu])
      refine ⟨a1, ?_⟩
      rw [hb, a4, Bool.false_or, decide_eq_false_iff_not]
      intro e; subst e; exact hnd'.1 hu) hi
    refine ⟨⟨⟨hv, h3, hi.noBack hp hr⟩, i1⟩, i2, fun x => ?_⟩
    show (run n r (l.map fun v => (true, v)) (step n r (true, v) s)).G.testBit x = _
    rw [i3, hb, Bool.or_assoc]
    congr 1
    by_cases e : v = x
    · subst e; simp
    · simp [e, Ne.symm e]

theorem wasN_lt (hB : ∀ i, i < m → B i < 2 ^ n) (k : Nat) : wasN B m k < 2 ^ n := by
  have hb : ∀ k, bagN B m k < 2 ^ n := fun k => by
    unfold bagN
    split
    · rename_i h; exact hB k h
    · exact Nat.two_pow_pos n
  cases k with
  | zero => exact Nat.two_pow_pos n
  | succ k => exact hb k

theorem fol_run (hn : n ≤ 10) (hp : Path n r m B) (hr : ∀ i, i < n → r i < 2 ^ n) (hB : ∀ i, i < m → B i < 2 ^ n) : ∀ k, okRun n r (folL B m k) sit0 ∧ Inv n r B m k (run n r (folL B m k) sit0) ∧ ∀ x, (run n r (folL B m k) sit0).G.testBit x = (wasN B m k).testBit x := by
  intro k
  induction k with
  | zero =>
    refine ⟨trivial, ⟨fun x h => ?_, Nat.two_pow_pos n, fun x y _ _ h => ?_, fun x y _ _ _ h => ?_, fun x y _ _ _ h => ?_, fun i x h => by omega, fun x h => h, Nat.two_pow_pos n, ?_⟩, fun x => rfl⟩
    · rw [show wasN B m 0 = 0 from rfl, Nat.zero_testBit] at h; cases h
    · cases h
    · obtain ⟨i, hi, _⟩ := h; omega
    · rw [show (run n r (folL B m 0) sit0).G = 0 from rfl, Nat.zero_testBit] at h; cases h
    · show 0 = max 0 (szS n 0)
      rw [szS_zero]; rfl
  | succ k ih =>
    obtain ⟨h1, h2, h3⟩ := ih
    have hold := wasN_lt hB k
    have hnew : bagN B m k < 2 ^ n := wasN_lt hB (k + 1)
    have m1 : ∀ x, x ∈ offs (wasN B m k) (bagN B m k) ↔ (wasN B m k).testBit x = true ∧ (bagN B m k).testBit x = false := by
      intro x
      unfold offs
      rw [mem_bitsOf, testBit_diff, Bool.and_eq_true]
      constructor
      · rintro ⟨_, a, b⟩; exact ⟨a, by simpa using b⟩
      · rintro ⟨a, b⟩; exact ⟨by have := bit_lt hold a; omega, a, by simpa using b⟩
    have m2 : ∀ x, x ∈ offs (bagN B m k) (wasN B m k) ↔ (bagN B m k).testBit x = true ∧ (wasN B m k).testBit x = false := by
      intro x
      unfold offs
      rw [mem_bitsOf, testBit_diff, Bool.and_eq_true]
      constructor
      · rintro ⟨_, a, b⟩; exact ⟨a, by simpa using b⟩
      · rintro ⟨a, b⟩; exact ⟨by have := bit_lt hnew a; omega, a, by simpa using b⟩
    obtain ⟨a1, a2, a3⟩ := offs_run hp hr (k := k) (offs (wasN B m k) (bagN B m k)) (run n r (folL B m k) sit0) (bitsOf_nodup _) (fun v hv => by
      obtain ⟨b1, b2⟩ := (m1 v).1 hv
      exact ⟨bit_lt hold b1, b1, b2, by rw [h3]; exact b1⟩) (fun x hx => by rw [h3] at hx; exact hx) h2
    obtain ⟨c1, c2, c3⟩ := ons_run hp hr (k := k) (offs (bagN B m k) (wasN B m k)) _ (bitsOf_nodup _) (fun v hv => by
      obtain ⟨b1, b2⟩ := (m2 v).1 hv
      exact ⟨bit_lt hnew b1, by rw [a3, h3, b2]; rfl⟩) a2
    have hrun : run n r (folL B m (k + 1)) sit0 = run n r ((offs (bagN B m k) (wasN B m k)).map fun v => (true, v)) (run n r ((offs (wasN B m k) (bagN B m k)).map fun v => (false, v)) (run n r (folL B m k) sit0)) := by
      show run n r (folL B m k ++ actsOf (wasN B m k) (bagN B m k)) sit0 = _
      unfold actsOf
      rw [run_append, run_append]
    have hok : okRun n r (folL B m (k + 1)) sit0 := okRun_append h1 (okRun_append a1 c1)
    have hG : ∀ x, (run n r (folL B m (k + 1)) sit0).G.testBit x = (bagN B m k).testBit x := by
      intro x
      rw [hrun, c3, a3, h3]
      have d1 : decide (x ∉ offs (wasN B m k) (bagN B m k)) = !((wasN B m k).testBit x && !(bagN B m k).testBit x) := by
        rw [Bool.eq_iff_iff, decide_eq_true_eq, m1]
        cases (wasN B m k).testBit x <;> cases (bagN B m k).testBit x <;> simp
      have d2 : decide (x ∈ offs (bagN B m k) (wasN B m k)) = ((bagN B m k).testBit x && !(wasN B m k).testBit x) := by
        rw [Bool.eq_iff_iff, decide_eq_true_eq, m2]
        cases (wasN B m k).testBit x <;> cases (bagN B m k).testBit x <;> simp
      rw [d1, d2]
      cases (wasN B m k).testBit x <;> cases (bagN B m k).testBit x <;> rfl
    rw [← hrun] at c2
    have hszG : szS n (run n r (folL B m (k + 1)) sit0).G = szS n (bagN B m k) := Nat.le_antisymm (sub_size fun x hx => by rw [hG] at hx; exact hx) (sub_size fun x hx => by rw [hG]; exact hx)
    refine ⟨hok, ⟨fun x hx _ => by rw [hG]; exact hx, c2.lt, fun x y hx hy hc => ?_, fun x y hx hy ha hi => ?_, c2.both, fun i x hi hx => ?_, c2.hadG, c2.hadlt, ?_⟩, hG⟩
    · obtain ⟨e1, e2⟩ := c2.left x y hx hy hc
      exact ⟨e1.imp id fun ⟨i, hi, h⟩ => ⟨i, by omega, h⟩, e2.imp id fun ⟨i, hi, h⟩ => ⟨i, by omega, h⟩⟩
    · obtain ⟨i, hi, e1, e2⟩ := hi
      by_cases e : i = k
      · subst e; exact c2.both x y hx hy ha (by rw [hG]; exact e1) (by rw [hG]; exact e2)
      · exact c2.full x y hx hy ha ⟨i, by omega, e1, e2⟩
    · by_cases e : i = k
      · subst e; exact c2.hadG x (by rw [hG]; exact hx)
      · exact c2.hadB i x (by omega) hx
    · rw [c2.most, hszG]
      show _ = max (max (mxN n B m k) (szS n (bagN B m k))) _
      omega
end

theorem mxN_most {n m : Nat} {z : Nat → Int} : ∀ k, k ≤ m → mxN n (setZ z) m k = mostB n z k := by
  intro k
  induction k with
  | zero => intro _; rfl
  | succ k ih =>
    intro hk
    show max _ (szS n (bagN (setZ z) m k)) = max _ (szS n (setZ z k))
    rw [ih (by omega), bagN_at (by omega)]

/-- What becomes of the plan of a path decomposition. -/
theorem fol_end {n m : Nat} {r : Nat → Nat} {z : Nat → Int} (hn : n ≤ 10) (hp : pathB n r m z = true) (hr : ∀ i, i < n → r i < 2 ^ n) :
    okRun n r (folL (setZ z) m (m + 1)) sit0 ∧ (run n r (folL (setZ z) m (m + 1)) sit0).had = 2 ^ n - 1 ∧ (run n r (folL (setZ z) m (m + 1)) sit0).most = mostB n z m ∧ ∀ x y, x < n → y < n → (r x).testBit y = true → (run n r (folL (setZ z) m (m + 1)) sit0).C x y = true := by
  obtain ⟨h1, h2, h3, hpath⟩ := path_iff.1 hp
  have hB : ∀ i, i < m → setZ z i < 2 ^ n := fun k hk => by
    have := (h3 k hk).2
    rw [pow_cast] at this
    have := (h3 k hk).1
    show (z k).toNat < _
    omega
  obtain ⟨a1, a2, a3⟩ := fol_run hn hpath hr hB (m + 1)
  have hz : bagN (setZ z) m m = 0 := if_neg (by omega)
  refine ⟨a1, ?_, ?_, fun x y hx hy ha => ?_⟩
  · apply Nat.eq_of_testBit_eq
    intro i
    rw [Bool.eq_iff_iff, Nat.testBit_two_pow_sub_one, decide_eq_true_eq]
    constructor
    · exact fun h => bit_lt a2.hadlt h
    · intro hi
      obtain ⟨j, hj, hb⟩ := hpath.node i hi
      exact a2.hadB j i (by omega) (by rw [bagN_at hj]; exact hb)
  · rw [a2.most]
    have hG : szS n (run n r (folL (setZ z) m (m + 1)) sit0).G = 0 := by
      have : szS n (run n r (folL (setZ z) m (m + 1)) sit0).G ≤ szS n 0 := sub_size fun x hx => by
        rw [a3, show wasN (setZ z) m (m + 1) = bagN (setZ z) m m from rfl, hz] at hx; exact hx
      rw [szS_zero] at this; omega
    rw [hG]
    show max (max (mxN n (setZ z) m m) (szS n (bagN (setZ z) m m))) 0 = _
    rw [hz, szS_zero, mxN_most m (Nat.le_refl _)]; omega
  · obtain ⟨j, hj, hb1, hb2⟩ := hpath.edge x y hx ha
    exact a2.full x y hx hy ha ⟨j, by omega, by rw [bagN_at hj]; exact hb1, by rw [bagN_at hj]; exact hb2⟩

theorem two_bits {a b : Nat} : ∀ k, (bitsTo (diff a b) k).length + (bitsTo (diff b a) k).length ≤ k := by
  intro k
  induction k with
  | zero => simp [bitsTo]
  | succ k ih =>
    rw [bitsTo_succ, bitsTo_succ, testBit_diff, testBit_diff]
    cases a.testBit k <;> cases b.testBit k <;> simp <;> omega
theorem fol_short {n m : Nat} {B : Nat → Nat} (hn : n ≤ 10) (hB : ∀ i, i < m → B i < 2 ^ n) : ∀ k, (folL B m k).length ≤ n * k := by
  intro k
  induction k with
  | zero => exact Nat.le_refl _
  | succ k ih =>
    show (folL B m k ++ actsOf (wasN B m k) (bagN B m k)).length ≤ _
    have h1 := wasN_lt hB k
    have h2 : bagN B m k < 2 ^ n := wasN_lt hB (k + 1)
    unfold actsOf offs
    rw [List.length_append, List.length_append, List.length_map, List.length_map, bits_upto hn (Nat.lt_of_le_of_lt (diff_le _ _) h1), bits_upto hn (Nat.lt_of_le_of_lt (diff_le _ _) h2)]
    have := two_bits (a := wasN B m k) (b := bagN B m k) n
    unfold bitsTo at this
    rw [Nat.mul_succ]
    omega

end Go.Proofs.YthbhhfeiianmcaaDoor
