/- Borders, the bags of a layout, and the breadth, in plain words. -/
import Derived.Test.YtgkpogaahndmoaaDoorQt1
import Derived.Test.YtgkpogaahndmoaaDoorRa
namespace Go.Proofs.YtgkpogaahndmoaaDoor
set_option linter.unusedSimpArgs false
set_option linter.unusedVariables false

/-- The nodes of some that have a neighbour outside of a set. -/
def bordF (r : Nat → Nat) (s : Nat) (pre : List Nat) : Nat := pre.foldl (fun acc v => if diff (r v) s == 0 then acc else acc ||| 2 ^ v) 0
theorem bordF_snoc (r : Nat → Nat) (s : Nat) (pre : List Nat) (x : Nat) : bordF r s (pre ++ [x]) = if diff (r x) s == 0 then bordF r s pre else bordF r s pre ||| 2 ^ x := by simp [bordF]
theorem testBit_bordF {r : Nat → Nat} {s : Nat} (i : Nat) : ∀ pre : List Nat, (bordF r s pre).testBit i = true ↔ i ∈ pre ∧ diff (r i) s ≠ 0 := by
  intro pre
  have key : ∀ (pre : List Nat) (a : Nat), (pre.foldl (fun acc v => if diff (r v) s == 0 then acc else acc ||| 2 ^ v) a).testBit i = true ↔ a.testBit i = true ∨ i ∈ pre ∧ diff (r i) s ≠ 0 := by
    intro pre
    induction pre with
    | nil => intro a; simp
    | cons v pre ih =>
      intro a
      rw [List.foldl_cons, ih]
      by_cases h : diff (r v) s = 0
      · rw [if_pos (by simpa using h)]
        constructor
        · rintro (h1 | ⟨h1, h2⟩)
          · exact .inl h1
          · exact .inr ⟨List.mem_cons_of_mem _ h1, h2⟩
        · rintro (h1 | ⟨h1, h2⟩)
          · exact .inl h1
          · rcases List.mem_cons.1 h1 with rfl | h1
            · exact absurd h h2
            · exact .inr ⟨h1, h2⟩
      · rw [if_neg (by simpa using h), Nat.testBit_or, Bool.or_eq_true, Nat.testBit_two_pow, decide_eq_true_eq]
        constructor
        · rintro ((h1 | rfl) | ⟨h1, h2⟩)
          · exact .inl h1
          · exact .inr ⟨List.mem_cons_self .., h⟩
          · exact .inr ⟨List.mem_cons_of_mem _ h1, h2⟩
        · rintro (h1 | ⟨h1, h2⟩)
          · exact .inl (.inl h1)
          · rcases List.mem_cons.1 h1 with rfl | h1
            · exact .inl (.inr rfl)
            · exact .inr ⟨h1, h2⟩
  have := key pre 0
  rw [Nat.zero_testBit] at this
  unfold bordF
  rw [this]
  simp
/-- The border of a set. -/
def bord (r : Nat → Nat) (s : Nat) : Nat := bordF r s (bitsOf s)
theorem bordF_lt {r : Nat → Nat} {s n : Nat} {pre : List Nat} (h : ∀ x ∈ pre, x < n) : bordF r s pre < 2 ^ n := by
  apply Nat.lt_pow_two_of_testBit
  intro i hi
  rw [Bool.eq_false_iff]
  intro hb
  have := h i ((testBit_bordF i pre).1 hb).1
  omega
theorem bord_lt {r : Nat → Nat} {s n : Nat} (h : s < 2 ^ n) : bord r s < 2 ^ n := bordF_lt fun _ hx => bitsOf_lt h hx
theorem testBit_bord {r : Nat → Nat} {s n i : Nat} (hn : n ≤ 10) (h : s < 2 ^ n) : (bord r s).testBit i = true ↔ s.testBit i = true ∧ ∃ u, (r i).testBit u = true ∧ s.testBit u = false := by
  unfold bord
  rw [testBit_bordF, mem_bitsOf]
  constructor
  · rintro ⟨⟨_, h1⟩, h2⟩
    refine ⟨h1, ?_⟩
    apply Classical.byContradiction
    intro hno
    refine h2 (diff_zero.2 fun u hu => ?_)
    cases hs : s.testBit u
    · exact absurd ⟨u, hu, hs⟩ hno
    · rfl
  · rintro ⟨h1, u, h2, h3⟩
    refine ⟨⟨by have := bit_lt h h1; omega, h1⟩, fun e => ?_⟩
    rw [diff_zero.1 e u h2] at h3; cases h3

/-- The bags of a layout. -/
def bagZ (r : Nat → Nat) (z : Nat → Int) (k : Nat) : Int := ((bord r (metO z k) ||| 2 ^ (z k).toNat : Nat) : Int)
/-- Its breadth, as far as its first places reach. -/
def brdTo (n : Nat) (r : Nat → Nat) (z : Nat → Int) : Nat → Nat
  | 0 => 0
  | k + 1 => max (brdTo n r z k) (szS n (bord r (metO z (k + 1))))

theorem testBit_met {z : Nat → Int} : ∀ k v, (metO z k).testBit v = true ↔ ∃ i, i < k ∧ (z i).toNat = v := by
  intro k
  induction k with
  | zero => intro v; simp [metO]
  | succ k ih =>
    intro v
    show (metO z k ||| 2 ^ (z k).toNat).testBit v = true ↔ _
    rw [Nat.testBit_or, Bool.or_eq_true, ih, Nat.testBit_two_pow, decide_eq_true_eq]
    constructor
    · rintro (⟨i, h1, h2⟩ | h)
      · exact ⟨i, by omega, h2⟩
      · exact ⟨k, by omega, h⟩
    · rintro ⟨i, h1, h2⟩
      rcases Nat.lt_succ_iff_lt_or_eq.1 h1 with h | rfl
      · exact .inl ⟨i, h, h2⟩
      · exact .inr h2

/-- What a graph is. -/
structure Pl (n : Nat) (r : Nat → Nat) : Prop where
  one : 1 ≤ n
  le : n ≤ 7
  bd : ∀ i, i < n → r i < 2 ^ n
  loop : ∀ i, i < n → (r i).testBit i = false
  sym : ∀ u x, u < n → x < n → (r u).testBit x = (r x).testBit u

section
variable {n : Nat} {r : Nat → Nat} {z : Nat → Int}

theorem lay_met (ho : ordB n n z = true) {k : Nat} (hk : k ≤ n) : metO z k < 2 ^ n := metO_lt k fun i hi => (ordB_iff ho).2 i (by omega)
theorem lay_at (ho : ordB n n z = true) {k : Nat} (hk : k < n) : (z k).toNat < n ∧ (metO z k).testBit (z k).toNat = false := by
  obtain ⟨_, _, h3, h4⟩ := okO_iff ((ordB_iff ho).2 k hk)
  exact ⟨h3, h4⟩
theorem lay_all (ho : ordB n n z = true) {v : Nat} (hv : v < n) : ∃ p, p < n ∧ (z p).toNat = v := by
  have h1 := metO_sz n fun i hi => (ordB_iff ho).2 i hi
  have h2 := sz_full (lay_met ho (Nat.le_refl n)) h1
  refine (testBit_met n v).1 ?_
  rw [h2, Nat.testBit_two_pow_sub_one]
  exact decide_eq_true hv
theorem bag_bit (h : Pl n r) (ho : ordB n n z = true) {k : Nat} (hk : k < n) (v : Nat) : (setZ (bagZ r z) k).testBit v = true ↔ v = (z k).toNat ∨ (metO z k).testBit v = true ∧ ∃ u, (r v).testBit u = true ∧ (metO z k).testBit u = false := by
  show (((bord r (metO z k) ||| 2 ^ (z k).toNat : Nat) : Int).toNat).testBit v = true ↔ _
  rw [Int.toNat_natCast, Nat.testBit_or, Bool.or_eq_true, Nat.testBit_two_pow, decide_eq_true_eq, testBit_bord (by have := h.le; omega) (lay_met ho (by omega))]
  constructor
  · rintro (h1 | h1)
    · exact .inr h1
    · exact .inl h1.symm
  · rintro (h1 | h1)
    · exact .inr h1.symm
    · exact .inl h1
theorem met_mono {j k : Nat} (h : j ≤ k) {v : Nat} (hv : (metO z j).testBit v = true) : (metO z k).testBit v = true := by
  obtain ⟨i, h1, h2⟩ := (testBit_met j v).1 hv
  exact (testBit_met k v).2 ⟨i, by omega, h2⟩

theorem bags_path (h : Pl n r) (ho : ordB n n z = true) : Path n r n (setZ (bagZ r z)) where
  run := fun v i j k hij hjk hk hi hkv => by
    have h1 : (metO z j).testBit v = true := by
      rcases (bag_bit h ho (by omega) v).1 hi with rfl | ⟨h1, _⟩
      · exact (testBit_met j _).2 ⟨i, hij, rfl⟩
      · exact met_mono (by omega) h1
    refine (bag_bit h ho (by omega) v).2 (.inr ⟨h1, ?_⟩)
    rcases (bag_bit h ho hk v).1 hkv with rfl | ⟨_, u, h2, h3⟩
    · have := (lay_at ho hk).2
      rw [met_mono (by omega) h1] at this; cases this
    · refine ⟨u, h2, ?_⟩
      cases hu : (metO z j).testBit u
      · rfl
      · rw [met_mono (by omega) hu] at h3; cases h3
  edge := fun v u hv hu => by
    have hun := bit_lt (h.bd v hv) hu
    obtain ⟨p, hp, rfl⟩ := lay_all ho hv
    obtain ⟨q, hq, rfl⟩ := lay_all ho hun
    rcases Nat.lt_trichotomy p q with hpq | rfl | hpq
    · exact ⟨q, hq, (bag_bit h ho hq _).2 (.inr ⟨(testBit_met q _).2 ⟨p, hpq, rfl⟩, _, hu, (lay_at ho hq).2⟩), (bag_bit h ho hq _).2 (.inl rfl)⟩
    · rw [h.loop _ hv] at hu; cases hu
    · refine ⟨p, hp, (bag_bit h ho hp _).2 (.inl rfl), (bag_bit h ho hp _).2 (.inr ⟨(testBit_met p _).2 ⟨q, hpq, rfl⟩, _, ?_, (lay_at ho hp).2⟩)⟩
      rw [h.sym _ _ hun hv]; exact hu
  node := fun v hv => by
    obtain ⟨p, hp, rfl⟩ := lay_all ho hv
    exact ⟨p, hp, (bag_bit h ho hp _).2 (.inl rfl)⟩

theorem bag_sz (h : Pl n r) (ho : ordB n n z = true) {k : Nat} (hk : k < n) : szS n (setZ (bagZ r z) k) = szS n (bord r (metO z k)) + 1 := by
  show szS n (((bord r (metO z k) ||| 2 ^ (z k).toNat : Nat) : Int).toNat) = _
  rw [Int.toNat_natCast]
  refine sz_or (lay_at ho hk).1 ?_
  rw [Bool.eq_false_iff]
  intro hb
  have := ((testBit_bord (by have := h.le; omega) (lay_met ho (by omega))).1 hb).1
  rw [(lay_at ho hk).2] at this; cases this
theorem bord_zero (r : Nat → Nat) : bord r 0 = 0 := by
  unfold bord; rw [bitsOf_zero]; rfl
theorem bord_all (h : Pl n r) : bord r (2 ^ n - 1) = 0 := by
  apply Nat.eq_of_testBit_eq
  intro i
  rw [Nat.zero_testBit, Bool.eq_false_iff]
  intro hb
  obtain ⟨h1, u, h2, h3⟩ := (testBit_bord (by have := h.le; omega) (Nat.sub_lt (Nat.two_pow_pos n) (by omega))).1 hb
  rw [Nat.testBit_two_pow_sub_one] at h1 h3
  have := bit_lt (h.bd i (of_decide_eq_true h1)) h2
  simp at h3
  omega
theorem szS_zero (n : Nat) : szS n 0 = 0 := by simp [szS]
/-- The width of the bags of a layout is its breadth. -/
theorem bags_most (h : Pl n r) (ho : ordB n n z = true) : mostB n (bagZ r z) n = brdTo n r z n + 1 := by
  have key : ∀ k, k < n → mostB n (bagZ r z) (k + 1) = brdTo n r z k + 1 := by
    intro k
    induction k with
    | zero =>
      intro hk
      show max (mostB n (bagZ r z) 0) (szS n (setZ (bagZ r z) 0)) = 0 + 1
      rw [bag_sz h ho hk, show metO z 0 = 0 from rfl, bord_zero, szS_zero]
      rfl
    | succ k ih =>
      intro hk
      show max (mostB n (bagZ r z) (k + 1)) (szS n (setZ (bagZ r z) (k + 1))) = max (brdTo n r z k) (szS n (bord r (metO z (k + 1)))) + 1
      rw [ih (by omega), bag_sz h ho hk]
      omega
  obtain ⟨m, rfl⟩ : ∃ m, n = m + 1 := ⟨n - 1, by have := h.one; omega⟩
  rw [key m (by omega)]
  show _ = max (brdTo (m + 1) r z m) (szS (m + 1) (bord r (metO z (m + 1)))) + 1
  rw [sz_full (lay_met ho (Nat.le_refl _)) (metO_sz _ fun i hi => (ordB_iff ho).2 i hi), bord_all h, szS_zero]
  simp
end

end Go.Proofs.YtgkpogaahndmoaaDoor
