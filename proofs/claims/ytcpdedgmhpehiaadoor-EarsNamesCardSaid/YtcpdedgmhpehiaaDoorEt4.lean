/- The pairs that part a graph: the list as the program makes it, and sorted as the reference's. -/
import Derived.Test.YtcpdedgmhpehiaaDoorEj
import Derived.Test.YtcpdedgmhpehiaaDoorEf
namespace Go.Proofs.YtcpdedgmhpehiaaDoor
set_option linter.unusedSimpArgs false
set_option linter.unusedVariables false

/-- What is left without two nodes; whether they part a graph. -/
def leftP (n a b : Nat) : Nat := diff (2 ^ n - 1) (2 ^ a ||| 2 ^ b)
def partB (n : Nat) (r : Nat → Nat) (a b : Nat) : Bool := !conB n r (leftP n a b)
/-- The pairs with a greater node b whose lesser one is below k. -/
def rowP (n : Nat) (r : Nat → Nat) (b k : Nat) : List (Nat × Nat) := ((List.range k).filter fun a => partB n r a b).map fun a => (a, b)
def prgL (n : Nat) (r : Nat → Nat) (k : Nat) : List (Nat × Nat) := (List.range k).flatMap fun b => rowP n r b b
def rowQ (n : Nat) (r : Nat → Nat) (a k : Nat) : List (Nat × Nat) := ((List.range k).filter fun b => decide (a < b) && partB n r a b).map fun b => (a, b)
def refL (n : Nat) (r : Nat → Nat) (k : Nat) : List (Nat × Nat) := (List.range k).flatMap fun a => rowQ n r a n
/-- All pairs that part a graph. -/
def pairsG (n : Nat) (r : Nat → Nat) : List (Nat × Nat) := bif conB n r (2 ^ n - 1) then refL n r n else []

theorem rowP_succ (n : Nat) (r : Nat → Nat) (b k : Nat) : rowP n r b (k + 1) = rowP n r b k ++ (bif partB n r k b then [(k, b)] else []) := by
  unfold rowP
  rw [List.range_succ, List.filter_append, List.map_append]
  cases h : partB n r k b <;> simp [h]
theorem prgL_succ (n : Nat) (r : Nat → Nat) (k : Nat) : prgL n r (k + 1) = prgL n r k ++ rowP n r k k := by
  unfold prgL; rw [List.range_succ, List.flatMap_append]; simp
theorem rowQ_succ (n : Nat) (r : Nat → Nat) (a k : Nat) : rowQ n r a (k + 1) = rowQ n r a k ++ (bif decide (a < k) && partB n r a k then [(a, k)] else []) := by
  unfold rowQ
  rw [List.range_succ, List.filter_append, List.map_append]
  cases h : (decide (a < k) && partB n r a k) <;> simp [h]
theorem rowQ_low (n : Nat) (r : Nat → Nat) (a : Nat) : rowQ n r a (a + 1) = [] := by
  unfold rowQ
  rw [List.map_eq_nil_iff, List.filter_eq_nil_iff]
  intro x hx
  have : x < a + 1 := List.mem_range.1 hx
  simp; omega
theorem refL_succ (n : Nat) (r : Nat → Nat) (k : Nat) : refL n r (k + 1) = refL n r k ++ rowQ n r k n := by
  unfold refL; rw [List.range_succ, List.flatMap_append]; simp
theorem rowP_len (n : Nat) (r : Nat → Nat) (b k : Nat) : (rowP n r b k).length ≤ k := by
  unfold rowP; rw [List.length_map]; exact Nat.le_trans (List.length_filter_le _ _) (by simp)
theorem rowQ_len (n : Nat) (r : Nat → Nat) (a k : Nat) : (rowQ n r a k).length ≤ k := by
  unfold rowQ; rw [List.length_map]; exact Nat.le_trans (List.length_filter_le _ _) (by simp)
theorem prgL_len (n : Nat) (r : Nat → Nat) : ∀ k, k ≤ 10 → (prgL n r k).length ≤ 10 * k := by
  intro k
  induction k with
  | zero => intro _; simp [prgL]
  | succ k ih => intro hk; rw [prgL_succ, List.length_append]; have := ih (by omega); have := rowP_len n r k k; omega
theorem refL_len (n : Nat) (r : Nat → Nat) (hn : n ≤ 10) : ∀ k, (refL n r k).length ≤ 10 * k := by
  intro k
  induction k with
  | zero => simp [refL]
  | succ k ih => rw [refL_succ, List.length_append]; have := rowQ_len n r k n; omega

/-- Which of two pairs comes first. -/
def cmpZ (x y : Int) : Int := if x < y then -1 else if y < x then 1 else 0
def cmpP (p q : Nat × Nat) : Int := if p.1 < q.1 then -1 else if q.1 < p.1 then 1 else if p.2 < q.2 then -1 else if q.2 < p.2 then 1 else 0
def ltP (p q : Nat × Nat) : Prop := p.1 < q.1 ∨ p.1 = q.1 ∧ p.2 < q.2
theorem cmpP_lt {p q : Nat × Nat} : decide (cmpP p q < 0) = true ↔ ltP p q := by
  unfold cmpP ltP
  rw [decide_eq_true_eq]
  split
  · simp; omega
  · split
    · simp; omega
    · split
      · simp; omega
      · split <;> simp <;> omega

theorem mem_prg {n : Nat} {r : Nat → Nat} {k : Nat} {p : Nat × Nat} : p ∈ prgL n r k ↔ p.1 < p.2 ∧ p.2 < k ∧ partB n r p.1 p.2 = true := by
  obtain ⟨a, b⟩ := p
  unfold prgL rowP
  simp only [List.mem_flatMap, List.mem_range, List.mem_map, List.mem_filter, Prod.mk.injEq]
  constructor
  · rintro ⟨b', h1, a', ⟨h2, h3⟩, rfl, rfl⟩; exact ⟨h2, h1, h3⟩
  · rintro ⟨h1, h2, h3⟩; exact ⟨b, h2, a, ⟨h1, h3⟩, rfl, rfl⟩
theorem mem_ref {n : Nat} {r : Nat → Nat} {k : Nat} {p : Nat × Nat} : p ∈ refL n r k ↔ p.1 < k ∧ p.1 < p.2 ∧ p.2 < n ∧ partB n r p.1 p.2 = true := by
  obtain ⟨a, b⟩ := p
  unfold refL rowQ
  simp only [List.mem_flatMap, List.mem_range, List.mem_map, List.mem_filter, Prod.mk.injEq, Bool.and_eq_true, decide_eq_true_eq]
  constructor
  · rintro ⟨a', h1, b', ⟨h2, h3, h4⟩, rfl, rfl⟩; exact ⟨h1, h3, h2, h4⟩
  · rintro ⟨h1, h2, h3, h4⟩; exact ⟨a, h1, b, ⟨h3, h2, h4⟩, rfl, rfl⟩
theorem ref_sorted (n : Nat) (r : Nat → Nat) : ∀ k, (refL n r k).Pairwise ltP := by
  intro k
  induction k with
  | zero => simp [refL]
  | succ k ih =>
    rw [refL_succ, List.pairwise_append]
    refine ⟨ih, ?_, fun p hp q hq => ?_⟩
    · unfold rowQ
      rw [List.pairwise_map]
      exact (List.Pairwise.filter _ List.pairwise_lt_range).imp fun h => .inr ⟨rfl, h⟩
    · have h1 := (mem_ref.1 hp).1
      unfold rowQ at hq
      obtain ⟨b, _, rfl⟩ := List.mem_map.1 hq
      exact .inl h1
theorem ltP_irr (p : Nat × Nat) : ¬ ltP p p := by unfold ltP; omega
theorem ref_nodup (n : Nat) (r : Nat → Nat) (k : Nat) : (refL n r k).Nodup := by
  unfold List.Nodup
  exact (ref_sorted n r k).imp fun {p q} h (e : p = q) => ltP_irr p (by rw [← e] at h; exact h)
theorem prg_nodup (n : Nat) (r : Nat → Nat) : ∀ k, (prgL n r k).Nodup := by
  intro k
  induction k with
  | zero => simp [prgL]
  | succ k ih =>
    rw [prgL_succ, List.nodup_append]
    refine ⟨ih, ?_, fun p hp q hq e => ?_⟩
    · unfold rowP
      refine List.pairwise_map.2 ((List.Pairwise.filter _ List.pairwise_lt_range).imp fun h e => ?_)
      have := congrArg Prod.fst e
      simp at this; omega
    · subst e
      have h1 := (mem_prg.1 hp).2.1
      unfold rowP at hq
      obtain ⟨b, _, rfl⟩ := List.mem_map.1 hq
      simp at h1
/-- What a sort makes of the program's list. -/
theorem pairs_sorted {n : Nat} {r : Nat → Nat} {M : List (Nat × Nat)} (hp : M.Perm (prgL n r n)) (hs : M.Pairwise fun p q => ¬ ltP q p) : M = refL n r n := by
  have hperm : (prgL n r n).Perm (refL n r n) := (List.perm_ext_iff_of_nodup (prg_nodup n r n) (ref_nodup n r n)).2 fun p => by
    rw [mem_prg, mem_ref]
    constructor
    · rintro ⟨h1, h2, h3⟩; exact ⟨by omega, h1, h2, h3⟩
    · rintro ⟨h1, h2, h3, h4⟩; exact ⟨h2, h3, h4⟩
  refine List.Perm.eq_of_pairwise (le := fun p q => ¬ ltP q p) (fun p q _ _ h1 h2 => ?_) hs ((ref_sorted n r n).imp fun {p q} h h2 => ?_) (hp.trans hperm)
  · unfold ltP at h1 h2
    obtain ⟨a, b⟩ := p
    obtain ⟨c, d⟩ := q
    simp only [Prod.mk.injEq] at *
    omega
  · unfold ltP at h h2; omega

end Go.Proofs.YtcpdedgmhpehiaaDoor
