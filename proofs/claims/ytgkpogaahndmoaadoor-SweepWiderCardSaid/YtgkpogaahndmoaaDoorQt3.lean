/- All orders, one after the other, and the first one of least breadth among them. -/
import Derived.Test.YtgkpogaahndmoaaDoorW11
namespace Go.Proofs.YtgkpogaahndmoaaDoor
set_option linter.unusedSimpArgs false
set_option linter.unusedVariables false

/-- All orders that go on from a beginning, in order. -/
def layL (n : Nat) : Nat → List Nat → List (List Nat)
  | 0, L => [L]
  | k + 1, L => (List.range n).flatMap fun v => if v ∈ L then [] else layL n k (L ++ [v])
/-- Those that go on with a node below some number. -/
def layP (n k : Nat) (L : List Nat) (j : Nat) : List (List Nat) := (List.range j).flatMap fun v => if v ∈ L then [] else layL n k (L ++ [v])
theorem layL_succ (n k : Nat) (L : List Nat) : layL n (k + 1) L = layP n k L n := rfl
theorem layP_zero (n k : Nat) (L : List Nat) : layP n k L 0 = [] := rfl
theorem layP_in {n k : Nat} {L : List Nat} {j : Nat} (h : j ∈ L) : layP n k L (j + 1) = layP n k L j := by
  unfold layP
  rw [List.range_succ, List.flatMap_append]
  simp [h]
theorem layP_out {n k : Nat} {L : List Nat} {j : Nat} (h : j ∉ L) : layP n k L (j + 1) = layP n k L j ++ layL n k (L ++ [j]) := by
  unfold layP
  rw [List.range_succ, List.flatMap_append]
  simp [h]
theorem layL_count (n : Nat) : ∀ k L, (layL n k L).length ≤ n ^ k := by
  intro k
  induction k with
  | zero => intro L; simp [layL]
  | succ k ih =>
    intro L
    rw [layL_succ]
    have : ∀ j, (layP n k L j).length ≤ j * n ^ k := by
      intro j
      induction j with
      | zero => simp [layP_zero]
      | succ j ihj =>
        by_cases h : j ∈ L
        · rw [layP_in h, Nat.succ_mul]; omega
        · rw [layP_out h, List.length_append, Nat.succ_mul]
          have := ih (L ++ [j])
          omega
    have := this n
    rw [Nat.pow_succ, Nat.mul_comm]; exact this
theorem pow_seven {n k : Nat} (hn : n ≤ 7) (hk : k ≤ 7) : n ^ k ≤ 823543 :=
  Nat.le_trans (Nat.pow_le_pow_left hn k) (Nat.le_trans (Nat.pow_le_pow_right (by omega) hk) (by decide))
theorem layP_le {n k : Nat} {L : List Nat} {j m : Nat} (h : j ≤ m) : (layP n k L j).length ≤ (layP n k L m).length := by
  induction m with
  | zero => rw [show j = 0 by omega]; exact Nat.le_refl _
  | succ m ih =>
    rcases Nat.lt_or_eq_of_le h with h1 | h1
    · have := ih (by omega)
      by_cases hm : m ∈ L
      · rw [layP_in hm]; exact this
      · rw [layP_out hm, List.length_append]; omega
    · rw [h1]; exact Nat.le_refl _
theorem layP_count {n k : Nat} {L : List Nat} {j : Nat} (hn : n ≤ 7) (hk : k < 7) (hj : j ≤ n) : (layP n k L j).length ≤ 823543 :=
  Nat.le_trans (layP_le hj) (Nat.le_trans (by rw [← layL_succ]; exact layL_count n (k + 1) L) (pow_seven hn (by omega)))

/-- A beginning of an order. -/
def Begun (n : Nat) (L : List Nat) : Prop := ∀ i, i < L.length → okO n (listZ L) i = true
theorem listZ_snoc_lt {L : List Nat} {v i : Nat} (h : i < L.length) : listZ (L ++ [v]) i = listZ L i := by
  unfold listZ
  rw [List.getD_eq_getElem?_getD, List.getD_eq_getElem?_getD, List.getElem?_append_left h]
theorem listZ_snoc_at (L : List Nat) (v : Nat) : listZ (L ++ [v]) L.length = v := by
  unfold listZ
  rw [List.getD_eq_getElem?_getD, List.getElem?_append_right (Nat.le_refl _)]
  simp
theorem met_snoc (L : List Nat) (v : Nat) : metO (listZ (L ++ [v])) (L ++ [v]).length = metO (listZ L) L.length ||| 2 ^ v := by
  rw [List.length_append]
  show metO _ L.length ||| 2 ^ (listZ (L ++ [v]) L.length).toNat = _
  rw [listZ_snoc_at, metO_congr _ fun i hi => listZ_snoc_lt hi]
  rfl
theorem alo_congr {t : Nat → Nat → Nat} {x y : Nat → Int} : ∀ k, (∀ i, i < k → x i = y i) → alo t x k = alo t y k := by
  intro k
  induction k with
  | zero => intro _; rfl
  | succ k ih =>
    intro h
    show max (alo t x k) _ = max (alo t y k) _
    rw [ih fun i hi => h i (by omega), h k (by omega), metO_congr k fun i hi => h i (by omega)]
theorem alo_snoc (t : Nat → Nat → Nat) (L : List Nat) (v : Nat) : alo t (listZ (L ++ [v])) (L ++ [v]).length = max (alo t (listZ L) L.length) (t (metO (listZ L) L.length) v) := by
  rw [List.length_append]
  show max (alo t _ L.length) (t (metO _ L.length) (listZ (L ++ [v]) L.length).toNat) = _
  rw [listZ_snoc_at, metO_congr _ fun i hi => listZ_snoc_lt hi, alo_congr _ fun i hi => listZ_snoc_lt hi]
  rfl
theorem met_bit {z : Nat → Int} {v : Nat} : ∀ k, (metO z k).testBit v = true ↔ ∃ i, i < k ∧ (z i).toNat = v := by
  intro k
  induction k with
  | zero => simp [metO]
  | succ k ih =>
    show (metO z k ||| 2 ^ (z k).toNat).testBit v = true ↔ _
    rw [Nat.testBit_or, Bool.or_eq_true, ih, Nat.testBit_two_pow, decide_eq_true_eq]
    constructor
    · rintro (⟨i, h1, h2⟩ | h)
      · exact ⟨i, by omega, h2⟩
      · exact ⟨k, by omega, h⟩
    · rintro ⟨i, h1, h2⟩
      by_cases e : i = k
      · subst e; exact .inr h2
      · exact .inl ⟨i, by omega, h2⟩
theorem met_mem {L : List Nat} {v : Nat} : (metO (listZ L) L.length).testBit v = true ↔ v ∈ L := by
  rw [met_bit]
  constructor
  · rintro ⟨i, h1, h2⟩
    rw [listZ_nat, List.getD_eq_getElem?_getD, List.getElem?_eq_getElem h1] at h2
    rw [← h2]; exact List.getElem_mem h1
  · intro h
    obtain ⟨i, h1, h2⟩ := List.getElem_of_mem h
    exact ⟨i, h1, by rw [listZ_nat, List.getD_eq_getElem?_getD, List.getElem?_eq_getElem h1]; exact h2⟩
theorem Begun.nil (n : Nat) : Begun n [] := fun i hi => by simp at hi
theorem Begun.snoc {n : Nat} {L : List Nat} {v : Nat} (h : Begun n L) (hv : v < n) (hn : v ∉ L) : Begun n (L ++ [v]) := by
  intro i hi
  rw [List.length_append, List.length_singleton] at hi
  by_cases hl : i < L.length
  · have := h i hl
    unfold okO at this ⊢
    rw [listZ_snoc_lt hl, metO_congr i fun j hj => listZ_snoc_lt (v := v) (show j < L.length by omega)]
    exact this
  · have e : i = L.length := by omega
    subst e
    unfold okO
    rw [listZ_snoc_at, metO_congr _ fun j hj => listZ_snoc_lt (v := v) hj, inB_true (by omega) (by omega), Int.toNat_natCast]
    have : (metO (listZ L) L.length).testBit v = false := Bool.eq_false_iff.2 fun h => hn (met_mem.1 h)
    rw [this]; rfl
theorem layL_mem {n : Nat} : ∀ k {L l}, Begun n L → L.length + k = n → l ∈ layL n k L → l.length = n ∧ Begun n l := by
  intro k
  induction k with
  | zero => intro L l h hk hl; rw [List.mem_singleton.1 hl]; exact ⟨by omega, h⟩
  | succ k ih =>
    intro L l h hk hl
    rw [layL_succ] at hl
    unfold layP at hl
    obtain ⟨v, hv, hl⟩ := List.mem_flatMap.1 hl
    have hv := List.mem_range.1 hv
    by_cases hm : v ∈ L
    · rw [if_pos hm] at hl; simp at hl
    · rw [if_neg hm] at hl
      exact ih (h.snoc hv hm) (by simp; omega) hl

theorem findSome_if {α β : Type} (p : α → Bool) (f : α → β) : ∀ l : List α, l.findSome? (fun a => if p a then some (f a) else none) = (l.find? p).map f := by
  intro l
  induction l with
  | nil => rfl
  | cons x l ih =>
    rw [List.findSome?_cons, List.find?_cons, ih]
    cases p x <;> rfl

/-- Whether an order is no broader than a number. -/
def slimB (n : Nat) (t : Nat → Nat → Nat) (W : Nat) (l : List Nat) : Bool := decide (alo t (listZ l) n ≤ W)
theorem lay_find {n : Nat} {t : Nat → Nat → Nat} {W : Nat} (ht : ∀ g v, v < n → t g v ≤ n) : ∀ k L, Begun n L → L.length + k = n →
    (layL n k L).find? (slimB n t W) = if alo t (listZ L) L.length ≤ W ∧ rst n t (metO (listZ L) L.length) ≤ W then some (L ++ ordW n t W k (metO (listZ L) L.length)) else none := by
  intro k
  induction k with
  | zero =>
    intro L hB hk
    have hl : L.length = n := by omega
    have hlt : metO (listZ L) n < 2 ^ n := by rw [← hl]; exact metO_lt (n := L.length) L.length (by rw [hl]; rw [← hl]; intro i hi; have := hB i hi; rw [hl]; exact this)
    have hsz : szS n (metO (listZ L) n) = n := by
      have := metO_sz (n := n) (z := listZ L) L.length fun i hi => hB i hi
      rw [hl] at this; exact this
    rw [hl, sz_full hlt hsz, rst_all]
    show List.find? _ [L] = _
    rw [List.find?_cons]
    unfold slimB
    by_cases hc : alo t (listZ L) n ≤ W
    · rw [if_pos ⟨hc, Nat.zero_le _⟩, decide_eq_true hc]; simp [ordW]
    · rw [if_neg fun h => hc h.1, decide_eq_false hc]; rfl
  | succ k ih =>
    intro L hB hk
    have hgl : metO (listZ L) L.length < 2 ^ n := metO_lt L.length hB
    have hsz : szS n (metO (listZ L) L.length) = L.length := metO_sz L.length hB
    have hne : metO (listZ L) L.length ≠ 2 ^ n - 1 := by intro e; rw [e, sz_all] at hsz; omega
    have hmem : ∀ v, (metO (listZ L) L.length).testBit v = true ↔ v ∈ L := fun v => met_mem
    rw [layL_succ]
    unfold layP
    rw [List.find?_flatMap]
    have hstep : ∀ v ∈ List.range n, (if v ∈ L then [] else layL n k (L ++ [v])).find? (slimB n t W) = if (decide (alo t (listZ L) L.length ≤ W) && nxtB n t W (metO (listZ L) L.length) v) = true then some (L ++ v :: ordW n t W k (metO (listZ L) L.length ||| 2 ^ v)) else none := by
      intro v hv
      have hv := List.mem_range.1 hv
      by_cases hm : v ∈ L
      · rw [if_pos hm, if_neg]
        · rfl
        · intro h
          rw [Bool.and_eq_true] at h
          have h1 := (nxtB_iff.1 h.2).1
          rw [(hmem v).2 hm] at h1; cases h1
      · rw [if_neg hm, ih (L ++ [v]) (hB.snoc hv hm) (by simp; omega), met_snoc, alo_snoc]
        have hbit : (metO (listZ L) L.length).testBit v = false := Bool.eq_false_iff.2 fun h => hm ((hmem v).1 h)
        generalize metO (listZ L) L.length = g at *
        generalize alo t (listZ L) L.length = c at *
        by_cases hc : max c (t g v) ≤ W ∧ rst n t (g ||| 2 ^ v) ≤ W
        · rw [if_pos hc, if_pos]
          · rw [List.append_assoc]; rfl
          · rw [Bool.and_eq_true, decide_eq_true_eq]
            exact ⟨by omega, nxtB_iff.2 ⟨hbit, by omega, hc.2⟩⟩
        · rw [if_neg hc, if_neg]
          intro h
          rw [Bool.and_eq_true, decide_eq_true_eq] at h
          obtain ⟨_, h2, h3⟩ := nxtB_iff.1 h.2
          exact hc ⟨by omega, h3⟩
    have hcong : (List.range n).findSome? (fun a => (if a ∈ L then [] else layL n k (L ++ [a])).find? (slimB n t W)) = (List.range n).findSome? (fun v => if (decide (alo t (listZ L) L.length ≤ W) && nxtB n t W (metO (listZ L) L.length) v) = true then some (L ++ v :: ordW n t W k (metO (listZ L) L.length ||| 2 ^ v)) else none) := by
      have : ∀ l : List Nat, (∀ v ∈ l, v ∈ List.range n) → l.findSome? (fun a => (if a ∈ L then [] else layL n k (L ++ [a])).find? (slimB n t W)) = l.findSome? (fun v => if (decide (alo t (listZ L) L.length ≤ W) && nxtB n t W (metO (listZ L) L.length) v) = true then some (L ++ v :: ordW n t W k (metO (listZ L) L.length ||| 2 ^ v)) else none) := by
        intro l
        induction l with
        | nil => intro _; rfl
        | cons x l ih2 =>
          intro hx
          rw [List.findSome?_cons, List.findSome?_cons, hstep x (hx x (by simp)), ih2 fun v hv => hx v (by simp [hv])]
      exact this _ fun v hv => hv
    rw [hcong, findSome_if]
    generalize metO (listZ L) L.length = g at *
    generalize alo t (listZ L) L.length = c at *
    by_cases hc : c ≤ W
    · have e : (fun v => decide (c ≤ W) && nxtB n t W g v) = nxtB n t W g := by funext v; rw [decide_eq_true hc, Bool.true_and]
      rw [e, ordW_succ]
      cases hf : (List.range n).find? (nxtB n t W g) with
      | none =>
        rw [if_neg]
        · rfl
        · rintro ⟨_, hr⟩
          obtain ⟨v, hv, h1, h2, h3⟩ := rst_next hgl hne (fun v hv => ht g v hv) hr
          have := List.find?_eq_none.1 hf v (List.mem_range.2 hv)
          exact this (nxtB_iff.2 ⟨h1, h2, h3⟩)
      | some v =>
        have hp := List.find?_some hf
        have hv := List.mem_range.1 (List.mem_of_find?_eq_some hf)
        obtain ⟨h1, h2, h3⟩ := nxtB_iff.1 hp
        rw [if_pos]
        · rfl
        · refine ⟨hc, ?_⟩
          rw [rst_best hgl hne]
          have := bestW_at (n := n) (t := t) (gone := g) n v hv h1
          omega
    · have e : (fun v => decide (c ≤ W) && nxtB n t W g v) = fun _ => false := by funext v; rw [decide_eq_false hc, Bool.false_and]
      rw [e, if_neg fun h => hc h.1]
      have : (List.range n).find? (fun _ => false) = none := List.find?_eq_none.2 fun x _ h => by cases h
      rw [this]; rfl

/-- The first of the broadest by no one: what is best in a list is the greedy order. -/
theorem lay_first {n : Nat} {t : Nat → Nat → Nat} (ht : ∀ g v, v < n → t g v ≤ n) {j : Nat} {l : List Nat} (hj : (layL n n [])[j]? = some l)
    (hle : ∀ (i : Nat) (x : List Nat), (layL n n [])[i]? = some x → alo t (listZ l) n ≤ alo t (listZ x) n) (hlt : ∀ (i : Nat) (x : List Nat), i < j → (layL n n [])[i]? = some x → alo t (listZ l) n < alo t (listZ x) n) :
    l = ordW n t (rst n t 0) n 0 ∧ alo t (listZ l) n = rst n t 0 := by
  have hf := lay_find (W := rst n t 0) ht n [] (Begun.nil n) (by simp)
  rw [if_pos ⟨by simp [alo], by simp [metO]⟩] at hf
  have hf : (layL n n []).find? (slimB n t (rst n t 0)) = some (ordW n t (rst n t 0) n 0) := by simpa [metO] using hf
  obtain ⟨hp, i, hi, he, hno⟩ := List.find?_eq_some_iff_getElem.1 hf
  have hle1 := hle i _ (by rw [List.getElem?_eq_getElem hi, he])
  have hmem : l ∈ layL n n [] := List.mem_of_getElem? hj
  obtain ⟨hl1, hl2⟩ := layL_mem n (Begun.nil n) (by simp) hmem
  have hge : rst n t 0 ≤ alo t (listZ l) n := alo_least fun i hi => hl2 i (by omega)
  unfold slimB at hp hno
  have hp := of_decide_eq_true hp
  have heq : alo t (listZ l) n = rst n t 0 := by omega
  refine ⟨?_, heq⟩
  rcases Nat.lt_trichotomy i j with h | h | h
  · have := hlt i _ h (by rw [List.getElem?_eq_getElem hi, he])
    omega
  · subst h
    rw [List.getElem?_eq_getElem hi, he] at hj
    exact (Option.some.inj hj).symm
  · have hj' : j < (layL n n []).length := (List.getElem?_eq_some_iff.1 hj).1
    have hx := hno j h
    have hlj : (layL n n [])[j] = l := (List.getElem?_eq_some_iff.1 hj).2
    rw [hlj, heq] at hx
    simp at hx

theorem lay_some {n : Nat} {t : Nat → Nat → Nat} (ht : ∀ g v, v < n → t g v ≤ n) : 0 < (layL n n []).length := by
  have hf := lay_find (W := rst n t 0) ht n [] (Begun.nil n) (by simp)
  rw [if_pos ⟨by simp [alo], by simp [metO]⟩] at hf
  exact List.length_pos_of_mem (List.mem_of_find?_eq_some hf)

end Go.Proofs.YtgkpogaahndmoaaDoor
