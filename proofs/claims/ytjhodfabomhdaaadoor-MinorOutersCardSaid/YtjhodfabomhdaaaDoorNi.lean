/- Package minor: outer orders in plain words; one that is turned in a circle is one. -/
import Derived.Test.YtjhodfabomhdaaaDoorNg
namespace Go.Proofs.YtjhodfabomhdaaaDoor
set_option linter.unusedSimpArgs false
set_option linter.unusedVariables false
open Go.RowKit Go.Maps

/-- Whether an edge at node number m of an order crosses one between nodes before it. -/
def crB (r g : Nat → Nat) (m : Nat) : Bool := (List.range m).any fun k => (List.range k).any fun j => (List.range j).any fun i => (r (g i)).testBit (g k) && (r (g j)).testBit (g m)
theorem crB_iff {r g : Nat → Nat} {m : Nat} : crB r g m = true ↔ ∃ i j k, i < j ∧ j < k ∧ k < m ∧ (r (g i)).testBit (g k) = true ∧ (r (g j)).testBit (g m) = true := by
  unfold crB
  simp only [List.any_eq_true, List.mem_range, Bool.and_eq_true]
  constructor
  · rintro ⟨k, hk, j, hj, i, hi, h1, h2⟩; exact ⟨i, j, k, hi, hj, hk, h1, h2⟩
  · rintro ⟨i, j, k, hi, hj, hk, h1, h2⟩; exact ⟨k, hk, j, hj, i, hi, h1, h2⟩
theorem crB_congr {r g g' : Nat → Nat} {m : Nat} (h : ∀ i, i ≤ m → g i = g' i) : crB r g m = crB r g' m := by
  rw [Bool.eq_iff_iff, crB_iff, crB_iff]
  constructor
  · rintro ⟨i, j, k, hi, hj, hk, h1, h2⟩
    exact ⟨i, j, k, hi, hj, hk, by rw [← h i (by omega), ← h k (by omega)]; exact h1, by rw [← h j (by omega), ← h m (by omega)]; exact h2⟩
  · rintro ⟨i, j, k, hi, hj, hk, h1, h2⟩
    exact ⟨i, j, k, hi, hj, hk, by rw [h i (by omega), h k (by omega)]; exact h1, by rw [h j (by omega), h m (by omega)]; exact h2⟩
abbrev atN (B : List Nat) (i : Nat) : Nat := B.getD i 0

/-- What may come next. -/
def okU (r : Nat → Nat) (B : List Nat) (v : Nat) : Bool := !B.contains v && !crB r (atN (B ++ [v])) B.length
/-- The first order that begins with some nodes, and has k more, in which no edges cross. -/
def outL (n : Nat) (r : Nat → Nat) : Nat → List Nat → Option (List Nat)
  | 0, B => some B
  | k + 1, B => (List.range n).findSome? fun v => if okU r B v then outL n r k (B ++ [v]) else none
def stpO (n : Nat) (r : Nat → Nat) (k : Nat) (B : List Nat) (v : Nat) : Option (List Nat) := if okU r B v then outL n r k (B ++ [v]) else none
theorem outL_none {n : Nat} {r : Nat → Nat} {k : Nat} {B : List Nat} (h : ∀ v, v < n → stpO n r k B v = none) : outL n r (k + 1) B = none := find_none _ h
theorem outL_some {n : Nat} {r : Nat → Nat} {k : Nat} {B B' : List Nat} {v : Nat} (hb : ∀ u, u < v → stpO n r k B u = none) (hv : stpO n r k B v = some B') (hl : v < n) : outL n r (k + 1) B = some B' := find_at hb hv _ hl

/-- An order of all nodes in which no edges cross. -/
structure OutO (n : Nat) (r g : Nat → Nat) : Prop where
  lt : ∀ i, i < n → g i < n
  inj : ∀ i j, i < n → j < n → g i = g j → i = j
  no : ∀ m, m < n → crB r g m = false
theorem atN_old {B : List Nat} {v i : Nat} (h : i < B.length) : atN (B ++ [v]) i = atN B i := getD_old h
theorem atN_new {B : List Nat} {v : Nat} : atN (B ++ [v]) B.length = v := getD_new
theorem mem_atN {B : List Nat} {i : Nat} (h : i < B.length) : atN B i ∈ B := by
  rw [show atN B i = B[i] by simp [atN, List.getD_eq_getElem?_getD, List.getElem?_eq_getElem h]]
  exact List.getElem_mem h
theorem atN_mem {B : List Nat} {v : Nat} (h : v ∈ B) : ∃ i, i < B.length ∧ atN B i = v := by
  obtain ⟨i, hi, e⟩ := List.getElem_of_mem h
  exact ⟨i, hi, by simp [atN, List.getD_eq_getElem?_getD, List.getElem?_eq_getElem hi, e]⟩

theorem outL_good {n : Nat} {r : Nat → Nat} : ∀ k B B', outL n r k B = some B' → (∀ i, i < B.length → atN B i < n) → (∀ i j, i < B.length → j < B.length → atN B i = atN B j → i = j) → (∀ m, m < B.length → crB r (atN B) m = false) →
    B'.length = B.length + k ∧ (∀ i, i < B'.length → atN B' i < n) ∧ (∀ i j, i < B'.length → j < B'.length → atN B' i = atN B' j → i = j) ∧ (∀ m, m < B'.length → crB r (atN B') m = false) ∧ ∀ i, i < B.length → atN B' i = atN B i := by
  intro k
  induction k with
  | zero =>
    intro B B' h h1 h2 h3
    unfold outL at h
    cases h
    exact ⟨rfl, h1, h2, h3, fun _ _ => rfl⟩
  | succ k ih =>
    intro B B' h h1 h2 h3
    unfold outL at h
    obtain ⟨v, hv, h⟩ := List.exists_of_findSome?_eq_some h
    split at h
    · rename_i ho
      unfold okU at ho
      rw [Bool.and_eq_true, Bool.not_eq_true', Bool.not_eq_true'] at ho
      obtain ⟨ho1, ho2⟩ := ho
      have hvn := List.mem_range.1 hv
      have hnv : ∀ i, i < B.length → atN B i ≠ v := fun i hi e => by
        have := mem_atN hi
        rw [e] at this
        rw [List.contains_eq_mem] at ho1
        simp [this] at ho1
      have hlen : (B ++ [v]).length = B.length + 1 := by simp
      obtain ⟨i1, i2, i3, i4, i5⟩ := ih _ _ h (fun i hi => by
        rw [hlen] at hi
        by_cases e : i = B.length
        · subst e; rw [atN_new]; exact hvn
        · rw [atN_old (by omega)]; exact h1 i (by omega)) (fun i j hi hj he => by
        rw [hlen] at hi hj
        by_cases e : i = B.length
        · by_cases e2 : j = B.length
          · omega
          · subst e; rw [atN_new, atN_old (by omega)] at he; exact absurd he.symm (hnv j (by omega))
        · by_cases e2 : j = B.length
          · subst e2; rw [atN_new, atN_old (by omega)] at he; exact absurd he (hnv i (by omega))
          · rw [atN_old (by omega), atN_old (by omega)] at he; exact h2 i j (by omega) (by omega) he) (fun m hm => by
        rw [hlen] at hm
        by_cases e : m = B.length
        · subst e; exact ho2
        · rw [crB_congr (g' := atN B) fun i hi => atN_old (by omega)]; exact h3 m (by omega))
      exact ⟨by rw [i1, hlen]; omega, i2, i3, i4, fun i hi => by rw [i5 i (by rw [hlen]; omega), atN_old hi]⟩
    · cases h
theorem outL_found {n : Nat} {r g : Nat → Nat} (O : OutO n r g) : ∀ k i, i + k = n → outL n r k ((List.range i).map g) ≠ none := by
  intro k
  induction k with
  | zero => intro i _ h; unfold outL at h; cases h
  | succ k ih =>
    intro i h hno
    unfold outL at hno
    rw [List.findSome?_eq_none_iff] at hno
    have h1 := hno (g i) (List.mem_range.2 (O.lt i (by omega)))
    have hc : ((List.range i).map g).contains (g i) = false := by
      rw [Bool.eq_false_iff]
      intro hm
      rw [List.contains_eq_mem, decide_eq_true_eq] at hm
      obtain ⟨j, hj, e⟩ := List.mem_map.1 hm
      have := O.inj j i (by have := List.mem_range.1 hj; omega) (by omega) e
      have := List.mem_range.1 hj
      omega
    have hx : crB r (atN ((List.range i).map g ++ [g i])) ((List.range i).map g).length = false := by
      rw [map_len, ← O.no i (by omega)]
      refine crB_congr fun j hj => ?_
      by_cases e : j = i
      · subst e
        have := atN_new (B := (List.range j).map g) (v := g j)
        rwa [map_len] at this
      · rw [atN_old (by rw [map_len]; omega)]
        exact map_getD (by omega)
    rw [if_pos (by unfold okU; rw [hc, hx]; rfl)] at h1
    refine ih (i + 1) (by omega) ?_
    rw [List.range_succ, List.map_append]
    exact h1

/-- An order that is turned in a circle. -/
def turnF (n p : Nat) (g : Nat → Nat) (i : Nat) : Nat := g (if i + p < n then i + p else i + p - n)
theorem OutO.turn {n p : Nat} {r g : Nat → Nat} (O : OutO n r g) (hp : p < n) (hs : ∀ u x, u < n → x < n → (r u).testBit x = (r x).testBit u) : OutO n r (turnF n p g) := by
  have hx : ∀ i, i < n → (if i + p < n then i + p else i + p - n) < n := fun i hi => by split <;> omega
  have nc : ∀ i j k m, i < j → j < k → k < m → m < n → (r (g i)).testBit (g k) = true → (r (g j)).testBit (g m) = true → False := fun i j k m h1 h2 h3 h4 h5 h6 => by
    have := O.no m h4
    rw [Bool.eq_false_iff] at this
    exact this (crB_iff.2 ⟨i, j, k, h1, h2, h3, h5, h6⟩)
  have sy : ∀ a b, a < n → b < n → (r (g a)).testBit (g b) = true → (r (g b)).testBit (g a) = true := fun a b ha hb h => by rw [hs _ _ (O.lt b hb) (O.lt a ha)]; exact h
  refine ⟨fun i hi => O.lt _ (hx i hi), fun i j hi hj h => ?_, fun m hm => ?_⟩
  · have := O.inj _ _ (hx i hi) (hx j hj) h
    split at this <;> split at this <;> omega
  · rw [Bool.eq_false_iff]
    intro h
    obtain ⟨i, j, k, h1, h2, h3, h5, h6⟩ := crB_iff.1 h
    unfold turnF at h5 h6
    by_cases w1 : i + p < n
    · by_cases w2 : j + p < n
      · by_cases w3 : k + p < n
        · by_cases w4 : m + p < n
          · rw [if_pos w1, if_pos w3] at h5
            rw [if_pos w2, if_pos w4] at h6
            exact nc (i + p) (j + p) (k + p) (m + p) (by omega) (by omega) (by omega) (by omega) h5 h6
          · rw [if_pos w1, if_pos w3] at h5
            rw [if_pos w2, if_neg w4] at h6
            exact nc (m + p - n) (i + p) (j + p) (k + p) (by omega) (by omega) (by omega) (by omega) (sy _ _ (by omega) (by omega) h6) h5
        · have w4 : ¬ m + p < n := by omega
          rw [if_pos w1, if_neg w3] at h5
          rw [if_pos w2, if_neg w4] at h6
          exact nc (k + p - n) (m + p - n) (i + p) (j + p) (by omega) (by omega) (by omega) (by omega) (sy _ _ (by omega) (by omega) h5) (sy _ _ (by omega) (by omega) h6)
      · have w3 : ¬ k + p < n := by omega
        have w4 : ¬ m + p < n := by omega
        rw [if_pos w1, if_neg w3] at h5
        rw [if_neg w2, if_neg w4] at h6
        exact nc (j + p - n) (k + p - n) (m + p - n) (i + p) (by omega) (by omega) (by omega) (by omega) h6 (sy _ _ (by omega) (by omega) h5)
    · have w2 : ¬ j + p < n := by omega
      have w3 : ¬ k + p < n := by omega
      have w4 : ¬ m + p < n := by omega
      rw [if_neg w1, if_neg w3] at h5
      rw [if_neg w2, if_neg w4] at h6
      exact nc (i + p - n) (j + p - n) (k + p - n) (m + p - n) (by omega) (by omega) (by omega) (by omega) h5 h6
/-- In an order of n nodes each node stands somewhere. -/
theorem onto_of_inj : ∀ n (g : Nat → Nat), (∀ i, i < n → g i < n) → (∀ i j, i < n → j < n → g i = g j → i = j) → ∀ v, v < n → ∃ i, i < n ∧ g i = v := by
  intro n g hlt hinj v hv
  apply Classical.byContradiction
  intro hno
  have h1 : szS n (2 ^ n - 1) ≤ szS n (diff (2 ^ n - 1) (2 ^ v)) := szS_cov (fun x => ((List.range n).find? fun i => g i == x).getD 0) fun u hu _ => by
    refine ⟨g u, hlt u hu, ?_, ?_⟩
    · rw [testBit_diff, all_bit (hlt u hu), Nat.testBit_two_pow, decide_eq_false fun e => hno ⟨u, hu, e.symm⟩]; rfl
    · cases hf : (List.range n).find? fun i => g i == g u with
      | none =>
        rw [List.find?_eq_none] at hf
        exact absurd (beq_self_eq_true (g u)) (hf u (List.mem_range.2 hu))
      | some k =>
        have h2 := List.find?_some hf
        have h3 := List.mem_range.1 (List.mem_of_find?_eq_some hf)
        exact hinj k u h3 hu (by simpa using h2)
  have h2 : szS n (diff (2 ^ n - 1) (2 ^ v)) < szS n (2 ^ n - 1) := szS_lt (fun i _ h => by rw [testBit_diff, Bool.and_eq_true] at h; exact h.1) hv (by rw [testBit_diff, Nat.testBit_two_pow, decide_eq_true rfl]; simp) (all_bit hv)
  omega
/-- The first order may begin with the first node. -/
theorem outL_first {n : Nat} {r : Nat → Nat} (h0 : 0 < n) (hs : ∀ u x, u < n → x < n → (r u).testBit x = (r x).testBit u) : outL n r n [] = outL n r (n - 1) [0] := by
  obtain ⟨k, rfl⟩ : ∃ k, n = k + 1 := ⟨n - 1, by omega⟩
  have hk : k + 1 - 1 = k := by omega
  rw [hk]
  have hok : ∀ v, okU r [] v = true := fun v => by
    unfold okU
    have : crB r (atN ([] ++ [v])) ([] : List Nat).length = false := rfl
    rw [this]; rfl
  have h1 : stpO (k + 1) r k [] 0 = outL (k + 1) r k [0] := by unfold stpO; rw [if_pos (hok 0)]; rfl
  cases h : outL (k + 1) r k [0] with
  | some L => exact outL_some (v := 0) (fun u hu => by omega) (by rw [h1, h]) h0
  | none =>
    refine outL_none fun v hv => ?_
    unfold stpO
    rw [if_pos (hok v)]
    cases h2 : outL (k + 1) r k ([] ++ [v]) with
    | none => rfl
    | some L =>
      exfalso
      obtain ⟨i1, i2, i3, i4, _⟩ := outL_good _ _ _ h2 (fun i hi => by
        have : i = 0 := by simpa using hi
        subst this; exact hv) (fun i j hi hj _ => by
        have : i = 0 := by simpa using hi
        have : j = 0 := by simpa using hj
        omega) (fun m hm => by
        have : m = 0 := by simpa using hm
        subst this; rfl)
      have hl : L.length = k + 1 := by rw [i1]; simp; omega
      rw [hl] at i2 i3 i4
      have O : OutO (k + 1) r (atN L) := ⟨i2, i3, i4⟩
      obtain ⟨p, hp, hp0⟩ := onto_of_inj _ _ i2 i3 0 h0
      have O2 := O.turn hp hs
      have h3 := outL_found O2 k 1 (by omega)
      have h4 : (List.range 1).map (turnF (k + 1) p (atN L)) = [0] := by
        show [turnF (k + 1) p (atN L) 0] = [0]
        unfold turnF
        rw [Nat.zero_add, if_pos hp, hp0]
      rw [h4] at h3
      exact h3 h

end Go.Proofs.YtjhodfabomhdaaaDoor
