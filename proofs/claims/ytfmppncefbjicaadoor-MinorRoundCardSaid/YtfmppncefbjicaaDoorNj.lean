/- Package minor: outer orders in plain words; one that is turned in a circle is one. Package minor: the contract of crosses. -/
import Derived.Test.YtfmppncefbjicaaDoorNg
import Derived.BigRegion
namespace Go.Proofs.YtfmppncefbjicaaDoor
set_option linter.unusedSimpArgs false
set_option linter.unusedVariables false
open Go.RowKit Go.Maps

/-- Whether an edge at node number m of an order crosses one between nodes before it. -/
def crB (r g : Nat → Nat) (m : Nat) : Bool := (List.range m).any fun k => (List.range k).any fun j => (List.range j).any fun i => (r (g i)).testBit (g k) && (r (g j)).testBit (g m)
theorem crB_iff {r g : Nat → Nat} {m : Nat} : crB r g m = true ↔ ∃ i j k, i < j ∧ j < k ∧ k < m ∧ (r (g i)).testBit (g k) = true ∧ (r (g j)).testBit (g m) = true := by
  unfold crB
  simp only [List.any_eq_true, List.mem_range, Bool.and_eq_true]
  constructor
  · rintro ⟨k, hk, j, hj, i, hi, h1, h2⟩; exact ⟨i, j, k, hi, hj, hk, h1, h2⟩
  · rintro ⟨i, j, k, hi, hj, hk, h1, h2⟩; exact ⟨k, hk, j, hj, i, hi, h1, h2⟩
theorem crB_congr {r g g' : Nat → Nat} {m : Nat} (h : ∀ i, i ≤ m → g i = g' i) : crB r g m = crB r g' m := by
  rw [Bool.eq_iff_iff, crB_iff, crB_iff]
  constructor
  · rintro ⟨i, j, k, hi, hj, hk, h1, h2⟩
    exact ⟨i, j, k, hi, hj, hk, by rw [← h i (by omega), ← h k (by omega)]; exact h1, by rw [← h j (by omega), ← h m (by omega)]; exact h2⟩
  · rintro ⟨i, j, k, hi, hj, hk, h1, h2⟩
    exact ⟨i, j, k, hi, hj, hk, by rw [h i (by omega), h k (by omega)]; exact h1, by rw [h j (by omega), h m (by omega)]; exact h2⟩
abbrev atN (B : List Nat) (i : Nat) : Nat := B.getD i 0

/-- What may come next. -/
def okU (r : Nat → Nat) (B : List Nat) (v : Nat) : Bool := !B.contains v && !crB r (atN (B ++ [v])) B.length
/-- The first order that begins with some nodes, and has k more, in which no edges cross. -/
def outL (n : Nat) (r : Nat → Nat) : Nat → List Nat → Option (List Nat)
  | 0, B => some B
  | k + 1, B => (List.range n).findSome? fun v => if okU r B v then outL n r k (B ++ [v]) else none
def stpO (n : Nat) (r : Nat → Nat) (k : Nat) (B : List Nat) (v : Nat) : Option (List Nat) := if okU r B v then outL n r k (B ++ [v]) else none
theorem outL_none {n : Nat} {r : Nat → Nat} {k : Nat} {B : List Nat} (h : ∀ v, v < n → stpO n r k B v = none) : outL n r (k + 1) B = none := find_none _ h
theorem outL_some {n : Nat} {r : Nat → Nat} {k : Nat} {B B' : List Nat} {v : Nat} (hb : ∀ u, u < v → stpO n r k B u = none) (hv : stpO n r k B v = some B') (hl : v < n) : outL n r (k + 1) B = some B' := find_at hb hv _ hl

/-- An order of all nodes in which no edges cross. -/
structure OutO (n : Nat) (r g : Nat → Nat) : Prop where
  lt : ∀ i, i < n → g i < n
  inj : ∀ i j, i < n → j < n → g i = g j → i = j
  no : ∀ m, m < n → crB r g m = false
theorem atN_old {B : List Nat} {v i : Nat} (h : i < B.length) : atN (B ++ [v]) i = atN B i := getD_old h
theorem atN_new {B : List Nat} {v : Nat} : atN (B ++ [v]) B.length = v := getD_new
theorem mem_atN {B : List Nat} {i : Nat} (h : i < B.length) : atN B i ∈ B := by
  rw [show atN B i = B[i] by simp [atN, List.getD_eq_getElem?_getD, List.getElem?_eq_getElem h]]
  exact List.getElem_mem h
theorem atN_mem {B : List Nat} {v : Nat} (h : v ∈ B) : ∃ i, i < B.length ∧ atN B i = v := by
  obtain ⟨i, hi, e⟩ := List.getElem_of_mem h
  exact ⟨i, hi, by simp [atN, List.getD_eq_getElem?_getD, List.getElem?_eq_getElem hi, e]⟩

theorem outL_good {n : Nat} {r : Nat → Nat} : ∀ k B B', outL n r k B = some B' → (∀ i, i < B.length → atN B i < n) → (∀ i j, i < B.length → j < B.length → atN B i = atN B j → i = j) → (∀ m, m < B.length → crB r (atN B) m = false) →
    B'.length = B.length + k ∧ (∀ i, i < B'.length → atN B' i < n) ∧ (∀ i j, i < B'.length → j < B'.length → atN B' i = atN B' j → i = j) ∧ (∀ m, m < B'.length → crB r (atN B') m = false) ∧ ∀ i, i < B.length → atN B' i = atN B i := by
  intro k
  induction k with
  | zero =>
    intro B B' h h1 h2 h3
    unfold outL at h
    cases h
    exact ⟨rfl, h1, h2, h3, fun _ _ => rfl⟩
  | succ k ih =>
    intro B B' h h1 h2 h3
    unfold outL at h
    obtain ⟨v, hv, h⟩ := List.exists_of_findSome?_eq_some h
    split at h
    · rename_i ho
      unfold okU at ho
      rw [Bool.and_eq_true, Bool.not_eq_true', Bool.not_eq_true'] at ho
      obtain ⟨ho1, ho2⟩ := ho
      have hvn := List.mem_range.1 hv
      have hnv : ∀ i, i < B.length → atN B i ≠ v := fun i hi e => by
        have := mem_atN hi
        rw [e] at this
        rw [List.contains_eq_mem] at ho1
        simp [this] at ho1
      have hlen : (B ++ [v]).length = B.length + 1 := by simp
      obtain ⟨i1, i2, i3, i4, i5⟩ := ih _ _ h (fun i hi => by
        rw [hlen] at hi
        by_cases e : i = B.length
        · subst e; rw [atN_new]; exact hvn
        · rw [atN_old (by omega)]; exact h1 i (by omega)) (fun i j hi hj he => by
        rw [hlen] at hi hj
        by_cases e : i = B.length
        · by_cases e2 : j = B.length
          · omega
          · subst e; rw [atN_new, atN_old (by omega)] at he; exact absurd he.symm (hnv j (by omega))
        · by_cases e2 : j = B.length
          · subst e2; rw [atN_new, atN_old (by omega)] at he; exact absurd he (hnv i (by omega))
          · rw [atN_old (by omega), atN_old (by omega)] at he; exact h2 i j (by omega) (by omega) he) (fun m hm => by
        rw [hlen] at hm
        by_cases e : m = B.length
        · subst e; exact ho2
        · rw [crB_congr (g' := atN B) fun i hi => atN_old (by omega)]; exact h3 m (by omega))
      exact ⟨by rw [i1, hlen]; omega, i2, i3, i4, fun i hi => by rw [i5 i (by rw [hlen]; omega), atN_old hi]⟩
    · cases h
theorem outL_found {n : Nat} {r g : Nat → Nat} (O : OutO n r g) : ∀ k i, i + k = n → outL n r k ((List.range i).map g) ≠ none := by
  intro k
  induction k with
  | zero => intro i _ h; unfold outL at h; cases h
  | succ k ih =>
    intro i h hno
    unfold outL at hno
    rw [List.findSome?_eq_none_iff] at hno
    have h1 := hno (g i) (List.mem_range.2 (O.lt i (by omega)))
    have hc : ((List.range i).map g).contains (g i) = false := by
      rw [Bool.eq_false_iff]
      intro hm
      rw [List.contains_eq_mem, decide_eq_true_eq] at hm
      obtain ⟨j, hj, e⟩ := List.mem_map.1 hm
      have := O.inj j i (by have := List.mem_range.1 hj; omega) (by omega) e
      have := List.mem_range.1 hj
      omega
    have hx : crB r (atN ((List.range i).map g ++ [g i])) ((List.range i).map g).length = false := by
      rw [map_len, ← O.no i (by omega)]
      refine crB_congr fun j hj => ?_
      by_cases e : j = i
      · subst e
        have := atN_new (B := (List.range j).map g) (v := g j)
        rwa [map_len] at this
      · rw [atN_old (by rw [map_len]; omega)]
        exact map_getD (by omega)
    rw [if_pos (by unfold okU; rw [hc, hx]; rfl)] at h1
    refine ih (i + 1) (by omega) ?_
    rw [List.range_succ, List.map_append]
    exact h1

/-- An order that is turned in a circle. -/
def turnF (n p : Nat) (g : Nat → Nat) (i : Nat) : Nat := g (if i + p < n then i + p else i + p - n)
theorem OutO.turn {n p : Nat} {r g : Nat → Nat} (O : OutO n r g) (hp : p < n) (hs : ∀ u x, u < n → x < n → (r u).testBit x = (r x).testBit u) : OutO n r (turnF n p g) := by
  have hx : ∀ i, i < n → (if i + p < n then i + p else i + p - n) < n := fun i hi => by split <;> omega
  have nc : ∀ i j k m, i < j → j < k → k < m → m < n → (r (g i)).testBit (g k) = true → (r (g j)).testBit (g m) = true → False := fun i j k m h1 h2 h3 h4 h5 h6 => by
    have := O.no m h4
    rw [Bool.eq_false_iff] at this
    exact this (crB_iff.2 ⟨i, j, k, h1, h2, h3, h5, h6⟩)
  have sy : ∀ a b, a < n → b < n → (r (g a)).testBit (g b) = true → (r (g b)).testBit (g a) = true := fun a b ha hb h => by rw [hs _ _ (O.lt b hb) (O.lt a ha)]; exact h
  refine ⟨fun i hi => O.lt _ (hx i hi), fun i j hi hj h => ?_, fun m hm => ?_⟩
  · have := O.inj _ _ (hx i hi) (hx j hj) h
    split at this <;> split at this <;> omega
  · rw [Bool.eq_false_iff]
    intro h
    obtain ⟨i, j, k, h1, h2, h3, h5, h6⟩ := crB_iff.1 h
    unfold turnF at h5 h6
    by_cases w1 : i + p < n
    · by_cases w2 : j + p < n
      · by_cases w3 : k + p < n
        · by_cases w4 : m + p < n
          · rw [if_pos w1, if_pos w3] at h5
            rw [if_pos w2, if_pos w4] at h6
            exact nc (i + p) (j + p) (k + p) (m + p) (by omega) (by omega) (by omega) (by omega) h5 h6
          · rw [if_pos w1, if_pos w3] at h5
            rw [if_pos w2, if_neg w4] at h6
            exact nc (m + p - n) (i + p) (j + p) (k + p) (by omega) (by omega) (by omega) (by omega) (sy _ _ (by omega) (by omega) h6) h5
        · have w4 : ¬ m + p < n := by omega
          rw [if_pos w1, if_neg w3] at h5
          rw [if_pos w2, if_neg w4] at h6
          exact nc (k + p - n) (m + p - n) (i + p) (j + p) (by omega) (by omega) (by omega) (by omega) (sy _ _ (by omega) (by omega) h5) (sy _ _ (by omega) (by omega) h6)
      · have w3 : ¬ k + p < n := by omega
        have w4 : ¬ m + p < n := by omega
        rw [if_pos w1, if_neg w3] at h5
        rw [if_neg w2, if_neg w4] at h6
        exact nc (j + p - n) (k + p - n) (m + p - n) (i + p) (by omega) (by omega) (by omega) (by omega) h6 (sy _ _ (by omega) (by omega) h5)
    · have w2 : ¬ j + p < n := by omega
      have w3 : ¬ k + p < n := by omega
      have w4 : ¬ m + p < n := by omega
      rw [if_neg w1, if_neg w3] at h5
      rw [if_neg w2, if_neg w4] at h6
      exact nc (i + p - n) (j + p - n) (k + p - n) (m + p - n) (by omega) (by omega) (by omega) (by omega) h5 h6
/-- In an order of n nodes each node stands somewhere. -/
theorem onto_of_inj : ∀ n (g : Nat → Nat), (∀ i, i < n → g i < n) → (∀ i j, i < n → j < n → g i = g j → i = j) → ∀ v, v < n → ∃ i, i < n ∧ g i = v := by
  intro n g hlt hinj v hv
  apply Classical.byContradiction
  intro hno
  have h1 : szS n (2 ^ n - 1) ≤ szS n (diff (2 ^ n - 1) (2 ^ v)) := szS_cov (fun x => ((List.range n).find? fun i => g i == x).getD 0) fun u hu _ => by
    refine ⟨g u, hlt u hu, ?_, ?_⟩
    · rw [testBit_diff, all_bit (hlt u hu), Nat.testBit_two_pow, decide_eq_false fun e => hno ⟨u, hu, e.symm⟩]; rfl
    · cases hf : (List.range n).find? fun i => g i == g u with
      | none =>
        rw [List.find?_eq_none] at hf
        exact absurd (beq_self_eq_true (g u)) (hf u (List.mem_range.2 hu))
      | some k =>
        have h2 := List.find?_some hf
        have h3 := List.mem_range.1 (List.mem_of_find?_eq_some hf)
        exact hinj k u h3 hu (by simpa using h2)
  have h2 : szS n (diff (2 ^ n - 1) (2 ^ v)) < szS n (2 ^ n - 1) := szS_lt (fun i _ h => by rw [testBit_diff, Bool.and_eq_true] at h; exact h.1) hv (by rw [testBit_diff, Nat.testBit_two_pow, decide_eq_true rfl]; simp) (all_bit hv)
  omega
/-- The first order may begin with the first node. -/
theorem outL_first {n : Nat} {r : Nat → Nat} (h0 : 0 < n) (hs : ∀ u x, u < n → x < n → (r u).testBit x = (r x).testBit u) : outL n r n [] = outL n r (n - 1) [0] := by
  obtain ⟨k, rfl⟩ : ∃ k, n = k + 1 := ⟨n - 1, by omega⟩
  have hk : k + 1 - 1 = k := by omega
  rw [hk]
  have hok : ∀ v, okU r [] v = true := fun v => by
    unfold okU
    have : crB r (atN ([] ++ [v])) ([] : List Nat).length = false := rfl
    rw [this]; rfl
  have h1 : stpO (k + 1) r k [] 0 = outL (k + 1) r k [0] := by unfold stpO; rw [if_pos (hok 0)]; rfl
  cases h : outL (k + 1) r k [0] with
  | some L => exact outL_some (v := 0) (fun u hu => by omega) (by rw [h1, h]) h0
  | none =>
    refine outL_none fun v hv => ?_
    unfold stpO
    rw [if_pos (hok v)]
    cases h2 : outL (k + 1) r k ([] ++ [v]) with
    | none => rfl
    | some L =>
      exfalso
      obtain ⟨i1, i2, i3, i4, _⟩ := outL_good _ _ _ h2 (fun i hi => by
        have : i = 0 := by simpa using hi
        subst this; exact hv) (fun i j hi hj _ => by
        have : i = 0 := by simpa using hi
        have : j = 0 := by simpa using hj
        omega) (fun m hm => by
        have : m = 0 := by simpa using hm
        subst this; rfl)
      have hl : L.length = k + 1 := by rw [i1]; simp; omega
      rw [hl] at i2 i3 i4
      have O : OutO (k + 1) r (atN L) := ⟨i2, i3, i4⟩
      obtain ⟨p, hp, hp0⟩ := onto_of_inj _ _ i2 i3 0 h0
      have O2 := O.turn hp hs
      have h3 := outL_found O2 k 1 (by omega)
      have h4 : (List.range 1).map (turnF (k + 1) p (atN L)) = [0] := by
        show [turnF (k + 1) p (atN L) 0] = [0]
        unfold turnF
        rw [Nat.zero_add, if_pos hp, hp0]
      rw [h4] at h3
      exact h3 h

end Go.Proofs.YtfmppncefbjicaaDoor

namespace Go.Proofs.YtfmppncefbjicaaDoor
set_option linter.unusedSimpArgs false
set_option linter.unusedVariables false
open Go.RowKit Go.Maps
attribute [local go_sem] i64_bit toNat_eq_one toNat_ne_one toNat_eq_zero toNat_ne_zero i64_and i64_or i64_andNot i64_or_pow i64_andNot_pow

/-- The first nodes of an order, as a set. -/
def befN (g : Nat → Nat) : Nat → Nat
  | 0 => 0
  | k + 1 => befN g k ||| 2 ^ g k
theorem befN_bit {g : Nat → Nat} {x : Nat} : ∀ k, (befN g k).testBit x = true ↔ ∃ i, i < k ∧ g i = x := by
  intro k
  induction k with
  | zero => simp [befN]
  | succ k ih =>
    unfold befN
    rw [Nat.testBit_or, Bool.or_eq_true, ih, pow_bit]
    constructor
    · rintro (⟨i, h1, h2⟩ | h)
      · exact ⟨i, by omega, h2⟩
      · exact ⟨k, by omega, h⟩
    · rintro ⟨i, h1, h2⟩
      by_cases e : i = k
      · subst e; exact Or.inr h2
      · exact Or.inl ⟨i, by omega, h2⟩
theorem befN_lt {n : Nat} {g : Nat → Nat} : ∀ k, (∀ i, i < k → g i < n) → befN g k < 2 ^ n := by
  intro k
  induction k with
  | zero => intro _; exact Nat.two_pow_pos n
  | succ k ih => intro h; exact Nat.or_lt_two_pow (ih fun i hi => h i (by omega)) (two_pow_lt (h k (by omega)))
/-- Whether the edges of the last node to node number j cross one. -/
def crJ (r g : Nat → Nat) (m j : Nat) : Bool := (r (g m)).testBit (g j) && (aroN r (befN g j) &&& befN (fun i => g (j + 1 + i)) (m - (j + 1))) != 0
theorem crB_J {n : Nat} {r g : Nat → Nat} {m : Nat} (hn : n ≤ 8) (hs : ∀ u x, u < n → x < n → (r u).testBit x = (r x).testBit u) (hg : ∀ i, i ≤ m → g i < n) : crB r g m = true ↔ ∃ j, j < m ∧ crJ r g m j = true := by
  rw [crB_iff]
  constructor
  · rintro ⟨i, j, k, hi, hj, hk, h1, h2⟩
    refine ⟨j, by omega, ?_⟩
    unfold crJ
    rw [hs _ _ (hg m (Nat.le_refl _)) (hg j (by omega)), h2, Bool.true_and, bne_iff_ne]
    intro h0
    have := congrArg (fun t => t.testBit (g k)) h0
    have h3 : (aroN r (befN g j)).testBit (g k) = true := (testBit_aro hn (befN_lt j fun i hi => hg i (by omega)) _).2 ⟨g i, hg i (by omega), (befN_bit j).2 ⟨i, hi, rfl⟩, h1⟩
    have h4 : (befN (fun i => g (j + 1 + i)) (m - (j + 1))).testBit (g k) = true := (befN_bit _).2 ⟨k - (j + 1), by omega, by rw [show j + 1 + (k - (j + 1)) = k by omega]⟩
    simp [Nat.testBit_and, h3, h4] at this
  · rintro ⟨j, hj, h⟩
    unfold crJ at h
    rw [Bool.and_eq_true, bne_iff_ne] at h
    obtain ⟨h1, h2⟩ := h
    obtain ⟨t, ht⟩ := some_bit h2
    rw [Nat.testBit_and, Bool.and_eq_true, testBit_aro hn (befN_lt j fun i hi => hg i (by omega)), befN_bit] at ht
    obtain ⟨⟨u, hu, h3, h4⟩, c, hc, h5⟩ := ht
    obtain ⟨i, hi, rfl⟩ := (befN_bit j).1 h3
    exact ⟨i, j, j + 1 + c, hi, by omega, by omega, by rw [h5]; exact h4, by rw [hs _ _ (hg j (by omega)) (hg m (Nat.le_refl _))]; exact h1⟩

set_option maxRecDepth 20000 in
set_option maxHeartbeats 4000000 in
theorem crosses_any {n : Nat} {r : Nat → Nat} {a : Option Addr} {w : World} (G : Tn w a n r) (cap : Nat) (hs : ∀ u x, u < n → x < n → (r u).testBit x = (r x).testBit u) (hT : Tab w) {g : Nat → Nat} {m : Nat} {ab : Option Addr} (cb : Nat) (hI : IntsAt w ab (m + 1) (fun i => ((g i : Nat) : Int))) (hg : ∀ i, i ≤ m → g i < n) (hm : m ≤ 60) (hcb : m + 1 ≤ cb) :
    Calls Tryd.prog 99 #[.slice a n cap, .slice ab (m + 1) cb] w fun e w' => e = .returned (.bool (crB r g m)) ∧ Below w.heap.size w w' := by
  have hn8 := G.le
  have h8 := pow_le8 hn8
  have hn1 := G.at_.pos
  have HG := Lib.hid G
  have HT := Lib.hid hT
  have HGL := Lib.hid hg
  obtain ⟨bl, ol, rfl, hbl, hcl⟩ := hI.2 (by omega)
  have HCL := Lib.hid hcl
  have HYES := Lib.hid (crB_J (r := r) (m := m) hn8 hs hg)
  have HJ : Hid (∀ j, crJ r g m j = ((r (g m)).testBit (g j) && (aroN r (befN g j) &&& befN (fun i => g (j + 1 + i)) (m - (j + 1))) != 0)) := Lib.hid fun _ => rfl
  have HB1 : Hid (∀ k, befN g (k + 1) = befN g k ||| 2 ^ g k) := Lib.hid fun _ => rfl
  have HB2 : Hid (∀ j k, befN (fun i => g (j + 1 + i)) (k + 1) = befN (fun i => g (j + 1 + i)) k ||| 2 ^ g (j + 1 + k)) := Lib.hid fun _ _ => rfl
  obtain ⟨X, hX⟩ : ∃ X, X = crB r g m := ⟨_, rfl⟩
  rw [← hX] at HYES ⊢
  clear G hT hI hcl hg hs hX
  have hlast : (((m + 1 : Nat) : Int) - 1) = (m : Int) := by omega
  have HLAST := Lib.hid hlast
  clear hlast
  go_enter Tryd.func99, Tryd.ntmps99
  go_wp2_with fail
  try rw [HLAST.out]
  go_loopw [6, 15] (fun bf ix wr => ∃ j : Nat, j ≤ m ∧ ix = .int .i64 j ∧ bf = .int .i64 (befN g j : Nat) ∧ (∀ i, i < j → crJ r g m i = false) ∧ Below w.heap.size w wr) (fun _ ix _ => m - (intOf ix).toNat)
  case atStart => exact ⟨0, Nat.zero_le _, rfl, rfl, fun i hi => by omega, Below.refl _ _⟩
  case round =>
    obtain ⟨j, hj, rfl, rfl, hno, hb⟩ := hrel
    have HB := Lib.hid hb
    have HNO := Lib.hid hno
    clear hb hno
    by_cases hlt : j < m
    · have e1 : decide ((m : Int) < (j : Int) + 1) = false := decide_eq_false (by omega)
      have e2 : decide ((j : Int) + 1 < 0) = false := decide_eq_false (by omega)
      have e3 : decide ((cb : Int) < (m : Int)) = false := decide_eq_false (by omega)
      have HST := Lib.hid (HB1.out j)
      have HST2 := Lib.hid (HB2.out j)
      have HJJ := Lib.hid (HJ.out j)
      have hbe : befN g j < 2 ^ n := befN_lt j fun i hi => HGL.out i (by omega)
      have hbe16 : befN g j < 65536 := by omega
      have HBW : Hid (∀ c, c ≤ m - (j + 1) → befN (fun i => g (j + 1 + i)) c < 2 ^ n) := Lib.hid fun c hc => befN_lt c fun i hi => HGL.out _ (by omega)
      go_wp2_with fail
      go_loopw [8, 24] (fun bh ix wx => ∃ c : Nat, c ≤ m - (j + 1) ∧ ix = .int .i64 c ∧ bh = .int .i64 (befN (fun i => g (j + 1 + i)) c : Nat) ∧ wr = wx) (fun _ ix _ => m - (j + 1) - (intOf ix).toNat)
      case atStart => exact ⟨0, Nat.zero_le _, rfl, rfl, rfl⟩
      case round =>
        obtain ⟨c, hc, rfl, rfl, rfl⟩ := hrel
        by_cases hcm : c < m - (j + 1)
        · have ck : wr.cell? ⟨bl, ol + (j + 1) + c, none⟩ = some (.int .i64 (g (j + 1 + c) : Nat)) := by
            rw [HB.out.cell (p := ⟨bl, ol + (j + 1) + c, none⟩) hbl, show ol + (j + 1) + c = ol + (j + 1 + c) by omega]
            exact HCL.out (j + 1 + c) (by omega)
          have hgv := HGL.out (j + 1 + c) (by omega)
          have hx := HBW.out c (by omega)
          have HS2 := Lib.hid (HST2.out c)
          have hgv16 : g (j + 1 + c) < 16 := by omega
          have hx16 : befN (fun i => g (j + 1 + i)) c < 65536 := by omega
          have hpv := pow_bd (g (j + 1 + c)) hgv16
          generalize g (j + 1 + c) = v at *
          generalize befN (fun i => g (j + 1 + i)) c = x at *
          go_wp2_with fail
          go_roundw
          case rel => exact ⟨c + 1, by omega, by go_num, by rw [HS2.out], by first | trivial | rfl⟩
          case measure => simp [intOf]; omega
        · have hce : c = m - (j + 1) := by omega
          rw [hce]
          clear hce hcm hc
          have hgm := HGL.out m (Nat.le_refl _)
          have hgj := HGL.out j (by omega)
          have hbh := HBW.out (m - (j + 1)) (Nat.le_refl _)
          have hbh16 : befN (fun i => g (j + 1 + i)) (m - (j + 1)) < 65536 := by omega
          obtain ⟨bt, ot, rfl, hbt, hct⟩ := HG.out.at_.ints.2 HG.out.at_.pos
          have cM : ∀ u : BelowW wr.heap.size wr, u.w.cell? ⟨bl, ol + m, none⟩ = some (.int .i64 (g m : Nat)) := fun u => by
            rw [(HB.out.trans (u.h.mono HB.out.size)).cell (p := ⟨bl, ol + m, none⟩) hbl]; exact HCL.out m (by omega)
          have cJ : ∀ u : BelowW wr.heap.size wr, u.w.cell? ⟨bl, ol + j, none⟩ = some (.int .i64 (g j : Nat)) := fun u => by
            rw [(HB.out.trans (u.h.mono HB.out.size)).cell (p := ⟨bl, ol + j, none⟩) hbl]; exact HCL.out j (by omega)
          have cT : ∀ u : BelowW wr.heap.size wr, u.w.cell? ⟨bt, ot + g m, none⟩ = some (.int .i64 (r (g m) : Nat)) := fun u => by
            rw [(HB.out.trans (u.h.mono HB.out.size)).cell (p := ⟨bt, ot + g m, none⟩) hbt]; exact hct (g m) hgm
          have hrm := HG.out.bd (g m) hgm
          have hrm16 : r (g m) < 65536 := by omega
          have hgj64 : g j < 64 := by omega
          have hgj16 : g j < 16 := by omega
          have HHA : Hid (∀ u : BelowW wr.heap.size wr, Calls Tryd.prog 92 #[.int .i64 (r (g m) : Nat), .int .i64 (g j : Nat)] u.w fun e w' => e = .returned (.bool ((r (g m)).testBit (g j))) ∧ Below u.w.heap.size u.w w') := Lib.hid fun u => (has_any (r (g m)) (g j) u.w hrm16 hgj64).mono fun e w' ⟨h1, h2⟩ => ⟨h1, by subst h2; exact Below.refl _ _⟩
          have HAR : Hid (∀ u : BelowW wr.heap.size wr, Calls Tryd.prog 106 #[.slice (some ⟨bt, ot, none⟩) n cap, .int .i64 (befN g j : Nat)] u.w fun e w' => e = .returned (.int .i64 (aroN r (befN g j) : Nat)) ∧ Below u.w.heap.size u.w w') := Lib.hid fun u => around_any (HG.out.below (HB.out.trans (u.h.mono HB.out.size))) cap (befN g j) hbe (HT.out.below (HB.out.trans (u.h.mono HB.out.size)))
          have har16 : aroN r (befN g j) < 65536 := lt16m hn8 (aroN_lt HG.out.bd hbe)
          have HUB : Hid (∀ u : BelowW wr.heap.size wr, Below w.heap.size w u.w) := Lib.hid fun u => HB.out.trans (u.h.mono HB.out.size)
          have cJ0 := cJ ⟨wr, Below.refl _ _⟩
          have hcq := cast_beq0 (aroN r (befN g j) &&& befN (fun i => g (j + 1 + i)) (m - (j + 1)))
          have HJQ := HJJ
          have HYJ : Hid (crJ r g m j = true → X = true) := Lib.hid fun h => HYES.out.2 ⟨j, hlt, h⟩
          have HNJ : Hid (crJ r g m j = false → ∀ i, i < j + 1 → crJ r g m i = false) := Lib.hid fun h i hi => by
            by_cases e : i = j
            · subst e; exact h
            · exact HNO.out i (by omega)
          have hpj := pow_bd (g j) hgj16
          clear hct HBW HST2 hbh hrm
          generalize befN (fun i => g (j + 1 + i)) (m - (j + 1)) = hn at *
          generalize aroN r (befN g j) = ar at *
          generalize befN g j = be at *
          generalize r (g m) = rm at *
          generalize g j = gj at *
          generalize g m = gm at *
          cases hbit : rm.testBit gj
          · rw [hbit] at HHA
            have HNX := Lib.hid (HNJ.out (by rw [HJQ.out, hbit]; rfl))
            clear hbit
            go_wp2_with fail
            refine wp_region_below wr.heap.size wr (Below.refl _ _) (by kernel_rfl) (by kernel_rfl) ?_
            repeat (go_big_quiet_step (first | (go_at_call 92; exact calls_below (Nat.le_refl _) (HHA.out _)) | (go_at_call 106; exact calls_below (Nat.le_refl _) (HAR.out _))))
            refine wpQuiet_nil ?_
            rintro _ ⟨u, rfl⟩
            have HU := Lib.hid (HUB.out u)
            have cJu := cJ u
            go_wp2_with fail
            go_roundw
            case rel => exact ⟨j + 1, by omega, by go_num, by rw [HST.out], HNX.out, HU.out⟩
            case measure => simp [intOf]; omega
          · rw [hbit] at HHA
            by_cases hz : ar &&& hn = 0
            · have hz1 : (((ar &&& hn : Nat) : Int) != 0) = false := by rw [hz]; rfl
              have HNX := Lib.hid (HNJ.out (by rw [HJQ.out, hbit, hz]; rfl))
              clear hbit hz hcq
              go_wp2_with fail
              refine wp_region_below wr.heap.size wr (Below.refl _ _) (by kernel_rfl) (by kernel_rfl) ?_
              repeat (go_big_quiet_step (first | (go_at_call 92; exact calls_below (Nat.le_refl _) (HHA.out _)) | (go_at_call 106; exact calls_below (Nat.le_refl _) (HAR.out _))))
              refine wpQuiet_nil ?_
              rintro _ ⟨u, rfl⟩
              have HU := Lib.hid (HUB.out u)
              have cJu := cJ u
              go_wp2_with fail
              go_roundw
              case rel => exact ⟨j + 1, by omega, by go_num, by rw [HST.out], HNX.out, HU.out⟩
              case measure => simp [intOf]; omega
            · have hz1 : (((ar &&& hn : Nat) : Int) != 0) = true := by rw [bne_iff_ne]; omega
              have HX := Lib.hid (HYJ.out (by rw [HJQ.out, hbit, Bool.true_and, bne_iff_ne]; exact hz))
              clear hbit hz hcq
              go_wp2_with fail
              refine wp_region_below wr.heap.size wr (Below.refl _ _) (by kernel_rfl) (by kernel_rfl) ?_
              repeat (go_big_quiet_step (first | (go_at_call 92; exact calls_below (Nat.le_refl _) (HHA.out _)) | (go_at_call 106; exact calls_below (Nat.le_refl _) (HAR.out _))))
              refine wpQuiet_nil ?_
              rintro _ ⟨u, rfl⟩
              have HU := Lib.hid (HUB.out u)
              go_wp2_with fail
              go_ret
              exact ⟨by rw [HX.out]; rfl, HU.out⟩
    · have hje : j = m := by omega
      have HX := Lib.hid (show X = false by
        rw [Bool.eq_false_iff]
        intro h
        obtain ⟨i, hi, hc⟩ := HYES.out.1 h
        rw [HNO.out i (by omega)] at hc
        cases hc)
      clear hje
      go_wp2_with fail
      go_ret
      exact ⟨by rw [HX.out]; rfl, HB.out⟩

end Go.Proofs.YtfmppncefbjicaaDoor
