/- The first numbering of a double graph: the program's next node and the reference's are one; the numbering as a list. -/
import Derived.Test.YtcpdedgmhpehiaaDoorEt2
import Derived.Test.YtcpdedgmhpehiaaDoorEk
namespace Go.Proofs.YtcpdedgmhpehiaaDoor
set_option linter.unusedSimpArgs false
set_option linter.unusedVariables false

/-- What is left of a graph. -/
abbrev restS (n before : Nat) : Nat := diff (2 ^ n - 1) before
theorem testBit_rest {n before i : Nat} : (restS n before).testBit i = (decide (i < n) && !before.testBit i) := by
  rw [testBit_diff, testBit_all]
theorem rest_lt {n before : Nat} : restS n before < 2 ^ n := Nat.lt_of_le_of_lt (diff_le _ _) (all_lt n)
theorem diff_pow_bit {s v i : Nat} : (diff s (2 ^ v)).testBit i = true ↔ s.testBit i = true ∧ i ≠ v := by
  rw [testBit_diff, Nat.testBit_two_pow, Bool.and_eq_true]
  simp only [Bool.not_eq_true', decide_eq_false_iff_not]
  exact ⟨fun h => ⟨h.1, fun e => h.2 e.symm⟩, fun h => ⟨h.1, fun e => h.2 e.symm⟩⟩
theorem and_ne {a b : Nat} : (a &&& b != 0) = true ↔ ∃ i, a.testBit i = true ∧ b.testBit i = true := by
  rw [bne_iff_ne]
  constructor
  · intro h
    apply Classical.byContradiction
    intro hno
    refine h (Nat.eq_of_testBit_eq fun i => ?_)
    rw [Nat.testBit_and, Nat.zero_testBit, Bool.eq_false_iff]
    intro hi
    rw [Bool.and_eq_true] at hi
    exact hno ⟨i, hi⟩
  · rintro ⟨i, h1, h2⟩ h
    have : (a &&& b).testBit i = true := by rw [Nat.testBit_and, h1, h2]; rfl
    rw [h, Nat.zero_testBit] at this; cases this

/-- Whether a node may come next, as the program asks it, and as the reference does. -/
def nxP (n : Nat) (r : Nat → Nat) (before t v : Nat) : Bool :=
  (restS n before).testBit v && !(v == t) && (r v &&& before != 0 && conB n r (diff (restS n before) (2 ^ v)))
def nxR (n : Nat) (r : Nat → Nat) (before t v : Nat) : Bool :=
  !before.testBit v && !(v == t) && (r v &&& before != 0) && (r v &&& diff (restS n before) (2 ^ v) != 0) && partS n r (diff (restS n before) (2 ^ v)) t == diff (restS n before) (2 ^ v)

theorem con_iff {n : Nat} {r : Nat → Nat} (h : Pl n r) {s : Nat} (h0 : 0 < s) (hs : s < 2 ^ n) : conB n r s = true ↔ ∀ x y, s.testBit x = true → s.testBit y = true → Rch r s x y := by
  rw [← conn_iff h h0 hs, connN_nat h0 hs]
  unfold conB
  rw [show (s == 0) = false from beq_eq_false_iff_ne.2 (by omega), Bool.false_or]
theorem Rch.step1 {r : Nat → Nat} {s v x : Nat} (h : Rch r s v x) (hx : x ≠ v) : ∃ u, (r v).testBit u = true ∧ s.testBit u = true ∧ u ≠ v := by
  induction h with
  | refl => exact absurd rfl hx
  | @step u x _ h1 h2 ih =>
    by_cases e : u = v
    · subst e; exact ⟨x, h1, h2, hx⟩
    · exact ih e

/-- The nodes that come next, so many of them. -/
def numW (n : Nat) (r : Nat → Nat) (t : Nat) : Nat → Nat → List Nat
  | 0, _ => []
  | k + 1, before => match (List.range n).find? (nxP n r before t) with
    | none => []
    | some v => v :: numW n r t k (before ||| 2 ^ v)
theorem numW_succ (n : Nat) (r : Nat → Nat) (t k before : Nat) : numW n r t (k + 1) before = match (List.range n).find? (nxP n r before t) with
    | none => []
    | some v => v :: numW n r t k (before ||| 2 ^ v) := rfl
theorem find_first {n v : Nat} {p : Nat → Bool} (hv : v < n) (h : p v = true) (hno : ∀ u, u < v → p u = false) : (List.range n).find? p = some v := by
  rw [List.find?_eq_some_iff_append]
  refine ⟨h, List.range v, (List.range (n - v - 1)).map fun i => v + 1 + i, ?_, fun u hu => by rw [hno u (List.mem_range.1 hu)]; rfl⟩
  apply List.ext_getElem?
  intro i
  by_cases h1 : i < v
  · rw [List.getElem?_append_left (by simpa using h1)]; simp [h1, show i < n by omega]
  · rw [List.getElem?_append_right (by simpa using Nat.le_of_not_lt h1), List.length_range]
    by_cases h2 : i = v
    · subst h2; simp [hv]
    · obtain ⟨j, rfl⟩ : ∃ j, i = v + 1 + j := ⟨i - v - 1, by omega⟩
      rw [show v + 1 + j - v = j + 1 by omega, List.getElem?_cons_succ]
      by_cases h3 : v + 1 + j < n
      · simp [h3, show j < n - v - 1 by omega]
      · simp [h3, show ¬ j < n - v - 1 by omega]

/-- Where a numbering stands. -/
structure NumSit (n : Nat) (r : Nat → Nat) (s t : Nat) (L : List Nat) (before : Nat) : Prop where
  lt : before < 2 ^ n
  sz : szS n before = L.length
  ms : before.testBit s = true
  mt : before.testBit t = false
  conn : ∀ x y, (restS n before).testBit x = true → (restS n before).testBit y = true → Rch r (restS n before) x y
  go : s :: numW n r t (n - 2) (2 ^ s) = L ++ numW n r t (n - 1 - L.length) before
  le : L.length ≤ n - 1
  ltL : ∀ x ∈ L, x < n

theorem rest_or {n before v : Nat} : restS n (before ||| 2 ^ v) = diff (restS n before) (2 ^ v) := by
  apply Nat.eq_of_testBit_eq
  intro i
  rw [testBit_rest, testBit_diff, testBit_rest, Nat.testBit_or]
  cases decide (i < n) <;> cases before.testBit i <;> cases (2 ^ v).testBit i <;> rfl

theorem NumSit.start {n : Nat} {r : Nat → Nat} {s t : Nat} (h : Pl n r) (hd : doubleB n r = true) (hs : s < n) (hst : s ≠ t) : NumSit n r s t [s] (2 ^ s) := by
  have hw := double_whole h hd
  have h3 : 3 ≤ n := by
    unfold doubleB at hd
    simp only [Bool.and_eq_true, decide_eq_true_eq] at hd
    exact hd.1.1
  refine ⟨pow_lt_pow hs, ?_, bit_pow s, by rw [Nat.testBit_two_pow]; exact decide_eq_false hst, fun x y hx hy => ?_, ?_, by simp; omega, by simpa using hs⟩
  · have := sz_or (n := n) (g := 0) hs (Nat.zero_testBit s)
    rw [Nat.zero_or] at this
    rw [this]
    simp [szS]
  · obtain ⟨h1, h2⟩ := diff_pow_bit.1 hx
    obtain ⟨h3, h4⟩ := diff_pow_bit.1 hy
    rw [testBit_all, decide_eq_true_eq] at h1 h3
    exact hw s x y hs h1 h3 h2 h4
  · simp [show n - 1 - 1 = n - 2 by omega]

theorem nx_same {n : Nat} {r : Nat → Nat} {s t : Nat} {L : List Nat} {before : Nat} (h : Pl n r) (ht : t < n) (S : NumSit n r s t L before) {v : Nat} (hv : v < n) : nxP n r before t v = nxR n r before t v := by
  unfold nxP nxR
  rw [testBit_rest, decide_eq_true hv, Bool.true_and]
  cases hb : before.testBit v
  · cases e : (v == t)
    · have hvt : v ≠ t := beq_eq_false_iff_ne.1 e
      have htr : (restS n before).testBit t = true := by rw [testBit_rest, decide_eq_true ht, S.mt]; rfl
      have hvr : (restS n before).testBit v = true := by rw [testBit_rest, decide_eq_true hv, hb]; rfl
      have htl := diff_pow_bit.2 ⟨htr, fun e => hvt e.symm⟩
      have hll : diff (restS n before) (2 ^ v) < 2 ^ n := Nat.lt_of_le_of_lt (diff_le _ _) rest_lt
      have hl0 : 0 < diff (restS n before) (2 ^ v) := by
        apply Nat.pos_of_ne_zero
        intro e0
        rw [e0, Nat.zero_testBit] at htl; cases htl
      have hne : (r v &&& diff (restS n before) (2 ^ v) != 0) = true := by
        obtain ⟨u, h1, h2, h3⟩ := (S.conn v t hvr htr).step1 (fun e => hvt e.symm)
        exact and_ne.2 ⟨u, h1, diff_pow_bit.2 ⟨h2, h3⟩⟩
      rw [hne]
      simp only [Bool.not_false, Bool.true_and, Bool.and_true]
      congr 1
      generalize diff (restS n before) (2 ^ v) = left at *
      rw [Bool.eq_iff_iff, con_iff h hl0 hll, beq_iff_eq]
      constructor
      · intro hc
        apply Nat.eq_of_testBit_eq
        intro i
        rw [Bool.eq_iff_iff, part_iff h.bd ht]
        constructor
        · intro hr
          rcases hr.mem with h1 | h1
          · rw [h1]; exact htl
          · exact h1
        · exact fun hi => hc t i htl hi
      · intro hp x y hx hy
        have gx : Rch r left t x := (part_iff h.bd ht).1 (by rw [hp]; exact hx)
        have gy : Rch r left t y := (part_iff h.bd ht).1 (by rw [hp]; exact hy)
        exact (Rch.symm h.sym hll ht htl gx).trans gy
    · simp
  · simp

theorem nx_some {n : Nat} {r : Nat → Nat} {s t : Nat} {L : List Nat} {before : Nat} (h : Pl n r) (hw : Whole n r) (hs : s < n) (ht : t < n) (S : NumSit n r s t L before) (hl : L.length < n - 1) : ∃ v, v < n ∧ nxP n r before t v = true := by
  obtain ⟨q, hqn, hqb, hqt⟩ : ∃ q, q < n ∧ before.testBit q = false ∧ q ≠ t := by
    apply Classical.byContradiction
    intro hno
    have hf : before ||| 2 ^ t = 2 ^ n - 1 := all_of (Nat.or_lt_two_pow S.lt (pow_lt_pow ht)) fun u hu => by
      rw [or_bit]
      by_cases e : u = t
      · rw [e]; simp
      · cases hb : before.testBit u
        · exact absurd ⟨u, hu, hb, e⟩ hno
        · rfl
    have h1 := sz_or (n := n) ht S.mt
    rw [hf, sz_all, S.sz] at h1
    omega
  have htr : (restS n before).testBit t = true := by rw [testBit_rest, decide_eq_true ht, S.mt]; rfl
  have hqr : (restS n before).testBit q = true := by rw [testBit_rest, decide_eq_true hqn, hqb]; rfl
  obtain ⟨v, h1, h2, ⟨b, h3, h4⟩, h5⟩ := next_exists h hw rest_lt (fun i hi => by rw [testBit_rest, decide_eq_true hi]; simp) hs S.ms htr hqr hqt S.conn
  have hvn := bit_lt rest_lt h1
  refine ⟨v, hvn, ?_⟩
  unfold nxP
  have htl := diff_pow_bit.2 ⟨htr, fun e => h2 e.symm⟩
  have hl0 : 0 < diff (restS n before) (2 ^ v) := by
    apply Nat.pos_of_ne_zero
    intro e0
    rw [e0, Nat.zero_testBit] at htl; cases htl
  rw [h1, show (v == t) = false from beq_eq_false_iff_ne.2 h2, and_ne.2 ⟨b, h4, h3⟩, (con_iff h hl0 (Nat.lt_of_le_of_lt (diff_le _ _) rest_lt)).2 fun x y hx hy => ?_]
  · rfl
  · obtain ⟨x1, x2⟩ := diff_pow_bit.1 hx
    obtain ⟨y1, y2⟩ := diff_pow_bit.1 hy
    exact h5 x y x1 x2 y1 y2

theorem NumSit.step {n : Nat} {r : Nat → Nat} {s t : Nat} {L : List Nat} {before v : Nat} (h : Pl n r) (S : NumSit n r s t L before) (ht : t < n) (hl : L.length < n - 1) (hv : v < n) (hx : nxP n r before t v = true) (hno : ∀ u, u < v → nxP n r before t u = false) : NumSit n r s t (L ++ [v]) (before ||| 2 ^ v) := by
  have hx' := hx
  unfold nxP at hx
  simp only [Bool.and_eq_true, Bool.not_eq_true', beq_eq_false_iff_ne] at hx
  obtain ⟨⟨h1, h2⟩, h3, h4⟩ := hx
  have hbv : before.testBit v = false := by
    rw [testBit_rest, Bool.and_eq_true] at h1
    simpa using h1.2
  have htr : (restS n before).testBit t = true := by rw [testBit_rest, decide_eq_true ht, S.mt]; rfl
  have htl := diff_pow_bit.2 ⟨htr, fun e => h2 e.symm⟩
  have hl0 : 0 < diff (restS n before) (2 ^ v) := by
    apply Nat.pos_of_ne_zero
    intro e0
    rw [e0, Nat.zero_testBit] at htl; cases htl
  refine ⟨Nat.or_lt_two_pow S.lt (pow_lt_pow hv), ?_, ?_, ?_, ?_, ?_, by simp; omega, fun x hx => ?_⟩
  · rw [sz_or hv hbv, S.sz]; simp
  · rw [or_bit, S.ms]; rfl
  · rw [or_bit, S.mt, Bool.false_or]; exact decide_eq_false h2
  · rw [rest_or]
    exact (con_iff h hl0 (Nat.lt_of_le_of_lt (diff_le _ _) rest_lt)).1 h4
  · rw [S.go, List.append_assoc, List.length_append, List.length_singleton, show n - 1 - L.length = (n - 1 - (L.length + 1)) + 1 by omega]
    congr 1
    rw [numW_succ, find_first hv hx' hno]
    rfl
  · rcases List.mem_append.1 hx with h | h
    · exact S.ltL x h
    · rw [List.mem_singleton.1 h]; exact hv
theorem NumSit.done {n : Nat} {r : Nat → Nat} {s t : Nat} {L : List Nat} {before : Nat} (S : NumSit n r s t L before) (hl : L.length = n - 1) : L = s :: numW n r t (n - 2) (2 ^ s) := by
  rw [S.go, hl, Nat.sub_self]
  show L = L ++ []
  rw [List.append_nil]

/-- Whether numbers are a numbering, as the reference asks it. -/
def okNR (n : Nat) (r : Nat → Nat) (z : Nat → Int) (k : Nat) : Bool :=
  !(decide (0 < k) && decide (k < n - 1)) || (r (z k).toNat &&& metO z k != 0 && (r (z k).toNat &&& diff (restS n (metO z k)) (2 ^ (z k).toNat) != 0))
def numRB (n : Nat) (r : Nat → Nat) (m : Nat) (z : Nat → Int) : Bool := ordB n m z && decide (2 ≤ m) && (r (z 0).toNat).testBit (z (m - 1)).toNat && (List.range m).all (okNR n r z)
theorem diff_zero {a b : Nat} : (diff a b == 0) = false ↔ ∃ i, a.testBit i = true ∧ b.testBit i = false := by
  rw [beq_eq_false_iff_ne]
  constructor
  · intro h
    apply Classical.byContradiction
    intro hno
    refine h (Nat.eq_of_testBit_eq fun i => ?_)
    rw [testBit_diff, Nat.zero_testBit, Bool.eq_false_iff]
    intro hi
    rw [Bool.and_eq_true] at hi
    exact hno ⟨i, hi.1, by simpa using hi.2⟩
  · rintro ⟨i, h1, h2⟩ h
    have : (diff a b).testBit i = true := by rw [testBit_diff, h1, h2]; rfl
    rw [h, Nat.zero_testBit] at this; cases this
theorem okN_same {n : Nat} {r : Nat → Nat} {z : Nat → Int} {k : Nat} (h : Pl n r) (ho : okO n z k = true) (hm : metO z k < 2 ^ n) : okN n r z k = okNR n r z k := by
  obtain ⟨_, _, h3, h4⟩ := okO_iff ho
  unfold okN okNR
  rw [ho, Bool.true_and]
  congr 1
  congr 1
  generalize (z k).toNat = v at *
  generalize metO z k = M at *
  rw [Bool.eq_iff_iff, and_ne, Bool.not_eq_true', diff_zero]
  constructor
  · rintro ⟨i, h1, h2⟩
    have hi := bit_lt (h.bd v h3) h1
    exact ⟨i, h1, diff_pow_bit.2 ⟨by rw [testBit_rest, decide_eq_true hi, h2]; rfl, fun e => by subst e; rw [h.loop i h3] at h1; cases h1⟩⟩
  · rintro ⟨i, h1, h2⟩
    obtain ⟨h5, _⟩ := diff_pow_bit.1 h2
    rw [testBit_rest, Bool.and_eq_true] at h5
    exact ⟨i, h1, by simpa using h5.2⟩
theorem num_same {n m : Nat} {r : Nat → Nat} {z : Nat → Int} (h : Pl n r) : numB n r m z = numRB n r m z := by
  by_cases hmn : m = n
  rotate_left
  · unfold numB numRB
    rw [ordB_len hmn, show (m == n) = false from beq_eq_false_iff_ne.2 hmn]; rfl
  subst hmn
  have hpos := h.one
  rw [Bool.eq_iff_iff]
  unfold numB numRB
  simp only [Bool.and_eq_true, beq_self_eq_true, true_and, List.all_eq_true, List.mem_range, decide_eq_true_eq]
  constructor
  · rintro ⟨h1, h2⟩
    have hok := fun k hk => okN_okO (h2 k hk)
    unfold nbB twoB at h1
    simp only [Bool.and_eq_true, bne_iff_ne] at h1
    refine ⟨⟨⟨ordB_good hok, ?_⟩, h1.2⟩, fun k hk => ?_⟩
    · apply Classical.byContradiction
      intro hn
      have : m - 1 = 0 := by omega
      rw [this] at h1
      exact h1.1.2 rfl
    · rw [← okN_same h (hok k hk) (metO_lt k fun i hi => hok i (by omega))]; exact h2 k hk
  · rintro ⟨⟨⟨h1, h2⟩, h3⟩, h4⟩
    have hok := (ordB_iff h1).2
    obtain ⟨a1, a2, a3, _⟩ := okO_iff (hok 0 (by omega))
    obtain ⟨b1, b2, b3, _⟩ := okO_iff (hok (m - 1) (by omega))
    refine ⟨?_, fun k hk => ?_⟩
    · unfold nbB twoB
      rw [inB_true a1 a2, inB_true b1 b2, h3]
      simp only [Bool.true_and, Bool.and_true, bne_iff_ne]
      intro e
      rw [← e, h.loop _ a3] at h3; cases h3
    · rw [okN_same h (hok k hk) (metO_lt k fun i hi => hok i (by omega))]; exact h4 k hk

end Go.Proofs.YtcpdedgmhpehiaaDoor
