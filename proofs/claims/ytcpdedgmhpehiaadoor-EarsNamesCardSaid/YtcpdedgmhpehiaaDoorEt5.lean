/- A block of three nodes or more has as many edges as nodes at least: each of its nodes has two neighbours in it (for EarsCactus). -/
import Derived.Test.YtcpdedgmhpehiaaDoorEt1
namespace Go.Proofs.YtcpdedgmhpehiaaDoor
set_option linter.unusedSimpArgs false
set_option linter.unusedVariables false

theorem szS_two {n T p q : Nat} (hp : p < n) (hq : q < n) (hpq : p ≠ q) (h1 : T.testBit p = true) (h2 : T.testBit q = true) : 2 ≤ szS n T := by
  have a1 : 0 < szS n (2 ^ p) := sz_pos hp (bit_pow p)
  have a2 : szS n (2 ^ p) < szS n T := szS_lt (fun i _ hi => by
    rw [Nat.testBit_two_pow, decide_eq_true_eq] at hi
    rw [← hi]; exact h1) hq (by rw [Nat.testBit_two_pow, decide_eq_false hpq]) h2
  omega

theorem szS_none {n T : Nat} (h : ∀ i, i < n → T.testBit i = false) : szS n T = 0 := by
  unfold szS
  rw [List.countP_eq_zero]
  intro v hv
  rw [h v (List.mem_range.1 hv)]; simp
theorem szS_drop {n T p : Nat} : szS n T ≤ szS n (diff T (2 ^ p)) + 1 := by
  unfold szS
  induction n with
  | zero => simp
  | succ n ih =>
    rw [List.range_succ, List.countP_append, List.countP_append]
    simp only [List.countP_cons, List.countP_nil, Nat.zero_add]
    by_cases e : p = n
    · subst e
      have : (List.range p).countP (fun v => T.testBit v) = (List.range p).countP (fun v => (diff T (2 ^ p)).testBit v) := by
        apply List.countP_congr
        intro v hv
        have hv := List.mem_range.1 hv
        rw [testBit_diff, Nat.testBit_two_pow, decide_eq_false (by omega)]; simp
      rw [this]
      split <;> omega
    · have : (diff T (2 ^ p)).testBit n = T.testBit n := by rw [testBit_diff, Nat.testBit_two_pow, decide_eq_false e]; simp
      rw [this]
      omega
theorem szS_third {n B a b : Nat} (h : 3 ≤ szS n B) : ∃ w, w < n ∧ B.testBit w = true ∧ w ≠ a ∧ w ≠ b := by
  apply Classical.byContradiction
  intro hno
  have h1 := szS_drop (n := n) (T := B) (p := a)
  have h2 := szS_drop (n := n) (T := diff B (2 ^ a)) (p := b)
  have h3 : szS n (diff (diff B (2 ^ a)) (2 ^ b)) = 0 := szS_none fun i hi => by
    rw [testBit_diff, testBit_diff, Nat.testBit_two_pow, Nat.testBit_two_pow]
    apply Classical.byContradiction
    intro hne
    rw [Bool.not_eq_false, Bool.and_eq_true, Bool.and_eq_true] at hne
    refine hno ⟨i, hi, hne.1.1, fun e => ?_, fun e => ?_⟩
    · subst e; simp at hne
    · subst e; simp at hne
  omega

/-- On a way to a node there is a first time that it is met. -/
theorem Rch.first {r : Nat → Nat} {s p v : Nat} (hpv : p ≠ v) (h : Rch r s p v) : ∃ u, Rch r (diff s (2 ^ v)) p u ∧ (r u).testBit v = true := by
  have key : ∀ y, Rch r s p y → Rch r (diff s (2 ^ v)) p y ∨ ∃ u, Rch r (diff s (2 ^ v)) p u ∧ (r u).testBit v = true := by
    intro y hy
    induction hy with
    | refl => exact .inl .refl
    | @step u x _ a b ih =>
      rcases ih with ih | ih
      · by_cases e : x = v
        · subst e; exact .inr ⟨u, ih, a⟩
        · exact .inl (.step ih a (by rw [testBit_diff, b, Nat.testBit_two_pow, decide_eq_false (fun h => e h.symm)]; rfl))
      · exact .inr ih
  rcases key v h with h | h
  · rcases h.mem with e | e
    · exact absurd e.symm hpv
    · rw [testBit_diff, bit_pow, Bool.not_true, Bool.and_false] at e; cases e
  · exact h
theorem diff_but {n x v i : Nat} (h : (diff (butS n x) (2 ^ v)).testBit i = true) : i < n ∧ i ≠ x ∧ i ≠ v := by
  rw [testBit_diff, Bool.and_eq_true] at h
  have h1 := but_iff.1 h.1
  refine ⟨h1.1, h1.2, fun e => ?_⟩
  subst e
  rw [bit_pow] at h; simp at h

theorem block_deg {n : Nat} {r : Nat → Nat} (h : Pl n r) {a b : Nat} (ha : a < n) (hb : b < n) (hab : a ≠ b) (hadj : (r a).testBit b = true) (h3 : 3 ≤ szS n (blkTo n r a b n)) {v : Nat} (hv : (blkTo n r a b n).testBit v = true) :
    2 ≤ szS n (r v &&& blkTo n r a b n) := by
  have hin : ∀ x, (blkTo n r a b n).testBit x = true ↔ x < n ∧ ∀ v, v < n → x = v ∨ Rch r (butS n v) (if a = v then b else a) x := fun x => by
    rw [testBit_blk]
    constructor
    · rintro ⟨h1, h2⟩; exact ⟨h1, fun v hv => (h2 v hv).imp_right fun h3 => part_rch h3⟩
    · rintro ⟨h1, h2⟩; exact ⟨h1, fun v hv => (h2 v hv).imp_right fun h3 => rch_part (by split <;> assumption) h.bd h3⟩
  have hadj' : (r b).testBit a = true := by rw [h.sym b a hb ha]; exact hadj
  have hbut : ∀ x, butS n x < 2 ^ n := fun x => butS_lt
  have inb : (blkTo n r a b n).testBit b = true := (hin b).2 ⟨hb, fun v hv => by
    by_cases e : a = v
    · rw [if_pos e]; exact .inr .refl
    · rw [if_neg e]
      by_cases e2 : b = v
      · exact .inl e2
      · exact .inr (.step .refl hadj (but_true hb e2))⟩
  have ina : (blkTo n r a b n).testBit a = true := (hin a).2 ⟨ha, fun v hv => by
    by_cases e : a = v
    · exact .inl e
    · rw [if_neg e]; exact .inr .refl⟩
  obtain ⟨w, hwn, hw, hwa, hwb⟩ := szS_third (a := a) (b := b) h3
  have hvn := ((hin v).1 hv).1
  -- a neighbour in the part of the others in which the edge's end lies is in the block
  have H1 : ∀ u, u < n → (r v).testBit u = true → u ≠ v → Rch r (butS n v) (if a = v then b else a) u → (blkTo n r a b n).testBit u = true := fun u hu hvu huv hR => (hin u).2 ⟨hu, fun x hx => by
    by_cases e : u = x
    · exact .inl e
    · right
      by_cases e2 : x = v
      · subst e2; exact hR
      · rcases ((hin v).1 hv).2 x hx with e3 | e3
        · exact absurd e3.symm e2
        · exact .step e3 hvu (but_true hu e)⟩
  have two : ∀ p q, p < n → q < n → p ≠ q → (r v).testBit p = true → (r v).testBit q = true → (blkTo n r a b n).testBit p = true → (blkTo n r a b n).testBit q = true → 2 ≤ szS n (r v &&& blkTo n r a b n) := fun p q hp hq hpq h1 h2 h3 h4 =>
    szS_two hp hq hpq (by rw [Nat.testBit_and, h1, h3]; rfl) (by rw [Nat.testBit_and, h2, h4]; rfl)
  by_cases eva : a = v
  · subst eva
    rw [if_pos rfl] at H1
    rcases ((hin w).1 hw).2 b hb with e | e
    · exact absurd e hwb
    rw [if_neg hab] at e
    have e := Rch.symm h.sym (hbut b) ha (but_true ha hab) e
    obtain ⟨u, hu, hua⟩ := e.first hwa
    have hun : u < n ∧ u ≠ b ∧ u ≠ a := by
      rcases hu.mem with rfl | hm
      · exact ⟨hwn, hwb, hwa⟩
      · exact diff_but hm
    have hau : (r a).testBit u = true := by rw [h.sym a u ha hun.1]; exact hua
    rcases ((hin w).1 hw).2 a ha with e2 | e2
    · exact absurd e2 hwa
    rw [if_pos rfl] at e2
    have hR := e2.trans (hu.mono fun i hi => but_true (diff_but hi).1 (diff_but hi).2.2)
    exact two b u hb hun.1 hun.2.1.symm hadj hau inb (H1 u hun.1 hau hun.2.2 hR)
  · rw [if_neg eva] at H1
    by_cases evb : b = v
    · subst evb
      rcases ((hin w).1 hw).2 a ha with e | e
      · exact absurd e hwa
      rw [if_pos rfl] at e
      have e := Rch.symm h.sym (hbut a) hb (but_true hb hab.symm) e
      obtain ⟨u, hu, hub⟩ := e.first hwb
      have hun : u < n ∧ u ≠ a ∧ u ≠ b := by
        rcases hu.mem with rfl | hm
        · exact ⟨hwn, hwa, hwb⟩
        · exact diff_but hm
      have hbu : (r b).testBit u = true := by rw [h.sym b u hb hun.1]; exact hub
      rcases ((hin w).1 hw).2 b hb with e2 | e2
      · exact absurd e2 hwb
      rw [if_neg hab] at e2
      have hR := e2.trans (hu.mono fun i hi => but_true (diff_but hi).1 (diff_but hi).2.2)
      exact two a u ha hun.1 hun.2.1.symm hadj' hbu ina (H1 u hun.1 hbu hun.2.2 hR)
    · have near : ∀ x, x < n → x ≠ v → ∃ u, u < n ∧ u ≠ x ∧ u ≠ v ∧ (r v).testBit u = true ∧ (blkTo n r a b n).testBit u = true := fun x hx hxv => by
        rcases ((hin v).1 hv).2 x hx with e | e
        · exact absurd e.symm hxv
        have hev : (if a = x then b else a) ≠ v := by split <;> assumption
        have hex : (if a = x then b else a) ≠ x := by
          split
          · rename_i q; rw [← q]; exact hab.symm
          · assumption
        have hen : (if a = x then b else a) < n := by split <;> assumption
        obtain ⟨u, hu, huv⟩ := e.first hev
        have hun : u < n ∧ u ≠ x ∧ u ≠ v := by
          rcases hu.mem with rfl | hm
          · exact ⟨hen, hex, hev⟩
          · exact diff_but hm
        have hvu : (r v).testBit u = true := by rw [h.sym v u hvn hun.1]; exact huv
        have hR1 : Rch r (butS n v) a (if a = x then b else a) := by
          split
          · exact .step .refl hadj (but_true hb evb)
          · exact .refl
        have hR := hR1.trans (hu.mono fun i hi => but_true (diff_but hi).1 (diff_but hi).2.2)
        exact ⟨u, hun.1, hun.2.1, hun.2.2, hvu, H1 u hun.1 hvu hun.2.2 hR⟩
      obtain ⟨p, p1, _, p3, p4, p5⟩ := near a ha eva
      obtain ⟨q, q1, q2, _, q4, q5⟩ := near p p1 p3
      exact two p q p1 q1 q2.symm p4 q4 p5 q5

/-- How many neighbours the nodes of a set have within it, in all. -/
def degS (n : Nat) (r : Nat → Nat) (s : Nat) : Nat → Nat
  | 0 => 0
  | k + 1 => degS n r s k + (if s.testBit k then szS n (r k &&& s) else 0)
theorem szS_range (s : Nat) : ∀ k, szS (k + 1) s = szS k s + (if s.testBit k then 1 else 0) := by
  intro k
  unfold szS
  rw [List.range_succ, List.countP_append]
  simp [List.countP_cons]
theorem degS_ge {n : Nat} {r : Nat → Nat} {s : Nat} (h : ∀ v, s.testBit v = true → 2 ≤ szS n (r v &&& s)) : ∀ k, 2 * szS k s ≤ degS n r s k := by
  intro k
  induction k with
  | zero => simp [szS, degS]
  | succ k ih =>
    rw [szS_range, degS]
    split
    · rename_i hk
      have := h k hk
      omega
    · omega
theorem degS_le {n : Nat} {r : Nat → Nat} {s : Nat} (hl : ∀ v, v < n → (r v).testBit v = false) : ∀ k, k ≤ n → degS n r s k ≤ szS k s * (szS n s - 1) := by
  intro k
  induction k with
  | zero => intro _; simp [szS, degS]
  | succ k ih =>
    intro hk
    rw [szS_range, degS]
    have := ih (by omega)
    split
    · rename_i hb
      have h1 : szS n (r k &&& s) < szS n s := szS_lt (fun i _ hi => by rw [Nat.testBit_and, Bool.and_eq_true] at hi; exact hi.2) (show k < n by omega) (by rw [Nat.testBit_and, hl k (by omega)]; rfl) hb
      rw [Nat.add_mul, Nat.one_mul]
      omega
    · rw [Nat.add_zero, Nat.add_zero]; exact this

/-- The sets that the program takes for blocks: the nodes alone, and those of the edges. -/
def isoTo (r : Nat → Nat) : Nat → List Nat
  | 0 => []
  | k + 1 => isoTo r k ++ (if r k = 0 then [2 ^ k] else [])
def blkL (n : Nat) (r : Nat → Nat) : List Nat := isoTo r n ++ (edgesTo r n).map fun e => blkTo n r e.1 e.2 n
theorem isoTo_mem {r : Nat → Nat} {x : Nat} : ∀ k, x ∈ isoTo r k → ∃ v, v < k ∧ x = 2 ^ v := by
  intro k
  induction k with
  | zero => intro h; cases h
  | succ k ih =>
    intro h
    rcases List.mem_append.1 h with h | h
    · obtain ⟨v, h1, h2⟩ := ih h
      exact ⟨v, by omega, h2⟩
    · split at h
      · exact ⟨k, by omega, by simpa using h⟩
      · cases h
theorem edgesTo_adj {r : Nat → Nat} : ∀ k, ∀ e ∈ edgesTo r k, e.1 < e.2 ∧ (r e.1).testBit e.2 = true := by
  intro k
  induction k with
  | zero => intro e he; cases he
  | succ k ih =>
    intro e he
    rcases List.mem_append.1 he with h | h
    · exact ih e h
    · unfold rowE at h
      obtain ⟨x, hx, rfl⟩ := List.mem_map.1 h
      have := List.mem_filter.1 hx
      exact ⟨of_decide_eq_true this.2, (mem_bitsOf.1 this.1).2⟩
/-- Of such a set: not more edges than nodes, exactly if as many, or two nodes at most. -/
theorem blk_point {n : Nat} {r : Nat → Nat} (h : Pl n r) {B : Nat} (hB : B ∈ blkL n r) :
    decide (szS n B < degS n r B n / 2) = !(degS n r B n / 2 == szS n B || decide (szS n B ≤ 2)) := by
  by_cases h2 : szS n B ≤ 2
  · have h1 := degS_le (s := B) h.loop n (Nat.le_refl _)
    have : szS n B * (szS n B - 1) ≤ 2 * szS n B := by rw [Nat.mul_comm]; exact Nat.mul_le_mul (by omega) (Nat.le_refl _)
    rw [decide_eq_true h2, Bool.or_true, decide_eq_false (by omega)]; rfl
  · have h3 : 2 * szS n B ≤ degS n r B n := by
      rcases List.mem_append.1 hB with hm | hm
      · obtain ⟨v, hv, rfl⟩ := isoTo_mem n hm
        exfalso
        have := szS_drop (n := n) (T := 2 ^ v) (p := v)
        have h0 : szS n (diff (2 ^ v) (2 ^ v)) = 0 := szS_none fun i _ => by rw [testBit_diff]; cases (2 ^ v).testBit i <;> rfl
        omega
      · obtain ⟨e, he, rfl⟩ := List.mem_map.1 hm
        have hl := edgesTo_lt h.bd n (Nat.le_refl _) e he
        have hj := edgesTo_adj n e he
        exact degS_ge (fun v hv => block_deg h hl.1 hl.2 (by omega) hj.2 (by omega) hv) n
    rw [decide_eq_false h2, Bool.or_false]
    by_cases e : degS n r B n / 2 = szS n B
    · rw [decide_eq_false (by omega), e, beq_self_eq_true]; rfl
    · rw [decide_eq_true (by omega), beq_eq_false_iff_ne.2 e]; rfl
theorem blkL_lt {n : Nat} {r : Nat → Nat} {B : Nat} (hB : B ∈ blkL n r) : B < 2 ^ n := by
  rcases List.mem_append.1 hB with hm | hm
  · obtain ⟨v, hv, rfl⟩ := isoTo_mem n hm
    exact pow_lt_pow hv
  · obtain ⟨e, he, rfl⟩ := List.mem_map.1 hm
    exact blkTo_lt n
theorem isoTo_len (r : Nat → Nat) : ∀ k, (isoTo r k).length ≤ k := by
  intro k
  induction k with
  | zero => exact Nat.le_refl _
  | succ k ih => rw [isoTo, List.length_append]; split <;> simp <;> omega

end Go.Proofs.YtcpdedgmhpehiaaDoor
