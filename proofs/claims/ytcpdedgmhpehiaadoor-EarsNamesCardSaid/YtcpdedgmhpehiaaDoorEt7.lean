/- The program's list of blocks: strictly rising, its members, and what a pair of nodes is in (for EarsParts). -/
import Derived.Test.YtcpdedgmhpehiaaDoorEcb
import Derived.Test.YtcpdedgmhpehiaaDoorEt6
namespace Go.Proofs.YtcpdedgmhpehiaaDoor
set_option linter.unusedSimpArgs false
set_option linter.unusedVariables false
open Go.RowKit Go.Maps Go.Lib

theorem sortedI_le (L : List Int) : (sortedI L).Pairwise (fun x y => x ≤ y) := by
  have := List.pairwise_mergeSort (le := fun x y : Int => decide (x ≤ y)) (fun a b c h1 h2 => by simp at *; omega) (fun a b => by simp; omega) L
  exact this.imp fun h => of_decide_eq_true h
theorem compact_rise {M : List Int} (h : M.Pairwise (fun x y => x ≤ y)) : (Lib.compact M).Pairwise (fun x y => x < y) := by
  unfold Lib.compact compactUpTo
  rw [List.pairwise_map]
  have hp : ((List.range M.length).filter (keeps M.toArray)).Pairwise (fun i j => i < j) := List.Pairwise.filter _ List.pairwise_lt_range
  refine hp.imp_of_mem ?_
  intro i j hi hj hij
  obtain ⟨hj1, hj2⟩ := List.mem_filter.1 hj
  have hjl := List.mem_range.1 hj1
  have hil := List.mem_range.1 (List.mem_filter.1 hi).1
  have hk : j = 0 ∨ M.toArray[j]! ≠ M.toArray[j - 1]! := by
    unfold keeps at hj2; exact of_decide_eq_true hj2
  have gt : ∀ k, (hk : k < M.length) → M.toArray[k]! = M[k] := fun k hk => by rw [getElem!_pos M.toArray k (by simpa using hk)]; simp
  have hle : ∀ x y, (hx : x < M.length) → (hy : y < M.length) → x < y → M[x] ≤ M[y] := fun x y hx hy hxy => List.pairwise_iff_getElem.1 h x y hx hy hxy
  rcases hk with e | hne
  · omega
  · rw [gt j hjl, gt (j - 1) (by omega)] at hne
    rw [gt i hil, gt j hjl]
    have h1 : M[j - 1] ≤ M[j] := hle (j - 1) j (by omega) hjl (by omega)
    have h2 : M[i] ≤ M[j - 1] := by
      by_cases e : i = j - 1
      · subst e; exact Int.le_refl _
      · exact hle i (j - 1) hil (by omega) (by omega)
    omega
theorem compact_all_mem {M : List Int} {x : Int} (h : x ∈ M) : x ∈ Lib.compact M := by
  obtain ⟨i, hi, he⟩ := List.mem_iff_getElem.1 h
  have gt : ∀ k, (hk : k < M.length) → M.toArray[k]! = M[k] := fun k hk => by rw [getElem!_pos M.toArray k (by simpa using hk)]; simp
  have key : ∀ k, (hk : k < M.length) → M[k] = x → x ∈ Lib.compact M := by
    intro k
    induction k with
    | zero =>
      intro hk hx
      unfold Lib.compact compactUpTo
      exact List.mem_map.2 ⟨0, List.mem_filter.2 ⟨List.mem_range.2 hk, by unfold keeps; exact decide_eq_true (.inl rfl)⟩, by rw [gt 0 hk]; exact hx⟩
    | succ k ih =>
      intro hk hx
      by_cases e : M[k] = x
      · exact ih (by omega) e
      · unfold Lib.compact compactUpTo
        refine List.mem_map.2 ⟨k + 1, List.mem_filter.2 ⟨List.mem_range.2 hk, ?_⟩, by rw [gt (k + 1) hk]; exact hx⟩
        unfold keeps
        refine decide_eq_true (.inr ?_)
        rw [gt (k + 1) hk, Nat.add_sub_cancel, gt k (by omega), hx]
        exact fun h => e h.symm
  exact key i hi he
theorem blocksI_rise (n : Nat) (r : Nat → Nat) : (blocksI n r).Pairwise (fun x y => x < y) := compact_rise (sortedI_le _)
theorem blocksI_has {n : Nat} {r : Nat → Nat} {m : Nat} (h : m ∈ blkL n r) : (m : Int) ∈ blocksI n r :=
  compact_all_mem (List.mem_mergeSort.2 (List.mem_map.2 ⟨m, h, rfl⟩))
theorem blocksI_iff {n : Nat} {r : Nat → Nat} {m : Nat} : (m : Int) ∈ blocksI n r ↔ m ∈ blkL n r := by
  constructor
  · intro h
    obtain ⟨k, h1, h2⟩ := blocksI_mem h
    have : m = k := by omega
    rw [this]; exact h1
  · exact blocksI_has

/-- Whether a set holds both nodes. -/
def bothB (a b : Nat) (x : Int) : Bool := x.toNat.testBit a && x.toNat.testBit b
theorem count_one {l : List Int} {p : Int → Bool} (hn : l.Pairwise (fun x y => x < y)) (hu : ∀ x ∈ l, ∀ y ∈ l, p x = true → p y = true → x = y) : l.countP p ≤ 1 := by
  rw [List.countP_eq_length_filter]
  have hf : (l.filter p).Pairwise (fun x y => x < y) := hn.filter _
  have hm : ∀ x ∈ l.filter p, ∀ y ∈ l.filter p, x = y := fun x hx y hy =>
    hu x (List.mem_filter.1 hx).1 y (List.mem_filter.1 hy).1 (List.mem_filter.1 hx).2 (List.mem_filter.1 hy).2
  match hl : l.filter p with
  | [] => simp
  | [x] => simp
  | x :: y :: t =>
    rw [hl] at hf hm
    have h1 := hm x (by simp) y (by simp)
    have h2 := (List.pairwise_cons.1 hf).1 y (by simp)
    omega
theorem pair_le {n : Nat} {r : Nat → Nat} (h : Pl n r) {a b : Nat} (hab : b ≠ a) : (blocksI n r).countP (bothB a b) ≤ 1 := by
  refine count_one (blocksI_rise n r) fun x hx y hy px py => ?_
  obtain ⟨s, hs, rfl⟩ := blocksI_mem hx
  obtain ⟨t, ht, rfl⟩ := blocksI_mem hy
  unfold bothB at px py
  rw [Int.toNat_natCast, Bool.and_eq_true] at px py
  rw [blkL_two h hs ht hab.symm px.1 py.1 px.2 py.2]
theorem pair_of {n : Nat} {r : Nat → Nat} (h : Pl n r) {a b s : Nat} (hab : b ≠ a) (hs : s ∈ blkL n r) (h1 : s.testBit a = true) (h2 : s.testBit b = true) : (blocksI n r).countP (bothB a b) = 1 := by
  have hle := pair_le (n := n) h hab
  have : 0 < (blocksI n r).countP (bothB a b) := List.countP_pos_iff.2 ⟨(s : Int), blocksI_has hs, by unfold bothB; rw [Int.toNat_natCast, h1, h2]; rfl⟩
  omega
theorem pair_adj {n : Nat} {r : Nat → Nat} (h : Pl n r) {a b : Nat} (hab : b < a) (ha : a < n) (hadj : (r a).testBit b = true) : (blocksI n r).countP (bothB a b) = 1 := by
  have hadj' : (r b).testBit a = true := by rw [h.sym b a (by omega) ha]; exact hadj
  have he := blk_ends h (show b < n by omega) ha (by omega) hadj'
  exact pair_of h (by omega) (blkL_edge h hab ha hadj') he.2 he.1
/-- The pair is in one block, and is a block: exactly if it is a bridge. -/
theorem pair_bridge {n : Nat} {r : Nat → Nat} (h : Pl n r) {a b : Nat} (hab : b < a) : ((blocksI n r).countP (bothB a b) == 1 && decide (((2 ^ a ||| 2 ^ b : Nat) : Int) ∈ blocksI n r)) = decide ((b, a) ∈ (edgesTo r n).filter (brB n r)) := by
  rw [Bool.eq_iff_iff, Bool.and_eq_true, beq_iff_eq, decide_eq_true_eq, decide_eq_true_eq, blocksI_iff, Nat.or_comm, ← blkL_pair h hab]
  exact ⟨fun h => h.2, fun hm => ⟨pair_of h (by omega) hm (by rw [Nat.testBit_or, bit_pow, Bool.or_true]) (by rw [Nat.testBit_or, bit_pow]; rfl), hm⟩⟩

theorem pow_low : ∀ v, v < 10 → 2 ^ v &&& (2 ^ v - 1) = 0 := by decide
/-- What two sets of the list have in common: nothing, or one cut node. -/
theorem meet_cut {n : Nat} {r : Nat → Nat} (h : Pl n r) {s t : Nat} (hs : s ∈ blkL n r) (ht : t ∈ blkL n r) (hne : s ≠ t) (h0 : s &&& t ≠ 0) :
    (s &&& t) &&& ((s &&& t) - 1) = 0 ∧ diff (s &&& t) (cutsTo n r n) = 0 := by
  obtain ⟨v, hv⟩ := Nat.exists_testBit_of_ne_zero h0
  have hv2 := hv
  rw [Nat.testBit_and, Bool.and_eq_true] at hv2
  have hvn : v < n := bit_lt (blkL_lt hs) hv2.1
  have hv10 := h.le
  have he : s &&& t = 2 ^ v := by
    apply Nat.eq_of_testBit_eq
    intro u
    rw [Nat.testBit_two_pow]
    by_cases e : v = u
    · subst e; rw [hv, decide_eq_true rfl]
    · rw [decide_eq_false e, Nat.testBit_and, Bool.eq_false_iff]
      intro hu
      rw [Bool.and_eq_true] at hu
      exact hne (blkL_two h hs ht e hv2.1 hv2.2 hu.1 hu.2)
  have hc : (cutsTo n r n).testBit v = true := (testBit_cuts n v).2 ⟨hvn, blkL_cut h hs ht hne hv2.1 hv2.2⟩
  rw [he]
  refine ⟨pow_low v (by omega), ?_⟩
  apply Nat.eq_of_testBit_eq
  intro u
  rw [testBit_diff, Nat.testBit_two_pow, Nat.zero_testBit]
  by_cases e : v = u
  · subst e; rw [hc]; simp
  · rw [decide_eq_false e]; rfl

end Go.Proofs.YtcpdedgmhpehiaaDoor
