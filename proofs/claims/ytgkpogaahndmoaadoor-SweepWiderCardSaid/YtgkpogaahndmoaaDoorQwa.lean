/- A path decomposition is a tree decomposition in which each bag's parent is the one before it. -/
import Derived.Test.YtgkpogaahndmoaaDoorWdW34
import Derived.Test.YtgkpogaahndmoaaDoorQt9
namespace Go.Proofs.YtgkpogaahndmoaaDoor
set_option linter.unusedSimpArgs false
set_option linter.unusedVariables false

def chainP (i : Nat) : Int := (i : Int) - 1
theorem chain_up (i : Nat) : ∀ k, Wd.upTo chainP (i : Nat) k = if k ≤ i then ((i - k : Nat) : Int) else -1 := by
  intro k
  induction k with
  | zero => show (i : Int) = _; rw [if_pos (Nat.zero_le _)]; rfl
  | succ k ih =>
    show (if Wd.upTo chainP (i : Nat) k = -1 then -1 else chainP (Wd.upTo chainP (i : Nat) k).toNat) = _
    rw [ih]
    by_cases h : k ≤ i
    · rw [if_pos h, if_neg (by omega), Int.toNat_natCast]
      unfold chainP
      by_cases h2 : k + 1 ≤ i
      · rw [if_pos h2]; omega
      · rw [if_neg h2]; omega
    · rw [if_neg h, if_pos rfl, if_neg (by omega)]
theorem chain_roots : ∀ k, Wd.rootsTo chainP k = if k = 0 then 0 else 1 := by
  intro k
  induction k with
  | zero => rfl
  | succ k ih =>
    show (if chainP k = -1 then Wd.rootsTo chainP k + 1 else Wd.rootsTo chainP k) = _
    rw [ih]
    unfold chainP
    by_cases h : k = 0
    · subst h; rfl
    · rw [if_neg (by omega), if_neg h, if_neg (by omega)]
theorem chain_tog (z : Nat → Int) (v : Nat) : ∀ k, Wd.togTo z v k = togTo (setZ z) v k
  | 0 => rfl
  | k + 1 => by
    show (if (z k).toNat.testBit v then Wd.togTo z v k ||| (z k).toNat else Wd.togTo z v k) = if (setZ z k).testBit v then togTo (setZ z) v k ||| setZ z k else togTo (setZ z) v k
    rw [chain_tog z v k]
theorem chain_most (n : Nat) (z : Nat → Int) : ∀ k, Wd.mxTo n z k = mostB n z k
  | 0 => rfl
  | k + 1 => by
    show max (Wd.mxTo n z k) _ = max (mostB n z k) _
    rw [chain_most n z k]
theorem chain_tops {n m : Nat} {r : Nat → Nat} {z : Nat → Int} (h : Path n r m (setZ z)) {v : Nat} (hv : v < n) : Wd.topsTo z chainP v m = 1 := by
  obtain ⟨f1, f2, f3⟩ := fstB_is (h.node v hv)
  have htop : ∀ i, i < m → Wd.topB z chainP v i = decide (i = fstB (setZ z) v m) := fun i hi => by
    unfold Wd.topB
    rw [Bool.eq_iff_iff, Bool.and_eq_true, Bool.or_eq_true, decide_eq_true_eq, decide_eq_true_eq, Bool.not_eq_true']
    constructor
    · rintro ⟨h1, h2⟩
      have h3 := f3 i hi h1
      apply Classical.byContradiction
      intro hne
      have hb : (setZ z (i - 1)).testBit v = true := by
        by_cases e : fstB (setZ z) v m = i - 1
        · rw [← e]; exact f2
        · exact h.run v _ _ _ (show fstB (setZ z) v m < i - 1 by omega) (show i - 1 < i by omega) hi f2 h1
      rcases h2 with h2 | h2
      · unfold chainP at h2; omega
      · unfold chainP at h2
        rw [show ((i : Int) - 1).toNat = i - 1 by omega] at h2
        have h2' : (setZ z (i - 1)).testBit v = false := h2
        rw [hb] at h2'; cases h2'
    · rintro rfl
      refine ⟨f2, ?_⟩
      by_cases h0 : fstB (setZ z) v m = 0
      · exact .inl (by unfold chainP; omega)
      · refine .inr ?_
        unfold chainP
        rw [show ((fstB (setZ z) v m : Int) - 1).toNat = fstB (setZ z) v m - 1 by omega, Bool.eq_false_iff]
        intro hb
        have := f3 (fstB (setZ z) v m - 1) (by omega) hb
        omega
  have key : ∀ k, k ≤ m → Wd.topsTo z chainP v k = if fstB (setZ z) v m < k then 1 else 0 := by
    intro k
    induction k with
    | zero => intro _; rfl
    | succ k ih =>
      intro hk
      show (if Wd.topB z chainP v k then Wd.topsTo z chainP v k + 1 else Wd.topsTo z chainP v k) = _
      rw [ih (by omega), htop k (by omega)]
      by_cases e : k = fstB (setZ z) v m
      · rw [if_pos (by simpa using e), if_neg (by omega), if_pos (by omega)]
      · rw [if_neg (by simpa using e)]
        by_cases h2 : fstB (setZ z) v m < k
        · rw [if_pos h2, if_pos (by omega)]
        · rw [if_neg h2, if_neg (by omega)]
  rw [key m (Nat.le_refl _), if_pos f1]
theorem chain_dec {n m : Nat} {r : Nat → Nat} {z : Nat → Int} (h : pathB n r m z = true) : Wd.decB n r m m z chainP = true := by
  have hb := h
  unfold pathB at hb
  simp only [Bool.and_eq_true, List.all_eq_true, List.mem_range, beq_iff_eq] at hb
  obtain ⟨h1, h2, h3, hp⟩ := path_iff.1 h
  refine Wd.decB_iff.2 ⟨?_, fun i hi => ⟨(h3 i hi).1, nat_pow_cast (h3 i hi).2 (h3 i hi).1⟩, fun v hv => ?_⟩
  · rw [Wd.treeB_is h1 h2, Wd.parB_good (fun i hi => by unfold chainP; omega), chain_roots, if_neg (by omega), Wd.cycB_no (fun i hi => by rw [chain_up, if_neg (by omega)])]
    rfl
  · unfold Wd.nodeB
    rw [chain_tops hp hv, chain_tog]
    have := hb.1.2 v hv
    rw [this]; rfl

end Go.Proofs.YtgkpogaahndmoaaDoor
