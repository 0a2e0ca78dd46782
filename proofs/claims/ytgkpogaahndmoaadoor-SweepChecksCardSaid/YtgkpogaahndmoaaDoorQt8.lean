/- Blockages in plain words: the program's rules among thin sets are the reference's among all. -/
import Derived.Test.YtgkpogaahndmoaaDoorQg
import Derived.Test.YtgkpogaahndmoaaDoorQt1
namespace Go.Proofs.YtgkpogaahndmoaaDoor
set_option linter.unusedSimpArgs false
set_option linter.unusedVariables false

/-- Whether a set has a border of at most K nodes. -/
def thinB (n : Nat) (r : Nat → Nat) (K s : Nat) : Bool := decide (szS n (bord r s) ≤ K)
/-- Whether a set is among numbers. -/
def inZ (m : Nat) (z : Nat → Int) (x : Nat) : Bool := (List.range m).any fun i => z i == (x : Int)
/-- The number before one. -/
def lastZ (z : Nat → Int) (k : Nat) : Int := if k = 0 then -1 else z (k - 1)
/-- Whether a number may stand in its place. -/
def okBl (n : Nat) (r : Nat → Nat) (K : Nat) (z : Nat → Int) (k : Nat) : Bool := decide (lastZ z k < z k) && (inB (z k) (2 ^ n) && thinB n r K (z k).toNat)
/-- Two sets of which just one may be taken. -/
def pairT (n : Nat) (r : Nat → Nat) (K x y : Nat) : Bool := (x ||| y == 2 ^ n - 1) && (decide (szS n (x &&& y) ≤ K) && diff (bord r x) y == 0)
def badP (n : Nat) (r : Nat → Nat) (K m : Nat) (z : Nat → Int) (x y : Nat) : Bool := (inZ m z x && (!inZ m z y && diff y x == 0)) || (inZ m z x == inZ m z y && pairT n r K x y)
def badR (n : Nat) (r : Nat → Nat) (K m : Nat) (z : Nat → Int) (x y : Nat) : Bool := (inZ m z x && (diff y x == 0 && (thinB n r K y && !inZ m z y))) || (inZ m z x == inZ m z y && pairT n r K x y)
def okAll (n : Nat) (r : Nat → Nat) (K m : Nat) (z : Nat → Int) : Bool := (List.range m).all (okBl n r K z)
/-- The thin sets below a number. -/
def thinL (n : Nat) (r : Nat → Nat) (K k : Nat) : List Nat := (List.range k).filter (thinB n r K)
/-- Whether numbers are a blockage, as the program asks it and as the reference does. -/
def blkP (n : Nat) (r : Nat → Nat) (K m : Nat) (z : Nat → Int) : Bool := okAll n r K m z && (thinL n r K (2 ^ n)).all fun x => (thinL n r K (2 ^ n)).all fun y => !badP n r K m z x y
def blkR (n : Nat) (r : Nat → Nat) (K m : Nat) (z : Nat → Int) : Bool := okAll n r K m z && (List.range (2 ^ n)).all fun x => (List.range (2 ^ n)).all fun y => !badR n r K m z x y

theorem pair_thin {n K x y : Nat} {r : Nat → Nat} (h : Pl n r) (hx : x < 2 ^ n) (hy : y < 2 ^ n) (hp : pairT n r K x y = true) : thinB n r K x = true ∧ thinB n r K y = true := by
  unfold pairT at hp
  simp only [Bool.and_eq_true, beq_iff_eq, decide_eq_true_eq] at hp
  obtain ⟨h1, h2, h3⟩ := hp
  have hn10 : n ≤ 10 := by have := h.le; omega
  rw [diff_zero] at h3
  have hor : ∀ i, i < n → x.testBit i = true ∨ y.testBit i = true := fun i hi => by
    have : (x ||| y).testBit i = true := by rw [h1, Nat.testBit_two_pow_sub_one, decide_eq_true hi]
    rwa [Nat.testBit_or, Bool.or_eq_true] at this
  unfold thinB
  refine ⟨decide_eq_true (Nat.le_trans (szS_mono fun i _ hb => ?_) h2), decide_eq_true (Nat.le_trans (szS_mono fun i hi hb => ?_) h2)⟩
  · rw [Nat.testBit_and, h3 i hb, ((testBit_bord hn10 hx).1 hb).1]; rfl
  · obtain ⟨h4, u, h5, h6⟩ := (testBit_bord hn10 hy).1 hb
    rw [Nat.testBit_and, h4, Bool.and_true]
    have hu := bit_lt (h.bd i hi) h5
    have hxu : x.testBit u = true := by
      rcases hor u hu with h7 | h7
      · exact h7
      · rw [h6] at h7; cases h7
    cases hxi : x.testBit i
    · have := h3 u ((testBit_bord hn10 hx).2 ⟨hxu, i, by rw [h.sym u i hu hi]; exact h5, hxi⟩)
      rw [h6] at this; cases this
    · rfl

theorem blk_same {n K m : Nat} {r : Nat → Nat} {z : Nat → Int} (h : Pl n r) : blkP n r K m z = blkR n r K m z := by
  unfold blkP blkR
  cases ha : okAll n r K m z
  · rfl
  · rw [Bool.true_and, Bool.true_and, Bool.eq_iff_iff]
    have hin : ∀ x, inZ m z x = true → thinB n r K x = true := fun x hx => by
      unfold inZ at hx
      obtain ⟨i, hi, hx⟩ := List.any_eq_true.1 hx
      have hx : z i = x := by simpa using hx
      unfold okAll at ha
      have := List.all_eq_true.1 ha i hi
      unfold okBl at this
      simp only [Bool.and_eq_true] at this
      rw [hx, Int.toNat_natCast] at this
      exact this.2.2
    simp only [List.all_eq_true, thinL, List.mem_filter, List.mem_range, Bool.not_eq_true']
    constructor
    · intro hp x hx y hy
      apply Bool.eq_false_iff.2
      intro hb
      unfold badR at hb
      rw [Bool.or_eq_true] at hb
      rcases hb with hb | hb
      · simp only [Bool.and_eq_true, Bool.not_eq_true'] at hb
        obtain ⟨h1, h2, h3, h4⟩ := hb
        have := hp x ⟨hx, hin x h1⟩ y ⟨hy, h3⟩
        unfold badP at this
        rw [h1, h4, h2] at this
        cases this
      · have hb2 := hb
        rw [Bool.and_eq_true] at hb2
        obtain ⟨t1, t2⟩ := pair_thin h hx hy hb2.2
        have := hp x ⟨hx, t1⟩ y ⟨hy, t2⟩
        unfold badP at this
        rw [hb, Bool.or_true] at this
        cases this
    · intro hp x hx y hy
      apply Bool.eq_false_iff.2
      intro hb
      have := hp x hx.1 y hy.1
      unfold badP at hb
      unfold badR at this
      rw [hy.2, Bool.true_and, Bool.and_comm (diff y x == 0)] at this
      rw [this] at hb
      cases hb

end Go.Proofs.YtgkpogaahndmoaaDoor
