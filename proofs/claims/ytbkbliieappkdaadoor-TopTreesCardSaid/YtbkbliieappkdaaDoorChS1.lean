/- The chase in plain words: choices, moves, ranks. -/
import Derived.Test.YtbkbliieappkdaaDoorLib
namespace Go.Proofs.YtbkbliieappkdaaDoor.Ch
set_option linter.unusedSimpArgs false
set_option linter.unusedVariables false

/-- Where two sweeps and the cat are. -/
abbrev Pl := Nat × Nat × Nat

def chs (n k : Nat) : List (Nat × Nat) := (List.range n).flatMap fun a => (List.range (if k = 2 then n - a else 1)).map fun j => (a, a + j)
def canM (r : Nat → Nat) (f t : Nat × Nat) : Bool := (r f.1).testBit t.1 && (r f.2).testBit t.2 || (r f.1).testBit t.2 && (r f.2).testBit t.1
def ctchB (p : Pl) : Bool := p.2.2 == p.1 || p.2.2 == p.2.1
def rankV (F : Pl → Option Nat) (p : Pl) : Int := match F p with | some v => (v : Int) | none => -1

/-- The set of the numbers below n that meet a test. -/
def bitsOf (p : Nat → Bool) : Nat → Nat
  | 0 => 0
  | k + 1 => if p k then bitsOf p k ||| 2 ^ k else bitsOf p k

theorem testBit_bitsOf (p : Nat → Bool) (n i : Nat) : (bitsOf p n).testBit i = (decide (i < n) && p i) := by
  induction n with
  | zero => simp [bitsOf]
  | succ n ih =>
    unfold bitsOf
    by_cases hp : p n = true
    · rw [if_pos hp, Nat.testBit_or, ih, Nat.testBit_two_pow]
      by_cases hi : n = i
      · subst hi; simp [hp]
      · by_cases hl : i < n
        · simp [hl, show i < n + 1 by omega]; intro e; omega
        · simp [hl, hi, show ¬ i < n + 1 by omega]
    · rw [if_neg hp, ih]
      by_cases hi : i = n
      · subst hi; simp at hp; simp [hp]
      · by_cases hl : i < n
        · simp [hl, show i < n + 1 by omega]
        · simp [hl, show ¬ i < n + 1 by omega]
theorem bitsOf_lt (p : Nat → Bool) {n : Nat} (h : n ≤ 16) : bitsOf p n < 65536 := by
  induction n with
  | zero => show 0 < 65536; decide
  | succ n ih =>
    unfold bitsOf
    split
    · exact or_lt (ih (by omega)) (pow_lt16 (by omega))
    · exact ih (by omega)
theorem bitsOf_congr {p q : Nat → Bool} {n : Nat} (h : ∀ i, i < n → p i = q i) : bitsOf p n = bitsOf q n := by
  apply Nat.eq_of_testBit_eq
  intro i
  rw [testBit_bitsOf, testBit_bitsOf]
  by_cases hi : i < n
  · simp [h i hi]
  · simp [hi]

def rankedS (n : Nat) (F : Pl → Option Nat) (ab : Nat × Nat) : Nat := bitsOf (fun c => (F (ab.1, ab.2, c)).isSome) n
def lostS (n : Nat) (r : Nat → Nat) (F : Pl → Option Nat) (ab : Nat × Nat) : Nat := bitsOf (fun c => ctchB (ab.1, ab.2, c) || diff (r c) (rankedS n F ab) == 0) n
/-- The cats that are lost when the sweeps move from a choice to one of some choices. -/
def catsS (n : Nat) (r : Nat → Nat) (F : Pl → Option Nat) (from_ : Nat × Nat) : List (Nat × Nat) → Nat → Nat
  | [], acc => acc
  | to :: C, acc => catsS n r F from_ C (if canM r from_ to then acc ||| lostS n r F to else acc)
def foundOf (n cats : Nat) (F : Pl → Option Nat) (ab : Nat × Nat) : List Pl :=
  ((List.range n).filter fun c => cats.testBit c && (F (ab.1, ab.2, c)).isNone).map fun c => (ab.1, ab.2, c)
def nextL (n : Nat) (r : Nat → Nat) (F : Pl → Option Nat) (C : List (Nat × Nat)) : List Pl := C.flatMap fun ab => foundOf n (catsS n r F ab C 0) F ab
def stepF (F : Pl → Option Nat) (l : List Pl) (rank : Nat) : Pl → Option Nat := fun p => if p ∈ l then some rank else F p
def baseF (C : List (Nat × Nat)) : Pl → Option Nat := fun p => if (p.1, p.2.1) ∈ C ∧ ctchB p = true then some 0 else none
/-- The ranks as far as they are known behind so many rounds. -/
def ranksG (n : Nat) (r : Nat → Nat) (C : List (Nat × Nat)) : Nat → Pl → Option Nat
  | 0 => baseF C
  | i + 1 => stepF (ranksG n r C i) (nextL n r (ranksG n r C i) C) (i + 1)

/-- The greatest rank that the cat can choose among the first nodes, -1 if one has none. -/
def worstTo (F : Pl → Option Nat) (ab : Nat × Nat) : Nat → Int
  | 0 => 0
  | c + 1 => if worstTo F ab c = -1 then -1 else if rankV F (ab.1, ab.2, c) = -1 then -1 else max (worstTo F ab c) (rankV F (ab.1, ab.2, c))
/-- The first best choice and its rank. -/
def bestTo (n : Nat) (F : Pl → Option Nat) : List (Nat × Nat) → (Nat × Nat) × Int → (Nat × Nat) × Int
  | [], s => s
  | ab :: C, s => bestTo n F C (if worstTo F ab n ≠ -1 ∧ (s.2 = -1 ∨ worstTo F ab n < s.2) then (ab, worstTo F ab n) else s)
def bestOf (n : Nat) (F : Pl → Option Nat) (C : List (Nat × Nat)) : (Nat × Nat) × Int := bestTo n F C ((0, 0), -1)

end Go.Proofs.YtbkbliieappkdaaDoor.Ch
