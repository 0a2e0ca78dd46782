/- The reference's lists of Places and moves in the program's words. -/
import Derived.Test.YtmkcnpphdghbaaaC2d
namespace Go.Proofs.Ytmkcnpphdghbaaa
set_option linter.unusedSimpArgs false
set_option linter.unusedVariables false

theorem flatMap_congr' {α β : Type} {f h : α → List β} : ∀ {l : List α}, (∀ a ∈ l, f a = h a) → l.flatMap f = l.flatMap h
  | [], _ => rfl
  | x :: l, e => by rw [List.flatMap_cons, List.flatMap_cons, e x (by simp), flatMap_congr' (fun a ha => e a (by simp [ha]))]

theorem allPl_append (n : Nat) (C D : List (Nat × Nat)) : allPl n (C ++ D) = allPl n C ++ allPl n D := by unfold allPl; rw [List.flatMap_append]

theorem plRow_one (n a j : Nat) : plRow n 1 a (j + 1) = plCol a a n := by
  induction j with
  | zero => simp [plRow, plT]
  | succ j ih => unfold plRow; rw [ih]; simp [plT]
theorem plRow_two (n a j : Nat) : plRow n 2 a j = allPl n ((List.range j).map fun i => (a, a + i)) := by
  induction j with
  | zero => rfl
  | succ j ih =>
    unfold plRow
    rw [ih, List.range_succ, List.map_append, allPl_append]
    simp [plT, allPl, plCol]
theorem plTo_all {n k : Nat} (hk : k = 1 ∨ k = 2) : ∀ m, m ≤ n → plTo n k m = allPl n (chsTo n k m) := by
  intro m
  induction m with
  | zero => intro _; rfl
  | succ m ih =>
    intro hm
    unfold plTo chsTo
    rw [ih (by omega), allPl_append]
    congr 1
    rcases hk with rfl | rfl
    · obtain ⟨j, hj⟩ : ∃ j, n - m = j + 1 := ⟨n - m - 1, by omega⟩
      rw [hj, plRow_one]
      simp [chsLen, allPl, plCol]
    · rw [plRow_two]
      simp [chsLen]
theorem places_chs {n k : Nat} (hk : k = 1 ∨ k = 2) : plTo n k n = allPl n (chs n k) := by rw [plTo_all hk n (Nat.le_refl n), chsTo_eq]

def mvOf (r : Nat → Nat) (f : Nat × Nat) (c : Nat) (C : List (Nat × Nat)) : List Pl := (C.filter (canM r f)).map fun ab => (ab.1, ab.2, c)
theorem mvOf_append (r : Nat → Nat) (f : Nat × Nat) (c : Nat) (C D : List (Nat × Nat)) : mvOf r f c (C ++ D) = mvOf r f c C ++ mvOf r f c D := by unfold mvOf; rw [List.filter_append, List.map_append]
theorem mvRow_one (r : Nat → Nat) (f : Nat × Nat) (c a j : Nat) : mvRow r 1 f c a (j + 1) = mvOf r f c [(a, a)] := by
  induction j with
  | zero =>
    unfold mvOf mvRow mvRow mvT
    cases h : canM r f (a, a) <;> simp [h]
  | succ j ih => unfold mvRow; rw [ih]; simp [mvT]
theorem mvRow_two (r : Nat → Nat) (f : Nat × Nat) (c a j : Nat) : mvRow r 2 f c a j = mvOf r f c ((List.range j).map fun i => (a, a + i)) := by
  induction j with
  | zero => rfl
  | succ j ih =>
    unfold mvRow
    rw [ih, List.range_succ, List.map_append, mvOf_append]
    cases h : canM r f (a, a + j) <;> simp [mvT, mvOf, h]
theorem mvTo_of {r : Nat → Nat} {f : Nat × Nat} {c n k : Nat} (hk : k = 1 ∨ k = 2) : ∀ m, m ≤ n → mvTo r n k f c m = mvOf r f c (chsTo n k m) := by
  intro m
  induction m with
  | zero => intro _; rfl
  | succ m ih =>
    intro hm
    unfold mvTo chsTo
    rw [ih (by omega), mvOf_append]
    congr 1
    rcases hk with rfl | rfl
    · obtain ⟨j, hj⟩ : ∃ j, n - m = j + 1 := ⟨n - m - 1, by omega⟩
      rw [hj, mvRow_one]
      simp [chsLen]
    · rw [mvRow_two]
      simp [chsLen]
theorem moves_chs {r : Nat → Nat} {f : Nat × Nat} {c n k : Nat} (hk : k = 1 ∨ k = 2) : mvTo r n k f c n = mvOf r f c (chs n k) := by rw [mvTo_of hk n (Nat.le_refl n), chsTo_eq]

theorem flTo_eq (x a b n : Nat) : flTo x a b n = ((List.range n).filter fun c => x.testBit c).map fun c => (a, b, c) := by
  induction n with
  | zero => rfl
  | succ n ih =>
    unfold flTo
    rw [ih, List.range_succ, List.filter_append, List.map_append]
    cases h : x.testBit n <;> simp [h]

theorem rankV_isSome (F : Pl → Option Nat) (p : Pl) : decide (0 ≤ rankV F p) = (F p).isSome := by
  unfold rankV
  cases F p with
  | none => simp
  | some v => simp
theorem rankV_isNone (F : Pl → Option Nat) (p : Pl) : decide (rankV F p < 0) = (F p).isNone := by
  unfold rankV
  cases F p with
  | none => simp
  | some v => simp

theorem diff_zero (a b : Nat) : (diff a b == 0) = true ↔ ∀ i, a.testBit i = true → b.testBit i = true := by
  rw [beq_iff_eq]
  constructor
  · intro h i ha
    have := testBit_diff a b i
    rw [h, Nat.zero_testBit, ha] at this
    simpa using this.symm
  · intro h
    apply Nat.eq_of_testBit_eq
    intro i
    rw [testBit_diff, Nat.zero_testBit]
    cases ha : a.testBit i
    · rfl
    · rw [h i ha]; rfl

theorem testBit_catsS (n : Nat) (r : Nat → Nat) (F : Pl → Option Nat) (f : Nat × Nat) (c : Nat) : ∀ (C : List (Nat × Nat)) (acc : Nat),
    (catsS n r F f C acc).testBit c = (acc.testBit c || C.any fun t => canM r f t && (lostS n r F t).testBit c)
  | [], acc => by simp [catsS]
  | t :: C, acc => by
    unfold catsS
    rw [testBit_catsS n r F f c C]
    cases h : canM r f t
    · simp [h]
    · simp [h, Nat.testBit_or, Bool.or_assoc]

theorem mem_allPl {n : Nat} {C : List (Nat × Nat)} {p : Pl} : p ∈ allPl n C ↔ (p.1, p.2.1) ∈ C ∧ p.2.2 < n := by
  unfold allPl
  simp only [List.mem_flatMap, List.mem_map, List.mem_range]
  constructor
  · rintro ⟨ab, hab, c, hc, rfl⟩; exact ⟨hab, hc⟩
  · rintro ⟨h1, h2⟩; exact ⟨_, h1, _, h2, rfl⟩

/-- Whether a Place gets a rank now. -/
def nowC (n k : Nat) (g : Nat → Nat) (T : Nat → Int) (p : Pl) : Bool := decide (T (rkIx p) < 0) && (mvTo (rch g) n k (p.1, p.2.1) p.2.2 n).any (winT n g T)

theorem rch_bit {g : Nat → Nat} {n v i : Nat} (hg : g v < 2 ^ n) (hv : v < n) (h : (rch g v).testBit i = true) : i < n := by
  unfold rch at h
  rw [Nat.testBit_or, Nat.testBit_two_pow] at h
  by_cases hi : i < n
  · exact hi
  · have h1 : (g v).testBit i = false := Nat.testBit_lt_two_pow (Nat.lt_of_lt_of_le hg (Nat.pow_le_pow_right (by omega) (by omega)))
    rw [h1] at h
    simp at h
    omega

theorem winT_lost {n k : Nat} {g : Nat → Nat} {T : Nat → Int} {F : Pl → Option Nat} (hg : ∀ v, v < n → g v < 2 ^ n) (hT : ∀ p ∈ allPl n (chs n k), T (rkIx p) = rankV F p)
    {ab : Nat × Nat} (hab : ab ∈ chs n k) {c : Nat} (hc : c < n) : winT n g T (ab.1, ab.2, c) = (lostS n (rch g) F ab).testBit c := by
  unfold lostS winT
  rw [testBit_bitsOf, decide_eq_true hc, Bool.true_and]
  congr 1
  rw [Bool.eq_iff_iff, diff_zero]
  dsimp only
  unfold allGe
  rw [List.all_eq_true]
  constructor
  · intro h i hi
    have hin := rch_bit (hg c hc) hc hi
    have := h (ab.1, ab.2, i) (by rw [flTo_eq]; simp only [List.mem_map, List.mem_filter, List.mem_range]; exact ⟨i, ⟨hin, hi⟩, rfl⟩)
    rw [hT (ab.1, ab.2, i) (mem_allPl.2 ⟨hab, hin⟩), rankV_isSome] at this
    unfold rankedS
    rw [testBit_bitsOf, decide_eq_true hin, Bool.true_and]
    exact this
  · intro h p hp
    have hm := flTo_mem hp
    obtain ⟨x, y, z⟩ := p
    obtain ⟨rfl, rfl, hz, hb⟩ := hm
    dsimp only at hz hb
    have := h z hb
    unfold rankedS at this
    rw [testBit_bitsOf, decide_eq_true hz, Bool.true_and] at this
    rw [hT (ab.1, ab.2, z) (mem_allPl.2 ⟨hab, hz⟩), rankV_isSome]
    exact this

theorem now_next {n k : Nat} {g : Nat → Nat} {T : Nat → Int} {F : Pl → Option Nat} (hk : k = 1 ∨ k = 2) (hg : ∀ v, v < n → g v < 2 ^ n) (hT : ∀ p ∈ plTo n k n, T (rkIx p) = rankV F p) :
    (plTo n k n).filter (nowC n k g T) = nextL n (rch g) F (chs n k) := by
  rw [places_chs hk] at hT ⊢
  unfold nextL
  have e : (allPl n (chs n k)).filter (nowC n k g T) = (chs n k).flatMap fun ab => (((List.range n).map fun c => (ab.1, ab.2, c)).filter (nowC n k g T)) := by
    unfold allPl; rw [List.filter_flatMap]
  rw [e]
  apply flatMap_congr'
  intro ab hab
  unfold foundOf
  rw [List.filter_map]
  congr 1
  apply List.filter_congr
  intro c hc
  rw [List.mem_range] at hc
  show nowC n k g T (ab.1, ab.2, c) = _
  unfold nowC
  rw [hT (ab.1, ab.2, c) (mem_allPl.2 ⟨hab, hc⟩), rankV_isNone, Bool.and_comm]
  congr 1
  dsimp only
  rw [testBit_catsS, Nat.zero_testBit, Bool.false_or, moves_chs hk]
  unfold mvOf
  rw [List.any_map, List.any_filter]
  rw [Bool.eq_iff_iff, List.any_eq_true, List.any_eq_true]
  constructor
  · rintro ⟨t, ht, h⟩
    refine ⟨t, ht, ?_⟩
    rw [← winT_lost hg hT ht hc]
    exact h
  · rintro ⟨t, ht, h⟩
    refine ⟨t, ht, ?_⟩
    rw [← winT_lost hg hT ht hc] at h
    exact h

/-- What the reference's table holds at first. -/
def startV (p : Pl) : Int := if ctchB p then 0 else -1
theorem start_base {n k : Nat} (hk : k = 1 ∨ k = 2) {p : Pl} (hp : p ∈ plTo n k n) : startV p = rankV (baseF (chs n k)) p := by
  rw [places_chs hk] at hp
  have := (mem_allPl.1 hp).1
  unfold startV rankV baseF
  cases h : ctchB p
  · simp
  · simp [this]

theorem step_rank {F : Pl → Option Nat} {L : List Pl} {v : Nat} (p : Pl) : (if p ∈ L then (v : Int) else rankV F p) = rankV (stepF F L v) p := by
  unfold rankV stepF
  by_cases h : p ∈ L
  · simp [h]
  · simp [h]

end Go.Proofs.Ytmkcnpphdghbaaa
