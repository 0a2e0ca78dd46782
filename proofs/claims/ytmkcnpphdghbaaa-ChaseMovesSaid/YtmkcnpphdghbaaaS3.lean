/- The program's and the reference's words for Places and best moves are the same. -/
import Derived.Test.YtmkcnpphdghbaaaC2k
namespace Go.Proofs.Ytmkcnpphdghbaaa
set_option linter.unusedSimpArgs false
set_option linter.unusedVariables false
open Go.RowKit

theorem ranks_fix {n : Nat} {r : Nat → Nat} {C : List (Nat × Nat)} (hn : n < 16) (hC : C.length ≤ 256) : nextL n r (ranksF n r C) C = [] := by
  have h0 : noRank n r C 0 ≤ 4096 := Nat.le_trans (noRank_le n r C 0) (Nat.le_trans (Nat.mul_le_mul hC (Nat.le_of_lt hn)) (by decide))
  by_cases h : ∃ i, i ≤ 4096 ∧ nextL n r (ranksG n r C i) C = []
  · obtain ⟨i, hi, he⟩ := h
    rw [ranksF_eq he hi]
    exact he
  · exfalso
    have hs : ∀ i, i ≤ 4097 → noRank n r C i + i ≤ 4096 := by
      intro i
      induction i with
      | zero => intro _; omega
      | succ i ih =>
        intro hi
        have h1 := ih (by omega)
        have h2 := noRank_lt (n := n) (r := r) (C := C) (i := i) (fun e => h ⟨i, by omega, e⟩)
        omega
    have := hs 4097 (by omega)
    omega

theorem ranksG_zero {n : Nat} {r : Nat → Nat} {C : List (Nat × Nat)} {i : Nat} {p : Pl} (h : ranksG n r C i p = some 0) : ctchB p = true := by
  induction i with
  | zero =>
    change baseF C p = some 0 at h
    unfold baseF at h
    split at h
    · rename_i hc; exact hc.2
    · cases h
  | succ i ih =>
    change stepF (ranksG n r C i) (nextL n r (ranksG n r C i) C) (i + 1) p = some 0 at h
    unfold stepF at h
    split at h
    · cases h
    · exact ih h
theorem ranksG_caught {n : Nat} {r : Nat → Nat} {C : List (Nat × Nat)} {i : Nat} {p : Pl} (hp : (p.1, p.2.1) ∈ C) (hc : ctchB p = true) : ranksG n r C i p = some 0 := by
  induction i with
  | zero => show baseF C p = some 0; unfold baseF; rw [if_pos ⟨hp, hc⟩]
  | succ i ih =>
    show stepF (ranksG n r C i) (nextL n r (ranksG n r C i) C) (i + 1) p = some 0
    unfold stepF
    rw [if_neg (fun h => by have := (mem_nextL h).2.2; rw [ih] at this; cases this), ih]

/-- A Place without a rank at the end: no move of the sweeps loses the cat. -/
theorem fix_none {n : Nat} {r : Nat → Nat} {C : List (Nat × Nat)} {F : Pl → Option Nat} (hfix : nextL n r F C = []) {p : Pl} (hp : p ∈ allPl n C) (hF : F p = none) {t : Nat × Nat} (ht : t ∈ C) (hm : canM r (p.1, p.2.1) t = true) :
    (lostS n r F t).testBit p.2.2 = false := by
  rw [Bool.eq_false_iff]
  intro hl
  obtain ⟨h1, h2⟩ := mem_allPl.1 hp
  have : p ∈ nextL n r F C := by
    unfold nextL foundOf
    simp only [List.mem_flatMap, List.mem_map, List.mem_filter, List.mem_range]
    refine ⟨(p.1, p.2.1), h1, p.2.2, ⟨h2, ?_⟩, rfl⟩
    rw [testBit_catsS, Nat.zero_testBit, Bool.false_or, Bool.and_eq_true]
    refine ⟨List.any_eq_true.2 ⟨t, ht, by rw [hm, hl]; rfl⟩, by show (F p).isNone = true; rw [hF]; rfl⟩
  rw [hfix] at this
  cases this

theorem less_eq (F : Pl → Option Nat) (x y : Nat) (v : Int) (d : Nat) : lessF F x y v d = lessR F v (x, y, d) := by
  unfold lessF lessR
  have h := rankV_ge F (x, y, d)
  congr 1
  rw [Bool.eq_iff_iff]
  simp
  omega

theorem win_good {n : Nat} {g : Nat → Nat} {F : Pl → Option Nat} {p : Pl} {t : Nat × Nat} : winF n (rch g) F p t = goodR n g F p (t.1, t.2, p.2.2) := by
  unfold winF goodR
  congr 1
  dsimp only
  rw [flTo_eq, List.all_map, List.all_filter]
  apply List.all_congr rfl
  intro d
  rw [less_eq]
  cases h : (rch g p.2.2).testBit d <;> simp

theorem find_mvOf {r : Nat → Nat} {f : Nat × Nat} {c : Nat} {q : Pl → Bool} : ∀ {C : List (Nat × Nat)}, ((mvOf r f c C).find? q).map (fun x => (x.1, x.2.1)) = C.find? fun t => canM r f t && q (t.1, t.2, c)
  | [] => rfl
  | t :: C => by
    have ih := find_mvOf (r := r) (f := f) (c := c) (q := q) (C := C)
    unfold mvOf at ih ⊢
    cases hm : canM r f t
    · rw [List.filter_cons_of_neg (by rw [hm]; simp), ih, List.find?_cons_of_neg (by rw [hm]; simp)]
    · rw [List.filter_cons_of_pos hm, List.map_cons]
      cases hq : q (t.1, t.2, c)
      · rw [List.find?_cons_of_neg (by rw [hq]; simp), ih, List.find?_cons_of_neg (by rw [hm, hq]; simp)]
      · rw [List.find?_cons_of_pos hq, List.find?_cons_of_pos (by rw [hm, hq]; rfl)]
        rfl

theorem best_ref {n k : Nat} {g : Nat → Nat} (hk : k = 1 ∨ k = 2) (hn : n < 16) {p : Pl} (hp : p ∈ allPl n (chs n k)) :
    bestMv n (rch g) (ranksF n (rch g) (chs n k)) (chs n k) p = (mvRef n k g (ranksF n (rch g) (chs n k)) p).map fun q => (q.1, q.2.1) := by
  have hfix := ranks_fix (n := n) (r := rch g) (C := chs n k) hn (chs_le n k hn)
  have hz : ∀ q, ranksF n (rch g) (chs n k) q = some 0 → ctchB q = true := fun q h => ranksG_zero h
  have hc0 : ctchB p = true → ranksF n (rch g) (chs n k) p = some 0 := fun h => ranksG_caught (mem_allPl.1 hp).1 h
  generalize ranksF n (rch g) (chs n k) = F at *
  unfold bestMv mvRef
  cases hF : F p with
  | none =>
    have hc : ctchB p = false := by
      rw [Bool.eq_false_iff]
      intro h
      rw [hc0 h] at hF
      cases hF
    have hr : rankV F p = -1 := by unfold rankV; rw [hF]
    rw [if_neg (by rw [hc]; simp), if_pos (by rw [hr]; decide), Option.map_none, List.find?_eq_none]
    intro t ht hm
    unfold mvF at hm
    rw [Bool.and_eq_true] at hm
    obtain ⟨h1, h2⟩ := hm
    have h3 := fix_none hfix hp hF ht h1
    unfold lostS at h3
    have hlt := (mem_allPl.1 hp).2
    rw [testBit_bitsOf, decide_eq_true hlt, Bool.true_and, Bool.or_eq_false_iff] at h3
    unfold winF at h2
    rw [h3.1, Bool.false_or, List.all_eq_true] at h2
    have h4 := h2 p.2.2 (List.mem_range.2 hlt)
    have h5 : (rch g p.2.2).testBit p.2.2 = true := by unfold rch; rw [Nat.testBit_or, Nat.testBit_two_pow]; simp
    rw [h5, hr] at h4
    unfold lessF at h4
    have := rankV_ge F (t.1, t.2, p.2.2)
    simp at h4
    omega
  | some v =>
    have hr : rankV F p = v := by unfold rankV; rw [hF]
    by_cases hv : v = 0
    · subst hv
      rw [if_pos (hz p hF), if_pos (by rw [hr]; decide)]
      rfl
    · have hc : ctchB p = false := by
        rw [Bool.eq_false_iff]
        intro h
        rw [hc0 h] at hF
        cases hF
        exact hv rfl
      rw [if_neg (by rw [hc]; simp), if_neg (by rw [hr]; omega), moves_chs hk, find_mvOf]
      congr 1
      funext t
      unfold mvF
      rw [win_good]

theorem chs_mem {n k x y : Nat} (hk : k = 1 ∨ k = 2) : (x, y) ∈ chs n k ↔ x ≤ y ∧ y < n ∧ (k = 2 ∨ x = y) := by
  unfold chs
  simp only [List.mem_flatMap, List.mem_range, List.mem_map, Prod.mk.injEq]
  constructor
  · rintro ⟨a, ha, j, hj, rfl, rfl⟩
    rcases hk with rfl | rfl
    · simp at hj; subst hj; omega
    · simp at hj; omega
  · rintro ⟨h1, h2, h3⟩
    refine ⟨x, by omega, y - x, ?_, rfl, by omega⟩
    rcases hk with rfl | rfl
    · have : x = y := by omega
      subst this
      simp
    · simp; omega

theorem place_eq {n : Nat} {kI a b c : Int} (hk : kI = 1 ∨ kI = 2) : isPlR n kI a b c = isPlB n (chs n kI.toNat) a b c := by
  have hk' : kI.toNat = 1 ∨ kI.toNat = 2 := by omega
  unfold isPlR isPlB hasP
  rw [Bool.eq_iff_iff, decide_eq_true_iff, Bool.and_eq_true, List.any_eq_true, inB_iff]
  constructor
  · rintro ⟨h1, h2, h3, h4, h5, h6⟩
    refine ⟨⟨h4, h5⟩, (a.toNat, b.toNat), (chs_mem hk').2 ⟨by omega, by omega, by omega⟩, ?_⟩
    rw [Bool.and_eq_true, beq_iff_eq, beq_iff_eq]
    dsimp only
    omega
  · rintro ⟨⟨h4, h5⟩, ⟨x, y⟩, hm, hq⟩
    rw [Bool.and_eq_true, beq_iff_eq, beq_iff_eq] at hq
    obtain ⟨h1, h2, h3⟩ := (chs_mem hk').1 hm
    dsimp only at hq
    omega

end Go.Proofs.Ytmkcnpphdghbaaa
