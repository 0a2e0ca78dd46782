/- Where there are safe places the cat is not caught. -/
import Derived.Test.YtmkcnpphdghbaaaS4
import Derived.Test.YtmkcnpphdghbaaaS5
namespace Go.Proofs.Ytmkcnpphdghbaaa
set_option linter.unusedSimpArgs false
set_option linter.unusedVariables false
open Go.RowKit

theorem safe_unranked {n k : Nat} {kI : Int} {g : Nat → Nat} {P : List PI} (hk12 : k = 1 ∨ k = 2) (hs : safeB n k kI g P = true) : ∀ i, ∀ q : Pl, castP q ∈ P → ranksG n (rch g) (chs n k) i q = none := by
  unfold safeB at hs
  rw [Bool.and_eq_true, Bool.and_eq_true, Bool.and_eq_true, List.all_eq_true, List.all_eq_true] at hs
  obtain ⟨⟨⟨hok, hst⟩, -⟩, -⟩ := hs
  have hnc : ∀ q : Pl, castP q ∈ P → ctchB q = false := fun q hq => by
    have := hok _ hq
    unfold okE at this
    rw [Bool.and_eq_true, toN_cast] at this
    simpa using this.2
  intro i
  induction i with
  | zero =>
    intro q hq
    show baseF (chs n k) q = none
    unfold baseF
    rw [if_neg (fun h => by rw [hnc q hq] at h; exact absurd h.2 (by simp))]
  | succ i ih =>
    intro q hq
    show stepF (ranksG n (rch g) (chs n k) i) (nextL n (rch g) (ranksG n (rch g) (chs n k) i) (chs n k)) (i + 1) q = none
    unfold stepF
    rw [if_neg, ih q hq]
    intro hin
    unfold nextL foundOf at hin
    simp only [List.mem_flatMap, List.mem_map, List.mem_filter, List.mem_range] at hin
    obtain ⟨ab, hab, c, ⟨hc, hcat⟩, rfl⟩ := hin
    rw [Bool.and_eq_true, testBit_catsS, Nat.zero_testBit, Bool.false_or, List.any_eq_true] at hcat
    obtain ⟨⟨t, ht, hmt⟩, -⟩ := hcat
    rw [Bool.and_eq_true] at hmt
    obtain ⟨hm, hl⟩ := hmt
    have hsq := hst _ hq
    unfold stayE at hsq
    rw [toN_cast, moves_chs hk12, List.all_eq_true] at hsq
    have hfr := hsq (t.1, t.2, c) (by
      unfold mvOf
      simp only [List.mem_map, List.mem_filter]
      exact ⟨t, ⟨ht, hm⟩, rfl⟩)
    unfold freeQ at hfr
    dsimp only at hfr
    rw [Bool.and_eq_true, List.any_eq_true] at hfr
    obtain ⟨hnt, x, hx, hxp⟩ := hfr
    obtain ⟨h1, h2, h3, h4⟩ := flTo_mem hx
    have hFx := ih x (of_decide_eq_true hxp)
    unfold lostS at hl
    rw [testBit_bitsOf, decide_eq_true hc, Bool.true_and, Bool.or_eq_true] at hl
    rcases hl with hl | hl
    · rw [hl] at hnt; cases hnt
    · rw [diff_zero] at hl
      have := hl x.2.2 h4
      unfold rankedS at this
      rw [testBit_bitsOf, decide_eq_true h3, Bool.true_and] at this
      obtain ⟨x1, x2, x3⟩ := x
      dsimp only at h1 h2 h3 this
      subst h1 h2
      rw [hFx] at this
      cases this

theorem bestTo_all {n : Nat} {F : Pl → Option Nat} : ∀ {C : List (Nat × Nat)} {s : (Nat × Nat) × Int}, s.2 = -1 → (∀ ab ∈ C, worstTo F ab n = -1) → (bestTo n F C s).2 = -1
  | [], _, h, _ => h
  | ab :: C, s, h, hC => by
    unfold bestTo
    rw [if_neg (fun hc => hc.1 (hC ab (by simp)))]
    exact bestTo_all h (fun cd hcd => hC cd (by simp [hcd]))

theorem safe_best {n k : Nat} {kI : Int} {g : Nat → Nat} {P : List PI} (hk12 : k = 1 ∨ k = 2) (hs : safeB n k kI g P = true) : (bestOf n (ranksF n (rch g) (chs n k)) (chs n k)).2 = -1 := by
  have hun := safe_unranked hk12 hs 4096
  unfold safeB at hs
  rw [Bool.and_eq_true, Bool.and_eq_true, List.all_eq_true (p := coverE n P)] at hs
  refine bestTo_all rfl fun ab hab => ?_
  have := hs.1.2 ab hab
  unfold coverE at this
  obtain ⟨c, hc, h⟩ := List.any_eq_true.1 this
  have hF := hun _ (of_decide_eq_true h)
  refine worstTo_stop _ ab c n (List.mem_range.1 hc) ?_
  unfold rankV
  rw [show ranksF n (rch g) (chs n k) (ab.1, ab.2, c) = none from hF]

theorem are_not {n : Nat} {kI : Int} {g : Nat → Nat} {P : List PI} (hk : kI = 1 ∨ kI = 2) (hn : 1 ≤ n) (hb : (bestOf n (ranksF n (rch g) (chs n kI.toNat)) (chs n kI.toNat)).2 ≠ -1) : areB n (rch g) (chs n kI.toNat) P = false := by
  rw [Bool.eq_false_iff]
  intro h
  rw [are_safe hk hn] at h
  exact hb (safe_best (by omega) h)

end Go.Proofs.Ytmkcnpphdghbaaa
