/- All Places from which the cat escapes are safe places. -/
import Derived.Test.YtmkcnpphdghbaaaC2m
namespace Go.Proofs.Ytmkcnpphdghbaaa
set_option linter.unusedSimpArgs false
set_option linter.unusedVariables false
open Go.RowKit

theorem mem_escRow {F : Pl → Option Nat} {ab : Nat × Nat} {n : Nat} {p : Pl} : p ∈ escRow F ab n ↔ p.1 = ab.1 ∧ p.2.1 = ab.2 ∧ p.2.2 < n ∧ F p = none := by
  induction n with
  | zero => simp [escRow]
  | succ n ih =>
    unfold escRow
    obtain ⟨x, y, z⟩ := p
    by_cases h : (F (ab.1, ab.2, n)).isNone = true
    · rw [if_pos h, List.mem_append, ih, List.mem_singleton, Prod.mk.injEq, Prod.mk.injEq]
      dsimp only
      rw [Option.isNone_iff_eq_none] at h
      constructor
      · rintro (⟨h1, h2, h3, h4⟩ | ⟨rfl, rfl, rfl⟩)
        · exact ⟨h1, h2, by omega, h4⟩
        · exact ⟨rfl, rfl, by omega, h⟩
      · rintro ⟨rfl, rfl, h3, h4⟩
        rcases Nat.lt_succ_iff_lt_or_eq.1 h3 with h5 | h5
        · exact Or.inl ⟨rfl, rfl, h5, h4⟩
        · exact Or.inr ⟨rfl, rfl, h5⟩
    · rw [if_neg h, ih]
      dsimp only
      constructor
      · rintro ⟨h1, h2, h3, h4⟩; exact ⟨h1, h2, by omega, h4⟩
      · rintro ⟨rfl, rfl, h3, h4⟩
        refine ⟨rfl, rfl, ?_, h4⟩
        rcases Nat.lt_succ_iff_lt_or_eq.1 h3 with h5 | h5
        · exact h5
        · subst h5
          rw [Option.isNone_iff_eq_none] at h
          exact absurd h4 h
theorem mem_escL {n : Nat} {F : Pl → Option Nat} {C : List (Nat × Nat)} {p : Pl} : p ∈ escL n F C ↔ p ∈ allPl n C ∧ F p = none := by
  unfold escL
  rw [List.mem_flatMap, mem_allPl]
  constructor
  · rintro ⟨ab, hab, hp⟩
    obtain ⟨h1, h2, h3, h4⟩ := mem_escRow.1 hp
    exact ⟨⟨by rw [h1, h2]; exact hab, h3⟩, h4⟩
  · rintro ⟨⟨h1, h2⟩, h3⟩
    exact ⟨_, h1, mem_escRow.2 ⟨rfl, rfl, h2, h3⟩⟩
theorem mem_cast {L : List Pl} {q : Pl} : castP q ∈ L.map castP ↔ q ∈ L := by
  rw [List.mem_map]
  constructor
  · rintro ⟨p, hp, e⟩; rw [← castP_inj e]; exact hp
  · intro h; exact ⟨q, h, rfl⟩

theorem bestTo_stay {n : Nat} {F : Pl → Option Nat} : ∀ {C : List (Nat × Nat)} {s : (Nat × Nat) × Int}, s.2 ≠ -1 → (bestTo n F C s).2 ≠ -1
  | [], _, h => h
  | ab :: C, s, h => by
    unfold bestTo
    apply bestTo_stay
    split
    · rename_i hc; exact hc.1
    · exact h
theorem bestTo_none {n : Nat} {F : Pl → Option Nat} : ∀ {C : List (Nat × Nat)} {s : (Nat × Nat) × Int}, (bestTo n F C s).2 = -1 → ∀ ab ∈ C, worstTo F ab n = -1
  | [], _, _, _, h => by cases h
  | cd :: C, s, h, ab, hab => by
    unfold bestTo at h
    by_cases hs : s.2 = -1
    · by_cases hw : worstTo F cd n = -1
      · rw [if_neg (fun hc => hc.1 hw)] at h
        rcases List.mem_cons.1 hab with rfl | h1
        · exact hw
        · exact bestTo_none h ab h1
      · rw [if_pos ⟨hw, Or.inl hs⟩] at h
        exact absurd h (bestTo_stay (s := (cd, worstTo F cd n)) hw)
    · exact absurd h (bestTo_stay (by
        split
        · rename_i hc; exact hc.1
        · exact hs))
theorem worst_none {F : Pl → Option Nat} {ab : Nat × Nat} {n : Nat} (h : worstTo F ab n = -1) : ∃ c, c < n ∧ F (ab.1, ab.2, c) = none := by
  induction n with
  | zero => simp [worstTo] at h
  | succ n ih =>
    unfold worstTo at h
    by_cases h1 : worstTo F ab n = -1
    · obtain ⟨c, hc, hF⟩ := ih h1
      exact ⟨c, by omega, hF⟩
    · rw [if_neg h1] at h
      by_cases h2 : rankV F (ab.1, ab.2, n) = -1
      · refine ⟨n, by omega, ?_⟩
        unfold rankV at h2
        cases hF : F (ab.1, ab.2, n) with
        | none => rfl
        | some v => rw [hF] at h2; simp only at h2; omega
      · rw [if_neg h2] at h
        have := worstTo_ge F ab n
        have := rankV_ge F (ab.1, ab.2, n)
        omega

theorem safe_esc {n k : Nat} {kI : Int} {g : Nat → Nat} (hk : kI = 1 ∧ k = 1 ∨ kI = 2 ∧ k = 2) (hn1 : 1 ≤ n) (hn : n < 16) (hg : ∀ v, v < n → g v < 2 ^ n)
    (hb : (bestOf n (ranksF n (rch g) (chs n k)) (chs n k)).2 = -1) : safeB n k kI g ((escL n (ranksF n (rch g) (chs n k)) (chs n k)).map castP) = true := by
  have hk12 : k = 1 ∨ k = 2 := by omega
  have hfix := ranks_fix (n := n) (r := rch g) (C := chs n k) hn (chs_le n k hn)
  have hc0 : ∀ p : Pl, (p.1, p.2.1) ∈ chs n k → ctchB p = true → ranksF n (rch g) (chs n k) p = some 0 := fun p hp h => ranksG_caught hp h
  have hw : ∀ ab ∈ chs n k, ∃ c, c < n ∧ ranksF n (rch g) (chs n k) (ab.1, ab.2, c) = none := fun ab hab => worst_none (bestTo_none hb ab hab)
  generalize ranksF n (rch g) (chs n k) = F at *
  have hcov : ∀ ab ∈ chs n k, coverE n ((escL n F (chs n k)).map castP) ab = true := by
    intro ab hab
    obtain ⟨c, hc, hF⟩ := hw ab hab
    unfold coverE
    rw [List.any_eq_true]
    exact ⟨c, List.mem_range.2 hc, decide_eq_true (mem_cast.2 (mem_escL.2 ⟨mem_allPl.2 ⟨hab, hc⟩, hF⟩))⟩
  unfold safeB
  rw [Bool.and_eq_true, Bool.and_eq_true, Bool.and_eq_true, List.all_eq_true, List.all_eq_true, List.all_eq_true]
  refine ⟨⟨⟨?_, ?_⟩, hcov⟩, ?_⟩
  · intro p hp
    obtain ⟨q, hq, rfl⟩ := List.mem_map.1 hp
    obtain ⟨h1, h2⟩ := mem_escL.1 hq
    obtain ⟨h3, h4⟩ := mem_allPl.1 h1
    have h5 := (chs_mem hk12).1 h3
    unfold okE
    rw [toN_cast, Bool.and_eq_true]
    constructor
    · unfold isPlR castP
      dsimp only
      exact decide_eq_true ⟨by omega, by omega, by omega, by omega, by omega, by omega⟩
    · rw [Bool.not_eq_true']
      rw [Bool.eq_false_iff]
      intro hc
      rw [hc0 q h3 hc] at h2
      cases h2
  · intro p hp
    obtain ⟨q, hq, rfl⟩ := List.mem_map.1 hp
    obtain ⟨h1, h2⟩ := mem_escL.1 hq
    obtain ⟨h3, h4⟩ := mem_allPl.1 h1
    unfold stayE
    rw [toN_cast, List.all_eq_true]
    intro t ht
    rw [moves_chs hk12] at ht
    unfold mvOf at ht
    simp only [List.mem_map, List.mem_filter] at ht
    obtain ⟨ab, ⟨hab, hm⟩, rfl⟩ := ht
    have hl := fix_none hfix h1 h2 hab hm
    unfold lostS at hl
    rw [testBit_bitsOf, decide_eq_true h4, Bool.true_and, Bool.or_eq_false_iff] at hl
    unfold freeQ
    dsimp only
    rw [Bool.and_eq_true, Bool.not_eq_true']
    refine ⟨hl.1, ?_⟩
    have hd := hl.2
    rw [Bool.eq_false_iff, ne_eq, diff_zero] at hd
    rw [List.any_eq_true]
    by_cases hex : ∃ d, (rch g q.2.2).testBit d = true ∧ (rankedS n F ab).testBit d = false
    · obtain ⟨d, h5, h6⟩ := hex
      have h7 := rch_bit (hg q.2.2 h4) h4 h5
      refine ⟨(ab.1, ab.2, d), by rw [flTo_eq]; simp only [List.mem_map, List.mem_filter, List.mem_range]; exact ⟨d, ⟨h7, h5⟩, rfl⟩, ?_⟩
      unfold rankedS at h6
      rw [testBit_bitsOf, decide_eq_true h7, Bool.true_and] at h6
      refine decide_eq_true (mem_cast.2 (mem_escL.2 ⟨mem_allPl.2 ⟨hab, h7⟩, ?_⟩))
      cases hF : F (ab.1, ab.2, d) with
      | none => rfl
      | some v => rw [hF] at h6; cases h6
    · exact absurd (fun d h5 => by
        cases h6 : (rankedS n F ab).testBit d
        · exact absurd ⟨d, h5, h6⟩ hex
        · rfl) hd
  · obtain ⟨ab, hab⟩ := List.exists_mem_of_ne_nil _ (chs_ne n k hn1)
    have := hcov ab hab
    unfold coverE at this
    obtain ⟨c, -, h⟩ := List.any_eq_true.1 this
    exact decide_eq_true (List.length_pos_of_mem (of_decide_eq_true h))

end Go.Proofs.Ytmkcnpphdghbaaa
