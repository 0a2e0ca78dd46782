/- The ranks as levels: what has a rank of at most so many moves. -/
import Derived.Test.YtbkbliieappkdaaDoorChS4
namespace Go.Proofs.YtbkbliieappkdaaDoor.Ch
set_option linter.unusedSimpArgs false
set_option linter.unusedVariables false
open Go.RowKit

/-- A Place with a rank of at most i. -/
def lev (n : Nat) (r : Nat → Nat) (C : List (Nat × Nat)) (i : Nat) (p : Pl) : Prop := (ranksG n r C i p).isSome = true
/-- A pair of sweeps that has just moved, a cat, and a set of Places: the cat is caught, or all that it can reach lies in the set. -/
def lostP (n : Nat) (r : Nat → Nat) (X : Pl → Prop) (t : Nat × Nat) (c : Nat) : Prop :=
  ctchB (t.1, t.2, c) = true ∨ ∀ d, (r c).testBit d = true → d < n ∧ X (t.1, t.2, d)
/-- A Place from which the sweeps can move so that the cat is lost. -/
def winP (n : Nat) (r : Nat → Nat) (C : List (Nat × Nat)) (X : Pl → Prop) (p : Pl) : Prop :=
  (p.1, p.2.1) ∈ C ∧ p.2.2 < n ∧ ∃ t ∈ C, canM r (p.1, p.2.1) t = true ∧ lostP n r X t p.2.2

theorem lost_iff {n : Nat} {r : Nat → Nat} {F : Pl → Option Nat} {t : Nat × Nat} {c : Nat} (hc : c < n) :
    (lostS n r F t).testBit c = true ↔ lostP n r (fun p => (F p).isSome = true) t c := by
  unfold lostS lostP
  rw [testBit_bitsOf, decide_eq_true hc, Bool.true_and, Bool.or_eq_true, diff_zero]
  unfold rankedS
  constructor
  · rintro (h | h)
    · exact .inl h
    · refine .inr fun d hd => ?_
      have := h d hd
      rw [testBit_bitsOf, Bool.and_eq_true] at this
      exact ⟨of_decide_eq_true this.1, this.2⟩
  · rintro (h | h)
    · exact .inl h
    · refine .inr fun d hd => ?_
      obtain ⟨h1, h2⟩ := h d hd
      rw [testBit_bitsOf, Bool.and_eq_true]
      exact ⟨decide_eq_true h1, h2⟩

theorem nextL_iff {n : Nat} {r : Nat → Nat} {F : Pl → Option Nat} {C : List (Nat × Nat)} {p : Pl} :
    p ∈ nextL n r F C ↔ F p = none ∧ winP n r C (fun p => (F p).isSome = true) p := by
  constructor
  · intro h
    have h0 := (mem_nextL h).2.2
    refine ⟨h0, ?_⟩
    unfold nextL foundOf at h
    simp only [List.mem_flatMap, List.mem_map, List.mem_filter, List.mem_range] at h
    obtain ⟨ab, hab, c, ⟨hc, hcat⟩, rfl⟩ := h
    rw [Bool.and_eq_true, testBit_catsS, Nat.zero_testBit, Bool.false_or, List.any_eq_true] at hcat
    obtain ⟨⟨t, ht, hmt⟩, -⟩ := hcat
    rw [Bool.and_eq_true] at hmt
    exact ⟨hab, hc, t, ht, hmt.1, (lost_iff hc).1 hmt.2⟩
  · rintro ⟨h0, h1, h2, t, ht, hm, hl⟩
    unfold nextL foundOf
    simp only [List.mem_flatMap, List.mem_map, List.mem_filter, List.mem_range]
    refine ⟨(p.1, p.2.1), h1, p.2.2, ⟨h2, ?_⟩, rfl⟩
    rw [testBit_catsS, Nat.zero_testBit, Bool.false_or, Bool.and_eq_true]
    refine ⟨List.any_eq_true.2 ⟨t, ht, ?_⟩, by show (F p).isNone = true; rw [h0]; rfl⟩
    rw [hm, Bool.true_and]
    exact (lost_iff h2).2 hl

theorem lev_zero {n : Nat} {r : Nat → Nat} {C : List (Nat × Nat)} {p : Pl} : lev n r C 0 p ↔ (p.1, p.2.1) ∈ C ∧ ctchB p = true := by
  show (baseF C p).isSome = true ↔ _
  unfold baseF
  split
  · rename_i h; exact ⟨fun _ => h, fun _ => rfl⟩
  · rename_i h; exact ⟨fun e => (by cases e), fun e => absurd e h⟩
theorem lev_succ {n : Nat} {r : Nat → Nat} {C : List (Nat × Nat)} {i : Nat} {p : Pl} : lev n r C (i + 1) p ↔ lev n r C i p ∨ winP n r C (lev n r C i) p := by
  show (stepF (ranksG n r C i) (nextL n r (ranksG n r C i) C) (i + 1) p).isSome = true ↔ _
  unfold stepF
  split
  · rename_i h
    exact ⟨fun _ => .inr (nextL_iff.1 h).2, fun _ => rfl⟩
  · rename_i h
    refine ⟨.inl, ?_⟩
    rintro (h' | h')
    · exact h'
    · cases hF : ranksG n r C i p
      · exact absurd (nextL_iff.2 ⟨hF, h'⟩) h
      · rfl
theorem lev_mono {n : Nat} {r : Nat → Nat} {C : List (Nat × Nat)} {p : Pl} {i j : Nat} (hij : i ≤ j) (h : lev n r C i p) : lev n r C j p := by
  induction j with
  | zero => rwa [show i = 0 by omega] at h
  | succ j ih =>
    rcases Nat.lt_or_ge i (j + 1) with h1 | h1
    · exact lev_succ.2 (.inl (ih (by omega)))
    · rwa [show i = j + 1 by omega] at h

/-- A rank is the least level. -/
theorem rank_iff {n : Nat} {r : Nat → Nat} {C : List (Nat × Nat)} {p : Pl} {v : Nat} : ∀ {i : Nat}, ranksG n r C i p = some v ↔ v ≤ i ∧ lev n r C v p ∧ ∀ w, w < v → ¬ lev n r C w p
  | 0 => by
    constructor
    · intro h
      have h0 : lev n r C 0 p := by unfold lev; rw [h]; rfl
      have hv : v = 0 := by
        change baseF C p = some v at h
        unfold baseF at h
        split at h
        · cases h; rfl
        · cases h
      subst hv
      exact ⟨Nat.le_refl _, h0, fun w hw => by omega⟩
    · rintro ⟨h1, h2, -⟩
      obtain rfl : v = 0 := by omega
      show baseF C p = some 0
      unfold baseF
      rw [if_pos (lev_zero.1 h2)]
  | i + 1 => by
    show stepF (ranksG n r C i) (nextL n r (ranksG n r C i) C) (i + 1) p = some v ↔ _
    unfold stepF
    split
    · rename_i h
      have hN := (nextL_iff.1 h).1
      have hno : ¬ lev n r C i p := fun h' => by unfold lev at h'; rw [hN] at h'; cases h'
      constructor
      · intro e
        cases e
        exact ⟨Nat.le_refl _, lev_succ.2 (.inr (nextL_iff.1 h).2), fun w hw h' => hno (lev_mono (by omega) h')⟩
      · rintro ⟨h1, h2, -⟩
        rcases Nat.lt_or_ge i v with h3 | h3
        · rw [show v = i + 1 by omega]
        · exact absurd (lev_mono h3 h2) hno
    · rename_i h
      rw [rank_iff (i := i)]
      constructor
      · rintro ⟨h1, h2⟩; exact ⟨by omega, h2⟩
      · rintro ⟨h1, h2, h3⟩
        refine ⟨?_, h2, h3⟩
        rcases Nat.lt_or_ge i v with h4 | h4
        · obtain rfl : v = i + 1 := by omega
          exfalso
          have hno := h3 i (by omega)
          rcases lev_succ.1 h2 with h5 | h5
          · exact hno h5
          · refine h (nextL_iff.2 ⟨?_, h5⟩)
            cases hF : ranksG n r C i p
            · rfl
            · exact absurd (show lev n r C i p by unfold lev; rw [hF]; rfl) hno
        · exact h4
theorem rank_le {n : Nat} {r : Nat → Nat} {C : List (Nat × Nat)} {p : Pl} {v i : Nat} (hv : v ≤ i) : lev n r C v p ↔ ∃ x, ranksG n r C i p = some x ∧ x ≤ v := by
  constructor
  · intro h
    have hi := lev_mono hv h
    unfold lev at hi
    obtain ⟨x, hx⟩ := Option.isSome_iff_exists.1 hi
    refine ⟨x, hx, ?_⟩
    rcases Nat.lt_or_ge v x with h1 | h1
    · exact absurd h ((rank_iff.1 hx).2.2 v h1)
    · exact h1
  · rintro ⟨x, hx, h1⟩
    exact lev_mono h1 (rank_iff.1 hx).2.1

/-! ### the best choice -/

theorem worst_le {F : Pl → Option Nat} {ab : Nat × Nat} {v : Nat} : ∀ {m : Nat}, (worstTo F ab m ≠ -1 ∧ worstTo F ab m ≤ v) ↔ ∀ c, c < m → ∃ x, F (ab.1, ab.2, c) = some x ∧ x ≤ v
  | 0 => ⟨fun _ c h => by omega, fun _ => ⟨by simp [worstTo], by simp [worstTo]⟩⟩
  | m + 1 => by
    have ih := worst_le (F := F) (ab := ab) (v := v) (m := m)
    have hg := worstTo_ge F ab m
    unfold worstTo
    constructor
    · rintro ⟨h1, h2⟩ c hc
      split at h1
      · exact absurd rfl h1
      rename_i hw
      rw [if_neg hw] at h2
      split at h1
      · exact absurd rfl h1
      rename_i hr
      rw [if_neg hr] at h2
      rcases Nat.lt_or_ge c m with h3 | h3
      · exact ih.1 ⟨hw, by omega⟩ c h3
      · obtain rfl : c = m := by omega
        unfold rankV at hr h2
        cases hF : F (ab.1, ab.2, c)
        · rw [hF] at hr; exact absurd rfl hr
        · rename_i x
          rw [hF] at h2
          dsimp only at h2
          exact ⟨x, rfl, by omega⟩
    · intro h
      obtain ⟨hw, hl⟩ := ih.2 fun c hc => h c (by omega)
      obtain ⟨x, hx, hxv⟩ := h m (by omega)
      have hr : rankV F (ab.1, ab.2, m) = x := by unfold rankV; rw [hx]
      rw [if_neg hw, hr, if_neg (by omega)]
      omega

theorem best_to {n : Nat} {F : Pl → Option Nat} {v : Nat} : ∀ {C : List (Nat × Nat)} {s : (Nat × Nat) × Int}, -1 ≤ s.2 →
    (((bestTo n F C s).2 ≠ -1 ∧ (bestTo n F C s).2 ≤ v) ↔ (s.2 ≠ -1 ∧ s.2 ≤ v) ∨ ∃ ab ∈ C, worstTo F ab n ≠ -1 ∧ worstTo F ab n ≤ v)
  | [], s, _ => by simp [bestTo]
  | ab :: C, s, hs => by
    have hg := worstTo_ge F ab n
    unfold bestTo
    split
    · rename_i h
      rw [best_to (C := C) (by exact hg)]
      constructor
      · rintro (h1 | ⟨cd, h1, h2⟩)
        · exact .inr ⟨ab, by simp, h1⟩
        · exact .inr ⟨cd, by simp [h1], h2⟩
      · rintro (h1 | ⟨cd, h1, h2⟩)
        · refine .inl ⟨h.1, ?_⟩
          dsimp only
          have := h.2
          omega
        · rcases List.mem_cons.1 h1 with rfl | h1
          · exact .inl h2
          · exact .inr ⟨cd, h1, h2⟩
    · rename_i h
      rw [best_to (C := C) hs]
      constructor
      · rintro (h1 | ⟨cd, h1, h2⟩)
        · exact .inl h1
        · exact .inr ⟨cd, by simp [h1], h2⟩
      · rintro (h1 | ⟨cd, h1, h2⟩)
        · exact .inl h1
        · rcases List.mem_cons.1 h1 with rfl | h1
          · refine .inl ?_
            by_cases h3 : s.2 = -1
            · exact absurd ⟨h2.1, .inl h3⟩ h
            · refine ⟨h3, ?_⟩
              rcases Int.lt_or_le (worstTo F cd n) s.2 with h4 | h4
              · exact absurd ⟨h2.1, .inr h4⟩ h
              · omega
          · exact .inr ⟨cd, h1, h2⟩

/-- The best choice catches the cat in at most v moves: some choice lies with every cat in level v. -/
theorem best_lev {n : Nat} {r : Nat → Nat} {C : List (Nat × Nat)} {v : Nat} (hv : v ≤ 4096) :
    ((bestOf n (ranksF n r C) C).2 ≠ -1 ∧ (bestOf n (ranksF n r C) C).2 ≤ v) ↔ ∃ ab ∈ C, ∀ c, c < n → lev n r C v (ab.1, ab.2, c) := by
  unfold bestOf
  rw [best_to (by decide)]
  constructor
  · rintro (⟨h, -⟩ | ⟨ab, h1, h2⟩)
    · exact absurd rfl h
    · exact ⟨ab, h1, fun c hc => (rank_le hv).2 (worst_le.1 h2 c hc)⟩
  · rintro ⟨ab, h1, h2⟩
    exact .inr ⟨ab, h1, worst_le.2 fun c hc => (rank_le hv).1 (h2 c hc)⟩
theorem ranksF_le {n : Nat} {r : Nat → Nat} {C : List (Nat × Nat)} {p : Pl} {x : Nat} (h : ranksF n r C p = some x) : x ≤ 4096 := (rank_iff.1 h).1
theorem best_big {n : Nat} {r : Nat → Nat} {C : List (Nat × Nat)} : (bestOf n (ranksF n r C) C).2 ≤ 4096 := by
  have hw : ∀ ab m, worstTo (ranksF n r C) ab m ≤ 4096 := by
    intro ab m
    by_cases h : worstTo (ranksF n r C) ab m = -1
    · omega
    · induction m with
      | zero => simp [worstTo]
      | succ m ih =>
        unfold worstTo at h ⊢
        split at h
        · exact absurd rfl h
        rename_i h1
        split at h
        · exact absurd rfl h
        rename_i h2
        rw [if_neg h1, if_neg h2]
        have h3 := ih h1
        have h4 : rankV (ranksF n r C) (ab.1, ab.2, m) ≤ 4096 := by
          unfold rankV
          split
          · rename_i v hF
            have := ranksF_le hF
            omega
          · omega
        omega
  have hb : ∀ (L : List (Nat × Nat)) (s : (Nat × Nat) × Int), s.2 ≤ 4096 → (bestTo n (ranksF n r C) L s).2 ≤ 4096 := by
    intro L
    induction L with
    | nil => intro s h; exact h
    | cons ab L ih =>
      intro s h
      unfold bestTo
      apply ih
      split
      · exact hw ab n
      · exact h
  exact hb C _ (by decide)
/-- The cat is caught from the best choice: some choice has every cat in the last level. -/
theorem best_ne {n : Nat} {r : Nat → Nat} {C : List (Nat × Nat)} :
    (bestOf n (ranksF n r C) C).2 ≠ -1 ↔ ∃ ab ∈ C, ∀ c, c < n → lev n r C 4096 (ab.1, ab.2, c) := by
  rw [← best_lev (Nat.le_refl 4096)]
  exact ⟨fun h => ⟨h, best_big⟩, fun h => h.1⟩
theorem best_ge {n : Nat} {F : Pl → Option Nat} {C : List (Nat × Nat)} : -1 ≤ (bestOf n F C).2 := bestTo_ge n F C _ (by decide)

/-- Two games whose levels hold a full choice at the same time have the same number of rounds. -/
theorem best_same {n m : Nat} {r s : Nat → Nat} {C D : List (Nat × Nat)}
    (h : ∀ v, v ≤ 4096 → ((∃ ab ∈ C, ∀ c, c < n → lev n r C v (ab.1, ab.2, c)) ↔ ∃ ab ∈ D, ∀ c, c < m → lev m s D v (ab.1, ab.2, c))) :
    (bestOf n (ranksF n r C) C).2 = (bestOf m (ranksF m s D) D).2 := by
  have h1 : ∀ v : Nat, v ≤ 4096 → (((bestOf n (ranksF n r C) C).2 ≠ -1 ∧ (bestOf n (ranksF n r C) C).2 ≤ v) ↔ ((bestOf m (ranksF m s D) D).2 ≠ -1 ∧ (bestOf m (ranksF m s D) D).2 ≤ v)) :=
    fun v hv => by rw [best_lev hv, best_lev hv]; exact h v hv
  have a1 := best_ge (n := n) (F := ranksF n r C) (C := C)
  have b1 := best_ge (n := m) (F := ranksF m s D) (C := D)
  have a2 := best_big (n := n) (r := r) (C := C)
  have b2 := best_big (n := m) (r := s) (C := D)
  generalize (bestOf n (ranksF n r C) C).2 = A at *
  generalize (bestOf m (ranksF m s D) D).2 = B at *
  by_cases hA : A = -1
  · by_cases hB : B = -1
    · omega
    · have := (h1 4096 (by omega)).2 ⟨hB, b2⟩
      exact absurd hA this.1
  · have h2 := (h1 A.toNat (by omega)).1 ⟨hA, by omega⟩
    have h3 := (h1 B.toNat (by omega)).2 ⟨h2.1, by omega⟩
    omega

end Go.Proofs.YtbkbliieappkdaaDoor.Ch
