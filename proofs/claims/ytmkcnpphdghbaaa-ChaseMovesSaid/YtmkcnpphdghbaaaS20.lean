/- A best move leads to a smaller rank, however the cat moves; no rank is above 63. -/
import Derived.Test.YtmkcnpphdghbaaaS14
namespace Go.Proofs.Ytmkcnpphdghbaaa
set_option linter.unusedSimpArgs false
set_option linter.unusedVariables false
open Go.RowKit

theorem rank_zero {n k : Nat} {r : Nat → Nat} {p : Pl} (hp : (p.1, p.2.1) ∈ chs n k) : ranksF n r (chs n k) p = some 0 ↔ ctchB p = true := by
  unfold ranksF
  rw [rank_iff]
  constructor
  · rintro ⟨-, h, -⟩; exact (lev_zero.1 h).2
  · intro h; exact ⟨Nat.zero_le _, lev_zero.2 ⟨hp, h⟩, fun w hw => by omega⟩

/-- The best move from a Place with a rank above 0. -/
theorem move_step {n k : Nat} {r : Nat → Nat} {p : Pl} {v : Nat} (hp : (p.1, p.2.1) ∈ chs n k) (hrin : ∀ u, (r p.2.2).testBit u = true → u < n) (hF : ranksF n r (chs n k) p = some v) (hv : 1 ≤ v) :
    ∃ t, bestMv n r (ranksF n r (chs n k)) (chs n k) p = some t ∧ t ∈ chs n k ∧ canM r (p.1, p.2.1) t = true ∧
      (ctchB (t.1, t.2, p.2.2) = true ∨ ∀ d, (r p.2.2).testBit d = true → d < n ∧ ∃ v', ranksF n r (chs n k) (t.1, t.2, d) = some v' ∧ v' < v) := by
  have hnc : ctchB p = false := by
    cases hc : ctchB p
    · rfl
    · rw [(rank_zero (r := r) hp).2 hc] at hF
      cases hF
      omega
  obtain ⟨u, rfl⟩ : ∃ u, v = u + 1 := ⟨v - 1, by omega⟩
  have h1 := hF
  unfold ranksF at h1
  obtain ⟨hle, hlev, hno⟩ := rank_iff.1 h1
  rcases lev_succ.1 hlev with h2 | ⟨-, -, t0, ht0, hm0, hl0⟩
  · exact absurd h2 (hno u (by omega))
  have hgood : mvF n r (ranksF n r (chs n k)) p t0 = true := by
    unfold mvF winF
    rw [hm0, Bool.true_and, Bool.or_eq_true]
    rcases hl0 with h | h
    · exact .inl h
    · right
      rw [List.all_eq_true]
      intro d _
      cases hb : (r p.2.2).testBit d
      · rfl
      · obtain ⟨-, h3⟩ := h d hb
        obtain ⟨x, hx, hxu⟩ := (rank_le (i := 4096) (show u ≤ 4096 by omega)).1 h3
        unfold lessF rankV
        have hx' : ranksF n r (chs n k) (t0.1, t0.2, d) = some x := hx
        rw [hx', hF]
        simp
        omega
  have hsome : ((chs n k).find? (mvF n r (ranksF n r (chs n k)) p)).isSome = true := List.find?_isSome.2 ⟨t0, ht0, hgood⟩
  obtain ⟨t, ht⟩ := Option.isSome_iff_exists.1 hsome
  have hmv := List.find?_some ht
  unfold mvF at hmv
  rw [Bool.and_eq_true] at hmv
  refine ⟨t, by unfold bestMv; rw [hnc]; exact ht, List.mem_of_find?_eq_some ht, hmv.1, ?_⟩
  have hw := hmv.2
  unfold winF at hw
  rw [Bool.or_eq_true, List.all_eq_true] at hw
  rcases hw with h | h
  · exact .inl h
  · right
    intro d hd
    have hdn := hrin d hd
    refine ⟨hdn, ?_⟩
    have h3 := h d (List.mem_range.2 hdn)
    rw [hd] at h3
    unfold lessF rankV at h3
    rw [hF] at h3
    cases hG : ranksF n r (chs n k) (t.1, t.2, d)
    · rw [hG] at h3; simp at h3
    · rename_i x
      rw [hG] at h3
      simp at h3
      exact ⟨x, rfl, by omega⟩
/-- Without a rank above 0 there is no move. -/
theorem move_none {n k : Nat} {r : Nat → Nat} {p : Pl} (hn : n < 16) (hC : (chs n k).length ≤ 256) (hp : (p.1, p.2.1) ∈ chs n k) (hc : p.2.2 < n) (h : ranksF n r (chs n k) p = none ∨ ranksF n r (chs n k) p = some 0) (hrin : ∀ u, (r p.2.2).testBit u = true → u < n) :
    bestMv n r (ranksF n r (chs n k)) (chs n k) p = none := by
  unfold bestMv
  rcases h with h | h
  · split
    · rfl
    · rw [List.find?_eq_none]
      intro t ht hmv
      unfold mvF at hmv
      rw [Bool.and_eq_true] at hmv
      have hfix := ranks_fix (n := n) (r := r) hn hC
      have hin : p ∈ nextL n r (ranksF n r (chs n k)) (chs n k) := by
        rw [nextL_iff]
        refine ⟨h, hp, hc, t, ht, hmv.1, ?_⟩
        have hw := hmv.2
        unfold winF at hw
        rw [Bool.or_eq_true, List.all_eq_true] at hw
        rcases hw with hw | hw
        · exact .inl hw
        · right
          intro d hd
          have hdn := hrin d hd
          refine ⟨hdn, ?_⟩
          have h3 := hw d (List.mem_range.2 hdn)
          rw [hd] at h3
          unfold lessF rankV at h3
          cases hG : ranksF n r (chs n k) (t.1, t.2, d)
          · rw [hG] at h3; simp at h3
          · show (ranksF n r (chs n k) (t.1, t.2, d)).isSome = true
            rw [hG]; rfl
      rw [hfix] at hin
      cases hin
  · rw [if_pos ((rank_zero hp).1 h)]

/-! ### the bound -/

/-- Each smaller rank is met, too. -/
theorem rank_down {n k : Nat} {r : Nat → Nat} (hk : k = 1 ∨ k = 2) (hrin : ∀ v u, v < n → (r v).testBit u = true → u < n) {p : Pl} {v : Nat} (hp : p ∈ allPl n (chs n k)) (hF : ranksF n r (chs n k) p = some (v + 1)) :
    ∃ q, q ∈ allPl n (chs n k) ∧ ranksF n r (chs n k) q = some v := by
  obtain ⟨hpC, hpn⟩ := mem_allPl.1 hp
  have h1 := hF
  unfold ranksF at h1
  obtain ⟨hle, hlev, hno⟩ := rank_iff.1 h1
  rcases Nat.eq_zero_or_pos v with rfl | hv
  · obtain ⟨x, y, d⟩ := p
    refine ⟨(x, y, x), mem_allPl.2 ⟨hpC, ?_⟩, (rank_zero (p := (x, y, x)) hpC).2 (ctch_iff.2 (.inl rfl))⟩
    obtain ⟨h2, h3, -⟩ := (chs_mem hk).1 hpC
    dsimp only at h2 h3 ⊢
    omega
  · rcases lev_succ.1 hlev with h2 | ⟨-, -, t, ht, hm, hl⟩
    · exact absurd h2 (hno v (by omega))
    · rcases hl with hl | hl
      · exfalso
        refine hno 1 (by omega) (lev_succ.2 (.inr ⟨hpC, hpn, t, ht, hm, .inl hl⟩))
      · by_cases hall : ∀ d, (r p.2.2).testBit d = true → lev n r (chs n k) (v - 1) (t.1, t.2, d)
        · exfalso
          refine hno v (by omega) ?_
          rw [show v = v - 1 + 1 by omega, lev_succ]
          exact .inr ⟨hpC, hpn, t, ht, hm, .inr fun d hd => ⟨(hl d hd).1, hall d hd⟩⟩
        · obtain ⟨d, hd, hnl⟩ : ∃ d, (r p.2.2).testBit d = true ∧ ¬ lev n r (chs n k) (v - 1) (t.1, t.2, d) := by
            apply Classical.byContradiction
            intro hn
            apply hall
            intro d hd
            apply Classical.byContradiction
            intro h3
            exact hn ⟨d, hd, h3⟩
          refine ⟨(t.1, t.2, d), mem_allPl.2 ⟨ht, (hl d hd).1⟩, ?_⟩
          unfold ranksF
          rw [rank_iff]
          refine ⟨by omega, (hl d hd).2, fun w hw h4 => hnl (lev_mono (by omega) h4)⟩
theorem rank_all {n k : Nat} {r : Nat → Nat} (hk : k = 1 ∨ k = 2) (hrin : ∀ v u, v < n → (r v).testBit u = true → u < n) {p : Pl} : ∀ {v : Nat}, p ∈ allPl n (chs n k) → ranksF n r (chs n k) p = some v → ∀ u, u ≤ v → ∃ q, q ∈ allPl n (chs n k) ∧ ranksF n r (chs n k) q = some u
  | 0, hp, hF, u, hu => ⟨p, hp, by rw [show u = 0 by omega]; exact hF⟩
  | v + 1, hp, hF, u, hu => by
    by_cases h : u = v + 1
    · exact ⟨p, hp, by rw [h]; exact hF⟩
    · obtain ⟨q, hq, hFq⟩ := rank_down hk hrin hp hF
      exact rank_all hk hrin hq hFq u (by omega)
theorem rank_count {n k : Nat} {r : Nat → Nat} (hk : k = 1 ∨ k = 2) (hrin : ∀ v u, v < n → (r v).testBit u = true → u < n) {p : Pl} {v : Nat} (hp : p ∈ allPl n (chs n k)) (hF : ranksF n r (chs n k) p = some v) : v < (allPl n (chs n k)).length := by
  have hall := rank_all hk hrin hp hF
  have hc : ∀ u, u ≤ v + 1 → u ≤ (allPl n (chs n k)).countP fun q => match ranksF n r (chs n k) q with | some x => decide (x < u) | none => false := by
    intro u
    induction u with
    | zero => intro _; omega
    | succ u ih =>
      intro hu
      have h1 := ih (by omega)
      obtain ⟨q, hq, hFq⟩ := hall u (by omega)
      have h2 := countP_lt (fun q => match ranksF n r (chs n k) q with | some x => decide (x < u + 1) | none => false) (fun q => match ranksF n r (chs n k) q with | some x => decide (x < u) | none => false) (allPl n (chs n k)) q hq
        (by simp [hFq]) (by simp [hFq]) (fun b hb => by
          cases hG : ranksF n r (chs n k) b
          · simp [hG] at hb
          · simp [hG] at hb ⊢; omega)
      omega
  have h1 := hc (v + 1) (Nat.le_refl _)
  have h2 := List.countP_le_length (p := fun q => match ranksF n r (chs n k) q with | some x => decide (x < v + 1) | none => false) (l := allPl n (chs n k))
  omega
theorem allPl_len (n : Nat) : ∀ C : List (Nat × Nat), (allPl n C).length = C.length * n
  | [] => by simp [allPl]
  | ab :: C => by
    have := allPl_len n C
    unfold allPl at this ⊢
    rw [List.flatMap_cons, List.length_append, this, List.length_map, List.length_range, List.length_cons, Nat.succ_mul, Nat.add_comm]
theorem chs_one_len (n : Nat) : (chs n 1).length ≤ n := by
  have h : ∀ m, ((List.range m).flatMap fun a => (List.range (if (1 : Nat) = 2 then n - a else 1)).map fun j => (a, a + j)).length = m := by
    intro m
    induction m with
    | zero => rfl
    | succ m ih => rw [List.range_succ, List.flatMap_append, List.length_append, ih]; simp
  unfold chs
  first | exact Nat.le_of_eq (h n) | (have := h n; simp at this ⊢; omega)
/-- No rank is above 63. -/
theorem Net.rank {n k : Nat} {r : Nat → Nat} (N : Net n r) (hk : k = 1 ∨ k = 2) {p : Pl} {v : Nat} (hp : p ∈ allPl n (chs n k)) (hF : ranksF n r (chs n k) p = some v) : v ≤ 63 := by
  have h8 := N.eight
  rcases hk with rfl | rfl
  · have h1 := rank_count (.inl rfl) N.rin hp hF
    rw [allPl_len] at h1
    have h2 := Nat.mul_le_mul (chs_one_len n) (Nat.le_refl n)
    have h3 := Nat.mul_le_mul h8 h8
    omega
  · obtain ⟨h1, h2⟩ := mem_allPl.1 hp
    obtain ⟨x, hx, hxv⟩ := (rank_le (i := 4096) (show 22 ≤ 4096 by omega)).1 (N.all h1 h2)
    have hx' : ranksF n r (chs n 2) p = some x := hx
    rw [hx'] at hF
    cases hF
    omega

end Go.Proofs.Ytmkcnpphdghbaaa
