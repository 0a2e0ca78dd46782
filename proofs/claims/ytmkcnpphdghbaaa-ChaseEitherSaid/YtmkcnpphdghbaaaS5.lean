/- The program's and the reference's words for safe places are the same. -/
import Derived.Test.YtmkcnpphdghbaaaC2q
namespace Go.Proofs.Ytmkcnpphdghbaaa
set_option linter.unusedSimpArgs false
set_option linter.unusedVariables false
open Go.RowKit

theorem ok1_okE {n : Nat} {kI : Int} (hk : kI = 1 ∨ kI = 2) (p : PI) : ok1 n (chs n kI.toNat) p = okE n kI p := by
  unfold ok1 okE
  rw [place_eq hk]

theorem testBit_full {n c : Nat} (h : c < n) : (2 ^ n - 1).testBit c = true := by rw [Nat.testBit_two_pow_sub_one]; exact decide_eq_true h

theorem reach_cover {n : Nat} {P : List PI} (ab : Nat × Nat) : reachB n (inS P) ab (2 ^ n - 1) = coverE n P ab := by
  unfold reachB coverE inS
  rw [Bool.eq_iff_iff, List.any_eq_true, List.any_eq_true]
  constructor
  · rintro ⟨c, hc, h⟩
    rw [Bool.and_eq_true] at h
    exact ⟨c, hc, h.2⟩
  · rintro ⟨c, hc, h⟩
    exact ⟨c, hc, by rw [testBit_full (List.mem_range.1 hc), Bool.true_and]; exact h⟩

theorem reach_free {n : Nat} {x : Nat} {P : List PI} (ab : Nat × Nat) : reachB n (inS P) ab x = (flTo x ab.1 ab.2 n).any fun q => decide (castP q ∈ P) := by
  unfold reachB inS
  rw [flTo_eq, List.any_map, List.any_filter]
  rfl

theorem stay_eq {n k : Nat} {g : Nat → Nat} {P : List PI} (hk : k = 1 ∨ k = 2) (p : PI) : stayB n (rch g) (chs n k) (inS P) (toN p) = stayE n k g P p := by
  unfold stayB stayE
  rw [moves_chs hk]
  unfold mvOf
  rw [List.all_map, List.all_filter]
  apply List.all_congr rfl
  intro t
  unfold stepS freeQ
  dsimp only [Function.comp]
  rw [reach_free]

theorem are_safe {n : Nat} {kI : Int} {g : Nat → Nat} {P : List PI} (hk : kI = 1 ∨ kI = 2) (hn : 1 ≤ n) : areB n (rch g) (chs n kI.toNat) P = safeB n kI.toNat kI g P := by
  have hk' : kI.toNat = 1 ∨ kI.toNat = 2 := by omega
  unfold areB safeB
  rw [show ok1 n (chs n kI.toNat) = okE n kI from funext (ok1_okE hk), show (fun p => stayB n (rch g) (chs n kI.toNat) (inS P) (toN p)) = stayE n kI.toNat g P from funext (stay_eq hk'),
    show (fun ab => reachB n (inS P) ab (2 ^ n - 1)) = coverE n P from funext fun ab => reach_cover ab]
  cases hc : (chs n kI.toNat).all (coverE n P)
  · simp
  · have hl : decide (0 < P.length) = true := by
      obtain ⟨ab, hab⟩ := List.exists_mem_of_ne_nil _ (chs_ne n kI.toNat hn)
      rw [List.all_eq_true] at hc
      have := hc ab hab
      unfold coverE at this
      obtain ⟨c, -, h⟩ := List.any_eq_true.1 this
      exact decide_eq_true (List.length_pos_of_mem (of_decide_eq_true h))
    rw [hl, Bool.and_true, Bool.and_true]

end Go.Proofs.Ytmkcnpphdghbaaa
