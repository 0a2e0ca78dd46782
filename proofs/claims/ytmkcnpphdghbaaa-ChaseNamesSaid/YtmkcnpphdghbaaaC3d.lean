/- The contract of the law's size: how many nodes a set has. -/
import Derived.Test.YtmkcnpphdghbaaaC3a
namespace Go.Proofs.Ytmkcnpphdghbaaa
set_option linter.unusedSimpArgs false
set_option linter.unusedVariables false
open Go.RowKit Go.Maps
attribute [local go_sem] i64_and

theorem szS_low : ∀ S, S < 256 → 0 < S → szS 8 (S &&& (S - 1)) + 1 = szS 8 S ∧ S &&& (S - 1) < S := by decide +kernel

set_option maxRecDepth 20000 in
set_option maxHeartbeats 2000000 in
theorem size_any (T : Nat) (hT : T < 256) (w : World) :
    Calls Try.prog 35 #[.int .i64 T] w fun e w' => e = .returned (.int .i64 (szS 8 T : Nat)) ∧ w = w' := by
  have h8 : szS 8 T ≤ 8 := szS_le 8 T
  go_enter Try.func35, Try.ntmps35
  go_wp2_with fail
  go_loopw [0, 3] (fun s c wr => ∃ S k, s = .int .i64 (S : Nat) ∧ c = .int .i64 (k : Nat) ∧ S < 256 ∧ k + szS 8 S = szS 8 T ∧ wr = w) (fun s _ _ => (intOf s).toNat)
  case atStart => exact ⟨T, 0, rfl, rfl, hT, by omega, rfl⟩
  case round =>
    obtain ⟨S, k, rfl, rfl, hS, hk, rfl⟩ := hrel
    by_cases h0 : 0 < S
    · obtain ⟨l1, l2⟩ := szS_low S hS h0
      have hc : wrap64 ((S : Int) - 1) = ((S - 1 : Nat) : Int) := by
        rw [show ((S : Int) - 1) = ((S - 1 : Nat) : Int) by omega]
        exact IntWalk.wrap64_in _ ⟨by omega, by omega⟩
      have hb : bits .and .i64 (S : Int) ((S : Int) - 1) = ((S &&& (S - 1) : Nat) : Int) := by
        rw [show ((S : Int) - 1) = ((S - 1 : Nat) : Int) by omega, i64_and S (S - 1) (by omega) (by omega)]
      go_wp2_with fail
      go_roundw
      case rel => exact ⟨S &&& (S - 1), k + 1, by first | rfl | exact congrArg (Value.int .i64) hb, by go_num, by omega, by omega, by first | trivial | rfl⟩
      case measure => simpa [intOf, hb] using l2
    · have : S = 0 := by omega
      subst this
      go_wp2_with fail
      go_ret
      have h00 : szS 8 0 = 0 := by decide
      rw [h00] at hk
      have : k = szS 8 T := by omega
      subst this
      exact ⟨rfl, rfl⟩

end Go.Proofs.Ytmkcnpphdghbaaa
