/- The contracts of slices.Index and slices.Contains over whole numbers. -/
import Derived.Test.YtombmfphodikjaaW3
namespace Go.Proofs.Ytombmfphodikjaa
set_option linter.unusedSimpArgs false
set_option linter.unusedVariables false
open Go.RowKit Go.Maps

/-- What slices.Index returns. -/
def IndexIs (z : Nat → Int) (m : Nat) (v x : Int) : Prop := (∃ j : Nat, j < m ∧ x = j ∧ z j = v) ∨ (x = -1 ∧ ∀ j, j < m → z j ≠ v)

set_option maxRecDepth 20000 in
set_option maxHeartbeats 1000000 in
theorem Index_any {m : Nat} {z : Nat → Int} {a : Option Addr} (cap : Nat) {w : World} (hI : IntsAt w a m z) (v : Int) :
    Calls Try.prog 59 #[.slice a m cap, .int .i64 v] w fun e w' => ∃ x : Int, e = .returned (.int .i64 x) ∧ IndexIs z m v x ∧ Below w.heap.size w w' := by
  have hml := hI.1
  unfold maxLen at hml
  have HI := Lib.hid hI
  clear hI
  go_enter Try.func59, Try.ntmps59
  go_wp2_with fail
  go_loopw [8] (fun i wr => ∃ k : Nat, k ≤ m ∧ i = .int .i64 k ∧ (∀ j, j < k → z j ≠ v) ∧ Below w.heap.size w wr) (fun i _ => m - (intOf i).toNat)
  case atStart => exact ⟨0, Nat.zero_le _, rfl, fun j hj => by omega, Below.refl _ _⟩
  case round =>
    obtain ⟨k, hk, rfl, hd, hbel⟩ := hrel
    have HD := Lib.hid hd
    have HB := Lib.hid hbel
    have HIR := Lib.hid (HI.out.below hbel)
    clear hd hbel
    by_cases hlt : k < m
    · obtain ⟨b, off, rfl, hb, hc⟩ := HIR.out.2 (by omega)
      have ck := hc k hlt
      clear hc
      by_cases he : z k = v
      · have hq : (v == z k) = true := by simp [he]
        have HE := Lib.hid he
        clear he
        go_wp2_with fail
        try (go_quiet (fail))
        try (go_wp2_with fail)
        go_ret
        exact ⟨k, rfl, Or.inl ⟨k, hlt, rfl, HE.out⟩, HB.out⟩
      · have hq : (v == z k) = false := by simpa using fun h => he h.symm
        have HE := Lib.hid he
        clear he
        go_wp2_with fail
        try (go_quiet (fail))
        try (go_wp2_with fail)
        go_roundw
        case rel => exact ⟨k + 1, by omega, by go_num, fun i hi => by rcases Nat.lt_succ_iff_lt_or_eq.1 hi with h | h; exact HD.out i h; rw [h]; exact HE.out, HB.out⟩
        case measure => simp [intOf]; omega
    · have hke : k = m := by omega
      subst hke
      go_wp2_with fail
      go_ret
      exact ⟨-1, rfl, Or.inr ⟨rfl, HD.out⟩, HB.out⟩

set_option maxRecDepth 20000 in
set_option maxHeartbeats 1000000 in
theorem Contains_yes {m : Nat} {z : Nat → Int} {a : Option Addr} (cap : Nat) {w : World} (hI : IntsAt w a m z) (v : Int) (h : ∃ j : Nat, j < m ∧ z j = v) :
    Calls Try.prog 39 #[.slice a m cap, .int .i64 v] w fun e w' => e = .returned (.bool true) ∧ Below w.heap.size w w' := by
  have HI := Lib.hid hI
  have HX := Lib.hid h
  clear hI h
  go_enter Try.func39, Try.ntmps39
  go_wp2_with fail
  go_at_call 59
  refine (Index_any _ HI.out v).mono ?_
  rintro e w1 ⟨x, rfl, hx, hb⟩
  have HB := Lib.hid hb
  clear hb
  rcases hx with ⟨j, hj, rfl, _⟩ | ⟨rfl, hno⟩
  · go_wp2_with fail
    go_ret
    exact ⟨by simp, HB.out⟩
  · obtain ⟨j, hj, he⟩ := HX.out
    exact absurd he (hno j hj)

end Go.Proofs.Ytombmfphodikjaa
