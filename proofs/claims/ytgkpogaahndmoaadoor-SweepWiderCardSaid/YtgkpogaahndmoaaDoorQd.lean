/- The contracts of package sweep's isLayout, of the reference's IsOrder and Size. -/
import Derived.Test.YtgkpogaahndmoaaDoorQa
import Derived.Test.YtgkpogaahndmoaaDoorW2
import Derived.Test.YtgkpogaahndmoaaDoorQ3
namespace Go.Proofs.YtgkpogaahndmoaaDoor
set_option linter.unusedSimpArgs false
set_option linter.unusedVariables false
open Go.RowKit Go.Maps
attribute [local go_sem] i64_bit toNat_eq_one toNat_ne_one toNat_eq_zero toNat_ne_zero i64_and i64_or i64_andNot i64_or_pow i64_andNot_pow

theorem lt16 {n s : Nat} (hn : n ≤ 9) (h : s < 2 ^ n) : s < 65536 := by
  have : 2 ^ n ≤ 2 ^ 9 := Nat.pow_le_pow_right (by omega) hn
  omega

theorem szS_low : ∀ S, S < 512 → 0 < S → szS 9 (S &&& (S - 1)) + 1 = szS 9 S ∧ S &&& (S - 1) < S := by decide +kernel

set_option maxRecDepth 20000 in
set_option maxHeartbeats 2000000 in
theorem Size_any {n : Nat} (hn : n ≤ 9) (T : Nat) (hT : T < 2 ^ n) (w : World) :
    Calls Tryd.prog 56 #[.int .i64 T] w fun e w' => e = .returned (.int .i64 (szS n T : Nat)) ∧ w = w' := by
  have h9 : szS 9 T ≤ 9 := szS_le 9 T
  have HS := Lib.hid (szS_nine hn hT)
  have hT9 : T < 512 := by have := pow_le9 hn; omega
  clear hT
  go_enter Tryd.func56, Tryd.ntmps56
  go_wp2_with fail
  go_loopw [0, 3] (fun s c wr => ∃ S k, s = .int .i64 (S : Nat) ∧ c = .int .i64 (k : Nat) ∧ S < 512 ∧ k + szS 9 S = szS 9 T ∧ w = wr) (fun s _ _ => (intOf s).toNat)
  case atStart => exact ⟨T, 0, rfl, rfl, hT9, by omega, rfl⟩
  case round =>
    obtain ⟨S, k, rfl, rfl, hS, hk, rfl⟩ := hrel
    by_cases h0 : 0 < S
    · obtain ⟨l1, l2⟩ := szS_low S hS h0
      have hc : wrap64 ((S : Int) - 1) = ((S - 1 : Nat) : Int) := by
        rw [show ((S : Int) - 1) = ((S - 1 : Nat) : Int) by omega]
        exact IntWalk.wrap64_in _ ⟨by omega, by omega⟩
      have hb : bits .and .i64 (S : Int) ((S : Int) - 1) = ((S &&& (S - 1) : Nat) : Int) := by
        rw [show ((S : Int) - 1) = ((S - 1 : Nat) : Int) by omega, i64_and S (S - 1) (by omega) (by omega)]
      go_wp2_with fail
      go_roundw
      case rel => exact ⟨S &&& (S - 1), k + 1, by first | rfl | exact congrArg (Value.int .i64) hb, by go_num, by omega, by omega, by first | trivial | rfl⟩
      case measure => simpa [intOf, hb] using l2
    · have : S = 0 := by omega
      subst this
      go_wp2_with fail
      go_ret
      have h00 : szS 9 0 = 0 := by decide
      rw [h00] at hk
      have hk2 : k = szS n T := by rw [← HS.out]; omega
      subst hk2
      exact ⟨rfl, rfl⟩

set_option maxRecDepth 20000 in
set_option maxHeartbeats 2000000 in
theorem isLayout_any {n : Nat} (a : Option Addr) (cap : Nat) {m : Nat} {z : Nat → Int} {o : Option Addr} {w : World} (hn : n ≤ 9) (co : Nat) (hI : IntsAt w o m z) :
    Calls Tryd.prog 48 #[.slice a n cap, .slice o m co] w fun e w' => e = .returned (.bool (ordB n m z)) ∧ w = w' := by
  have hml := hI.1
  unfold maxLen at hml
  by_cases hmn : m = n
  · subst hmn
    have HI := Lib.hid hI
    clear hI
    go_enter Tryd.func48, Tryd.ntmps48
    go_wp2_with fail
    go_loopw [5, 15] (fun f i wr => ∃ k : Nat, k ≤ m ∧ i = .int .i64 k ∧ f = .int .i64 (metO z k : Nat) ∧ (∀ i, i < k → okO m z i = true) ∧ w = wr) (fun _ i _ => m - (intOf i).toNat)
    case atStart => exact ⟨0, Nat.zero_le _, rfl, rfl, by omega, rfl⟩
    case round =>
      obtain ⟨k, hk, rfl, rfl, hok, rfl⟩ := hrel
      have HOK := Lib.hid hok
      have hmet := lt16 hn (metO_lt k hok)
      have HST : Hid (metO z (k + 1) = metO z k ||| 2 ^ (z k).toNat) := Lib.hid rfl
      clear hok
      by_cases hlt : k < m
      · obtain ⟨b, off, rfl, hb, hc⟩ := HI.out.2 (by omega)
        have ck := hc k hlt
        clear hc
        by_cases hr : 0 ≤ z k ∧ z k < m
        · have hin := inB_true hr.1 hr.2
          obtain ⟨s, hs⟩ : ∃ s : Nat, z k = s := ⟨(z k).toNat, by omega⟩
          have hsm : s < m := by omega
          have hs64 : s < 64 := by omega
          have hs16 : s < 16 := by omega
          have hps := pow_bd s hs16
          rw [hs] at ck hin
          have HS := Lib.hid hs
          rw [hs, Int.toNat_natCast] at HST
          have HMB : Hid (okO m z k = (true && !(metO z k).testBit s)) := Lib.hid (by unfold okO; rw [hs, hin, Int.toNat_natCast])
          clear hr hs
          generalize metO z k = M at *
          cases hq : M.testBit s
          · have HQ := Lib.hid (show okO m z k = true by rw [HMB.out, hq]; rfl)
            go_wp2_with (first | (go_at_call 75; refine (isNode_any _ _ _ _ _ (by omega)).mono ?_; rintro e w1 ⟨rfl, rfl⟩; rw [hin]) | (go_at_call 73; refine (has_any _ _ _ hmet hs64).mono ?_; rintro e w2 ⟨rfl, rfl⟩; rw [hq]))
            go_roundw
            case rel => exact ⟨k + 1, by omega, by go_num, by rw [HST.out], fun i hi => by rcases Nat.lt_succ_iff_lt_or_eq.1 hi with h | h; exact HOK.out i h; rw [h]; exact HQ.out, by trivial⟩
            case measure => simp [intOf]; omega
          · have HQ := Lib.hid (show okO m z k = false by rw [HMB.out, hq]; rfl)
            go_wp2_with (first | (go_at_call 75; refine (isNode_any _ _ _ _ _ (by omega)).mono ?_; rintro e w1 ⟨rfl, rfl⟩; rw [hin]) | (go_at_call 73; refine (has_any _ _ _ hmet hs64).mono ?_; rintro e w2 ⟨rfl, rfl⟩; rw [hq]))
            go_ret
            exact ⟨by rw [ordB_bad hlt HQ.out]; rfl, rfl⟩
        · have hin := inB_false hr
          have HQ := Lib.hid (show okO m z k = false by unfold okO; rw [hin]; rfl)
          clear hr
          go_wp2_with (go_at_call 75; refine (isNode_any _ _ _ _ _ (by omega)).mono ?_; rintro e w1 ⟨rfl, rfl⟩; rw [hin])
          go_ret
          exact ⟨by rw [ordB_bad hlt HQ.out]; rfl, rfl⟩
      · have hke : k = m := by omega
        subst hke
        go_wp2_with fail
        go_ret
        exact ⟨by rw [ordB_good HOK.out]; rfl, rfl⟩
  · have hne : ((m : Int) != (n : Int)) = true := by simp; omega
    have HF := Lib.hid (ordB_len (z := z) hmn)
    clear hI hmn
    go_enter Tryd.func48, Tryd.ntmps48
    go_wp2_with fail
    go_ret
    exact ⟨by rw [HF.out]; rfl, rfl⟩

set_option maxRecDepth 20000 in
set_option maxHeartbeats 2000000 in
theorem IsOrderR_any {n m : Nat} {z : Nat → Int} {o : Option Addr} {w : World} (hn : n ≤ 9) (co : Nat) (hI : IntsAt w o m z) :
    Calls Tryd.prog 25 #[.slice o m co, .int .i64 n] w fun e w' => e = .returned (.bool (ordB n m z)) ∧ w = w' := by
  have hml := hI.1
  unfold maxLen at hml
  have HI := Lib.hid hI
  clear hI
  go_enter Tryd.func25, Tryd.ntmps25
  go_wp2_with fail
  go_loopw [5, 10] (fun f i wr => ∃ k : Nat, k ≤ m ∧ i = .int .i64 k ∧ f = .int .i64 (metO z k : Nat) ∧ (∀ i, i < k → okO n z i = true) ∧ w = wr) (fun _ i _ => m - (intOf i).toNat)
  case atStart => exact ⟨0, Nat.zero_le _, rfl, rfl, by omega, rfl⟩
  case round =>
    obtain ⟨k, hk, rfl, rfl, hok, rfl⟩ := hrel
    have HOK := Lib.hid hok
    have hmet := lt16 hn (metO_lt k hok)
    have HST : Hid (metO z (k + 1) = metO z k ||| 2 ^ (z k).toNat) := Lib.hid rfl
    clear hok
    by_cases hlt : k < m
    · obtain ⟨b, off, rfl, hb, hc⟩ := HI.out.2 (by omega)
      have ck := hc k hlt
      clear hc
      by_cases hr0 : 0 ≤ z k
      · by_cases hr1 : z k < n
        · have hin := inB_true hr0 hr1
          obtain ⟨s, hs⟩ : ∃ s : Nat, z k = s := ⟨(z k).toNat, by omega⟩
          have hsm : s < n := by omega
          have hs64 : s < 64 := by omega
          have hs16 : s < 16 := by omega
          have hps := pow_bd s hs16
          rw [hs] at ck hin
          rw [hs, Int.toNat_natCast] at HST
          have HMB : Hid (okO n z k = (true && !(metO z k).testBit s)) := Lib.hid (by unfold okO; rw [hs, hin, Int.toNat_natCast])
          clear hr0 hr1 hs
          generalize metO z k = M at *
          cases hq : M.testBit s
          · have HQ := Lib.hid (show okO n z k = true by rw [HMB.out, hq]; rfl)
            go_wp2_with fail
            go_roundw
            case rel => exact ⟨k + 1, by omega, by go_num, by rw [HST.out], fun i hi => by rcases Nat.lt_succ_iff_lt_or_eq.1 hi with h | h; exact HOK.out i h; rw [h]; exact HQ.out, by trivial⟩
            case measure => simp [intOf]; omega
          · have HQ := Lib.hid (show okO n z k = false by rw [HMB.out, hq]; rfl)
            go_wp2_with fail
            go_ret
            exact ⟨by rw [ordB_bad hlt HQ.out]; rfl, rfl⟩
        · have HQ := Lib.hid (show okO n z k = false by unfold okO; rw [inB_false (by omega)]; rfl)
          generalize z k = x at ck hr0 hr1
          go_wp2_with fail
          go_ret
          exact ⟨by rw [ordB_bad hlt HQ.out]; rfl, rfl⟩
      · have HQ := Lib.hid (show okO n z k = false by unfold okO; rw [inB_false (by omega)]; rfl)
        generalize z k = x at ck hr0
        go_wp2_with fail
        go_ret
        exact ⟨by rw [ordB_bad hlt HQ.out]; rfl, rfl⟩
    · have hke : k = m := by omega
      subst hke
      go_wp2_with fail
      go_ret
      refine ⟨?_, rfl⟩
      show Ending.returned (Value.bool ((k : Int) == (n : Int))) = _
      rw [cast_beq]
      by_cases hkn : k = n
      · subst hkn; rw [ordB_good HOK.out]; simp
      · rw [ordB_len hkn, beq_eq_false_iff_ne.2 hkn]


end Go.Proofs.YtgkpogaahndmoaaDoor
