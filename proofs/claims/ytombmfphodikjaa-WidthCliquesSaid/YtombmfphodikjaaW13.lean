/- The contracts of the reference's Size, Around, turn, rest. -/
import Derived.Test.YtombmfphodikjaaW7
import Derived.Deep.RegionHeld3
namespace Go.Proofs.Ytombmfphodikjaa
set_option linter.unusedSimpArgs false
set_option linter.unusedVariables false
open Go.RowKit Go.Maps
attribute [local go_sem] i64_bit toNat_eq_one toNat_ne_one toNat_eq_zero toNat_ne_zero i64_and i64_or i64_andNot i64_or_pow i64_andNot_pow

theorem szS_low : ∀ S, S < 512 → 0 < S → szS 9 (S &&& (S - 1)) + 1 = szS 9 S ∧ S &&& (S - 1) < S := by decide +kernel

set_option maxRecDepth 20000 in
set_option maxHeartbeats 2000000 in
theorem Size_any {n : Nat} (hn : n ≤ 9) (T : Nat) (hT : T < 2 ^ n) (w : World) :
    Calls Try.prog 54 #[.int .i64 T] w fun e w' => e = .returned (.int .i64 (szS n T : Nat)) ∧ w = w' := by
  have h9 : szS 9 T ≤ 9 := szS_le 9 T
  have HS := Lib.hid (szS_nine hn hT)
  have hT9 : T < 512 := by have := pow_le9 hn; omega
  clear hT
  go_enter Try.func54, Try.ntmps54
  go_wp2_with fail
  go_loopw [0, 3] (fun s c wr => ∃ S k, s = .int .i64 (S : Nat) ∧ c = .int .i64 (k : Nat) ∧ S < 512 ∧ k + szS 9 S = szS 9 T ∧ w = wr) (fun s _ _ => (intOf s).toNat)
  case atStart => exact ⟨T, 0, rfl, rfl, hT9, by omega, rfl⟩
  case round =>
    obtain ⟨S, k, rfl, rfl, hS, hk, rfl⟩ := hrel
    by_cases h0 : 0 < S
    · obtain ⟨l1, l2⟩ := szS_low S hS h0
      have hc : wrap64 ((S : Int) - 1) = ((S - 1 : Nat) : Int) := by
        rw [show ((S : Int) - 1) = ((S - 1 : Nat) : Int) by omega]
        exact IntWalk.wrap64_in _ ⟨by omega, by omega⟩
      have hb : bits .and .i64 (S : Int) ((S : Int) - 1) = ((S &&& (S - 1) : Nat) : Int) := by
        rw [show ((S : Int) - 1) = ((S - 1 : Nat) : Int) by omega, i64_and S (S - 1) (by omega) (by omega)]
      go_wp2_with fail
      go_roundw
      case rel => exact ⟨S &&& (S - 1), k + 1, by first | rfl | exact congrArg (Value.int .i64) hb, by go_num, by omega, by omega, by first | trivial | rfl⟩
      case measure => simpa [intOf, hb] using l2
    · have : S = 0 := by omega
      subst this
      go_wp2_with fail
      go_ret
      have h00 : szS 9 0 = 0 := by decide
      rw [h00] at hk
      have hk2 : k = szS n T := by rw [← HS.out]; omega
      subst hk2
      exact ⟨rfl, rfl⟩

set_option maxRecDepth 20000 in
set_option maxHeartbeats 2000000 in
theorem Around_any {n : Nat} {r : Nat → Nat} {a : Option Addr} {w : World} (G : GrAt w a n r) (cap s : Nat) (hs : s < 65536) :
    Calls Try.prog 68 #[.slice a n cap, .int .i64 s] w fun e w' => e = .returned (.int .i64 (nbTo r s n : Nat)) ∧ w' = w := by
  obtain ⟨hml, hI⟩ := G.ints
  obtain ⟨b, off, rfl, hlt, hc⟩ := hI G.pos
  have hn := G.small
  have hbd := G.bd
  unfold maxLen at hml
  clear hI
  go_enter Try.func68, Try.ntmps68
  go_wp2_with fail
  go_loopw [5, 9] (fun f i wr => ∃ j : Nat, j ≤ n ∧ i = .int .i64 j ∧ f = .int .i64 (nbTo r s j : Nat) ∧ wr = w) (fun _ i _ => n - (intOf i).toNat)
  case atStart => exact ⟨0, Nat.zero_le _, rfl, rfl, rfl⟩
  case round =>
    obtain ⟨j, hj, rfl, rfl, rfl⟩ := hrel
    have hfj : nbTo r s j < 65536 := nbTo_lt (m := 16) s hbd j hj
    by_cases hlj : j < n
    · have hrj := hbd j hlj
      have cj := hc j hlj
      have HST : Hid (nbTo r s (j + 1) = if s.testBit j then nbTo r s j ||| r j else nbTo r s j) := Lib.hid rfl
      have hj64 : j < 64 := by omega
      generalize nbTo r s j = f at *
      cases hq : s.testBit j
      all_goals
        go_wp2_with fail
        go_roundw
        case rel => exact ⟨j + 1, by omega, by go_num, by rw [HST.out, hq]; rfl, by trivial⟩
        case measure => simp [intOf]; omega
    · have : j = n := by omega
      subst this
      go_wp2_with fail
      go_ret
      exact ⟨rfl, rfl⟩

set_option maxRecDepth 20000 in
set_option maxHeartbeats 2000000 in
theorem turn_any {n : Nat} {r : Nat → Nat} {a : Option Addr} {w : World} (G : Gr w a n r) (cap gone v : Nat) (hv : v < n) (hg : gone < 2 ^ n) :
    Calls Try.prog 49 #[.slice a n cap, .int .i64 gone, .int .i64 v] w fun e w' => e = .returned (.int .i64 (tn n r gone v : Nat)) ∧ Below w.heap.size w w' := by
  have hle := G.le
  have hv16 : v < 16 := by omega
  have hpv := pow_bd v hv16
  have hg16 := lt16 hle hg
  have hor : gone ||| 2 ^ v < 2 ^ n := Nat.or_lt_two_pow hg (pow_lt_pow hv)
  have hor16 := lt16 hle hor
  have hP : partS n r (gone ||| 2 ^ v) v < 65536 := lt16 hle (partS_lt hv G.bd)
  have hlt := left_turn G.bd (gone := gone) hv
  have hll : leftS n r gone v < 2 ^ n := arnd_lt _ G.bd
  have hnb : nbTo r (partS n r (gone ||| 2 ^ v) v) n < 65536 := lt16 hle (nbTo_lt _ G.bd n (Nat.le_refl _))
  have HTN : Hid (szS n (leftS n r gone v) = tn n r gone v) := Lib.hid rfl
  have HG := Lib.hid G
  generalize hPP : partS n r (gone ||| 2 ^ v) v = P at *
  have HPP : Hid (metIn n r (gone ||| 2 ^ v) (2 ^ v) n = P) := Lib.hid hPP
  have har : ∀ w1, Gr w1 a n r → Calls Try.prog 68 #[.slice a n cap, .int .i64 (P : Nat)] w1 fun e w' => e = .returned (.int .i64 (nbTo r P n : Nat)) ∧ w' = w1 := fun w1 G1 => Around_any G1.at_ cap P hP
  generalize nbTo r P n = NB at *
  have HAR := Lib.hid har
  clear har
  have hd1 : diff NB gone < 65536 := diff_lt hnb
  have HLT := Lib.hid hlt
  have HLL := Lib.hid hll
  clear hPP hlt hll G
  go_enter Try.func49, Try.ntmps49
  go_wp2_with (go_at_call 67; refine (Reached_any HG.out.at_ cap (gone ||| 2 ^ v) v _ _ rfl rfl hor16 hv).mono ?_; rintro e w1 ⟨rfl, hb1⟩; rw [HPP.out]; have HB1 := Lib.hid hb1; have HG1 := Lib.hid (HG.out.below hb1); clear hb1)
  have w1' : IntKind.i64.wrap ((2 : Int) ^ v) = 2 ^ v := IntWalk.i64_in _ (by omega)
  have w2' : wrap64 ((2 : Int) ^ v) = 2 ^ v := IntWalk.wrap64_in _ (by omega)
  have HD : Hid (diff (diff NB gone) (2 ^ v) = leftS n r gone v) := HLT
  have HLL2 : Hid (diff (diff NB gone) (2 ^ v) < 2 ^ n) := Lib.hid (by rw [HD.out]; exact HLL.out)
  have hS : ∀ w, Calls Try.prog 54 #[.int .i64 (diff (diff NB gone) (2 ^ v) : Nat)] w fun e w' => e = .returned (.int .i64 (tn n r gone v : Nat)) ∧ w' = w := fun w =>
    (Size_any hle _ HLL2.out w).mono fun e w' ⟨he, hw⟩ => ⟨by rw [he, HD.out, HTN.out], hw.symm⟩
  go_wp2_with fail
  go_quiet (first
    | (go_at_call 68; exact Calls.quiet_of_same (HAR.out _ (HG1.out.below (below_drewN (Below.refl _ _) _))))
    | (go_at_call 54; exact Calls.quiet_of_same (hS _)))
  go_wp2_with fail
  go_ret
  exact ⟨rfl, below_drewN HB1.out _⟩

end Go.Proofs.Ytombmfphodikjaa
