/- The contracts of the reference's IsOrder, IsNumber, Double and Number. -/
import Derived.Test.YtcpdedgmhpehiaaDoorEt3
import Derived.Deep.RegionLaw
namespace Go.Proofs.YtcpdedgmhpehiaaDoor
set_option linter.unusedSimpArgs false
set_option linter.unusedVariables false
open Go.RowKit Go.Maps
attribute [local go_sem] i64_bit toNat_eq_one toNat_ne_one toNat_eq_zero toNat_ne_zero i64_and i64_or i64_andNot i64_or_pow i64_andNot_pow

theorem lt16e {n s : Nat} (hn : n ≤ 10) (h : s < 2 ^ n) : s < 65536 := by
  have : 2 ^ n ≤ 2 ^ 10 := Nat.pow_le_pow_right (by omega) hn
  omega


theorem allR_q (a : Option Addr) (n cap : Nat) (w : World) (hn : n < 16) :
    Calls Tryd.prog 60 #[.slice a n cap] w fun e w' => e = .returned (.int .i64 (2 ^ n - 1 : Nat)) ∧ w' = w := (allR_any a n cap w hn).mono fun _ _ ⟨h1, h2⟩ => ⟨h1, h2.symm⟩


set_option maxRecDepth 20000 in
set_option maxHeartbeats 4000000 in
theorem DoubleR_any {n : Nat} {r : Nat → Nat} {ad : Option Addr} {w : World} (G : GrAt w ad n r) (hP : Pl n r) (cap : Nat) :
    Calls Tryd.prog 25 #[.slice ad n cap] w fun e w' => e = .returned (.bool (doubleB n r)) ∧ Below w.heap.size w w' := by
  have hpos := G.pos
  have hn10 := hP.le
  have hn16 : n < 16 := by omega
  have h10 := pow_le10 hn10
  have HG := Lib.hid G
  have HPL := Lib.hid hP
  have HX : Hid (doubleB n r = (decide (3 ≤ n) && connN n r ((2 ^ n - 1 : Nat) : Int) && cutsRTo n r (2 ^ n - 1) n == 0)) := Lib.hid (by unfold doubleB; rw [cuts_same hP n (Nat.le_refl _)])
  have hml := G.ints.1
  unfold maxLen at hml
  clear G hP
  by_cases h3 : 3 ≤ n
  rotate_left
  · have d1 : decide ((3 : Int) ≤ (n : Int)) = false := by simp; omega
    rw [decide_eq_false h3, Bool.false_and, Bool.false_and] at HX
    go_enter Tryd.func25, Tryd.ntmps25
    go_wp2_with fail
    go_ret
    exact ⟨by rw [HX.out]; rfl, Below.refl _ _⟩
  · have d1 : decide ((3 : Int) ≤ (n : Int)) = true := by simp; omega
    rw [decide_eq_true h3, Bool.true_and] at HX
    have hall0 : 0 < 2 ^ n - 1 := by
      have : 2 ^ 1 ≤ 2 ^ n := Nat.pow_le_pow_right (by omega) (by omega)
      omega
    cases hc : connN n r ((2 ^ n - 1 : Nat) : Int)
    · have HC := Lib.hid hc
      rw [hc, Bool.false_and] at HX
      clear hc
      go_enter Tryd.func25, Tryd.ntmps25
      go_wp2_with (first
        | (go_at_call 60; refine (allR_any _ _ _ _ hn16).mono ?_; rintro e w1 ⟨rfl, rfl⟩)
        | (go_at_call 61; refine (ConnectedR_any HG.out hn10 cap _ hall0 (by omega)).mono ?_; rintro e w2 ⟨rfl, hb2⟩; rw [HC.out]; have HB2 := Lib.hid hb2; clear hb2))
      go_ret
      exact ⟨by rw [HX.out]; rfl, HB2.out⟩
    · have HC := Lib.hid hc
      rw [hc, Bool.true_and] at HX
      clear hc
      go_enter Tryd.func25, Tryd.ntmps25
      go_wp2_with (first
        | (go_at_call 60; refine (allR_any _ _ _ _ hn16).mono ?_; rintro e w1 ⟨rfl, rfl⟩)
        | (go_at_call 61; refine (ConnectedR_any HG.out hn10 cap _ hall0 (by omega)).mono ?_; rintro e w2 ⟨rfl, hb2⟩; rw [HC.out]; have HB2 := Lib.hid hb2; clear hb2)
        | (go_at_call 69; refine (CutsR_any (HG.out.below HB2.out) hn10 HPL.out.bd cap).mono ?_; rintro e w3 ⟨rfl, hb3⟩; have HB3 := Lib.hid (HB2.out.trans (hb3.mono HB2.out.size)); clear hb3))
      go_ret
      refine ⟨?_, HB3.out⟩
      rw [HX.out, ← cast_beq0]
      rfl

end Go.Proofs.YtcpdedgmhpehiaaDoor
