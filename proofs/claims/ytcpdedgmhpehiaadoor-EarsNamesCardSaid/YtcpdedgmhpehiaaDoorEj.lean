/- The contracts of package ears' isConnected and isDouble. -/
import Derived.Test.YtcpdedgmhpehiaaDoorEh
import Derived.Test.YtcpdedgmhpehiaaDoorEt2
namespace Go.Proofs.YtcpdedgmhpehiaaDoor
set_option linter.unusedSimpArgs false
set_option linter.unusedVariables false
open Go.RowKit Go.Maps
attribute [local go_sem] i64_bit toNat_eq_one toNat_ne_one toNat_eq_zero toNat_ne_zero i64_and i64_or i64_andNot i64_or_pow i64_andNot_pow

/-- Whether a set is connected, as the program asks it: the empty one is. -/
def conB (n : Nat) (r : Nat → Nat) (s : Nat) : Bool := s == 0 || partS n r s (lowN s) == s

set_option maxRecDepth 20000 in
set_option maxHeartbeats 4000000 in
theorem isConnected_any {n : Nat} {r : Nat → Nat} {ad : Option Addr} {w : World} (G : GrAt w ad n r) (hn10 : n ≤ 10) (hr : ∀ i, i < n → r i < 2 ^ n) (cap s : Nat) (hs : s < 2 ^ n) (hT : Tab w) :
    Calls Tryd.prog 98 #[.slice ad n cap, .int .i64 s] w fun e w' => e = .returned (.bool (conB n r s)) ∧ Below w.heap.size w w' := by
  have h10 := pow_le10 hn10
  have HX : Hid (conB n r s = (s == 0 || partS n r s (lowN s) == s)) := Lib.hid rfl
  by_cases h0 : s = 0
  · subst h0
    have hz : (((0 : Nat) : Int) == 0) = true := rfl
    clear G hr hT
    go_enter Tryd.func98, Tryd.ntmps98
    go_wp2_with fail
    go_ret
    exact ⟨by rw [HX.out]; rfl, Below.refl _ _⟩
  · have hs0 : 0 < s := by omega
    have hs10 : s < 1024 := by omega
    have hne : ((s : Int) == 0) = false := by rw [beq_eq_false_iff_ne]; omega
    have hlo := lowN_lt hn10 hs0 hs
    have hFS : ∀ u : BelowW w.heap.size w, Calls Tryd.prog 125 #[.int .i64 s] u.w fun e w' => e = .returned (.int .i64 (lowN s : Nat)) ∧ Below u.w.heap.size u.w w' := fun u => (first_any s hs10 hs0 _ (hT.below u.h)).mono fun _ _ ⟨h1, h2⟩ => ⟨h1, by subst h2; exact Below.refl _ _⟩
    have hCL : ∀ u : BelowW w.heap.size w, Calls Tryd.prog 107 #[.slice ad n cap, .int .i64 (lowN s : Nat), .int .i64 s] u.w fun e w' => e = .returned (.int .i64 (partS n r s (lowN s) : Nat)) ∧ Below u.w.heap.size u.w w' := fun u => reach_any (G.below u.h) hn10 hr cap _ _ hlo hs (hT.below u.h)
    have HFS := Lib.hid hFS
    have HCL := Lib.hid hCL
    generalize partS n r s (lowN s) = X at *
    generalize lowN s = lo at *
    clear hFS hCL G hr hT
    go_enter Tryd.func98, Tryd.ntmps98
    go_wp2_with (first
      | (go_at_call 125; refine (HFS.out ⟨w, Below.refl _ _⟩).mono ?_; rintro e w1 ⟨rfl, hb1⟩; have HB1 := Lib.hid hb1; clear hb1)
      | (go_at_call 107; refine (HCL.out ⟨w1, HB1.out⟩).mono ?_; rintro e w2 ⟨rfl, hb2⟩; have HB2 := Lib.hid (HB1.out.trans (hb2.mono HB1.out.size)); clear hb2))
    go_ret
    refine ⟨?_, HB2.out⟩
    rw [HX.out, show (s == 0) = false from beq_eq_false_iff_ne.2 h0, Bool.false_or, ← cast_beq]
    rfl

theorem conB_all {n : Nat} {r : Nat → Nat} (hn : 1 ≤ n) : conB n r (2 ^ n - 1) = connN n r ((2 ^ n - 1 : Nat) : Int) := by
  have h2 : 2 ^ 1 ≤ 2 ^ n := Nat.pow_le_pow_right (by omega) hn
  rw [connN_nat (by omega) (by omega)]
  unfold conB
  rw [show (2 ^ n - 1 == 0) = false from beq_eq_false_iff_ne.2 (by omega)]; rfl

set_option maxRecDepth 20000 in
set_option maxHeartbeats 4000000 in
theorem isDouble_any {n : Nat} {r : Nat → Nat} {ad : Option Addr} {w : World} (G : GrAt w ad n r) (hn10 : n ≤ 10) (hr : ∀ i, i < n → r i < 2 ^ n) (cap : Nat) (hT : Tab w) :
    Calls Tryd.prog 63 #[.slice ad n cap] w fun e w' => e = .returned (.bool (doubleB n r)) ∧ Below w.heap.size w w' := by
  have hpos := G.pos
  have hn16 : n < 16 := by omega
  have h10 := pow_le10 hn10
  have hp2 := Nat.two_pow_pos n
  have HG := Lib.hid G
  have HR := Lib.hid hr
  have HT := Lib.hid hT
  have HX : Hid (doubleB n r = (decide (3 ≤ n) && conB n r (2 ^ n - 1) && cutsTo n r n == 0)) := Lib.hid (by rw [conB_all hpos]; rfl)
  have hml := G.ints.1
  unfold maxLen at hml
  clear G hr hT
  by_cases h3 : 3 ≤ n
  rotate_left
  · have d1 : decide ((3 : Int) ≤ (n : Int)) = false := by simp; omega
    rw [decide_eq_false h3, Bool.false_and, Bool.false_and] at HX
    go_enter Tryd.func63, Tryd.ntmps63
    go_wp2_with fail
    go_ret
    exact ⟨by rw [HX.out]; rfl, Below.refl _ _⟩
  · have d1 : decide ((3 : Int) ≤ (n : Int)) = true := by simp; omega
    rw [decide_eq_true h3, Bool.true_and] at HX
    cases hc : conB n r (2 ^ n - 1)
    · have HC := Lib.hid hc
      rw [hc, Bool.false_and] at HX
      clear hc
      go_enter Tryd.func63, Tryd.ntmps63
      go_wp2_with (first
        | (go_at_call 89; refine (all_any _ _ _ _ hn16).mono ?_; rintro e w1 ⟨rfl, rfl⟩)
        | (go_at_call 98; refine (isConnected_any HG.out hn10 HR.out cap _ (by omega) HT.out).mono ?_; rintro e w2 ⟨rfl, hb2⟩; rw [HC.out]; have HB2 := Lib.hid hb2; clear hb2))
      go_ret
      exact ⟨by rw [HX.out]; rfl, HB2.out⟩
    · have HC := Lib.hid hc
      rw [hc, Bool.true_and] at HX
      clear hc
      go_enter Tryd.func63, Tryd.ntmps63
      go_wp2_with (first
        | (go_at_call 89; refine (all_any _ _ _ _ hn16).mono ?_; rintro e w1 ⟨rfl, rfl⟩)
        | (go_at_call 98; refine (isConnected_any HG.out hn10 HR.out cap _ (by omega) HT.out).mono ?_; rintro e w2 ⟨rfl, hb2⟩; rw [HC.out]; have HB2 := Lib.hid hb2; clear hb2)
        | (go_at_call 80; refine (cuts_any (HG.out.below HB2.out) hn10 HR.out cap (HT.out.below HB2.out)).mono ?_; rintro e w3 ⟨rfl, hb3⟩; have HB3 := Lib.hid (HB2.out.trans (hb3.mono HB2.out.size)); clear hb3))
      go_ret
      refine ⟨?_, HB3.out⟩
      rw [HX.out, ← cast_beq0]
      rfl

end Go.Proofs.YtcpdedgmhpehiaaDoor
