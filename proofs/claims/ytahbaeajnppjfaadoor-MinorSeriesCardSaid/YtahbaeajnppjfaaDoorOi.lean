/- Package minor: the walk of MinorSeries. -/
import Derived.Test.YtahbaeajnppjfaaDoorOh
import Derived.Test.YtahbaeajnppjfaaDoorMx
namespace Go.Proofs.YtahbaeajnppjfaaDoor
set_option linter.unusedSimpArgs false
set_option linter.unusedVariables false
open Go.RowKit Go.Maps
attribute [local go_sem] i64_bit toNat_eq_one toNat_ne_one toNat_eq_zero toNat_ne_zero i64_and i64_or i64_andNot i64_or_pow i64_andNot_pow

set_option maxRecDepth 200000 in
set_option maxHeartbeats 4000000 in
theorem MinorSeries_walk (n : Nat) (z : Nat → Int) (v : Value) (w : World) (hA : SliceArg w v n z) (hz : InI64 z) (hTab : HasTab w) :
    Calls Tryd.prog 13 #[v] w (LawTrue w) := by
  obtain ⟨a, cap, rfl, hI⟩ := hA.ints
  have HA := Lib.hid hA
  have HZ := Lib.hid hz
  have HT := Lib.hid (Tab.of hTab)
  clear hA hI hz hTab
  cases hg : graphB n 8 z
  · have HGM : Hid (graphB (min n 12) 8 z = false) := Lib.hid (by rw [graphB_few]; exact hg)
    clear hg
    go_enter Tryd.func13, Tryd.ntmps13
    go_wp2_with fail
    go_at_call 16
    refine (Few_any n z _ _ HA.out).mono ?_
    rintro e w1 ⟨a1, c1, rfl, hi1, hb1⟩
    have HI1 := Lib.hid hi1
    have HB1 := Lib.hid hb1
    clear hi1 hb1
    go_wp2_with fail
    go_at_call 32
    refine (Reduce_no _ HI1.out HZ.out (HT.out.below HB1.out) HGM.out).mono ?_
    rintro e w2 ⟨rfl, hb2⟩
    have HB2 := Lib.hid (HB1.out.trans (hb2.mono HB1.out.size))
    clear hb2
    go_wp2_with fail
    go_at_call 16
    refine (Few_any n z _ _ (HA.out.below HB2.out)).mono ?_
    rintro e w3 ⟨a3, c3, rfl, hi3, hb3⟩
    have HI3 := Lib.hid hi3
    clear hi3
    have HB3 := Lib.hid (HB2.out.trans (hb3.mono HB2.out.size))
    clear hb3
    go_wp2_with fail
    go_at_call 43
    refine (Greatest_no _ HI3.out HZ.out (HT.out.below HB3.out) HGM.out).mono ?_
    rintro e w4 ⟨rfl, hb4⟩
    have HB4 := Lib.hid (HB3.out.trans (hb4.mono HB3.out.size))
    clear hb4
    go_wp2_with fail
    go_at_call 21
    refine (awake_any _ (HT.out.below HB4.out)).mono ?_
    rintro e w5 ⟨rfl, hb5⟩
    have HB5 := Lib.hid (HB4.out.trans (hb5.mono HB4.out.size))
    clear hb5
    go_wp2_with fail
    go_ret
    exact ⟨rfl, HB5.out⟩
  · have hn8 := graphB_le hg
    have HMN : Hid (min n 12 = n) := Lib.hid (by omega)
    have HG := Lib.hid hg
    have HKR : Hid (∀ w', Calls Tryd.prog 30 #[.int .i64 4] w' (MadePost w' 4 (kAll 4 4))) := Lib.hid fun w' => KR_any (n := 4) (by omega) (by omega) w'
    obtain ⟨W, hW⟩ : ∃ W, W = Wd.widthG n z := ⟨_, rfl⟩
    have HW := Lib.hid hW
    have hWb : W ≤ 8 := by rw [hW]; exact Nat.le_trans (rst_le (Nat.two_pow_pos _)) hn8.2.1
    cases hr : redG n (natG z) with
    | none =>
      obtain ⟨hw3, hf4⟩ := series_no hg hr
      rw [← hW] at hw3
      have HF4 := Lib.hid hf4
      have dw : decide ((W : Int) ≤ 2) = false := decide_eq_false (by omega)
      have dw2 : decide (W ≤ 2) = false := decide_eq_false (by omega)
      have HRD : Hid (∀ a1 c1 w', IntsAt w' a1 n z → Tab w' → Calls Tryd.prog 32 #[.slice a1 n c1] w' fun e w2 => ∃ v, e = .returned (.tuple #[v, .int .i64 4]) ∧ Below w'.heap.size w' w2) := Lib.hid fun a1 c1 w' h1 h2 => by
        have h := Reduce_yes c1 h1 HZ.out h2 hg
        rw [hr] at h
        exact h.mono fun _ _ ⟨v, k1, _, k3⟩ => ⟨v, k1, k3⟩
      clear hg hn8 hW hr hf4
      go_enter Tryd.func13, Tryd.ntmps13
      go_wp2_with fail
      go_at_call 16
      refine (Few_any n z _ _ HA.out).mono ?_
      rintro e w1 ⟨a1, c1, rfl, hi1, hb1⟩
      rw [HMN.out] at hi1
      rw [HMN.out]
      have HI1 := Lib.hid hi1
      have HB1 := Lib.hid hb1
      clear hi1 hb1
      go_wp2_with fail
      go_at_call 32
      refine (HRD.out _ _ _ HI1.out (HT.out.below HB1.out)).mono ?_
      rintro e w2 ⟨vr, rfl, hb2⟩
      have HB2 := Lib.hid (HB1.out.trans (hb2.mono HB1.out.size))
      clear hb2
      go_wp2_with fail
      go_at_call 30
      refine (HKR.out _).mono ?_
      rintro e w3 ⟨g3, rfl, hr3, _, hb3⟩
      rw [k_same 4 (by omega)] at hr3
      have HK3 := Lib.hid (row_ints hr3 (show (cmpL 4 4).length = 4 by simp [cmpL]) (by omega))
      clear hr3
      have HB3 := Lib.hid (HB2.out.trans (hb3.mono HB2.out.size))
      clear hb3
      go_wp2_with fail
      go_at_call 52
      refine (hasL_any 4 (HA.out.below HB3.out) HK3.out HZ.out (kz_i64 4 (by omega)) (HT.out.below HB3.out) HG.out (kz_graph 4 (by omega) (by omega))).mono ?_
      rintro e w4 ⟨rfl, hb4⟩
      rw [show (modG n 4 z (natL (cmpL 4 4))).isSome = true from HF4.out]
      have HB4 := Lib.hid (HB3.out.trans (hb4.mono HB3.out.size))
      clear hb4
      go_wp2_with fail
      go_at_call 16
      refine (Few_any n z _ _ (HA.out.below HB4.out)).mono ?_
      rintro e w5 ⟨a5, c5, rfl, hi5, hb5⟩
      rw [HMN.out] at hi5
      rw [HMN.out]
      have HI5 := Lib.hid hi5
      clear hi5
      have HB5 := Lib.hid (HB4.out.trans (hb5.mono HB4.out.size))
      clear hb5
      go_wp2_with fail
      go_at_call 53
      refine (Wd.Width_yes _ HI5.out HZ.out (graph_nine HG.out)).mono ?_
      rintro e w6 ⟨rfl, hb6⟩
      rw [← HW.out]
      have HB6 := Lib.hid (HB5.out.trans (hb6.mono HB5.out.size))
      clear hb6
      go_wp2_with fail
      go_at_call 21
      refine (awake_any _ (HT.out.below HB6.out)).mono ?_
      rintro e w7 ⟨rfl, hb7⟩
      have HB7 := Lib.hid (HB6.out.trans (hb7.mono HB6.out.size))
      clear hb7
      go_wp2_with fail
      go_ret
      exact ⟨rfl, HB7.out⟩
    | some L =>
      obtain ⟨hw2, hf4, hlen, hare⟩ := series_yes hg hr
      rw [← hW] at hw2
      have HF4 := Lib.hid hf4
      have HAR := Lib.hid hare
      have HLE := Lib.hid hlen
      have HL1 : Hid (L.length ≤ 1000) := Lib.hid (by omega)
      have dw : decide ((W : Int) ≤ 2) = true := decide_eq_true (by omega)
      have dw2 : decide (W ≤ 2) = true := decide_eq_true (by omega)
      have HRD : Hid (∀ a1 c1 w', IntsAt w' a1 n z → Tab w' → Calls Tryd.prog 32 #[.slice a1 n c1] w' fun e w2 => ∃ av cv, e = .returned (.tuple #[.slice av n cv, .int .i64 0]) ∧ StepsOwn 88 w2 w'.heap.size (.slice av n cv) L ∧ Below w'.heap.size w' w2) := Lib.hid fun a1 c1 w' h1 h2 => by
        have h := Reduce_yes c1 h1 HZ.out h2 hg
        rw [hr] at h
        exact h.mono fun _ _ ⟨v, k1, k2, k3⟩ => by
          have k2' : StepsOwn 88 _ w'.heap.size v L := k2
          obtain ⟨av, cv, e⟩ := own_form k2'
          rw [hlen] at e
          subst e
          exact ⟨av, cv, k1, k2', k3⟩
      clear hg hn8 hW hr hf4 hlen hare
      go_enter Tryd.func13, Tryd.ntmps13
      go_wp2_with fail
      go_at_call 16
      refine (Few_any n z _ _ HA.out).mono ?_
      rintro e w1 ⟨a1, c1, rfl, hi1, hb1⟩
      rw [HMN.out] at hi1
      rw [HMN.out]
      have HI1 := Lib.hid hi1
      have HB1 := Lib.hid hb1
      clear hi1 hb1
      go_wp2_with fail
      go_at_call 32
      refine (HRD.out _ _ _ HI1.out (HT.out.below HB1.out)).mono ?_
      rintro e w2 ⟨av, cv, rfl, hst, hb2⟩
      have HST := Lib.hid hst
      clear hst
      have HB2 := Lib.hid (HB1.out.trans (hb2.mono HB1.out.size))
      clear hb2
      go_wp2_with fail
      go_at_call 30
      refine (HKR.out _).mono ?_
      rintro e w3 ⟨g3, rfl, hr3, _, hb3⟩
      rw [k_same 4 (by omega)] at hr3
      have HK3 := Lib.hid (row_ints hr3 (show (cmpL 4 4).length = 4 by simp [cmpL]) (by omega))
      clear hr3
      have HC3 := Lib.hid hb3
      have HB3 := Lib.hid (HB2.out.trans (hb3.mono HB2.out.size))
      clear hb3
      go_wp2_with fail
      go_at_call 52
      refine (hasL_any 4 (HA.out.below HB3.out) HK3.out HZ.out (kz_i64 4 (by omega)) (HT.out.below HB3.out) HG.out (kz_graph 4 (by omega) (by omega))).mono ?_
      rintro e w4 ⟨rfl, hb4⟩
      rw [show (modG n 4 z (natL (cmpL 4 4))).isSome = false from HF4.out]
      have HC4 := Lib.hid (HC3.out.trans (hb4.mono HC3.out.size))
      have HB4 := Lib.hid (HB3.out.trans (hb4.mono HB3.out.size))
      clear hb4
      go_wp2_with fail
      go_at_call 16
      refine (Few_any n z _ _ (HA.out.below HB4.out)).mono ?_
      rintro e w5 ⟨a5, c5, rfl, hi5, hb5⟩
      rw [HMN.out] at hi5
      rw [HMN.out]
      have HI5 := Lib.hid hi5
      clear hi5
      have HC5 := Lib.hid (HC4.out.trans (hb5.mono HC4.out.size))
      have HB5 := Lib.hid (HB4.out.trans (hb5.mono HB4.out.size))
      clear hb5
      go_wp2_with fail
      go_at_call 53
      refine (Wd.Width_yes _ HI5.out HZ.out (graph_nine HG.out)).mono ?_
      rintro e w6 ⟨rfl, hb6⟩
      rw [← HW.out]
      have HC6 := Lib.hid (HC5.out.trans (hb6.mono HC5.out.size))
      have HB6 := Lib.hid (HB5.out.trans (hb6.mono HB5.out.size))
      clear hb6
      go_wp2_with fail
      go_at_call 16
      refine (Few_any n z _ _ (HA.out.below HB6.out)).mono ?_
      rintro e w7 ⟨a7, c7, rfl, hi7, hb7⟩
      rw [HMN.out] at hi7
      rw [HMN.out]
      have HI7 := Lib.hid hi7
      clear hi7
      have HC7 := Lib.hid (HC6.out.trans (hb7.mono HC6.out.size))
      have HB7 := Lib.hid (HB6.out.trans (hb7.mono HB6.out.size))
      clear hb7
      go_wp2_with fail
      go_at_call 33
      refine (CheckReduce_yes _ HI7.out HZ.out (HT.out.below HB7.out) HG.out (HST.out.below HC7.out) HL1.out).mono ?_
      rintro e w8 ⟨rfl, hb8⟩
      rw [HAR.out]
      have HB8 := Lib.hid (HB7.out.trans (hb8.mono HB7.out.size))
      clear hb8
      go_wp2_with fail
      go_at_call 21
      refine (awake_any _ (HT.out.below HB8.out)).mono ?_
      rintro e w9 ⟨rfl, hb9⟩
      have HB9 := Lib.hid (HB8.out.trans (hb9.mono HB8.out.size))
      clear hb9
      go_wp2_with fail
      go_ret
      exact ⟨rfl, HB9.out⟩

end Go.Proofs.YtahbaeajnppjfaaDoor
