/- Package minor: the walk of MinorModels. -/
import Derived.Test.YtjhodfabomhdaaaDoorNa
namespace Go.Proofs.YtjhodfabomhdaaaDoor
set_option linter.unusedSimpArgs false
set_option linter.unusedVariables false
open Go.RowKit Go.Maps
attribute [local go_sem] i64_bit toNat_eq_one toNat_ne_one toNat_eq_zero toNat_ne_zero i64_and i64_or i64_andNot i64_or_pow i64_andNot_pow

theorem graphB_few6 {n : Nat} {z : Nat → Int} : graphB (min n 12) 6 z = graphB n 6 z := by
  by_cases h : n ≤ 12
  · rw [Nat.min_eq_left h]
  · rw [Nat.min_eq_right (by omega), graphB_no (Or.inr (by omega)), graphB_no (Or.inr (by omega))]
theorem isM_few {n q m : Nat} {r pr : Nat → Nat} {y : Nat → Int} (hq : q ≤ 6) : isM n q r pr (min m 12) y = isM n q r pr m y := by
  by_cases h : m ≤ 12
  · rw [Nat.min_eq_left h]
  · unfold isM
    rw [decide_eq_false (show ¬ min m 12 = q by omega), decide_eq_false (show ¬ m = q by omega)]
    rfl

set_option maxRecDepth 200000 in
set_option maxHeartbeats 8000000 in
theorem MinorModels_walk (n : Nat) (z : Nat → Int) (v : Value) (q : Nat) (y : Nat → Int) (u : Value) (m : Nat) (x : Nat → Int) (s : Value) (w : World) (hA : SliceArg w v n z) (hz : InI64 z) (hB : SliceArg w u q y) (hy : InI64 y) (hC : SliceArg w s m x) (hTab : HasTab w) :
    Calls Tryd.prog 3 #[v, u, s] w (LawTrue w) := by
  obtain ⟨a, cap, rfl, hI⟩ := hA.ints
  obtain ⟨b, cap2, rfl, hJ⟩ := hB.ints
  obtain ⟨d, cap3, rfl, hK⟩ := hC.ints
  have HA := Lib.hid hA
  have HB := Lib.hid hB
  have HC := Lib.hid hC
  have HI0 := Lib.hid hI
  have HJ0 := Lib.hid hJ
  have HK0 := Lib.hid hK
  have HZ := Lib.hid hz
  have HY := Lib.hid hy
  have HT := Lib.hid (Tab.of hTab)
  clear hA hI hz hTab hB hJ hy hC hK
  cases hg : graphB n 8 z
  · have HG := Lib.hid hg
    have HPM : Hid (pairB (min n 12) (min q 12) z y = false) := Lib.hid (by unfold pairB; rw [graphB_few, hg]; rfl)
    clear hg
    go_enter Tryd.func3, Tryd.ntmps3
    go_wp2_with fail
    go_at_call 12
    refine (Few_any n z _ _ HA.out).mono ?_
    rintro e w1 ⟨a1, c1, rfl, hi1, hb1⟩
    have HB1 := Lib.hid hb1
    have HI1 := Lib.hid hi1
    clear hb1 hi1
    go_wp2_with fail
    go_at_call 12
    refine (Few_any q y _ _ (HB.out.below HB1.out)).mono ?_
    rintro e w2 ⟨a2, c2, rfl, hi2, hb2⟩
    have HI2 := Lib.hid (HI1.out.below hb2)
    have HJ2 := Lib.hid hi2
    clear hi2 HI1
    have HB2 := Lib.hid (HB1.out.trans (hb2.mono HB1.out.size))
    clear hb2
    go_wp2_with fail
    go_at_call 11
    refine (Model_no _ _ HI2.out HJ2.out HZ.out HY.out (HT.out.below HB2.out) HPM.out).mono ?_
    rintro e w3 ⟨rfl, hb3⟩
    have HB3 := Lib.hid (HB2.out.trans (hb3.mono HB2.out.size))
    clear hb3
    go_wp2_with fail
    go_at_call 12
    refine (Few_any n z _ _ (HA.out.below HB3.out)).mono ?_
    rintro e w4 ⟨a4, c4, rfl, hi4, hb4⟩
    have HI4 := Lib.hid hi4
    clear hi4
    have HB4 := Lib.hid (HB3.out.trans (hb4.mono HB3.out.size))
    clear hb4
    go_wp2_with fail
    go_at_call 12
    refine (Few_any q y _ _ (HB.out.below HB4.out)).mono ?_
    rintro e w5 ⟨a5, c5, rfl, hi5, hb5⟩
    have HI5 := Lib.hid (HI4.out.below hb5)
    have HJ5 := Lib.hid hi5
    clear hi5 HI4
    have HB5 := Lib.hid (HB4.out.trans (hb5.mono HB4.out.size))
    clear hb5
    go_wp2_with fail
    go_at_call 14
    refine (ListC_any m x _ _ (HC.out.below HB5.out)).mono ?_
    rintro e w6 ⟨a6, c6, rfl, hcl6, hi6, hb6⟩
    have HI6 := Lib.hid (HI5.out.below hb6)
    have HJ6 := Lib.hid (HJ5.out.below hb6)
    have HK6 := Lib.hid hi6
    clear hi6 HI5 HJ5
    have HB6 := Lib.hid (HB5.out.trans (hb6.mono HB5.out.size))
    clear hb6
    go_wp2_with fail
    go_at_call 13
    refine (Check_no _ _ _ HI6.out HJ6.out HZ.out HY.out (HT.out.below HB6.out) HPM.out).mono ?_
    rintro e w7 ⟨rfl, hb7⟩
    have HB7 := Lib.hid (HB6.out.trans (hb7.mono HB6.out.size))
    clear hb7
    go_wp2_with fail
    go_at_call 15
    refine (ValidR_any n z _ _ _ (HI0.out.below HB7.out) HZ.out).mono ?_
    rintro e w8 ⟨rfl, hb8⟩
    rw [HG.out]
    have HB8 := Lib.hid (HB7.out.trans (hb8.mono HB7.out.size))
    clear hb8
    go_wp2_with fail
    go_at_call 17
    refine (awake_any _ (HT.out.below HB8.out)).mono ?_
    rintro e w9 ⟨rfl, hb9⟩
    have HB9 := Lib.hid (HB8.out.trans (hb9.mono HB8.out.size))
    clear hb9
    go_wp2_with fail
    go_ret
    exact ⟨rfl, HB9.out⟩
  cases hp : graphB q 6 y
  · have HG := Lib.hid hg
    have HP := Lib.hid hp
    have HPM : Hid (pairB (min n 12) (min q 12) z y = false) := Lib.hid (by unfold pairB; rw [graphB_few, graphB_few6, hg, hp]; rfl)
    clear hg hp
    go_enter Tryd.func3, Tryd.ntmps3
    go_wp2_with fail
    go_at_call 12
    refine (Few_any n z _ _ HA.out).mono ?_
    rintro e w1 ⟨a1, c1, rfl, hi1, hb1⟩
    have HB1 := Lib.hid hb1
    have HI1 := Lib.hid hi1
    clear hb1 hi1
    go_wp2_with fail
    go_at_call 12
    refine (Few_any q y _ _ (HB.out.below HB1.out)).mono ?_
    rintro e w2 ⟨a2, c2, rfl, hi2, hb2⟩
    have HI2 := Lib.hid (HI1.out.below hb2)
    have HJ2 := Lib.hid hi2
    clear hi2 HI1
    have HB2 := Lib.hid (HB1.out.trans (hb2.mono HB1.out.size))
    clear hb2
    go_wp2_with fail
    go_at_call 11
    refine (Model_no _ _ HI2.out HJ2.out HZ.out HY.out (HT.out.below HB2.out) HPM.out).mono ?_
    rintro e w3 ⟨rfl, hb3⟩
    have HB3 := Lib.hid (HB2.out.trans (hb3.mono HB2.out.size))
    clear hb3
    go_wp2_with fail
    go_at_call 12
    refine (Few_any n z _ _ (HA.out.below HB3.out)).mono ?_
    rintro e w4 ⟨a4, c4, rfl, hi4, hb4⟩
    have HI4 := Lib.hid hi4
    clear hi4
    have HB4 := Lib.hid (HB3.out.trans (hb4.mono HB3.out.size))
    clear hb4
    go_wp2_with fail
    go_at_call 12
    refine (Few_any q y _ _ (HB.out.below HB4.out)).mono ?_
    rintro e w5 ⟨a5, c5, rfl, hi5, hb5⟩
    have HI5 := Lib.hid (HI4.out.below hb5)
    have HJ5 := Lib.hid hi5
    clear hi5 HI4
    have HB5 := Lib.hid (HB4.out.trans (hb5.mono HB4.out.size))
    clear hb5
    go_wp2_with fail
    go_at_call 14
    refine (ListC_any m x _ _ (HC.out.below HB5.out)).mono ?_
    rintro e w6 ⟨a6, c6, rfl, hcl6, hi6, hb6⟩
    have HI6 := Lib.hid (HI5.out.below hb6)
    have HJ6 := Lib.hid (HJ5.out.below hb6)
    have HK6 := Lib.hid hi6
    clear hi6 HI5 HJ5
    have HB6 := Lib.hid (HB5.out.trans (hb6.mono HB5.out.size))
    clear hb6
    go_wp2_with fail
    go_at_call 13
    refine (Check_no _ _ _ HI6.out HJ6.out HZ.out HY.out (HT.out.below HB6.out) HPM.out).mono ?_
    rintro e w7 ⟨rfl, hb7⟩
    have HB7 := Lib.hid (HB6.out.trans (hb7.mono HB6.out.size))
    clear hb7
    go_wp2_with fail
    go_at_call 15
    refine (ValidR_any n z _ _ _ (HI0.out.below HB7.out) HZ.out).mono ?_
    rintro e w8 ⟨rfl, hb8⟩
    rw [HG.out]
    have HB8 := Lib.hid (HB7.out.trans (hb8.mono HB7.out.size))
    clear hb8
    go_wp2_with fail
    go_at_call 16
    refine (PatternR_any q y _ _ _ (HJ0.out.below HB8.out) HY.out).mono ?_
    rintro e w9 ⟨rfl, hb9⟩
    rw [HP.out]
    have HB9 := Lib.hid (HB8.out.trans (hb9.mono HB8.out.size))
    clear hb9
    go_wp2_with fail
    go_at_call 17
    refine (awake_any _ (HT.out.below HB9.out)).mono ?_
    rintro e w10 ⟨rfl, hb10⟩
    have HB10 := Lib.hid (HB9.out.trans (hb10.mono HB9.out.size))
    clear hb10
    go_wp2_with fail
    go_ret
    exact ⟨rfl, HB10.out⟩
  obtain ⟨hn1, hn8, _⟩ := graphB_le hg
  obtain ⟨hq1, hq6, _⟩ := graphB_le hp
  have HMN : Hid (min n 12 = n) := Lib.hid (by omega)
  have HMQ : Hid (min q 12 = q) := Lib.hid (by omega)
  have HG := Lib.hid hg
  have HP := Lib.hid hp
  have HTN := Lib.hid (Tn.of_graph HI0.out hg)
  have HTQ := Lib.hid (Tn.of_graph HJ0.out (graph_eight hp))
  clear hg hp
  cases hres : refM n q (natG z) (natG y) with
  | none =>
    have HRES := Lib.hid hres
    have HLEN : Hid (((none : Option (List Nat)).getD []).length ≤ 65536) := Lib.hid (by simp)
    clear hres
    go_enter Tryd.func3, Tryd.ntmps3
    go_wp2_with fail
    go_at_call 12
    refine (Few_any n z _ _ HA.out).mono ?_
    rintro e w1 ⟨a1, c1, rfl, hi1, hb1⟩
    rw [HMN.out] at hi1
    rw [HMN.out]
    have HB1 := Lib.hid hb1
    have HI1 := Lib.hid hi1
    clear hb1 hi1
    go_wp2_with fail
    go_at_call 12
    refine (Few_any q y _ _ (HB.out.below HB1.out)).mono ?_
    rintro e w2 ⟨a2, c2, rfl, hi2, hb2⟩
    rw [HMQ.out] at hi2
    rw [HMQ.out]
    have HI2 := Lib.hid (HI1.out.below hb2)
    have HJ2 := Lib.hid hi2
    clear hi2 HI1
    have HB2 := Lib.hid (HB1.out.trans (hb2.mono HB1.out.size))
    clear hb2
    have HMY := Lib.hid (Model_yes c1 c2 HI2.out HJ2.out HZ.out HY.out (HT.out.below HB2.out) HG.out HP.out)
    rw [mod_ref HG.out HP.out, HRES.out] at HMY
    go_wp2_with fail
    go_at_call 11
    refine HMY.out.mono ?_
    clear HMY
    rintro e w3 ⟨v3, rfl, ho3, hb3⟩
    obtain ⟨a3, c3, rfl, hl3⟩ := IntsOwn.at_ ho3 HLEN.out
    have HL3 := Lib.hid hl3
    clear ho3 hl3
    have HB3 := Lib.hid (HB2.out.trans (hb3.mono HB2.out.size))
    clear hb3
    go_wp2_with fail
    go_at_call 12
    refine (Few_any n z _ _ (HA.out.below HB3.out)).mono ?_
    rintro e w4 ⟨a4, c4, rfl, hi4, hb4⟩
    rw [HMN.out] at hi4
    rw [HMN.out]
    have HI4 := Lib.hid hi4
    clear hi4
    have HL4 := Lib.hid (HL3.out.below hb4)
    clear HL3
    have HB4 := Lib.hid (HB3.out.trans (hb4.mono HB3.out.size))
    clear hb4
    go_wp2_with fail
    go_at_call 12
    refine (Few_any q y _ _ (HB.out.below HB4.out)).mono ?_
    rintro e w5 ⟨a5, c5, rfl, hi5, hb5⟩
    rw [HMQ.out] at hi5
    rw [HMQ.out]
    have HI5 := Lib.hid (HI4.out.below hb5)
    have HJ5 := Lib.hid hi5
    clear hi5 HI4
    have HL5 := Lib.hid (HL4.out.below hb5)
    clear HL4
    have HB5 := Lib.hid (HB4.out.trans (hb5.mono HB4.out.size))
    clear hb5
    go_wp2_with fail
    go_at_call 14
    refine (ListC_any m x _ _ (HC.out.below HB5.out)).mono ?_
    rintro e w6 ⟨a6, c6, rfl, hcl6, hi6, hb6⟩
    have HI6 := Lib.hid (HI5.out.below hb6)
    have HJ6 := Lib.hid (HJ5.out.below hb6)
    have HK6 := Lib.hid hi6
    clear hi6 HI5 HJ5
    have HL6 := Lib.hid (HL5.out.below hb6)
    clear HL5
    have HB6 := Lib.hid (HB5.out.trans (hb6.mono HB5.out.size))
    clear hb6
    have HCK := Lib.hid (Check_yes c4 c5 c6 HI6.out HJ6.out HZ.out HY.out (HT.out.below HB6.out) HG.out HP.out HK6.out hcl6)
    rw [isM_few hq6] at HCK
    go_wp2_with fail
    go_at_call 13
    refine (HCK.out).mono ?_
    rintro e w7 ⟨rfl, hb7⟩
    have HL7 := Lib.hid (HL6.out.below hb7)
    clear HL6 HCK
    have HB7 := Lib.hid (HB6.out.trans (hb7.mono HB6.out.size))
    clear hb7
    go_wp2_with fail
    go_at_call 15
    refine (ValidR_any n z _ _ _ (HI0.out.below HB7.out) HZ.out).mono ?_
    rintro e w8 ⟨rfl, hb8⟩
    rw [HG.out]
    have HL8 := Lib.hid (HL7.out.below hb8)
    clear HL7
    have HB8 := Lib.hid (HB7.out.trans (hb8.mono HB7.out.size))
    clear hb8
    go_wp2_with fail
    go_at_call 16
    refine (PatternR_any q y _ _ _ (HJ0.out.below HB8.out) HY.out).mono ?_
    rintro e w9 ⟨rfl, hb9⟩
    rw [HP.out]
    have HL9 := Lib.hid (HL8.out.below hb9)
    clear HL8
    have HB9 := Lib.hid (HB8.out.trans (hb9.mono HB8.out.size))
    clear hb9
    have HRM := Lib.hid (ModelR_any (HTN.out.below HB9.out) (HTQ.out.below HB9.out) hq6 cap cap2)
    rw [HRES.out] at HRM
    go_wp2_with fail
    go_at_call 18
    refine HRM.out.mono ?_
    clear HRM
    rintro e w10 ⟨hb10, hp10⟩
    have HL10 := Lib.hid (HL9.out.below hb10)
    clear HL9
    have HB10 := Lib.hid (HB9.out.trans (hb10.mono HB9.out.size))
    clear hb10
    subst hp10
    have HL := Lib.hid HL10.out
    go_wp2_with fail
    go_at_call 19
    refine (EqualI_true c3 0 HL10.out (ints_nil w10)).mono ?_
    rintro e w11 ⟨rfl, hb11⟩
    have HB11 := Lib.hid (HB10.out.trans (hb11.mono HB10.out.size))
    clear hb11
    have hbe : ((isM n q (natG z) (natG y) m x) == (isM n q (natG z) (natG y) m x)) = true := by simp
    go_wp2_with fail
    go_at_call 20
    refine (IsModelR_any (HTN.out.below HB11.out) (HTQ.out.below HB11.out) cap cap2 cap3 (HK0.out.below HB11.out)).mono ?_
    rintro e w12 ⟨rfl, hb12⟩
    have HB12 := Lib.hid (HB11.out.trans (hb12.mono HB11.out.size))
    clear hb12
    generalize isM n q (natG z) (natG y) m x = im at *
    go_wp2_with fail
    go_at_call 17
    refine (awake_any _ (HT.out.below HB12.out)).mono ?_
    rintro e w13 ⟨rfl, hb13⟩
    have HB13 := Lib.hid (HB12.out.trans (hb13.mono HB12.out.size))
    clear hb13
    go_wp2_with fail
    go_ret
    exact ⟨rfl, HB13.out⟩
  | some L =>
    have HRES := Lib.hid hres
    have HLEN : Hid (((some L).getD []).length ≤ 65536) := Lib.hid (by
      have := (refM_model hres hn8 HTN.out.bd (g_sym HG.out) (g_sym HP.out) (g_loop HP.out)).1
      show L.length ≤ 65536
      omega)
    clear hres
    go_enter Tryd.func3, Tryd.ntmps3
    go_wp2_with fail
    go_at_call 12
    refine (Few_any n z _ _ HA.out).mono ?_
    rintro e w1 ⟨a1, c1, rfl, hi1, hb1⟩
    rw [HMN.out] at hi1
    rw [HMN.out]
    have HB1 := Lib.hid hb1
    have HI1 := Lib.hid hi1
    clear hb1 hi1
    go_wp2_with fail
    go_at_call 12
    refine (Few_any q y _ _ (HB.out.below HB1.out)).mono ?_
    rintro e w2 ⟨a2, c2, rfl, hi2, hb2⟩
    rw [HMQ.out] at hi2
    rw [HMQ.out]
    have HI2 := Lib.hid (HI1.out.below hb2)
    have HJ2 := Lib.hid hi2
    clear hi2 HI1
    have HB2 := Lib.hid (HB1.out.trans (hb2.mono HB1.out.size))
    clear hb2
    have HMY := Lib.hid (Model_yes c1 c2 HI2.out HJ2.out HZ.out HY.out (HT.out.below HB2.out) HG.out HP.out)
    rw [mod_ref HG.out HP.out, HRES.out] at HMY
    go_wp2_with fail
    go_at_call 11
    refine HMY.out.mono ?_
    clear HMY
    rintro e w3 ⟨v3, rfl, ho3, hb3⟩
    obtain ⟨a3, c3, rfl, hl3⟩ := IntsOwn.at_ ho3 HLEN.out
    have HL3 := Lib.hid hl3
    clear ho3 hl3
    have HB3 := Lib.hid (HB2.out.trans (hb3.mono HB2.out.size))
    clear hb3
    go_wp2_with fail
    go_at_call 12
    refine (Few_any n z _ _ (HA.out.below HB3.out)).mono ?_
    rintro e w4 ⟨a4, c4, rfl, hi4, hb4⟩
    rw [HMN.out] at hi4
    rw [HMN.out]
    have HI4 := Lib.hid hi4
    clear hi4
    have HL4 := Lib.hid (HL3.out.below hb4)
    clear HL3
    have HB4 := Lib.hid (HB3.out.trans (hb4.mono HB3.out.size))
    clear hb4
    go_wp2_with fail
    go_at_call 12
    refine (Few_any q y _ _ (HB.out.below HB4.out)).mono ?_
    rintro e w5 ⟨a5, c5, rfl, hi5, hb5⟩
    rw [HMQ.out] at hi5
    rw [HMQ.out]
    have HI5 := Lib.hid (HI4.out.below hb5)
    have HJ5 := Lib.hid hi5
    clear hi5 HI4
    have HL5 := Lib.hid (HL4.out.below hb5)
    clear HL4
    have HB5 := Lib.hid (HB4.out.trans (hb5.mono HB4.out.size))
    clear hb5
    go_wp2_with fail
    go_at_call 14
    refine (ListC_any m x _ _ (HC.out.below HB5.out)).mono ?_
    rintro e w6 ⟨a6, c6, rfl, hcl6, hi6, hb6⟩
    have HI6 := Lib.hid (HI5.out.below hb6)
    have HJ6 := Lib.hid (HJ5.out.below hb6)
    have HK6 := Lib.hid hi6
    clear hi6 HI5 HJ5
    have HL6 := Lib.hid (HL5.out.below hb6)
    clear HL5
    have HB6 := Lib.hid (HB5.out.trans (hb6.mono HB5.out.size))
    clear hb6
    have HCK := Lib.hid (Check_yes c4 c5 c6 HI6.out HJ6.out HZ.out HY.out (HT.out.below HB6.out) HG.out HP.out HK6.out hcl6)
    rw [isM_few hq6] at HCK
    go_wp2_with fail
    go_at_call 13
    refine (HCK.out).mono ?_
    rintro e w7 ⟨rfl, hb7⟩
    have HL7 := Lib.hid (HL6.out.below hb7)
    clear HL6 HCK
    have HB7 := Lib.hid (HB6.out.trans (hb7.mono HB6.out.size))
    clear hb7
    go_wp2_with fail
    go_at_call 15
    refine (ValidR_any n z _ _ _ (HI0.out.below HB7.out) HZ.out).mono ?_
    rintro e w8 ⟨rfl, hb8⟩
    rw [HG.out]
    have HL8 := Lib.hid (HL7.out.below hb8)
    clear HL7
    have HB8 := Lib.hid (HB7.out.trans (hb8.mono HB7.out.size))
    clear hb8
    go_wp2_with fail
    go_at_call 16
    refine (PatternR_any q y _ _ _ (HJ0.out.below HB8.out) HY.out).mono ?_
    rintro e w9 ⟨rfl, hb9⟩
    rw [HP.out]
    have HL9 := Lib.hid (HL8.out.below hb9)
    clear HL8
    have HB9 := Lib.hid (HB8.out.trans (hb9.mono HB8.out.size))
    clear hb9
    have HRM := Lib.hid (ModelR_any (HTN.out.below HB9.out) (HTQ.out.below HB9.out) hq6 cap cap2)
    rw [HRES.out] at HRM
    go_wp2_with fail
    go_at_call 18
    refine HRM.out.mono ?_
    clear HRM
    rintro e w10 ⟨hb10, hp10⟩
    have HL10 := Lib.hid (HL9.out.below hb10)
    clear HL9
    have HB10 := Lib.hid (HB9.out.trans (hb10.mono HB9.out.size))
    clear hb10
    obtain ⟨x10, c10, rfl, hx10⟩ := hp10
    have HX10 := Lib.hid hx10
    clear hx10
    go_wp2_with fail
    go_at_call 19
    refine (EqualI_true c3 c10 HL10.out HX10.out).mono ?_
    rintro e w11 ⟨rfl, hb11⟩
    have HB11 := Lib.hid (HB10.out.trans (hb11.mono HB10.out.size))
    clear hb11
    have hbe : ((isM n q (natG z) (natG y) m x) == (isM n q (natG z) (natG y) m x)) = true := by simp
    go_wp2_with fail
    go_at_call 20
    refine (IsModelR_any (HTN.out.below HB11.out) (HTQ.out.below HB11.out) cap cap2 cap3 (HK0.out.below HB11.out)).mono ?_
    rintro e w12 ⟨rfl, hb12⟩
    have HB12 := Lib.hid (HB11.out.trans (hb12.mono HB11.out.size))
    clear hb12
    generalize isM n q (natG z) (natG y) m x = im at *
    go_wp2_with fail
    go_at_call 17
    refine (awake_any _ (HT.out.below HB12.out)).mono ?_
    rintro e w13 ⟨rfl, hb13⟩
    have HB13 := Lib.hid (HB12.out.trans (hb13.mono HB12.out.size))
    clear hb13
    go_wp2_with fail
    go_ret
    exact ⟨rfl, HB13.out⟩

end Go.Proofs.YtjhodfabomhdaaaDoor
