/- Package minor: the walk of MinorOuters. -/
import Derived.Test.YtjhodfabomhdaaaDoorNp
namespace Go.Proofs.YtjhodfabomhdaaaDoor
set_option linter.unusedSimpArgs false
set_option linter.unusedVariables false
open Go.RowKit Go.Maps
attribute [local go_sem] i64_bit toNat_eq_one toNat_ne_one toNat_eq_zero toNat_ne_zero i64_and i64_or i64_andNot i64_or_pow i64_andNot_pow

theorem isO_few {n m : Nat} {r : Nat → Nat} {x : Nat → Int} (hn : n ≤ 8) : isO n r (min m 12) x = isO n r m x := by
  by_cases h : m ≤ 12
  · rw [Nat.min_eq_left h]
  · rw [isO_not (ordB_len (by omega)), isO_not (ordB_len (by omega))]

set_option maxRecDepth 200000 in
set_option maxHeartbeats 8000000 in
theorem MinorOuters_walk (n : Nat) (z : Nat → Int) (v : Value) (m : Nat) (x : Nat → Int) (s : Value) (w : World) (hA : SliceArg w v n z) (hz : InI64 z) (hC : SliceArg w s m x) (hx : InI64 x) (hTab : HasTab w) :
    Calls Tryd.prog 6 #[v, s] w (LawTrue w) := by
  obtain ⟨a, cap, rfl, hI⟩ := hA.ints
  obtain ⟨d, cap3, rfl, hK⟩ := hC.ints
  have HA := Lib.hid hA
  have HC := Lib.hid hC
  have HI0 := Lib.hid hI
  have HK0 := Lib.hid hK
  have HZ := Lib.hid hz
  have HT := Lib.hid (Tab.of hTab)
  clear hA hI hz hTab hC hK hx
  cases hg : graphB n 8 z
  · have HG := Lib.hid hg
    have HGM : Hid (graphB (min n 12) 8 z = false) := Lib.hid (by rw [graphB_few]; exact hg)
    clear hg
    go_enter Tryd.func6, Tryd.ntmps6
    go_wp2_with fail
    go_at_call 12
    refine (Few_any n z _ _ HA.out).mono ?_
    rintro e w1 ⟨a1, c1, rfl, hi1, hb1⟩
    have HB1 := Lib.hid hb1
    have HI1 := Lib.hid hi1
    clear hb1 hi1
    go_wp2_with fail
    go_at_call 35
    refine (Outer_no _ HI1.out HZ.out (HT.out.below HB1.out) HGM.out).mono ?_
    rintro e w2 ⟨rfl, hb2⟩
    have HB2 := Lib.hid (HB1.out.trans (hb2.mono HB1.out.size))
    clear hb2
    go_wp2_with fail
    go_at_call 12
    refine (Few_any n z _ _ (HA.out.below HB2.out)).mono ?_
    rintro e w3 ⟨a3, c3, rfl, hi3, hb3⟩
    have HI3 := Lib.hid hi3
    clear hi3
    have HB3 := Lib.hid (HB2.out.trans (hb3.mono HB2.out.size))
    clear hb3
    go_wp2_with fail
    go_at_call 14
    refine (ListC_any m x _ _ (HC.out.below HB3.out)).mono ?_
    rintro e w4 ⟨a4, c4, rfl, hcl4, hi4, hb4⟩
    have HI4 := Lib.hid (HI3.out.below hb4)
    have HK4 := Lib.hid hi4
    clear hi4 HI3
    have HB4 := Lib.hid (HB3.out.trans (hb4.mono HB3.out.size))
    clear hb4
    go_wp2_with fail
    go_at_call 36
    refine (CheckOuter_no _ _ HI4.out HZ.out (HT.out.below HB4.out) HGM.out).mono ?_
    rintro e w5 ⟨rfl, hb5⟩
    have HB5 := Lib.hid (HB4.out.trans (hb5.mono HB4.out.size))
    clear hb5
    go_wp2_with fail
    go_at_call 15
    refine (ValidR_any n z _ _ _ (HI0.out.below HB5.out) HZ.out).mono ?_
    rintro e w6 ⟨rfl, hb6⟩
    rw [HG.out]
    have HB6 := Lib.hid (HB5.out.trans (hb6.mono HB5.out.size))
    clear hb6
    go_wp2_with fail
    go_at_call 17
    refine (awake_any _ (HT.out.below HB6.out)).mono ?_
    rintro e w7 ⟨rfl, hb7⟩
    have HB7 := Lib.hid (HB6.out.trans (hb7.mono HB6.out.size))
    clear hb7
    go_wp2_with fail
    go_ret
    exact ⟨rfl, HB7.out⟩
  obtain ⟨hn1, hn8, _⟩ := graphB_le hg
  have HMN : Hid (min n 12 = n) := Lib.hid (by omega)
  have HG := Lib.hid hg
  have HTN := Lib.hid (Tn.of_graph HI0.out hg)
  clear hg
  cases hres : outG n z with
  | none =>
    have HRES := Lib.hid hres
    have HLEN : Hid (((none : Option (List Nat)).getD []).length ≤ 65536) := Lib.hid (by simp)
    clear hres
    go_enter Tryd.func6, Tryd.ntmps6
    go_wp2_with fail
    go_at_call 12
    refine (Few_any n z _ _ HA.out).mono ?_
    rintro e w1 ⟨a1, c1, rfl, hi1, hb1⟩
    rw [HMN.out] at hi1
    rw [HMN.out]
    have HB1 := Lib.hid hb1
    have HI1 := Lib.hid hi1
    clear hb1 hi1
    have HMY := Lib.hid (Outer_yes c1 HI1.out HZ.out (HT.out.below HB1.out) HG.out)
    rw [HRES.out] at HMY
    go_wp2_with fail
    go_at_call 35
    refine HMY.out.mono ?_
    clear HMY
    rintro e w2 ⟨v2, rfl, ho2, hb2⟩
    obtain ⟨a2, c2, rfl, hl2⟩ := IntsOwn.at_ ho2 HLEN.out
    have HL2 := Lib.hid hl2
    clear ho2 hl2
    have HB2 := Lib.hid (HB1.out.trans (hb2.mono HB1.out.size))
    clear hb2
    go_wp2_with fail
    go_at_call 12
    refine (Few_any n z _ _ (HA.out.below HB2.out)).mono ?_
    rintro e w3 ⟨a3, c3, rfl, hi3, hb3⟩
    rw [HMN.out] at hi3
    rw [HMN.out]
    have HI3 := Lib.hid hi3
    clear hi3
    have HL3 := Lib.hid (HL2.out.below hb3)
    clear HL2
    have HB3 := Lib.hid (HB2.out.trans (hb3.mono HB2.out.size))
    clear hb3
    go_wp2_with fail
    go_at_call 14
    refine (ListC_any m x _ _ (HC.out.below HB3.out)).mono ?_
    rintro e w4 ⟨a4, c4, rfl, hcl4, hi4, hb4⟩
    have HI4 := Lib.hid (HI3.out.below hb4)
    have HK4 := Lib.hid hi4
    clear hi4 HI3
    have HL4 := Lib.hid (HL3.out.below hb4)
    clear HL3
    have HB4 := Lib.hid (HB3.out.trans (hb4.mono HB3.out.size))
    clear hb4
    have HCK := Lib.hid (CheckOuter_yes c3 c4 HI4.out HZ.out (HT.out.below HB4.out) HG.out HK4.out hcl4)
    rw [isO_few hn8] at HCK
    go_wp2_with fail
    go_at_call 36
    refine (HCK.out).mono ?_
    rintro e w5 ⟨rfl, hb5⟩
    have HL5 := Lib.hid (HL4.out.below hb5)
    clear HL4 HCK
    have HB5 := Lib.hid (HB4.out.trans (hb5.mono HB4.out.size))
    clear hb5
    go_wp2_with fail
    go_at_call 15
    refine (ValidR_any n z _ _ _ (HI0.out.below HB5.out) HZ.out).mono ?_
    rintro e w6 ⟨rfl, hb6⟩
    rw [HG.out]
    have HL6 := Lib.hid (HL5.out.below hb6)
    clear HL5
    have HB6 := Lib.hid (HB5.out.trans (hb6.mono HB5.out.size))
    clear hb6
    have HRM := Lib.hid (OuterR_any (HTN.out.below HB6.out) cap)
    rw [HRES.out] at HRM
    go_wp2_with fail
    go_at_call 37
    refine HRM.out.mono ?_
    clear HRM
    rintro e w7 ⟨hb7, hp7⟩
    have HL7 := Lib.hid (HL6.out.below hb7)
    clear HL6
    have HB7 := Lib.hid (HB6.out.trans (hb7.mono HB6.out.size))
    clear hb7
    subst hp7
    go_wp2_with fail
    go_at_call 19
    refine (EqualI_true c2 0 HL7.out (ints_nil w7)).mono ?_
    rintro e w8 ⟨rfl, hb8⟩
    have HB8 := Lib.hid (HB7.out.trans (hb8.mono HB7.out.size))
    clear hb8
    have hbe : ((isO n (natG z) m x) == (isO n (natG z) m x)) = true := by simp
    go_wp2_with fail
    go_at_call 38
    refine (IsOuterR_any (HTN.out.below HB8.out) cap cap3 (HK0.out.below HB8.out)).mono ?_
    rintro e w9 ⟨rfl, hb9⟩
    have HB9 := Lib.hid (HB8.out.trans (hb9.mono HB8.out.size))
    clear hb9
    generalize isO n (natG z) m x = im at *
    go_wp2_with fail
    go_at_call 17
    refine (awake_any _ (HT.out.below HB9.out)).mono ?_
    rintro e w10 ⟨rfl, hb10⟩
    have HB10 := Lib.hid (HB9.out.trans (hb10.mono HB9.out.size))
    clear hb10
    go_wp2_with fail
    go_ret
    exact ⟨rfl, HB10.out⟩
  | some L =>
    have HRES := Lib.hid hres
    have HLEN : Hid (((some L).getD []).length ≤ 65536) := Lib.hid (by
      have := (outL_good n [] L hres (fun i hi => by simp at hi) (fun i j hi => by simp at hi) (fun m hm => by simp at hm)).1
      show L.length ≤ 65536
      simp at this
      omega)
    clear hres
    go_enter Tryd.func6, Tryd.ntmps6
    go_wp2_with fail
    go_at_call 12
    refine (Few_any n z _ _ HA.out).mono ?_
    rintro e w1 ⟨a1, c1, rfl, hi1, hb1⟩
    rw [HMN.out] at hi1
    rw [HMN.out]
    have HB1 := Lib.hid hb1
    have HI1 := Lib.hid hi1
    clear hb1 hi1
    have HMY := Lib.hid (Outer_yes c1 HI1.out HZ.out (HT.out.below HB1.out) HG.out)
    rw [HRES.out] at HMY
    go_wp2_with fail
    go_at_call 35
    refine HMY.out.mono ?_
    clear HMY
    rintro e w2 ⟨v2, rfl, ho2, hb2⟩
    obtain ⟨a2, c2, rfl, hl2⟩ := IntsOwn.at_ ho2 HLEN.out
    have HL2 := Lib.hid hl2
    clear ho2 hl2
    have HB2 := Lib.hid (HB1.out.trans (hb2.mono HB1.out.size))
    clear hb2
    go_wp2_with fail
    go_at_call 12
    refine (Few_any n z _ _ (HA.out.below HB2.out)).mono ?_
    rintro e w3 ⟨a3, c3, rfl, hi3, hb3⟩
    rw [HMN.out] at hi3
    rw [HMN.out]
    have HI3 := Lib.hid hi3
    clear hi3
    have HL3 := Lib.hid (HL2.out.below hb3)
    clear HL2
    have HB3 := Lib.hid (HB2.out.trans (hb3.mono HB2.out.size))
    clear hb3
    go_wp2_with fail
    go_at_call 14
    refine (ListC_any m x _ _ (HC.out.below HB3.out)).mono ?_
    rintro e w4 ⟨a4, c4, rfl, hcl4, hi4, hb4⟩
    have HI4 := Lib.hid (HI3.out.below hb4)
    have HK4 := Lib.hid hi4
    clear hi4 HI3
    have HL4 := Lib.hid (HL3.out.below hb4)
    clear HL3
    have HB4 := Lib.hid (HB3.out.trans (hb4.mono HB3.out.size))
    clear hb4
    have HCK := Lib.hid (CheckOuter_yes c3 c4 HI4.out HZ.out (HT.out.below HB4.out) HG.out HK4.out hcl4)
    rw [isO_few hn8] at HCK
    go_wp2_with fail
    go_at_call 36
    refine (HCK.out).mono ?_
    rintro e w5 ⟨rfl, hb5⟩
    have HL5 := Lib.hid (HL4.out.below hb5)
    clear HL4 HCK
    have HB5 := Lib.hid (HB4.out.trans (hb5.mono HB4.out.size))
    clear hb5
    go_wp2_with fail
    go_at_call 15
    refine (ValidR_any n z _ _ _ (HI0.out.below HB5.out) HZ.out).mono ?_
    rintro e w6 ⟨rfl, hb6⟩
    rw [HG.out]
    have HL6 := Lib.hid (HL5.out.below hb6)
    clear HL5
    have HB6 := Lib.hid (HB5.out.trans (hb6.mono HB5.out.size))
    clear hb6
    have HRM := Lib.hid (OuterR_any (HTN.out.below HB6.out) cap)
    rw [HRES.out] at HRM
    go_wp2_with fail
    go_at_call 37
    refine HRM.out.mono ?_
    clear HRM
    rintro e w7 ⟨hb7, hp7⟩
    have HL7 := Lib.hid (HL6.out.below hb7)
    clear HL6
    have HB7 := Lib.hid (HB6.out.trans (hb7.mono HB6.out.size))
    clear hb7
    obtain ⟨x7, c7, rfl, hx7⟩ := hp7
    have HX7 := Lib.hid hx7
    clear hx7
    go_wp2_with fail
    go_at_call 19
    refine (EqualI_true c2 c7 HL7.out HX7.out).mono ?_
    rintro e w8 ⟨rfl, hb8⟩
    have HB8 := Lib.hid (HB7.out.trans (hb8.mono HB7.out.size))
    clear hb8
    have hbe : ((isO n (natG z) m x) == (isO n (natG z) m x)) = true := by simp
    go_wp2_with fail
    go_at_call 38
    refine (IsOuterR_any (HTN.out.below HB8.out) cap cap3 (HK0.out.below HB8.out)).mono ?_
    rintro e w9 ⟨rfl, hb9⟩
    have HB9 := Lib.hid (HB8.out.trans (hb9.mono HB8.out.size))
    clear hb9
    generalize isO n (natG z) m x = im at *
    go_wp2_with fail
    go_at_call 17
    refine (awake_any _ (HT.out.below HB9.out)).mono ?_
    rintro e w10 ⟨rfl, hb10⟩
    have HB10 := Lib.hid (HB9.out.trans (hb10.mono HB9.out.size))
    clear hb10
    go_wp2_with fail
    go_ret
    exact ⟨rfl, HB10.out⟩

end Go.Proofs.YtjhodfabomhdaaaDoor
