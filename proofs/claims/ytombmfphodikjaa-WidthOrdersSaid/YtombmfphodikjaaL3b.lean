/- The walk of the law WidthOrders. (Made by gen_l3b.py.) -/
import Derived.Test.YtombmfphodikjaaL3a
import Derived.Test.YtombmfphodikjaaW15
namespace Go.Proofs.Ytombmfphodikjaa
set_option linter.unusedSimpArgs false
set_option linter.unusedVariables false
open Go.RowKit Go.Maps

set_option maxRecDepth 200000 in
set_option maxHeartbeats 2000000 in
theorem WidthOrders_no (n m : Nat) (z y : Nat → Int) (v vo : Value) (w : World) (hA : SliceArg w v n z) (hz : InI64 z) (hO : SliceArg w vo m y) (hg : graphB n 9 z = false) :
    Calls Try.prog 3 #[v, vo] w (LawTrue w) := by
  obtain ⟨a, cap, rfl, hI⟩ := hA.ints
  obtain ⟨o, co, rfl, hJ⟩ := hO.ints
  have HA := Lib.hid hA
  have HO := Lib.hid hO
  have HI0 := Lib.hid hI
  have HZ := Lib.hid hz
  have HG0 := Lib.hid hg
  have hg13 : graphB (min n 13) 9 z = false := by rw [graphB_few]; exact hg
  have HG := Lib.hid hg13
  have HNO : Hid ((graphB (min n 13) 9 z && ordB (min n 13) (min m 210) y) = false) := Lib.hid (by rw [hg13]; rfl)
  clear hA hI hz hg hg13 hO hJ
  go_enter Try.func3, Try.ntmps3
  go_wp2_with fail
  go_at_call 13
  refine (Few_any n z _ _ HA.out).mono ?_
  rintro e w1 ⟨a1, c1, rfl, hi1, hb1⟩
  have HB1 := Lib.hid hb1
  clear hb1
  have HI1 := Lib.hid hi1
  clear hi1
  go_wp2_with fail
  go_at_call 12
  refine (Width_no _ HI1.out HZ.out HG.out).mono ?_
  rintro e w2 ⟨rfl, hb2⟩
  have HB2 := Lib.hid (HB1.out.trans (hb2.mono HB1.out.size))
  clear hb2
  go_wp2_with fail
  go_at_call 13
  refine (Few_any n z _ _ (SliceArg.below HA.out HB2.out)).mono ?_
  rintro e w3 ⟨a3, c3, rfl, hi3, hb3⟩
  have HI3 := Lib.hid hi3
  clear hi3
  have HB3 := Lib.hid (HB2.out.trans (hb3.mono HB2.out.size))
  clear hb3
  go_wp2_with fail
  go_at_call 14
  refine (Order_no _ HI3.out HZ.out HG.out).mono ?_
  rintro e w4 ⟨rfl, hb4⟩
  have HB4 := Lib.hid (HB3.out.trans (hb4.mono HB3.out.size))
  clear hb4
  go_wp2_with fail
  go_at_call 13
  refine (Few_any n z _ _ (SliceArg.below HA.out HB4.out)).mono ?_
  rintro e w5 ⟨a5, c5, rfl, hi5, hb5⟩
  have HI5 := Lib.hid hi5
  clear hi5
  have HB5 := Lib.hid (HB4.out.trans (hb5.mono HB4.out.size))
  clear hb5
  go_wp2_with fail
  go_at_call 16
  refine (List_any m y _ _ (SliceArg.below HO.out HB5.out)).mono ?_
  rintro e w6 ⟨a6, c6, rfl, hi6, hb6⟩
  have HI6 := Lib.hid hi6
  have HI5' := Lib.hid (HI5.out.below hb6)
  clear hi6
  have HB6 := Lib.hid (HB5.out.trans (hb6.mono HB5.out.size))
  clear hb6
  go_wp2_with fail
  go_at_call 15
  refine (Along_no _ _ HI5'.out HZ.out HI6.out HNO.out).mono ?_
  rintro e w7 ⟨rfl, hb7⟩
  have HB7 := Lib.hid (HB6.out.trans (hb7.mono HB6.out.size))
  clear hb7
  go_wp2_with fail
  go_at_call 17
  refine (ValidR_any n z _ _ _ (HI0.out.below HB7.out) HZ.out).mono ?_
  rintro e w8 ⟨rfl, hb8⟩
  rw [HG0.out]
  have HB8 := Lib.hid (HB7.out.trans (hb8.mono HB7.out.size))
  clear hb8
  go_wp2_with fail
  go_at_call 18
  refine (awake_any _).mono ?_
  rintro e w9 ⟨rfl, hb9⟩
  have HB9 := Lib.hid (HB8.out.trans (hb9.mono HB8.out.size))
  clear hb9
  go_wp2_with fail
  go_ret
  exact ⟨rfl, HB9.out⟩

set_option maxRecDepth 200000 in
set_option maxHeartbeats 4000000 in
theorem WidthOrders_yes (n m : Nat) (z y : Nat → Int) (v vo : Value) (w : World) (hA : SliceArg w v n z) (hz : InI64 z) (hO : SliceArg w vo m y) (hg : graphB n 9 z = true) :
    Calls Try.prog 3 #[v, vo] w (LawTrue w) := by
  obtain ⟨a, cap, rfl, hI⟩ := hA.ints
  obtain ⟨o, co, rfl, hJ⟩ := hO.ints
  have hn9 := (graphB_le hg).2.1
  have HM : Hid (min n 13 = n) := Lib.hid (by omega)
  have HA := Lib.hid hA
  have HO := Lib.hid hO
  have HJ := Lib.hid hJ
  have HI0 := Lib.hid hI
  have HZ := Lib.hid hz
  have HG := Lib.hid hg
  have HGR := Lib.hid (Gr.of_graph hI hg)
  have hol : (orderG n z).length = n := orderG_len
  obtain ⟨W, hW⟩ : ∃ W, W = widthG n z := ⟨_, rfl⟩
  have HW := Lib.hid hW
  have hW9 : W ≤ 9 := by
    rw [hW]
    exact Nat.le_trans (rst_le (Nat.two_pow_pos n)) hn9
  have HWR : Hid (rst n (tn n (fun i => (z i).toNat)) 0 = W) := Lib.hid hW.symm
  have HOR : Hid (ordW n (tn n (fun i => (z i).toNat)) (rst n (tn n (fun i => (z i).toNat)) 0) n 0 = orderG n z) := Lib.hid rfl
  have HOL := Lib.hid hol
  clear hA hI hz hg hO hJ hW hol
  cases hob : ordB n m y
  · have HOBY : Hid ((graphB n 9 z && ordB n (min m 210) y) = false) := Lib.hid (by rw [ordB_few hn9, hob, Bool.and_false])
    have HOB := Lib.hid hob
    clear hob
    go_enter Try.func3, Try.ntmps3
    go_wp2_with fail
    go_at_call 13
    refine (Few_any n z _ _ HA.out).mono ?_
    rintro e w1 ⟨a1, c1, rfl, hi1, hb1⟩
    rw [HM.out] at hi1
    rw [HM.out]
    have HB1 := Lib.hid hb1
    clear hb1
    have HI1 := Lib.hid hi1
    clear hi1
    go_wp2_with fail
    go_at_call 12
    refine (Width_yes _ HI1.out HZ.out HG.out).mono ?_
    rintro e w2 ⟨rfl, hb2⟩
    rw [← HW.out]
    have HB2 := Lib.hid (HB1.out.trans (hb2.mono HB1.out.size))
    clear hb2
    go_wp2_with fail
    go_at_call 13
    refine (Few_any n z _ _ (SliceArg.below HA.out HB2.out)).mono ?_
    rintro e w3 ⟨a3, c3, rfl, hi3, hb3⟩
    rw [HM.out] at hi3
    rw [HM.out]
    have HI3 := Lib.hid hi3
    clear hi3
    have HB3 := Lib.hid (HB2.out.trans (hb3.mono HB2.out.size))
    clear hb3
    go_wp2_with fail
    go_at_call 14
    refine (Order_yes _ HI3.out HZ.out HG.out).mono ?_
    rintro e w4 ⟨vl, rfl, hl4, hb4⟩
    have HB4 := Lib.hid (HB3.out.trans (hb4.mono HB3.out.size))
    clear hb4
    obtain ⟨al, cl, hvl, hil⟩ := NatsOwn.ints hl4 (by rw [HOL.out]; omega)
    subst hvl
    rw [HOL.out] at hil
    rw [HOL.out]
    have HIL := Lib.hid hil
    clear hl4 hil
    go_wp2_with fail
    go_at_call 13
    refine (Few_any n z _ _ (SliceArg.below HA.out HB4.out)).mono ?_
    rintro e w5 ⟨a5, c5, rfl, hi5, hb5⟩
    rw [HM.out] at hi5
    rw [HM.out]
    have HI5 := Lib.hid hi5
    have HIL5 := Lib.hid (HIL.out.below hb5)
    clear hi5
    have HB5 := Lib.hid (HB4.out.trans (hb5.mono HB4.out.size))
    clear hb5
    go_wp2_with fail
    go_at_call 16
    refine (List_any m y _ _ (SliceArg.below HO.out HB5.out)).mono ?_
    rintro e w6 ⟨a6, c6, rfl, hi6, hb6⟩
    have HI6 := Lib.hid hi6
    have HI5' := Lib.hid (HI5.out.below hb6)
    have HIL6 := Lib.hid (HIL5.out.below hb6)
    clear hi6
    have HB6 := Lib.hid (HB5.out.trans (hb6.mono HB5.out.size))
    clear hb6
    go_wp2_with fail
    go_at_call 15
    refine (Along_no _ _ HI5'.out HZ.out HI6.out HOBY.out).mono ?_
    rintro e w7 ⟨rfl, hb7⟩
    have HIL7 := Lib.hid (HIL6.out.below hb7)
    have HB7 := Lib.hid (HB6.out.trans (hb7.mono HB6.out.size))
    clear hb7
    go_wp2_with fail
    go_at_call 17
    refine (ValidR_any n z _ _ _ (HI0.out.below HB7.out) HZ.out).mono ?_
    rintro e w8 ⟨rfl, hb8⟩
    rw [HG.out]
    have HIL8 := Lib.hid (HIL7.out.below hb8)
    have HB8 := Lib.hid (HB7.out.trans (hb8.mono HB7.out.size))
    clear hb8
    go_wp2_with fail
    go_at_call 19
    refine (WidthR_any (HGR.out.below HB8.out) _).mono ?_
    rintro e w9 ⟨rfl, hb9⟩
    rw [HWR.out]
    have HIL9 := Lib.hid (HIL8.out.below hb9)
    have HB9 := Lib.hid (HB8.out.trans (hb9.mono HB8.out.size))
    clear hb9
    go_wp2_with fail
    go_at_call 21
    refine (OrderR_any (HGR.out.below HB9.out) _).mono ?_
    rintro e w10 ⟨vr, rfl, hl10, hb10⟩
    rw [HOR.out] at hl10
    have HIL10 := Lib.hid (HIL9.out.below hb10)
    have HB10 := Lib.hid (HB9.out.trans (hb10.mono HB9.out.size))
    clear hb10
    obtain ⟨ar, cr, hvr, hir⟩ := NatsOwn.ints hl10 (by rw [HOL.out]; omega)
    subst hvr
    rw [HOL.out] at hir
    rw [HOL.out]
    have HIR := Lib.hid hir
    clear hl10 hir
    go_wp2_with fail
    go_at_call 20
    refine (EqualI_true _ _ HIL10.out HIR.out).mono ?_
    rintro e w11 ⟨rfl, hb11⟩
    have HB11 := Lib.hid (HB10.out.trans (hb11.mono HB10.out.size))
    clear hb11
    go_wp2_with fail
    go_at_call 18
    refine (awake_any _).mono ?_
    rintro e w12 ⟨rfl, hb12⟩
    have HB12 := Lib.hid (HB11.out.trans (hb12.mono HB11.out.size))
    clear hb12
    go_wp2_with fail
    go_at_call 22
    refine (IsOrderR_any hn9 _ (HJ.out.below HB12.out)).mono ?_
    rintro e w13 ⟨rfl, rfl⟩
    rw [HOB.out]
    go_wp2_with fail
    go_ret
    exact ⟨rfl, HB12.out⟩
  · obtain ⟨hmn, hok⟩ := ordB_iff hob
    have HOBY : Hid (ordB n (min m 210) y = true) := Lib.hid (by rw [ordB_few hn9, hob])
    have HOB := Lib.hid hob
    subst hmn
    obtain ⟨X, hX⟩ : ∃ X, X = alo (tn m (natG z)) y m := ⟨_, rfl⟩
    have hX9 : X ≤ 9 := by
      rw [hX]
      exact Nat.le_trans (alo_bd m fun i _ => tn_le _ _ _ _) hn9
    have HX := Lib.hid hX
    have HXR : Hid (alo (tn m (fun i => (z i).toNat)) y m = X) := Lib.hid hX.symm
    have HOK := Lib.hid hok
    clear hob hok hX
    go_enter Try.func3, Try.ntmps3
    go_wp2_with fail
    go_at_call 13
    refine (Few_any m z _ _ HA.out).mono ?_
    rintro e w1 ⟨a1, c1, rfl, hi1, hb1⟩
    rw [HM.out] at hi1
    rw [HM.out]
    have HB1 := Lib.hid hb1
    clear hb1
    have HI1 := Lib.hid hi1
    clear hi1
    go_wp2_with fail
    go_at_call 12
    refine (Width_yes _ HI1.out HZ.out HG.out).mono ?_
    rintro e w2 ⟨rfl, hb2⟩
    rw [← HW.out]
    have HB2 := Lib.hid (HB1.out.trans (hb2.mono HB1.out.size))
    clear hb2
    go_wp2_with fail
    go_at_call 13
    refine (Few_any m z _ _ (SliceArg.below HA.out HB2.out)).mono ?_
    rintro e w3 ⟨a3, c3, rfl, hi3, hb3⟩
    rw [HM.out] at hi3
    rw [HM.out]
    have HI3 := Lib.hid hi3
    clear hi3
    have HB3 := Lib.hid (HB2.out.trans (hb3.mono HB2.out.size))
    clear hb3
    go_wp2_with fail
    go_at_call 14
    refine (Order_yes _ HI3.out HZ.out HG.out).mono ?_
    rintro e w4 ⟨vl, rfl, hl4, hb4⟩
    have HB4 := Lib.hid (HB3.out.trans (hb4.mono HB3.out.size))
    clear hb4
    obtain ⟨al, cl, hvl, hil⟩ := NatsOwn.ints hl4 (by rw [HOL.out]; omega)
    subst hvl
    rw [HOL.out] at hil
    rw [HOL.out]
    have HIL := Lib.hid hil
    clear hl4 hil
    go_wp2_with fail
    go_at_call 13
    refine (Few_any m z _ _ (SliceArg.below HA.out HB4.out)).mono ?_
    rintro e w5 ⟨a5, c5, rfl, hi5, hb5⟩
    rw [HM.out] at hi5
    rw [HM.out]
    have HI5 := Lib.hid hi5
    have HIL5 := Lib.hid (HIL.out.below hb5)
    clear hi5
    have HB5 := Lib.hid (HB4.out.trans (hb5.mono HB4.out.size))
    clear hb5
    go_wp2_with fail
    go_at_call 16
    refine (List_any m y _ _ (SliceArg.below HO.out HB5.out)).mono ?_
    rintro e w6 ⟨a6, c6, rfl, hi6, hb6⟩
    have HI6 := Lib.hid hi6
    have HI5' := Lib.hid (HI5.out.below hb6)
    have HIL6 := Lib.hid (HIL5.out.below hb6)
    clear hi6
    have HB6 := Lib.hid (HB5.out.trans (hb6.mono HB5.out.size))
    clear hb6
    go_wp2_with fail
    go_at_call 15
    refine (Along_yes _ _ HI5'.out HZ.out HG.out HI6.out HOBY.out).mono ?_
    rintro e w7 ⟨rfl, hb7⟩
    rw [← HX.out]
    have HIL7 := Lib.hid (HIL6.out.below hb7)
    have HB7 := Lib.hid (HB6.out.trans (hb7.mono HB6.out.size))
    clear hb7
    go_wp2_with fail
    go_at_call 17
    refine (ValidR_any m z _ _ _ (HI0.out.below HB7.out) HZ.out).mono ?_
    rintro e w8 ⟨rfl, hb8⟩
    rw [HG.out]
    have HIL8 := Lib.hid (HIL7.out.below hb8)
    have HB8 := Lib.hid (HB7.out.trans (hb8.mono HB7.out.size))
    clear hb8
    go_wp2_with fail
    go_at_call 19
    refine (WidthR_any (HGR.out.below HB8.out) _).mono ?_
    rintro e w9 ⟨rfl, hb9⟩
    rw [HWR.out]
    have HIL9 := Lib.hid (HIL8.out.below hb9)
    have HB9 := Lib.hid (HB8.out.trans (hb9.mono HB8.out.size))
    clear hb9
    go_wp2_with fail
    go_at_call 21
    refine (OrderR_any (HGR.out.below HB9.out) _).mono ?_
    rintro e w10 ⟨vr, rfl, hl10, hb10⟩
    rw [HOR.out] at hl10
    have HIL10 := Lib.hid (HIL9.out.below hb10)
    have HB10 := Lib.hid (HB9.out.trans (hb10.mono HB9.out.size))
    clear hb10
    obtain ⟨ar, cr, hvr, hir⟩ := NatsOwn.ints hl10 (by rw [HOL.out]; omega)
    subst hvr
    rw [HOL.out] at hir
    rw [HOL.out]
    have HIR := Lib.hid hir
    clear hl10 hir
    go_wp2_with fail
    go_at_call 20
    refine (EqualI_true _ _ HIL10.out HIR.out).mono ?_
    rintro e w11 ⟨rfl, hb11⟩
    have HB11 := Lib.hid (HB10.out.trans (hb11.mono HB10.out.size))
    clear hb11
    go_wp2_with fail
    go_at_call 18
    refine (awake_any _).mono ?_
    rintro e w12 ⟨rfl, hb12⟩
    have HB12 := Lib.hid (HB11.out.trans (hb12.mono HB11.out.size))
    clear hb12
    go_wp2_with fail
    go_at_call 22
    refine (IsOrderR_any hn9 _ (HJ.out.below HB12.out)).mono ?_
    rintro e w13 ⟨rfl, rfl⟩
    rw [HOB.out]
    go_wp2_with fail
    go_at_call 23
    refine (AlongR_any (HGR.out.below HB12.out) _ _ (HJ.out.below HB12.out) HOK.out).mono ?_
    rintro e w14 ⟨rfl, hb14⟩
    rw [HXR.out]
    have HB14 := Lib.hid (HB12.out.trans (hb14.mono HB12.out.size))
    clear hb14
    go_wp2_with fail
    go_ret
    exact ⟨rfl, HB14.out⟩

theorem WidthOrders_walk (n m : Nat) (z y : Nat → Int) (v vo : Value) (w : World) (hA : SliceArg w v n z) (hz : InI64 z) (hO : SliceArg w vo m y) : Calls Try.prog 3 #[v, vo] w (LawTrue w) := by
  cases hg : graphB n 9 z
  · exact WidthOrders_no n m z y v vo w hA hz hO hg
  · exact WidthOrders_yes n m z y v vo w hA hz hO hg

end Go.Proofs.Ytombmfphodikjaa
