/- SweepSame. -/
import Derived.Test.YthbhhfeiianmcaaDoorQbg
import Derived.Test.YthbhhfeiianmcaaDoorQaa
namespace Go.Proofs.YthbhhfeiianmcaaDoor
set_option linter.unusedSimpArgs false
set_option linter.unusedVariables false
open Go.RowKit Go.Maps
attribute [local go_sem] i64_bit toNat_eq_one toNat_ne_one toNat_eq_zero toNat_ne_zero i64_and i64_or i64_andNot i64_or_pow i64_andNot_pow

set_option maxRecDepth 200000 in
set_option maxHeartbeats 2000000 in
theorem SweepSame_walk (n m : Nat) (z y : Nat → Int) (v vo : Value) (w : World) (hA : SliceArg w v n z) (hz : InI64 z) (hO : SliceArg w vo m y) (hTab : HasTab w) :
    Calls Tryd.prog 11 #[v, vo] w (LawTrue w) := by
  obtain ⟨a, cap, rfl, hI⟩ := hA.ints
  obtain ⟨o, co, rfl, hL⟩ := hO.ints
  have HA := Lib.hid hA
  have HZ := Lib.hid hz
  have HLA := Lib.hid hO
  have HT := Lib.hid (Tab.of hTab)
  have hml := hL.1
  unfold maxLen at hml
  clear hA hI hz hTab hO hL
  cases hg : graphB n 7 z
  · have HGM : graphB (min n 11) 7 z = false := by rw [graphB_few]; exact hg
    clear hg
    go_enter Tryd.func11, Tryd.ntmps11
    go_wp2_with fail
    go_at_call 18
    refine (Few_any n z _ _ HA.out).mono ?_
    rintro e w1 ⟨a1, c1, rfl, hi1, hb1⟩
    have HI1 := Lib.hid hi1
    have HX1 := Lib.hid hb1
    have HB1 := Lib.hid hb1
    clear hi1 hb1
    go_wp2_with fail
    go_at_call 20
    refine (Layout_none _ HI1.out HZ.out (HT.out.below HB1.out) HGM).mono ?_
    rintro e w2 ⟨rfl, hb2⟩
    have HB2 := Lib.hid (HB1.out.trans (hb2.mono HB1.out.size))
    clear hb2
    go_wp2_with fail
    go_at_call 18
    refine (Few_any n z _ _ (HA.out.below HB2.out)).mono ?_
    rintro e w3 ⟨a3, c3, rfl, hi3, hb3⟩
    have HI3 := Lib.hid hi3
    have HX3 := Lib.hid hb3
    clear hi3
    have HB3 := Lib.hid (HB2.out.trans (hb3.mono HB2.out.size))
    clear hb3
    go_wp2_with fail
    go_at_call 38
    refine (Plan_none _ HI3.out HZ.out (HT.out.below HB3.out) HGM).mono ?_
    rintro e w4 ⟨rfl, hb4⟩
    have HB4 := Lib.hid (HB3.out.trans (hb4.mono HB3.out.size))
    clear hb4
    go_wp2_with fail
    go_at_call 18
    refine (Few_any n z _ _ (HA.out.below HB4.out)).mono ?_
    rintro e w5 ⟨a5, c5, rfl, hi5, hb5⟩
    have HI5 := Lib.hid hi5
    have HX5 := Lib.hid hb5
    clear hi5
    have HB5 := Lib.hid (HB4.out.trans (hb5.mono HB4.out.size))
    clear hb5
    go_wp2_with fail
    go_at_call 43
    refine (Least_none _ HI5.out HZ.out (HT.out.below HB5.out) HGM).mono ?_
    rintro e w6 ⟨rfl, hb6⟩
    have HB6 := Lib.hid (HB5.out.trans (hb6.mono HB5.out.size))
    clear hb6
    go_wp2_with fail
    go_at_call 22
    refine (awake_any _ (HT.out.below HB6.out)).mono ?_
    rintro e w7 ⟨rfl, hb7⟩
    have HB7 := Lib.hid (HB6.out.trans (hb7.mono HB6.out.size))
    clear hb7
    go_wp2_with fail
    go_ret
    exact ⟨rfl, HB7.out⟩
  · have hP := pl_of hg
    have hn7 := hP.le
    have HM : Hid (min n 11 = n) := Lib.hid (by omega)
    have HG0 := Lib.hid hg
    have HP := Lib.hid hP
    have hrl := rst_le (n := n) (t := tbd n (natG z)) (Nat.two_pow_pos n)
    have HLST : Hid (lst n (natG z) 0 = rst n (tbd n (natG z)) 0) := Lib.hid lst_rst
    have HEND := Lib.hid (fol_end (n := n) (m := n) (r := natG z) (by omega) (bags_good hP) hP.bd)
    have HMO := Lib.hid (bags_wide hP)
    have hB : ∀ i, i < n → setZ (bagsZ n z) i < 2 ^ n := fun k hk => by
      have := (path_iff.1 (bags_good hP)).2.2.1 k hk
      rw [pow_cast] at this
      show (bagsZ n z k).toNat < _
      omega
    have hsh : ∀ B : Nat → Nat, (∀ i, i < n → B i < 2 ^ n) → (folL B n (n + 1)).length ≤ 100 := fun B hB => by
      have h1 := fol_short (n := n) (m := n) (by omega) hB (n + 1)
      have h2 : n * (n + 1) ≤ 7 * 8 := Nat.mul_le_mul hn7 (by omega)
      omega
    have HLEN : Hid ((folL (setZ (bagsZ n z)) n (n + 1)).length ≤ 100) := Lib.hid (hsh _ hB)
    have HSH := Lib.hid hsh
    clear hg hP hB hsh
    have HPLAY : Hid (∀ (a' : Option Addr) (c' base : Nat) (v' : Value) (w' : World), IntsAt w' a' n z → Tab w' → ActsOwn 88 w' base v' (folL (setZ (bagsZ n z)) n (n + 1)) → Calls Tryd.prog 35 #[.slice a' n c', v'] w' fun e w2 => e = .returned (.tuple #[.int .i64 (rst n (tbd n (natG z)) 0 + 1 : Nat), .bool false, .bool true, .int .i64 0]) ∧ Below w'.heap.size w' w2) := Lib.hid fun a' c' base v' w' h1 h2 h3 => by
      have := Play_yes c' h1 HZ.out h2 HG0.out h3 HLEN.out HEND.out.1 HEND.out.2.1 HEND.out.2.2.2
      rw [HEND.out.2.2.1, HMO.out] at this
      exact this
    cases ho : ordB n m y
    · have HOM : Hid (ordB n (min m 140) y = false) := Lib.hid (by rw [ordB_few (by omega)]; exact ho)
      clear ho
      go_enter Tryd.func11, Tryd.ntmps11
      go_wp2_with fail
      go_at_call 18
      refine (Few_any n z _ _ HA.out).mono ?_
      rintro e w1 ⟨a1, c1, rfl, hi1, hb1⟩
      rw [HM.out] at hi1
      rw [HM.out]
      have HI1 := Lib.hid hi1
      have HX1 := Lib.hid hb1
      have HB1 := Lib.hid hb1
      clear hi1 hb1
      go_wp2_with fail
      go_at_call 20
      refine (Layout_yes _ HI1.out HZ.out (HT.out.below HB1.out) HG0.out).mono ?_
      rintro e w2 ⟨v2, rfl, -, hb2⟩
      have HB2 := Lib.hid (HB1.out.trans (hb2.mono HB1.out.size))
      clear hb2
      go_wp2_with fail
      go_at_call 18
      refine (Few_any n z _ _ (HA.out.below HB2.out)).mono ?_
      rintro e w3 ⟨a3, c3, rfl, hi3, hb3⟩
      rw [HM.out] at hi3
      rw [HM.out]
      have HI3 := Lib.hid hi3
      have HX3 := Lib.hid hb3
      clear hi3
      have HB3 := Lib.hid (HB2.out.trans (hb3.mono HB2.out.size))
      clear hb3
      go_wp2_with fail
      go_at_call 38
      refine (Plan_yes _ HI3.out HZ.out (HT.out.below HB3.out) HG0.out).mono ?_
      rintro e w4 ⟨v4, rfl, ho4, hb4⟩
      have HO4 := Lib.hid ho4
      clear ho4
      have HB4 := Lib.hid (HB3.out.trans (hb4.mono HB3.out.size))
      clear hb4
      go_wp2_with fail
      go_at_call 18
      refine (Few_any n z _ _ (HA.out.below HB4.out)).mono ?_
      rintro e w5 ⟨a5, c5, rfl, hi5, hb5⟩
      rw [HM.out] at hi5
      rw [HM.out]
      have HI5 := Lib.hid hi5
      have HX5 := Lib.hid hb5
      clear hi5
      have HB5 := Lib.hid (HB4.out.trans (hb5.mono HB4.out.size))
      clear hb5
      go_wp2_with fail
      go_at_call 43
      refine (Least_yes _ HI5.out HZ.out (HT.out.below HB5.out) HG0.out).mono ?_
      rintro e w6 ⟨rfl, hb6⟩
      rw [HLST.out]
      have HX6 := Lib.hid hb6
      have HB6 := Lib.hid (HB5.out.trans (hb6.mono HB5.out.size))
      clear hb6
      go_wp2_with fail
      go_at_call 18
      refine (Few_any n z _ _ (HA.out.below HB6.out)).mono ?_
      rintro e w7 ⟨a7, c7, rfl, hi7, hb7⟩
      rw [HM.out] at hi7
      rw [HM.out]
      have HI7 := Lib.hid hi7
      have HX7 := Lib.hid hb7
      clear hi7
      have HB7 := Lib.hid (HB6.out.trans (hb7.mono HB6.out.size))
      clear hb7
      have HC7 : Hid (Below w4.heap.size w4 w7) := Lib.hid ((HX5.out.trans (HX6.out.mono HX5.out.size)).trans (HX7.out.mono (Nat.le_trans HX5.out.size HX6.out.size)))
      go_wp2_with fail
      go_at_call 35
      refine (HPLAY.out _ _ _ _ _ HI7.out (HT.out.below HB7.out) (HO4.out.below HC7.out)).mono ?_
      rintro e w8 ⟨rfl, hb8⟩
      have HB8 := Lib.hid (HB7.out.trans (hb8.mono HB7.out.size))
      clear hb8
      clear HPLAY HO4 HEND HMO HLEN
      generalize hW : rst n (tbd n (natG z)) 0 = W at *
      have HW := Lib.hid hW
      clear hW
      go_wp2_with fail
      go_at_call 18
      refine (Few_any n z _ _ (HA.out.below HB8.out)).mono ?_
      rintro e w9 ⟨a9, c9, rfl, hi9, hb9⟩
      rw [HM.out] at hi9
      rw [HM.out]
      have HI9 := Lib.hid hi9
      have HX9 := Lib.hid hb9
      clear hi9
      have HB9 := Lib.hid (HB8.out.trans (hb9.mono HB8.out.size))
      clear hb9
      go_wp2_with fail
      go_at_call 19
      refine (List_any m y _ _ (HLA.out.below HB9.out)).mono ?_
      rintro e w10 ⟨a10, c10, rfl, hi10, hb10⟩
      have HI10 := Lib.hid hi10
      have HX10 := Lib.hid hb10
      clear hi10
      have HB10 := Lib.hid (HB9.out.trans (hb10.mono HB9.out.size))
      clear hb10
      go_wp2_with fail
      go_at_call 27
      refine (Bags_no _ _ (HI9.out.below HX10.out) HZ.out HI10.out (HT.out.below HB10.out) HG0.out HOM.out).mono ?_
      rintro e w11 ⟨rfl, hb11⟩
      have HB11 := Lib.hid (HB10.out.trans (hb11.mono HB10.out.size))
      clear hb11
      go_wp2_with fail
      go_at_call 22
      refine (awake_any _ (HT.out.below HB11.out)).mono ?_
      rintro e w12 ⟨rfl, hb12⟩
      have HB12 := Lib.hid (HB11.out.trans (hb12.mono HB11.out.size))
      clear hb12
      go_wp2_with fail
      go_ret
      exact ⟨rfl, HB12.out⟩
    · obtain rfl : n = m := by
        apply Classical.byContradiction
        intro hne
        rw [ordB_len (Ne.symm hne)] at ho; cases ho
      have HO0 := Lib.hid ho
      have HMM : Hid (min n 140 = n) := Lib.hid (by omega)
      have hbl := bagL_len (natG z) y n
      have hbt : ∀ k, k < n → setZ (bagZ (natG z) y) k < 2 ^ n := fun k hk => by
        show ((bord (natG z) (metO y k) ||| 2 ^ (y k).toNat : Nat) : Int).toNat < _
        rw [Int.toNat_natCast]
        exact Nat.or_lt_two_pow (bord_lt (lay_met ho (by omega))) (pow_lt_pow (lay_at ho hk).1)
      have HPB : Hid (pathB n (natG z) n (zListI (bagL (natG z) y n)) = true) := Lib.hid (path_congr (fun k hk => (zListI_bag hk).symm) (path_iff.2 ⟨HP.out.one, by omega, fun k hk => by
        have h1 := hbt k hk
        have h2 : (0 : Int) ≤ bagZ (natG z) y k := Int.natCast_nonneg _
        refine ⟨h2, ?_⟩
        rw [pow_cast]
        have h1' : (bagZ (natG z) y k).toNat < 2 ^ n := h1
        have h3 : ((bagZ (natG z) y k).toNat : Int) < ((2 ^ n : Nat) : Int) := by exact_mod_cast h1'
        omega, bags_path HP.out ho⟩))
      have HMO2 : Hid (mostB n (zListI (bagL (natG z) y n)) n = brdTo n (natG z) y n + 1) := Lib.hid (by
        rw [mostB_congr n fun k hk => zListI_bag hk]; exact bags_most HP.out ho)
      have HEND2 := Lib.hid (fol_end (n := n) (m := n) (r := natG z) (by omega) HPB.out HP.out.bd)
      have HLEN2 := Lib.hid (HSH.out (setZ (zListI (bagL (natG z) y n))) (fun k hk => by
        have : setZ (zListI (bagL (natG z) y n)) k = setZ (bagZ (natG z) y) k := by
          show (zListI (bagL (natG z) y n) k).toNat = (bagZ (natG z) y k).toNat
          rw [zListI_bag hk]
        rw [this]; exact hbt k hk))
      have HPLAY2 : Hid (∀ (a' : Option Addr) (c' base : Nat) (v' : Value) (w' : World), IntsAt w' a' n z → Tab w' → ActsOwn 88 w' base v' (folL (setZ (zListI (bagL (natG z) y n))) n (n + 1)) → Calls Tryd.prog 35 #[.slice a' n c', v'] w' fun e w2 => e = .returned (.tuple #[.int .i64 (brdTo n (natG z) y n + 1 : Nat), .bool false, .bool true, .int .i64 0]) ∧ Below w'.heap.size w' w2) := Lib.hid fun a' c' base v' w' h1 h2 h3 => by
        have := Play_yes c' h1 HZ.out h2 HG0.out h3 HLEN2.out HEND2.out.1 HEND2.out.2.1 HEND2.out.2.2.2
        rw [HEND2.out.2.2.1, HMO2.out] at this
        exact this
      have HGE : Hid (rst n (tbd n (natG z)) 0 ≤ brdTo n (natG z) y n) := Lib.hid (by
        rw [brd_alo]; exact alo_least (ordB_iff ho).2)
      have hbn := brd_le (n := n) (r := natG z) (z := y) n
      clear ho hbt HEND2 HLEN2 HMO2
      go_enter Tryd.func11, Tryd.ntmps11
      go_wp2_with fail
      go_at_call 18
      refine (Few_any n z _ _ HA.out).mono ?_
      rintro e w1 ⟨a1, c1, rfl, hi1, hb1⟩
      rw [HM.out] at hi1
      rw [HM.out]
      have HI1 := Lib.hid hi1
      have HX1 := Lib.hid hb1
      have HB1 := Lib.hid hb1
      clear hi1 hb1
      go_wp2_with fail
      go_at_call 20
      refine (Layout_yes _ HI1.out HZ.out (HT.out.below HB1.out) HG0.out).mono ?_
      rintro e w2 ⟨v2, rfl, -, hb2⟩
      have HB2 := Lib.hid (HB1.out.trans (hb2.mono HB1.out.size))
      clear hb2
      go_wp2_with fail
      go_at_call 18
      refine (Few_any n z _ _ (HA.out.below HB2.out)).mono ?_
      rintro e w3 ⟨a3, c3, rfl, hi3, hb3⟩
      rw [HM.out] at hi3
      rw [HM.out]
      have HI3 := Lib.hid hi3
      have HX3 := Lib.hid hb3
      clear hi3
      have HB3 := Lib.hid (HB2.out.trans (hb3.mono HB2.out.size))
      clear hb3
      go_wp2_with fail
      go_at_call 38
      refine (Plan_yes _ HI3.out HZ.out (HT.out.below HB3.out) HG0.out).mono ?_
      rintro e w4 ⟨v4, rfl, ho4, hb4⟩
      have HO4 := Lib.hid ho4
      clear ho4
      have HB4 := Lib.hid (HB3.out.trans (hb4.mono HB3.out.size))
      clear hb4
      go_wp2_with fail
      go_at_call 18
      refine (Few_any n z _ _ (HA.out.below HB4.out)).mono ?_
      rintro e w5 ⟨a5, c5, rfl, hi5, hb5⟩
      rw [HM.out] at hi5
      rw [HM.out]
      have HI5 := Lib.hid hi5
      have HX5 := Lib.hid hb5
      clear hi5
      have HB5 := Lib.hid (HB4.out.trans (hb5.mono HB4.out.size))
      clear hb5
      go_wp2_with fail
      go_at_call 43
      refine (Least_yes _ HI5.out HZ.out (HT.out.below HB5.out) HG0.out).mono ?_
      rintro e w6 ⟨rfl, hb6⟩
      rw [HLST.out]
      have HX6 := Lib.hid hb6
      have HB6 := Lib.hid (HB5.out.trans (hb6.mono HB5.out.size))
      clear hb6
      go_wp2_with fail
      go_at_call 18
      refine (Few_any n z _ _ (HA.out.below HB6.out)).mono ?_
      rintro e w7 ⟨a7, c7, rfl, hi7, hb7⟩
      rw [HM.out] at hi7
      rw [HM.out]
      have HI7 := Lib.hid hi7
      have HX7 := Lib.hid hb7
      clear hi7
      have HB7 := Lib.hid (HB6.out.trans (hb7.mono HB6.out.size))
      clear hb7
      have HC7 : Hid (Below w4.heap.size w4 w7) := Lib.hid ((HX5.out.trans (HX6.out.mono HX5.out.size)).trans (HX7.out.mono (Nat.le_trans HX5.out.size HX6.out.size)))
      go_wp2_with fail
      go_at_call 35
      refine (HPLAY.out _ _ _ _ _ HI7.out (HT.out.below HB7.out) (HO4.out.below HC7.out)).mono ?_
      rintro e w8 ⟨rfl, hb8⟩
      have HB8 := Lib.hid (HB7.out.trans (hb8.mono HB7.out.size))
      clear hb8
      clear HPLAY HO4 HEND HMO HLEN
      generalize hW : rst n (tbd n (natG z)) 0 = W at *
      have HW := Lib.hid hW
      clear hW
      generalize hV : brdTo n (natG z) y n = V at *
      have HV := Lib.hid hV
      clear hV
      go_wp2_with fail
      go_at_call 18
      refine (Few_any n z _ _ (HA.out.below HB8.out)).mono ?_
      rintro e w9 ⟨a9, c9, rfl, hi9, hb9⟩
      rw [HM.out] at hi9
      rw [HM.out]
      have HI9 := Lib.hid hi9
      have HX9 := Lib.hid hb9
      clear hi9
      have HB9 := Lib.hid (HB8.out.trans (hb9.mono HB8.out.size))
      clear hb9
      go_wp2_with fail
      go_at_call 19
      refine (List_any n y _ _ (HLA.out.below HB9.out)).mono ?_
      rintro e w10 ⟨a10, c10, rfl, hi10, hb10⟩
      rw [HMM.out] at hi10
      rw [HMM.out]
      have HI10 := Lib.hid hi10
      have HX10 := Lib.hid hb10
      clear hi10
      have HB10 := Lib.hid (HB9.out.trans (hb10.mono HB9.out.size))
      clear hb10
      go_wp2_with fail
      go_at_call 27
      refine (Bags_yes _ _ (HI9.out.below HX10.out) HZ.out HI10.out (HT.out.below HB10.out) HG0.out HO0.out).mono ?_
      rintro e w11 ⟨v11, rfl, ho11, hb11⟩
      have HS11 := Lib.hid (ints_arg ho11)
      rw [hbl] at HS11
      obtain ⟨a11, c11, rfl, -⟩ := ho11.ints (by omega)
      rw [hbl] at HS11 ⊢
      clear ho11
      have HB11 := Lib.hid (HB10.out.trans (hb11.mono HB10.out.size))
      clear hb11
      go_wp2_with fail
      go_at_call 18
      refine (Few_any n z _ _ (HA.out.below HB11.out)).mono ?_
      rintro e w12 ⟨a12, c12, rfl, hi12, hb12⟩
      rw [HM.out] at hi12
      rw [HM.out]
      have HI12 := Lib.hid hi12
      have HX12 := Lib.hid hb12
      clear hi12
      have HB12 := Lib.hid (HB11.out.trans (hb12.mono HB11.out.size))
      clear hb12
      go_wp2_with fail
      go_at_call 30
      refine (Follow_yes _ _ HI12.out HZ.out (HS11.out.below HX12.out) (HT.out.below HB12.out) HG0.out HPB.out).mono ?_
      rintro e w13 ⟨v13, rfl, ho13, hb13⟩
      have HO13 := Lib.hid ho13
      clear ho13
      have HB13 := Lib.hid (HB12.out.trans (hb13.mono HB12.out.size))
      clear hb13
      go_wp2_with fail
      go_at_call 18
      refine (Few_any n z _ _ (HA.out.below HB13.out)).mono ?_
      rintro e w14 ⟨a14, c14, rfl, hi14, hb14⟩
      rw [HM.out] at hi14
      rw [HM.out]
      have HI14 := Lib.hid hi14
      have HX14 := Lib.hid hb14
      clear hi14
      have HB14 := Lib.hid (HB13.out.trans (hb14.mono HB13.out.size))
      clear hb14
      go_wp2_with fail
      go_at_call 19
      refine (List_any n y _ _ (HLA.out.below HB14.out)).mono ?_
      rintro e w15 ⟨a15, c15, rfl, hi15, hb15⟩
      rw [HMM.out] at hi15
      rw [HMM.out]
      have HI15 := Lib.hid hi15
      have HX15 := Lib.hid hb15
      clear hi15
      have HB15 := Lib.hid (HB14.out.trans (hb15.mono HB14.out.size))
      clear hb15
      go_wp2_with fail
      go_at_call 17
      refine (Breadth_yes _ _ (HI14.out.below HX15.out) HZ.out HI15.out (HT.out.below HB15.out) HG0.out HO0.out).mono ?_
      rintro e w16 ⟨rfl, hb16⟩
      rw [HV.out]
      have HX16 := Lib.hid hb16
      have HB16 := Lib.hid (HB15.out.trans (hb16.mono HB15.out.size))
      clear hb16
      go_wp2_with fail
      go_at_call 18
      refine (Few_any n z _ _ (HA.out.below HB16.out)).mono ?_
      rintro e w17 ⟨a17, c17, rfl, hi17, hb17⟩
      rw [HM.out] at hi17
      rw [HM.out]
      have HI17 := Lib.hid hi17
      have HX17 := Lib.hid hb17
      clear hi17
      have HB17 := Lib.hid (HB16.out.trans (hb17.mono HB16.out.size))
      clear hb17
      have HC17 : Hid (Below w13.heap.size w13 w17) := Lib.hid (((HX14.out.trans (HX15.out.mono HX14.out.size)).trans (HX16.out.mono (Nat.le_trans HX14.out.size HX15.out.size))).trans (HX17.out.mono (Nat.le_trans (Nat.le_trans HX14.out.size HX15.out.size) HX16.out.size)))
      go_wp2_with fail
      go_at_call 35
      refine (HPLAY2.out _ _ _ _ _ HI17.out (HT.out.below HB17.out) (HO13.out.below HC17.out)).mono ?_
      rintro e w18 ⟨rfl, hb18⟩
      have HB18 := Lib.hid (HB17.out.trans (hb18.mono HB17.out.size))
      clear hb18
      have hge := HGE.out
      go_wp2_with fail
      go_at_call 22
      refine (awake_any _ (HT.out.below HB18.out)).mono ?_
      rintro e w19 ⟨rfl, hb19⟩
      have HB19 := Lib.hid (HB18.out.trans (hb19.mono HB18.out.size))
      clear hb19
      go_wp2_with fail
      go_ret
      exact ⟨rfl, HB19.out⟩
end Go.Proofs.YthbhhfeiianmcaaDoor
