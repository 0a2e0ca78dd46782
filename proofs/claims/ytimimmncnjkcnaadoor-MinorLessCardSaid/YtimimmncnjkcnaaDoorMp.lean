/- Package minor: the walk of MinorLess. -/
import Derived.Test.YtimimmncnjkcnaaDoorMo
namespace Go.Proofs.YtimimmncnjkcnaaDoor
set_option linter.unusedSimpArgs false
set_option linter.unusedVariables false
open Go.RowKit Go.Maps
attribute [local go_sem] i64_bit toNat_eq_one toNat_ne_one toNat_eq_zero toNat_ne_zero i64_and i64_or i64_andNot i64_or_pow i64_andNot_pow

set_option maxRecDepth 200000 in
set_option maxHeartbeats 4000000 in
theorem MinorLess_walk (n : Nat) (z : Nat → Int) (v : Value) (x y : Int) (w : World) (hA : SliceArg w v n z) (hz : InI64 z) (hTab : HasTab w) :
    Calls Tryd.prog 8 #[v, .int .i64 x, .int .i64 y] w (LawTrue w) := by
  obtain ⟨a, cap, rfl, hI⟩ := hA.ints
  have HA := Lib.hid hA
  have HI0 := Lib.hid hI
  have HZ := Lib.hid hz
  have HT := Lib.hid (Tab.of hTab)
  clear hA hI hz hTab
  cases hg : graphB n 8 z
  · have HG0 := Lib.hid hg
    have HGM : graphB (min n 12) 8 z = false := by rw [graphB_few]; exact hg
    have HD := Lib.hid (show delOk (min n 12) z x = false by unfold delOk; rw [HGM]; rfl)
    have HC := Lib.hid (show conOk (min n 12) z x y = false by unfold conOk; rw [HGM]; rfl)
    clear hg HGM
    go_enter Tryd.func8, Tryd.ntmps8
    go_wp2_with fail
    go_at_call 12
    refine (Few_any n z _ _ HA.out).mono ?_
    rintro e w1 ⟨a1, c1, rfl, hi1, hb1⟩
    have HB1 := Lib.hid hb1
    have HT1 := Lib.hid (HT.out.below hb1)
    have HI1 := Lib.hid hi1
    clear hb1 hi1
    go_wp2_with fail
    go_at_call 43
    refine (Delete_no _ HI1.out HZ.out HT1.out HD.out).mono ?_
    rintro e w2 ⟨rfl, hb2⟩
    have HB2 := Lib.hid (HB1.out.trans (hb2.mono HB1.out.size))
    clear hb2
    go_wp2_with fail
    go_at_call 12
    refine (Few_any n z _ _ (HA.out.below HB2.out)).mono ?_
    rintro e w3 ⟨a3, c3, rfl, hi3, hb3⟩
    have HB3 := Lib.hid (HB2.out.trans (hb3.mono HB2.out.size))
    clear hb3
    have HI3 := Lib.hid hi3
    clear hi3
    go_wp2_with fail
    go_at_call 44
    refine (Contract_no _ HI3.out HZ.out (HT.out.below HB3.out) HC.out).mono ?_
    rintro e w4 ⟨rfl, hb4⟩
    have HB4 := Lib.hid (HB3.out.trans (hb4.mono HB3.out.size))
    clear hb4
    go_wp2_with fail
    go_at_call 15
    refine (ValidR_any n z _ _ _ (HI0.out.below HB4.out) HZ.out).mono ?_
    rintro e w5 ⟨rfl, hb5⟩
    rw [HG0.out]
    have HB5 := Lib.hid (HB4.out.trans (hb5.mono HB4.out.size))
    clear hb5
    go_wp2_with fail
    go_at_call 17
    refine (awake_any _ (HT.out.below HB5.out)).mono ?_
    rintro e w6 ⟨rfl, hb6⟩
    have HB6 := Lib.hid (HB5.out.trans (hb6.mono HB5.out.size))
    clear hb6
    go_wp2_with fail
    go_ret
    exact ⟨rfl, HB6.out⟩
  · obtain ⟨hn1, hn8, _⟩ := graphB_le hg
    have hmin : min n 12 = n := by omega
    have HM : Hid (min n 12 = n) := Lib.hid hmin
    have HG0 := Lib.hid hg
    have hn2 : ((n : Int) < 2) ↔ n < 2 := by omega
    by_cases hx : 0 ≤ x ∧ x < n ∧ 2 ≤ n
    · obtain ⟨hx0, hxn, h2⟩ := hx
      obtain ⟨p, rfl⟩ : ∃ p : Nat, x = p := ⟨x.toNat, by omega⟩
      have hp : p < n := by omega
      have d1 : decide ((p : Int) < 0) = false := by simp
      have d2 : decide ((n : Int) ≤ (p : Int)) = false := by simp; omega
      have d3 : decide (n ≤ p) = false := by simp; omega
      have d4 : decide ((n : Int) < 2) = false := by simp; omega
      have d5 : decide (n < 2) = false := by simp; omega
      have hn10 : n - 1 ≠ 0 := by omega
      have hn1k : n - 1 ≤ 1000 := by omega
      have hn9 : n ≤ 9 := by omega
      have hnk : n ≤ 1000 := by omega
      have HGT := Lib.hid (Tn.of_graph HI0.out hg)
      cases hc : conOk n z p y
      · have HC := Lib.hid hc
        unfold conOk at hc
        rw [hg, Bool.true_and] at hc
        have HCC := Lib.hid hc
        clear hc hg hmin
        go_enter Tryd.func8, Tryd.ntmps8
        go_wp2_with fail
        go_at_call 12
        refine (Few_any n z _ _ HA.out).mono ?_
        rintro e w1 ⟨a1, c1, rfl, hi1, hb1⟩
        rw [HM.out] at hi1
        rw [HM.out]
        have HB1 := Lib.hid hb1
        have HT1 := Lib.hid (HT.out.below hb1)
        have HI1 := Lib.hid hi1
        clear hb1 hi1
        go_wp2_with fail
        go_at_call 43
        refine (Delete_yes _ HI1.out HZ.out HT1.out HG0.out h2 hp).mono ?_
        rintro e w2 ⟨u2, rfl, hu2, hb2⟩
        obtain ⟨g2, k2, rfl, hg21, hg22⟩ := own_form' hu2 hn10
        have HX := Lib.hid (WoOwn.ints' hu2 hn1k)
        clear hu2 hg21 hg22
        have HB2 := Lib.hid (HB1.out.trans (hb2.mono HB1.out.size))
        clear hb2
        go_wp2_with fail
        go_at_call 12
        refine (Few_any n z _ _ (HA.out.below HB2.out)).mono ?_
        rintro e w3 ⟨a3, c3, rfl, hi3, hb3⟩
        rw [HM.out] at hi3
        rw [HM.out]
        have HX3 := Lib.hid (HX.out.below hb3)
        have HB3 := Lib.hid (HB2.out.trans (hb3.mono HB2.out.size))
        clear hb3
        have HI3 := Lib.hid hi3
        clear hi3 HX
        go_wp2_with fail
        go_at_call 44
        refine (Contract_no _ HI3.out HZ.out (HT.out.below HB3.out) HC.out).mono ?_
        rintro e w4 ⟨rfl, hb4⟩
        have HX4 := Lib.hid (HX3.out.below hb4)
        have HB4 := Lib.hid (HB3.out.trans (hb4.mono HB3.out.size))
        clear hb4
        go_wp2_with fail
        go_at_call 15
        refine (ValidR_any n z _ _ _ (HI0.out.below HB4.out) HZ.out).mono ?_
        rintro e w5 ⟨rfl, hb5⟩
        rw [HG0.out]
        have HX5 := Lib.hid (HX4.out.below hb5)
        have HB5 := Lib.hid (HB4.out.trans (hb5.mono HB4.out.size))
        clear hb5
        clear HX3 HX4
        have HI5 := Lib.hid (HI0.out.below HB5.out)
        go_wp2_with fail
        go_at_call 45
        refine (DeleteR_any HI5.out hp hn9 (graph_bd HG0.out)).mono ?_
        rintro e w6 ⟨⟨u6, rfl, hu6⟩, hb6⟩
        obtain ⟨g6, k6, rfl, hg61, hg62⟩ := own_form' hu6 hn10
        have HY6 := Lib.hid (WoOwn.ints' hu6 hn1k)
        have HX6 := Lib.hid (HX5.out.below hb6)
        clear hu6 hg61 hg62
        have HB6 := Lib.hid (HB5.out.trans (hb6.mono HB5.out.size))
        clear hb6
        go_wp2_with fail
        go_at_call 23
        refine (EqualG_true _ _ HX6.out HY6.out).mono ?_
        rintro e w7 ⟨rfl, hb7⟩
        have HB7 := Lib.hid (HB6.out.trans (hb7.mono HB6.out.size))
        clear hb7
        go_wp2_with fail
        go_at_call 17
        refine (awake_any _ (HT.out.below HB7.out)).mono ?_
        rintro e w8 ⟨rfl, hb8⟩
        have HB8 := Lib.hid (HB7.out.trans (hb8.mono HB7.out.size))
        clear hb8
        obtain ⟨hml, hI⟩ := (HGT.out.below HB8.out).at_.ints
        obtain ⟨b, off, rfl, hlt, hcell⟩ := hI hn1
        have cp : w8.cell? ⟨b, off + p, none⟩ = some (.int .i64 (natG z p : Nat)) := hcell p hp
        have hrp := HGT.out.bd p hp
        have h8 := pow_le8 hn8
        have hrp16 : natG z p < 65536 := by omega
        clear hcell hI
        unfold maxLen at hml
        by_cases hyp : y ≤ p
        · have e1 : decide (y ≤ (p : Int)) = true := by simp; omega
          go_wp2_with fail
          go_ret
          exact ⟨rfl, HB8.out⟩
        · have e1 : decide (y ≤ (p : Int)) = false := by simp; omega
          by_cases hyn : (n : Int) ≤ y
          · have e2 : decide ((n : Int) ≤ y) = true := by simp; omega
            go_wp2_with fail
            go_ret
            exact ⟨rfl, HB8.out⟩
          · obtain ⟨q, rfl⟩ : ∃ q : Nat, y = q := ⟨y.toNat, by omega⟩
            have e2 : decide ((n : Int) ≤ (q : Int)) = false := by simp; omega
            have e3 : decide (n ≤ q) = false := by simp; omega
            have e4 : decide (q ≤ p) = false := by simp; omega
            have hq16 : q < 16 := by omega
            have hbit : (natG z p).testBit q = false := by
              have := HCC.out
              rw [decide_eq_true (by omega), Bool.true_and] at this
              unfold nbM at this
              rw [Int.toNat_natCast, Int.toNat_natCast, (inB_iff).2 (by omega), (inB_iff).2 (by omega)] at this
              simpa using this
            obtain ⟨s, hs⟩ : ∃ s, s = natG z p := ⟨_, rfl⟩
            rw [← hs] at cp hbit hrp16
            clear hrp hs HCC
            go_wp2_with fail
            go_ret
            exact ⟨rfl, HB8.out⟩
      · unfold conOk at hc
        rw [hg, Bool.true_and, Bool.and_eq_true] at hc
        obtain ⟨hlt0, hnb⟩ := hc
        unfold nbM at hnb
        rw [Bool.and_eq_true, Bool.and_eq_true, inB_iff, inB_iff, Int.toNat_natCast] at hnb
        obtain ⟨⟨_, hy1⟩, hbq⟩ := hnb
        have hlt1 := of_decide_eq_true hlt0
        obtain ⟨q, rfl⟩ : ∃ q : Nat, y = q := ⟨y.toNat, by omega⟩
        rw [Int.toNat_natCast] at hbq
        have hpq : p < q := by omega
        have hq : q < n := by omega
        have hq16 : q < 16 := by omega
        have e1 : decide ((q : Int) ≤ (p : Int)) = false := by simp; omega
        have e2 : decide ((n : Int) ≤ (q : Int)) = false := by simp; omega
        have e3 : decide (n ≤ q) = false := by simp; omega
        have e4 : decide (q ≤ p) = false := by simp; omega
        have HBQ := Lib.hid hbq
        clear hg hmin hlt0 hlt1 hy1 hbq
        go_enter Tryd.func8, Tryd.ntmps8
        go_wp2_with fail
        go_at_call 12
        refine (Few_any n z _ _ HA.out).mono ?_
        rintro e w1 ⟨a1, c1, rfl, hi1, hb1⟩
        rw [HM.out] at hi1
        rw [HM.out]
        have HB1 := Lib.hid hb1
        have HT1 := Lib.hid (HT.out.below hb1)
        have HI1 := Lib.hid hi1
        clear hb1 hi1
        go_wp2_with fail
        go_at_call 43
        refine (Delete_yes _ HI1.out HZ.out HT1.out HG0.out h2 hp).mono ?_
        rintro e w2 ⟨u2, rfl, hu2, hb2⟩
        obtain ⟨g2, k2, rfl, hg21, hg22⟩ := own_form' hu2 hn10
        have HX := Lib.hid (WoOwn.ints' hu2 hn1k)
        clear hu2 hg21 hg22
        have HB2 := Lib.hid (HB1.out.trans (hb2.mono HB1.out.size))
        clear hb2
        go_wp2_with fail
        go_at_call 12
        refine (Few_any n z _ _ (HA.out.below HB2.out)).mono ?_
        rintro e w3 ⟨a3, c3, rfl, hi3, hb3⟩
        rw [HM.out] at hi3
        rw [HM.out]
        have HX3 := Lib.hid (HX.out.below hb3)
        have HB3 := Lib.hid (HB2.out.trans (hb3.mono HB2.out.size))
        clear hb3
        have HI3 := Lib.hid hi3
        clear hi3 HX
        go_wp2_with fail
        go_at_call 44
        refine (Contract_yes _ HI3.out HZ.out (HT.out.below HB3.out) HG0.out hpq hq HBQ.out).mono ?_
        rintro e w4 ⟨u4, rfl, hu4, hb4⟩
        obtain ⟨g4, k4, rfl, hg41, hg42⟩ := own_form' hu4 hn10
        have HV4 := Lib.hid (WoOwn.ints' hu4 hn1k)
        clear hu4 hg41 hg42
        have HX4 := Lib.hid (HX3.out.below hb4)
        have HB4 := Lib.hid (HB3.out.trans (hb4.mono HB3.out.size))
        clear hb4
        go_wp2_with fail
        go_at_call 15
        refine (ValidR_any n z _ _ _ (HI0.out.below HB4.out) HZ.out).mono ?_
        rintro e w5 ⟨rfl, hb5⟩
        rw [HG0.out]
        have HX5 := Lib.hid (HX4.out.below hb5)
        have HV5 := Lib.hid (HV4.out.below hb5)
        have HB5 := Lib.hid (HB4.out.trans (hb5.mono HB4.out.size))
        clear hb5
        clear HX3 HX4 HV4
        have HI5 := Lib.hid (HI0.out.below HB5.out)
        go_wp2_with fail
        go_at_call 45
        refine (DeleteR_any HI5.out hp hn9 (graph_bd HG0.out)).mono ?_
        rintro e w6 ⟨⟨u6, rfl, hu6⟩, hb6⟩
        obtain ⟨g6, k6, rfl, hg61, hg62⟩ := own_form' hu6 hn10
        have HY6 := Lib.hid (WoOwn.ints' hu6 hn1k)
        have HX6 := Lib.hid (HX5.out.below hb6)
        have HV6 := Lib.hid (HV5.out.below hb6)
        clear hu6 hg61 hg62
        have HB6 := Lib.hid (HB5.out.trans (hb6.mono HB5.out.size))
        clear hb6
        go_wp2_with fail
        go_at_call 23
        refine (EqualG_true _ _ HX6.out HY6.out).mono ?_
        rintro e w7 ⟨rfl, hb7⟩
        have HV7 := Lib.hid (HV6.out.below hb7)
        have HB7 := Lib.hid (HB6.out.trans (hb7.mono HB6.out.size))
        clear hb7
        go_wp2_with fail
        go_at_call 17
        refine (awake_any _ (HT.out.below HB7.out)).mono ?_
        rintro e w8 ⟨rfl, hb8⟩
        have HV8 := Lib.hid (HV7.out.below hb8)
        clear HV5 HV6 HV7 HX5 HX6 HY6
        have HB8 := Lib.hid (HB7.out.trans (hb8.mono HB7.out.size))
        clear hb8
        have HG8 := Lib.hid (HGT.out.below HB8.out)
        obtain ⟨hml, hI⟩ := HG8.out.at_.ints
        obtain ⟨b, off, rfl, hlt, hcell⟩ := hI hn1
        have cp : w8.cell? ⟨b, off + p, none⟩ = some (.int .i64 (natG z p : Nat)) := hcell p hp
        have hrp := HGT.out.bd p hp
        have h8 := pow_le8 hn8
        have hrp16 : natG z p < 65536 := by omega
        have hbit := HBQ.out
        clear hcell hI
        unfold maxLen at hml
        have HCR := Lib.hid (ContractR_any HG8.out cap hp hq)
        obtain ⟨s, hs⟩ : ∃ s, s = natG z p := ⟨_, rfl⟩
        rw [← hs] at cp hbit hrp16
        clear hrp hs
        go_wp2_with fail
        go_at_call 46
        refine HCR.out.mono ?_
        rintro e w9 ⟨u9, rfl, hu9, hb9⟩
        obtain ⟨g9, k9, rfl, hg91, hg92⟩ := own_form' hu9 hn10
        have HW9 := Lib.hid (WoOwn.ints' hu9 hn1k)
        have HV9 := Lib.hid (HV8.out.below hb9)
        clear hu9 hg91 hg92 cp
        have HB9 := Lib.hid (HB8.out.trans (hb9.mono HB8.out.size))
        clear hb9
        go_wp2_with fail
        go_at_call 23
        refine (EqualG_true _ _ HV9.out HW9.out).mono ?_
        rintro e w10 ⟨rfl, hb10⟩
        have HB10 := Lib.hid (HB9.out.trans (hb10.mono HB9.out.size))
        clear hb10
        go_wp2_with fail
        go_ret
        exact ⟨rfl, HB10.out⟩
    · have HD := Lib.hid (show delOk n z x = false by
        unfold delOk
        rw [hg, Bool.true_and, Bool.eq_false_iff]
        intro h
        rw [Bool.and_eq_true, decide_eq_true_eq, inB_iff] at h
        omega)
      have HC := Lib.hid (show conOk n z x y = false by
        unfold conOk nbM
        rw [hg, Bool.true_and, Bool.eq_false_iff]
        intro h
        rw [Bool.and_eq_true, Bool.and_eq_true, Bool.and_eq_true, decide_eq_true_eq, inB_iff, inB_iff] at h
        omega)
      clear hg hmin
      go_enter Tryd.func8, Tryd.ntmps8
      go_wp2_with fail
      go_at_call 12
      refine (Few_any n z _ _ HA.out).mono ?_
      rintro e w1 ⟨a1, c1, rfl, hi1, hb1⟩
      rw [HM.out] at hi1
      rw [HM.out]
      have HB1 := Lib.hid hb1
      have HT1 := Lib.hid (HT.out.below hb1)
      have HI1 := Lib.hid hi1
      clear hb1 hi1
      go_wp2_with fail
      go_at_call 43
      refine (Delete_no _ HI1.out HZ.out HT1.out HD.out).mono ?_
      rintro e w2 ⟨rfl, hb2⟩
      have HB2 := Lib.hid (HB1.out.trans (hb2.mono HB1.out.size))
      clear hb2
      go_wp2_with fail
      go_at_call 12
      refine (Few_any n z _ _ (HA.out.below HB2.out)).mono ?_
      rintro e w3 ⟨a3, c3, rfl, hi3, hb3⟩
      rw [HM.out] at hi3
      rw [HM.out]
      have HB3 := Lib.hid (HB2.out.trans (hb3.mono HB2.out.size))
      clear hb3
      have HI3 := Lib.hid hi3
      clear hi3
      go_wp2_with fail
      go_at_call 44
      refine (Contract_no _ HI3.out HZ.out (HT.out.below HB3.out) HC.out).mono ?_
      rintro e w4 ⟨rfl, hb4⟩
      have HB4 := Lib.hid (HB3.out.trans (hb4.mono HB3.out.size))
      clear hb4
      go_wp2_with fail
      go_at_call 15
      refine (ValidR_any n z _ _ _ (HI0.out.below HB4.out) HZ.out).mono ?_
      rintro e w5 ⟨rfl, hb5⟩
      rw [HG0.out]
      have HB5 := Lib.hid (HB4.out.trans (hb5.mono HB4.out.size))
      clear hb5
      have HAW := Lib.hid (awake_any w5 (HT.out.below HB5.out))
      by_cases hx0 : x < 0
      · have d1 : decide (x < 0) = true := by simp; omega
        go_wp2_with fail
        go_at_call 17
        refine (HAW.out).mono ?_
        rintro e w6 ⟨rfl, hb6⟩
        have HB6 := Lib.hid (HB5.out.trans (hb6.mono HB5.out.size))
        clear hb6
        go_wp2_with fail
        go_ret
        exact ⟨rfl, HB6.out⟩
      · have d1 : decide (x < 0) = false := by simp; omega
        by_cases hxn : (n : Int) ≤ x
        · have d2 : decide ((n : Int) ≤ x) = true := by simp; omega
          go_wp2_with fail
          go_at_call 17
          refine (HAW.out).mono ?_
          rintro e w6 ⟨rfl, hb6⟩
          have HB6 := Lib.hid (HB5.out.trans (hb6.mono HB5.out.size))
          clear hb6
          go_wp2_with fail
          go_ret
          exact ⟨rfl, HB6.out⟩
        · have d2 : decide ((n : Int) ≤ x) = false := by simp; omega
          have d4 : decide ((n : Int) < 2) = true := by simp; omega
          have d5 : decide (n < 2) = true := by simp; omega
          go_wp2_with fail
          go_at_call 17
          refine (HAW.out).mono ?_
          rintro e w6 ⟨rfl, hb6⟩
          have HB6 := Lib.hid (HB5.out.trans (hb6.mono HB5.out.size))
          clear hb6
          go_wp2_with fail
          go_ret
          exact ⟨rfl, HB6.out⟩

end Go.Proofs.YtimimmncnjkcnaaDoor
