/- Package minor: the walk of MinorFound. -/
import Derived.Test.YtjhodfabomhdaaaDoorNg
import Derived.Test.YtjhodfabomhdaaaDoorNb
namespace Go.Proofs.YtjhodfabomhdaaaDoor
set_option linter.unusedSimpArgs false
set_option linter.unusedVariables false
open Go.RowKit Go.Maps
attribute [local go_sem] i64_bit toNat_eq_one toNat_ne_one toNat_eq_zero toNat_ne_zero i64_and i64_or i64_andNot i64_or_pow i64_andNot_pow

set_option maxRecDepth 200000 in
set_option maxHeartbeats 8000000 in
theorem MinorFound_walk (n : Nat) (z : Nat → Int) (v : Value) (q : Nat) (y : Nat → Int) (u : Value) (m : Nat) (x : Nat → Int) (s : Value) (ga gb : Int) (w : World) (hA : SliceArg w v n z) (hz : InI64 z) (hB : SliceArg w u q y) (hy : InI64 y) (hC : SliceArg w s m x) (hTab : HasTab w) :
    Calls Tryd.prog 9 #[v, u, s, .int .i64 ga, .int .i64 gb] w (LawTrue w) := by
  obtain ⟨a, cap, rfl, hI⟩ := hA.ints
  obtain ⟨b, cap2, rfl, hJ⟩ := hB.ints
  obtain ⟨d, cap3, rfl, hK⟩ := hC.ints
  have hmm := hK.1
  unfold maxLen at hmm
  have HA := Lib.hid hA
  have HB := Lib.hid hB
  have HC := Lib.hid hC
  have HK0 := Lib.hid hK
  have HZ := Lib.hid hz
  have HY := Lib.hid hy
  have HT := Lib.hid (Tab.of hTab)
  clear hA hI hz hTab hB hJ hy hC hK
  cases hgp : pairB n q z y
  · have HPM : Hid (pairB (min n 12) (min q 12) z y = false) := Lib.hid (by unfold pairB at hgp ⊢; rw [graphB_few, graphB_few6]; exact hgp)
    clear hgp
    go_enter Tryd.func9, Tryd.ntmps9
    go_wp2_with fail
    go_at_call 12
    refine (Few_any n z _ _ HA.out).mono ?_
    rintro e w1 ⟨a1, c1, rfl, hi1, hb1⟩
    have HB1 := Lib.hid hb1
    have HI1 := Lib.hid hi1
    clear hb1 hi1
    go_wp2_with fail
    go_at_call 12
    refine (Few_any q y _ _ (HB.out.below HB1.out)).mono ?_
    rintro e w2 ⟨a2, c2, rfl, hi2, hb2⟩
    have HI2 := Lib.hid (HI1.out.below hb2)
    have HJ2 := Lib.hid hi2
    clear hi2 HI1
    have HB2 := Lib.hid (HB1.out.trans (hb2.mono HB1.out.size))
    clear hb2
    go_wp2_with fail
    go_at_call 11
    refine (Model_no _ _ HI2.out HJ2.out HZ.out HY.out (HT.out.below HB2.out) HPM.out).mono ?_
    rintro e w3 ⟨rfl, hb3⟩
    have HB3 := Lib.hid (HB2.out.trans (hb3.mono HB2.out.size))
    clear hb3
    go_wp2_with fail
    go_at_call 12
    refine (Few_any n z _ _ (HA.out.below HB3.out)).mono ?_
    rintro e w4 ⟨a4, c4, rfl, hi4, hb4⟩
    have HI4 := Lib.hid hi4
    clear hi4
    have HB4 := Lib.hid (HB3.out.trans (hb4.mono HB3.out.size))
    clear hb4
    go_wp2_with fail
    go_at_call 12
    refine (Few_any q y _ _ (HB.out.below HB4.out)).mono ?_
    rintro e w5 ⟨a5, c5, rfl, hi5, hb5⟩
    have HI5 := Lib.hid (HI4.out.below hb5)
    have HJ5 := Lib.hid hi5
    clear hi5 HI4
    have HB5 := Lib.hid (HB4.out.trans (hb5.mono HB4.out.size))
    clear hb5
    go_wp2_with fail
    go_at_call 14
    refine (ListC_any m x _ _ (HC.out.below HB5.out)).mono ?_
    rintro e w6 ⟨a6, c6, rfl, hcl6, hi6, hb6⟩
    have HI6 := Lib.hid (HI5.out.below hb6)
    have HJ6 := Lib.hid (HJ5.out.below hb6)
    have HK6 := Lib.hid hi6
    clear hi6 HI5 HJ5
    have HB6 := Lib.hid (HB5.out.trans (hb6.mono HB5.out.size))
    clear hb6
    go_wp2_with fail
    go_at_call 13
    refine (Check_no _ _ _ HI6.out HJ6.out HZ.out HY.out (HT.out.below HB6.out) HPM.out).mono ?_
    rintro e w7 ⟨rfl, hb7⟩
    have HB7 := Lib.hid (HB6.out.trans (hb7.mono HB6.out.size))
    clear hb7
    go_wp2_with fail
    go_at_call 17
    refine (awake_any _ (HT.out.below HB7.out)).mono ?_
    rintro e w8 ⟨rfl, hb8⟩
    have HB8 := Lib.hid (HB7.out.trans (hb8.mono HB7.out.size))
    clear hb8
    go_wp2_with fail
    go_ret
    exact ⟨rfl, HB8.out⟩
  unfold pairB at hgp
  rw [Bool.and_eq_true] at hgp
  obtain ⟨hg, hp⟩ := hgp
  obtain ⟨hn1, hn8, _⟩ := graphB_le hg
  obtain ⟨hq1, hq6, _⟩ := graphB_le hp
  have h8 := pow_le8 hn8
  have HMN : Hid (min n 12 = n) := Lib.hid (by omega)
  have HMQ : Hid (min q 12 = q) := Lib.hid (by omega)
  have HG := Lib.hid hg
  have HP := Lib.hid hp
  have hHIMO : isM n q (natG z) (natG y) m x = true → m = q ∧ ∃ B : Nat → Nat, ModelOf n q (natG z) (natG y) B ∧ ∀ j, j < q → x j = (B j : Nat) := fun h => isM_model h hn8 (lt_graph HG.out) (g_sym HG.out) (g_sym HP.out) (g_loop HP.out)
  obtain ⟨im, hIM⟩ : ∃ im, isM n q (natG z) (natG y) m x = im := ⟨_, rfl⟩
  rw [hIM] at hHIMO
  have HIM := Lib.hid hIM
  have HIMO := Lib.hid hHIMO
  clear hg hp hIM hHIMO
  cases hres : refM n q (natG z) (natG y) with
  | none =>
    have HRES := Lib.hid hres
    have HLEN : Hid (((none : Option (List Nat)).getD []).length ≤ 65536) := Lib.hid (by simp)
    have HLQ : Hid (((none : Option (List Nat)).getD []).length = 0) := Lib.hid rfl
    have him : im = false := by
      cases hi : im
      · rfl
      · obtain ⟨_, B, hM, _⟩ := HIMO.out hi
        exact absurd hres (refM_found hM hn8 (lt_graph HG.out))
    subst him
    clear hres
    have hcod : codE (none : Option (List Nat)) = 4 := rfl
    go_enter Tryd.func9, Tryd.ntmps9
    go_wp2_with fail
    go_at_call 12
    refine (Few_any n z _ _ HA.out).mono ?_
    rintro e w1 ⟨a1, c1, rfl, hi1, hb1⟩
    rw [HMN.out] at hi1
    rw [HMN.out]
    have HB1 := Lib.hid hb1
    have HI1 := Lib.hid hi1
    clear hb1 hi1
    go_wp2_with fail
    go_at_call 12
    refine (Few_any q y _ _ (HB.out.below HB1.out)).mono ?_
    rintro e w2 ⟨a2, c2, rfl, hi2, hb2⟩
    rw [HMQ.out] at hi2
    rw [HMQ.out]
    have HI2 := Lib.hid (HI1.out.below hb2)
    have HJ2 := Lib.hid hi2
    clear hi2 HI1
    have HB2 := Lib.hid (HB1.out.trans (hb2.mono HB1.out.size))
    clear hb2
    have HMY := Lib.hid (Model_yes c1 c2 HI2.out HJ2.out HZ.out HY.out (HT.out.below HB2.out) HG.out HP.out)
    rw [mod_ref HG.out HP.out, HRES.out] at HMY
    go_wp2_with fail
    go_at_call 11
    refine HMY.out.mono ?_
    clear HMY
    rintro e w3 ⟨v3, rfl, ho3, hb3⟩
    obtain ⟨a3, c3, rfl, hlc3, hl3⟩ := IntsOwn.atC ho3 HLEN.out
    have HL3 := Lib.hid hl3
    clear ho3 hl3
    try rw [HLQ.out]
    rw [hcod]
    have HB3 := Lib.hid (HB2.out.trans (hb3.mono HB2.out.size))
    clear hb3
    go_wp2_with fail
    go_at_call 12
    refine (Few_any n z _ _ (HA.out.below HB3.out)).mono ?_
    rintro e w4 ⟨a4, c4, rfl, hi4, hb4⟩
    rw [HMN.out] at hi4
    rw [HMN.out]
    have HI4 := Lib.hid hi4
    clear hi4
    have HL4 := Lib.hid (HL3.out.below hb4)
    clear HL3
    have HB4 := Lib.hid (HB3.out.trans (hb4.mono HB3.out.size))
    clear hb4
    go_wp2_with fail
    go_at_call 12
    refine (Few_any q y _ _ (HB.out.below HB4.out)).mono ?_
    rintro e w5 ⟨a5, c5, rfl, hi5, hb5⟩
    rw [HMQ.out] at hi5
    rw [HMQ.out]
    have HI5 := Lib.hid (HI4.out.below hb5)
    have HJ5 := Lib.hid hi5
    clear hi5 HI4
    have HL5 := Lib.hid (HL4.out.below hb5)
    clear HL4
    have HB5 := Lib.hid (HB4.out.trans (hb5.mono HB4.out.size))
    clear hb5
    go_wp2_with fail
    go_at_call 14
    refine (ListC_any m x _ _ (HC.out.below HB5.out)).mono ?_
    rintro e w6 ⟨a6, c6, rfl, hcl6, hi6, hb6⟩
    have HI6 := Lib.hid (HI5.out.below hb6)
    have HJ6 := Lib.hid (HJ5.out.below hb6)
    have HK6 := Lib.hid hi6
    clear hi6 HI5 HJ5
    have HL6 := Lib.hid (HL5.out.below hb6)
    clear HL5
    have HB6 := Lib.hid (HB5.out.trans (hb6.mono HB5.out.size))
    clear hb6
    have HCK := Lib.hid (Check_yes c4 c5 c6 HI6.out HJ6.out HZ.out HY.out (HT.out.below HB6.out) HG.out HP.out HK6.out hcl6)
    rw [isM_few hq6, HIM.out] at HCK
    go_wp2_with fail
    go_at_call 13
    refine (HCK.out).mono ?_
    rintro e w7 ⟨rfl, hb7⟩
    have HL7 := Lib.hid (HL6.out.below hb7)
    clear HL6 HCK
    have HB7 := Lib.hid (HB6.out.trans (hb7.mono HB6.out.size))
    clear hb7
    obtain ⟨wn, hwn, r1, r2, r3, hbn, hsn⟩ := new3 w7 3 3 22 [.int .i64 0] [.int .i64 1] [.slice (some ⟨w7.heap.size, 0, none⟩) 1 1, .slice (some ⟨w7.heap.size + 1, 0, none⟩) 1 1]
    have HR1 := Lib.hid r1
    have HR2 := Lib.hid r2
    have HR3 := Lib.hid r3
    have HBN := Lib.hid (HB7.out.trans (hbn.mono HB7.out.size))
    have hl1 := r1.lt
    have hl2 := r2.lt
    have hl3 := r3.lt
    clear r1 r2 r3 hbn
    go_wp2_with fail
    rw [← hwn]
    clear hwn
    go_loopw [24, 25, 26, 27, 28, 120] (fun _ _ _ _ _ ix wr => ∃ k : Nat, k ≤ 2 ∧ ix = .int .i64 k ∧ Below wn.heap.size wn wr) (fun _ _ _ _ _ ix _ => 2 - (intOf ix).toNat)
    case atStart => exact ⟨0, by omega, rfl, Below.refl _ _⟩
    case round =>
      obtain ⟨k, hk, rfl, hbr⟩ := hrel
      have HRR := Lib.hid hbr
      have HBR := Lib.hid (HBN.out.trans (hbr.mono HBN.out.size))
      have k1 := (HR1.out.below hbr hl1).cell (i := 0) rfl
      have k2 := (HR2.out.below hbr hl2).cell (i := 0) rfl
      have k3 := (HR3.out.below hbr hl3).cell (i := 0) rfl
      have k4 := (HR3.out.below hbr hl3).cell (i := 1) rfl
      clear hbr
      rcases (show k = 0 ∨ k = 1 ∨ k = 2 by omega) with rfl | rfl | rfl
      · clear hk
        go_wp2_with fail
        go_at_call 12
        refine (Few_any n z _ _ (HA.out.below HBR.out)).mono ?_
        rintro e y1 ⟨ya, yc, rfl, hyi, hyb⟩
        rw [HMN.out] at hyi
        rw [HMN.out]
        have HY1 := Lib.hid hyi
        have HBA := Lib.hid (HBR.out.trans (hyb.mono HBR.out.size))
        have HRA := Lib.hid (HRR.out.trans (hyb.mono HRR.out.size))
        clear hyi hyb
        go_wp2_with fail
        go_at_call 43
        refine (Delete_any yc HY1.out HZ.out (HT.out.below HBA.out) HG.out).mono ?_
        rintro e y2 ⟨rfl | ⟨u, rfl, hu⟩, hyb⟩
        · have HBC := Lib.hid (HRA.out.trans (hyb.mono HRA.out.size))
          clear hyb
          go_wp2_with fail
          go_roundw
          case rel => exact ⟨1, by omega, by go_num, HBC.out⟩
          case measure => simp [intOf]
        · have HBB := Lib.hid (HBA.out.trans (hyb.mono HBA.out.size))
          have HRB := Lib.hid (HRA.out.trans (hyb.mono HRA.out.size))
          have HU := Lib.hid hu
          clear hyb hu
          go_wp2_with fail
          go_at_call 12
          refine (Few_any q y _ _ (HB.out.below HBB.out)).mono ?_
          rintro e y3 ⟨yb, yd, rfl, hyi, hyb⟩
          rw [HMQ.out] at hyi
          rw [HMQ.out]
          have HY3 := Lib.hid hyi
          have HU3 := Lib.hid (HU.out.below hyb)
          have HBD := Lib.hid (HBB.out.trans (hyb.mono HBB.out.size))
          have HRD := Lib.hid (HRB.out.trans (hyb.mono HRB.out.size))
          clear hyi hyb
          go_wp2_with fail
          go_at_call 48
          refine (hasL_less yd HU3.out HY3.out HY.out (HT.out.below HBD.out) HP.out).mono ?_
          rintro e y4 ⟨⟨is, rfl, his⟩, hyb⟩
          have HBE := Lib.hid (HRD.out.trans (hyb.mono HRD.out.size))
          clear hyb
          cases is
          · clear his
            go_wp2_with fail
            go_roundw
            case rel => exact ⟨1, by omega, by go_num, HBE.out⟩
            case measure => simp [intOf]
          · exfalso
            have := his rfl
            rw [mod_ref HG.out HP.out, HRES.out] at this
            cases this
      · clear hk
        go_wp2_with fail
        go_at_call 12
        refine (Few_any n z _ _ (HA.out.below HBR.out)).mono ?_
        rintro e y1 ⟨ya, yc, rfl, hyi, hyb⟩
        rw [HMN.out] at hyi
        rw [HMN.out]
        have HY1 := Lib.hid hyi
        have HBA := Lib.hid (HBR.out.trans (hyb.mono HBR.out.size))
        have HRA := Lib.hid (HRR.out.trans (hyb.mono HRR.out.size))
        clear hyi hyb
        go_wp2_with fail
        go_at_call 44
        refine (Contract_any yc HY1.out HZ.out (HT.out.below HBA.out) HG.out).mono ?_
        rintro e y2 ⟨rfl | ⟨u, rfl, hu⟩, hyb⟩
        · have HBC := Lib.hid (HRA.out.trans (hyb.mono HRA.out.size))
          clear hyb
          go_wp2_with fail
          go_roundw
          case rel => exact ⟨2, by omega, by go_num, HBC.out⟩
          case measure => simp [intOf]
        · have HBB := Lib.hid (HBA.out.trans (hyb.mono HBA.out.size))
          have HRB := Lib.hid (HRA.out.trans (hyb.mono HRA.out.size))
          have HU := Lib.hid hu
          clear hyb hu
          go_wp2_with fail
          go_at_call 12
          refine (Few_any q y _ _ (HB.out.below HBB.out)).mono ?_
          rintro e y3 ⟨yb, yd, rfl, hyi, hyb⟩
          rw [HMQ.out] at hyi
          rw [HMQ.out]
          have HY3 := Lib.hid hyi
          have HU3 := Lib.hid (HU.out.below hyb)
          have HBD := Lib.hid (HBB.out.trans (hyb.mono HBB.out.size))
          have HRD := Lib.hid (HRB.out.trans (hyb.mono HRB.out.size))
          clear hyi hyb
          go_wp2_with fail
          go_at_call 48
          refine (hasL_less yd HU3.out HY3.out HY.out (HT.out.below HBD.out) HP.out).mono ?_
          rintro e y4 ⟨⟨is, rfl, his⟩, hyb⟩
          have HBE := Lib.hid (HRD.out.trans (hyb.mono HRD.out.size))
          clear hyb
          cases is
          · clear his
            go_wp2_with fail
            go_roundw
            case rel => exact ⟨2, by omega, by go_num, HBE.out⟩
            case measure => simp [intOf]
          · exfalso
            have := his rfl
            rw [mod_ref HG.out HP.out, HRES.out] at this
            cases this
      · clear hk
        go_wp2_with fail
        go_at_call 17
        refine (awake_any _ (HT.out.below HBR.out)).mono ?_
        rintro e y1 ⟨rfl, hyb⟩
        have HBA := Lib.hid (HBR.out.trans (hyb.mono HBR.out.size))
        clear hyb
        go_wp2_with fail
        go_ret
        exact ⟨rfl, HBA.out⟩
  | some L =>
    have HRES := Lib.hid hres
    obtain ⟨hLq, hML, hMIN⟩ := refM_model hres hn8 (lt_graph HG.out) (g_sym HG.out) (g_sym HP.out) (g_loop HP.out)
    have HLEN : Hid (((some L).getD []).length ≤ 65536) := Lib.hid (by show L.length ≤ 65536; omega)
    have HLQ : Hid (((some L).getD []).length = q) := Lib.hid hLq
    have HML := Lib.hid hML
    have HMIN := Lib.hid hMIN
    have HYES : Hid (isM n q (natG z) (natG y) L.length (natL L) = true) := Lib.hid (by rw [hLq]; exact isM_of hML hn8 (lt_graph HG.out) fun j _ => rfl)
    clear hres hLq hML hMIN
    have hcod : codE (some L) = 0 := rfl
    go_enter Tryd.func9, Tryd.ntmps9
    go_wp2_with fail
    go_at_call 12
    refine (Few_any n z _ _ HA.out).mono ?_
    rintro e w1 ⟨a1, c1, rfl, hi1, hb1⟩
    rw [HMN.out] at hi1
    rw [HMN.out]
    have HB1 := Lib.hid hb1
    have HI1 := Lib.hid hi1
    clear hb1 hi1
    go_wp2_with fail
    go_at_call 12
    refine (Few_any q y _ _ (HB.out.below HB1.out)).mono ?_
    rintro e w2 ⟨a2, c2, rfl, hi2, hb2⟩
    rw [HMQ.out] at hi2
    rw [HMQ.out]
    have HI2 := Lib.hid (HI1.out.below hb2)
    have HJ2 := Lib.hid hi2
    clear hi2 HI1
    have HB2 := Lib.hid (HB1.out.trans (hb2.mono HB1.out.size))
    clear hb2
    have HMY := Lib.hid (Model_yes c1 c2 HI2.out HJ2.out HZ.out HY.out (HT.out.below HB2.out) HG.out HP.out)
    rw [mod_ref HG.out HP.out, HRES.out] at HMY
    go_wp2_with fail
    go_at_call 11
    refine HMY.out.mono ?_
    clear HMY
    rintro e w3 ⟨v3, rfl, ho3, hb3⟩
    obtain ⟨a3, c3, rfl, hlc3, hl3⟩ := IntsOwn.atC ho3 HLEN.out
    have HL3 := Lib.hid hl3
    clear ho3 hl3
    try rw [HLQ.out]
    rw [hcod]
    have HB3 := Lib.hid (HB2.out.trans (hb3.mono HB2.out.size))
    clear hb3
    go_wp2_with fail
    go_at_call 12
    refine (Few_any n z _ _ (HA.out.below HB3.out)).mono ?_
    rintro e w4 ⟨a4, c4, rfl, hi4, hb4⟩
    rw [HMN.out] at hi4
    rw [HMN.out]
    have HI4 := Lib.hid hi4
    clear hi4
    have HL4 := Lib.hid (HL3.out.below hb4)
    clear HL3
    have HB4 := Lib.hid (HB3.out.trans (hb4.mono HB3.out.size))
    clear hb4
    go_wp2_with fail
    go_at_call 12
    refine (Few_any q y _ _ (HB.out.below HB4.out)).mono ?_
    rintro e w5 ⟨a5, c5, rfl, hi5, hb5⟩
    rw [HMQ.out] at hi5
    rw [HMQ.out]
    have HI5 := Lib.hid (HI4.out.below hb5)
    have HJ5 := Lib.hid hi5
    clear hi5 HI4
    have HL5 := Lib.hid (HL4.out.below hb5)
    clear HL4
    have HB5 := Lib.hid (HB4.out.trans (hb5.mono HB4.out.size))
    clear hb5
    go_wp2_with fail
    go_at_call 14
    refine (ListC_any m x _ _ (HC.out.below HB5.out)).mono ?_
    rintro e w6 ⟨a6, c6, rfl, hcl6, hi6, hb6⟩
    have HI6 := Lib.hid (HI5.out.below hb6)
    have HJ6 := Lib.hid (HJ5.out.below hb6)
    have HK6 := Lib.hid hi6
    clear hi6 HI5 HJ5
    have HL6 := Lib.hid (HL5.out.below hb6)
    clear HL5
    have HB6 := Lib.hid (HB5.out.trans (hb6.mono HB5.out.size))
    clear hb6
    have HCK := Lib.hid (Check_yes c4 c5 c6 HI6.out HJ6.out HZ.out HY.out (HT.out.below HB6.out) HG.out HP.out HK6.out hcl6)
    rw [isM_few hq6, HIM.out] at HCK
    go_wp2_with fail
    go_at_call 13
    refine (HCK.out).mono ?_
    rintro e w7 ⟨rfl, hb7⟩
    have HL7 := Lib.hid (HL6.out.below hb7)
    clear HL6 HCK
    have HB7 := Lib.hid (HB6.out.trans (hb7.mono HB6.out.size))
    clear hb7
    cases him : im
    · clear him
      go_wp2_with fail
      go_at_call 12
      refine (Few_any n z _ _ (HA.out.below HB7.out)).mono ?_
      rintro e w8 ⟨a8, c8, rfl, hi8, hb8⟩
      rw [HMN.out] at hi8
      rw [HMN.out]
      have HI8 := Lib.hid hi8
      clear hi8
      have HL8 := Lib.hid (HL7.out.below hb8)
      clear HL7
      have HB8 := Lib.hid (HB7.out.trans (hb8.mono HB7.out.size))
      clear hb8
      go_wp2_with fail
      go_at_call 12
      refine (Few_any q y _ _ (HB.out.below HB8.out)).mono ?_
      rintro e w9 ⟨a9, c9, rfl, hi9, hb9⟩
      rw [HMQ.out] at hi9
      rw [HMQ.out]
      have HI9 := Lib.hid (HI8.out.below hb9)
      have HJ9 := Lib.hid hi9
      clear hi9 HI8
      have HL9 := Lib.hid (HL8.out.below hb9)
      clear HL8
      have HB9 := Lib.hid (HB8.out.trans (hb9.mono HB8.out.size))
      clear hb9
      have HCK := Lib.hid (Check_yes c8 c9 c3 HI9.out HJ9.out HZ.out HY.out (HT.out.below HB9.out) HG.out HP.out HL9.out hlc3)
      rw [show isM n q (natG z) (natG y) ((some L).getD []).length (natL ((some L).getD [])) = true from HYES.out, HLQ.out] at HCK
      go_wp2_with fail
      go_at_call 13
      refine (HCK.out).mono ?_
      rintro e w10 ⟨rfl, hb10⟩
      have HL10 := Lib.hid (HL9.out.below hb10)
      clear HL9 HCK
      have HB10 := Lib.hid (HB9.out.trans (hb10.mono HB9.out.size))
      clear hb10
      have HLC : Hid (0 < q → ∃ b o, a3 = some ⟨b, o, none⟩ ∧ ∀ i, i < q → w10.cell? ⟨b, o + i, none⟩ = some (.int .i64 (L.getD i 0 : Nat))) := Lib.hid fun h0 => by
        have h1 : ((some L).getD []).length = q := HLQ.out
        obtain ⟨b, o, h2, _, h3⟩ := HL10.out.2 (by omega)
        exact ⟨b, o, h2, fun i hi => h3 i (by omega)⟩
      go_wp2_with fail
      go_loopw [17, 20, 90] (fun al _ ix wr => ∃ k : Nat, k ≤ q ∧ ix = .int .i64 k ∧ al = .int .i64 (orF (fun i => L.getD i 0) k : Nat) ∧ w10 = wr) (fun _ _ ix _ => q - (intOf ix).toNat)
      case atStart => exact ⟨0, Nat.zero_le _, rfl, rfl, rfl⟩
      case round =>
        obtain ⟨k, hk, rfl, rfl, rfl⟩ := hrel
        by_cases hlt : k < q
        · obtain ⟨b3, o3, rfl, hc3⟩ := HLC.out (by omega)
          have ck := hc3 k hlt
          have hs1 : orF (fun i => L.getD i 0) k < 2 ^ n := orF_lt k fun i hi => HML.out.lt i (by omega)
          have hs2 : L.getD k 0 < 2 ^ n := HML.out.lt k hlt
          have HOR := Lib.hid (i64_or (orF (fun i => L.getD i 0) k) (L.getD k 0) (by omega) (by omega))
          have HST : Hid (orF (fun i => L.getD i 0) (k + 1) = orF (fun i => L.getD i 0) k ||| L.getD k 0) := Lib.hid rfl
          have hs16 : orF (fun i => L.getD i 0) k < 65536 := by omega
          have ht16 : L.getD k 0 < 65536 := by omega
          clear hc3
          generalize L.getD k 0 = t at *
          generalize orF (fun i => L.getD i 0) k = s at *
          go_wp2_with fail
          go_roundw
          case rel => exact ⟨k + 1, by omega, by go_num, by first | (rw [HST.out]; done) | (rw [HST.out, HOR.out]; done) | (rw [HST.out]; rfl), by first | trivial | rfl⟩
          case measure => simp [intOf]; omega
        · have hke : k = q := by omega
          rw [hke]
          clear hke hk hlt HLC
          obtain ⟨s, hs⟩ : ∃ s, s = orF (fun i => L.getD i 0) q := ⟨_, rfl⟩
          have HS := Lib.hid hs
          rw [← hs]
          clear hs
          go_wp2_with fail
          go_loopw [18, 22, 100] (fun ot _ ix wr => ∃ k : Nat, k ≤ m ∧ ix = .int .i64 k ∧ (∃ v : Int, ot = .int .i64 v) ∧ w10 = wr) (fun _ _ ix _ => m - (intOf ix).toNat)
          case atStart => exact ⟨0, Nat.zero_le _, rfl, ⟨0, rfl⟩, rfl⟩
          case round =>
            obtain ⟨k, hk, rfl, ⟨v, rfl⟩, rfl⟩ := hrel
            by_cases hlt : k < m
            · obtain ⟨bd, od, rfl, _, hcd⟩ := (HK0.out.below HB10.out).2 (by omega)
              have ck := hcd k hlt
              clear hcd
              generalize x k = t at *
              go_wp2_with fail
              go_roundw
              case rel => exact ⟨k + 1, by omega, by go_num, ⟨_, rfl⟩, by first | trivial | rfl⟩
              case measure => simp [intOf]; omega
            · have hke : k = m := by omega
              clear hlt hk
              rw [hke]
              clear hke
              go_wp2_with fail
              obtain ⟨wn, hwn, r1, r2, r3, hbn, hsn⟩ := new3 w10 3 3 22 [.int .i64 0] [.int .i64 1] [.slice (some ⟨w10.heap.size, 0, none⟩) 1 1, .slice (some ⟨w10.heap.size + 1, 0, none⟩) 1 1]
              have HR1 := Lib.hid r1
              have HR2 := Lib.hid r2
              have HR3 := Lib.hid r3
              have HBN := Lib.hid (HB10.out.trans (hbn.mono HB10.out.size))
              have hl1 := r1.lt
              have hl2 := r2.lt
              have hl3 := r3.lt
              clear r1 r2 r3 hbn
              go_wp2_with fail
              rw [← hwn]
              clear hwn
              go_loopw [24, 25, 26, 27, 28, 120] (fun _ _ _ _ _ ix wr => ∃ k : Nat, k ≤ 2 ∧ ix = .int .i64 k ∧ Below wn.heap.size wn wr) (fun _ _ _ _ _ ix _ => 2 - (intOf ix).toNat)
              case atStart => exact ⟨0, by omega, rfl, Below.refl _ _⟩
              case round =>
                obtain ⟨k, hk, rfl, hbr⟩ := hrel
                have HRR := Lib.hid hbr
                have HBR := Lib.hid (HBN.out.trans (hbr.mono HBN.out.size))
                have k1 := (HR1.out.below hbr hl1).cell (i := 0) rfl
                have k2 := (HR2.out.below hbr hl2).cell (i := 0) rfl
                have k3 := (HR3.out.below hbr hl3).cell (i := 0) rfl
                have k4 := (HR3.out.below hbr hl3).cell (i := 1) rfl
                clear hbr
                rcases (show k = 0 ∨ k = 1 ∨ k = 2 by omega) with rfl | rfl | rfl
                · clear hk
                  go_wp2_with fail
                  go_at_call 12
                  refine (Few_any n z _ _ (HA.out.below HBR.out)).mono ?_
                  rintro e y1 ⟨ya, yc, rfl, hyi, hyb⟩
                  rw [HMN.out] at hyi
                  rw [HMN.out]
                  have HY1 := Lib.hid hyi
                  have HBA := Lib.hid (HBR.out.trans (hyb.mono HBR.out.size))
                  have HRA := Lib.hid (HRR.out.trans (hyb.mono HRR.out.size))
                  clear hyi hyb
                  go_wp2_with fail
                  go_at_call 43
                  refine (Delete_any yc HY1.out HZ.out (HT.out.below HBA.out) HG.out).mono ?_
                  rintro e y2 ⟨rfl | ⟨u, rfl, hu⟩, hyb⟩
                  · have HBC := Lib.hid (HRA.out.trans (hyb.mono HRA.out.size))
                    clear hyb
                    go_wp2_with fail
                    go_roundw
                    case rel => exact ⟨1, by omega, by go_num, HBC.out⟩
                    case measure => simp [intOf]
                  · have HBB := Lib.hid (HBA.out.trans (hyb.mono HBA.out.size))
                    have HRB := Lib.hid (HRA.out.trans (hyb.mono HRA.out.size))
                    have HU := Lib.hid hu
                    clear hyb hu
                    go_wp2_with fail
                    go_at_call 12
                    refine (Few_any q y _ _ (HB.out.below HBB.out)).mono ?_
                    rintro e y3 ⟨yb, yd, rfl, hyi, hyb⟩
                    rw [HMQ.out] at hyi
                    rw [HMQ.out]
                    have HY3 := Lib.hid hyi
                    have HU3 := Lib.hid (HU.out.below hyb)
                    have HBD := Lib.hid (HBB.out.trans (hyb.mono HBB.out.size))
                    have HRD := Lib.hid (HRB.out.trans (hyb.mono HRB.out.size))
                    clear hyi hyb
                    go_wp2_with fail
                    go_at_call 48
                    refine (hasL_less yd HU3.out HY3.out HY.out (HT.out.below HBD.out) HP.out).mono ?_
                    rintro e y4 ⟨⟨is, rfl, his⟩, hyb⟩
                    have HBE := Lib.hid (HRD.out.trans (hyb.mono HRD.out.size))
                    clear hyb
                    cases is
                    · clear his
                      go_wp2_with fail
                      go_roundw
                      case rel => exact ⟨1, by omega, by go_num, HBE.out⟩
                      case measure => simp [intOf]
                    · clear his
                      go_wp2_with fail
                      go_roundw
                      case rel => exact ⟨1, by omega, by go_num, HBE.out⟩
                      case measure => simp [intOf]
                · clear hk
                  go_wp2_with fail
                  go_at_call 12
                  refine (Few_any n z _ _ (HA.out.below HBR.out)).mono ?_
                  rintro e y1 ⟨ya, yc, rfl, hyi, hyb⟩
                  rw [HMN.out] at hyi
                  rw [HMN.out]
                  have HY1 := Lib.hid hyi
                  have HBA := Lib.hid (HBR.out.trans (hyb.mono HBR.out.size))
                  have HRA := Lib.hid (HRR.out.trans (hyb.mono HRR.out.size))
                  clear hyi hyb
                  go_wp2_with fail
                  go_at_call 44
                  refine (Contract_any yc HY1.out HZ.out (HT.out.below HBA.out) HG.out).mono ?_
                  rintro e y2 ⟨rfl | ⟨u, rfl, hu⟩, hyb⟩
                  · have HBC := Lib.hid (HRA.out.trans (hyb.mono HRA.out.size))
                    clear hyb
                    go_wp2_with fail
                    go_roundw
                    case rel => exact ⟨2, by omega, by go_num, HBC.out⟩
                    case measure => simp [intOf]
                  · have HBB := Lib.hid (HBA.out.trans (hyb.mono HBA.out.size))
                    have HRB := Lib.hid (HRA.out.trans (hyb.mono HRA.out.size))
                    have HU := Lib.hid hu
                    clear hyb hu
                    go_wp2_with fail
                    go_at_call 12
                    refine (Few_any q y _ _ (HB.out.below HBB.out)).mono ?_
                    rintro e y3 ⟨yb, yd, rfl, hyi, hyb⟩
                    rw [HMQ.out] at hyi
                    rw [HMQ.out]
                    have HY3 := Lib.hid hyi
                    have HU3 := Lib.hid (HU.out.below hyb)
                    have HBD := Lib.hid (HBB.out.trans (hyb.mono HBB.out.size))
                    have HRD := Lib.hid (HRB.out.trans (hyb.mono HRB.out.size))
                    clear hyi hyb
                    go_wp2_with fail
                    go_at_call 48
                    refine (hasL_less yd HU3.out HY3.out HY.out (HT.out.below HBD.out) HP.out).mono ?_
                    rintro e y4 ⟨⟨is, rfl, his⟩, hyb⟩
                    have HBE := Lib.hid (HRD.out.trans (hyb.mono HRD.out.size))
                    clear hyb
                    cases is
                    · clear his
                      go_wp2_with fail
                      go_roundw
                      case rel => exact ⟨2, by omega, by go_num, HBE.out⟩
                      case measure => simp [intOf]
                    · clear his
                      go_wp2_with fail
                      go_roundw
                      case rel => exact ⟨2, by omega, by go_num, HBE.out⟩
                      case measure => simp [intOf]
                · clear hk
                  go_wp2_with fail
                  go_at_call 17
                  refine (awake_any _ (HT.out.below HBR.out)).mono ?_
                  rintro e y1 ⟨rfl, hyb⟩
                  have HBA := Lib.hid (HBR.out.trans (hyb.mono HBR.out.size))
                  clear hyb
                  go_wp2_with fail
                  go_ret
                  exact ⟨rfl, HBA.out⟩
    · obtain ⟨hmq, MB, hMB, hxB⟩ := HIMO.out him
      have HMB := Lib.hid hMB
      have HXB := Lib.hid hxB
      have HMQ2 := Lib.hid hmq
      have hmq2 : m ≤ q := by omega
      clear hMB hxB him hmq
      go_wp2_with fail
      go_at_call 12
      refine (Few_any n z _ _ (HA.out.below HB7.out)).mono ?_
      rintro e w8 ⟨a8, c8, rfl, hi8, hb8⟩
      rw [HMN.out] at hi8
      rw [HMN.out]
      have HI8 := Lib.hid hi8
      clear hi8
      have HL8 := Lib.hid (HL7.out.below hb8)
      clear HL7
      have HB8 := Lib.hid (HB7.out.trans (hb8.mono HB7.out.size))
      clear hb8
      go_wp2_with fail
      go_at_call 12
      refine (Few_any q y _ _ (HB.out.below HB8.out)).mono ?_
      rintro e w9 ⟨a9, c9, rfl, hi9, hb9⟩
      rw [HMQ.out] at hi9
      rw [HMQ.out]
      have HI9 := Lib.hid (HI8.out.below hb9)
      have HJ9 := Lib.hid hi9
      clear hi9 HI8
      have HL9 := Lib.hid (HL8.out.below hb9)
      clear HL8
      have HB9 := Lib.hid (HB8.out.trans (hb9.mono HB8.out.size))
      clear hb9
      have HCK := Lib.hid (Check_yes c8 c9 c3 HI9.out HJ9.out HZ.out HY.out (HT.out.below HB9.out) HG.out HP.out HL9.out hlc3)
      rw [show isM n q (natG z) (natG y) ((some L).getD []).length (natL ((some L).getD [])) = true from HYES.out, HLQ.out] at HCK
      go_wp2_with fail
      go_at_call 13
      refine (HCK.out).mono ?_
      rintro e w10 ⟨rfl, hb10⟩
      have HL10 := Lib.hid (HL9.out.below hb10)
      clear HL9 HCK
      have HB10 := Lib.hid (HB9.out.trans (hb10.mono HB9.out.size))
      clear hb10
      have HLC : Hid (0 < q → ∃ b o, a3 = some ⟨b, o, none⟩ ∧ ∀ i, i < q → w10.cell? ⟨b, o + i, none⟩ = some (.int .i64 (L.getD i 0 : Nat))) := Lib.hid fun h0 => by
        have h1 : ((some L).getD []).length = q := HLQ.out
        obtain ⟨b, o, h2, _, h3⟩ := HL10.out.2 (by omega)
        exact ⟨b, o, h2, fun i hi => h3 i (by omega)⟩
      go_wp2_with fail
      go_loopw [17, 20, 90] (fun al _ ix wr => ∃ k : Nat, k ≤ q ∧ ix = .int .i64 k ∧ al = .int .i64 (orF (fun i => L.getD i 0) k : Nat) ∧ w10 = wr) (fun _ _ ix _ => q - (intOf ix).toNat)
      case atStart => exact ⟨0, Nat.zero_le _, rfl, rfl, rfl⟩
      case round =>
        obtain ⟨k, hk, rfl, rfl, rfl⟩ := hrel
        by_cases hlt : k < q
        · obtain ⟨b3, o3, rfl, hc3⟩ := HLC.out (by omega)
          have ck := hc3 k hlt
          have hs1 : orF (fun i => L.getD i 0) k < 2 ^ n := orF_lt k fun i hi => HML.out.lt i (by omega)
          have hs2 : L.getD k 0 < 2 ^ n := HML.out.lt k hlt
          have HOR := Lib.hid (i64_or (orF (fun i => L.getD i 0) k) (L.getD k 0) (by omega) (by omega))
          have HST : Hid (orF (fun i => L.getD i 0) (k + 1) = orF (fun i => L.getD i 0) k ||| L.getD k 0) := Lib.hid rfl
          have hs16 : orF (fun i => L.getD i 0) k < 65536 := by omega
          have ht16 : L.getD k 0 < 65536 := by omega
          clear hc3
          generalize L.getD k 0 = t at *
          generalize orF (fun i => L.getD i 0) k = s at *
          go_wp2_with fail
          go_roundw
          case rel => exact ⟨k + 1, by omega, by go_num, by first | (rw [HST.out]; done) | (rw [HST.out, HOR.out]; done) | (rw [HST.out]; rfl), by first | trivial | rfl⟩
          case measure => simp [intOf]; omega
        · have hke : k = q := by omega
          rw [hke]
          clear hke hk hlt HLC
          obtain ⟨s, hs⟩ : ∃ s, s = orF (fun i => L.getD i 0) q := ⟨_, rfl⟩
          have HS := Lib.hid hs
          rw [← hs]
          clear hs
          go_wp2_with fail
          go_loopw [18, 22, 100] (fun ot _ ix wr => ∃ k : Nat, k ≤ m ∧ ix = .int .i64 k ∧ (ot = .int .i64 (orF MB k : Nat)) ∧ w10 = wr) (fun _ _ ix _ => m - (intOf ix).toNat)
          case atStart => exact ⟨0, Nat.zero_le _, rfl, rfl, rfl⟩
          case round =>
            obtain ⟨k, hk, rfl, rfl, rfl⟩ := hrel
            by_cases hlt : k < m
            · obtain ⟨bd, od, rfl, _, hcd⟩ := (HK0.out.below HB10.out).2 (by omega)
              have ck := hcd k hlt
              clear hcd
              rw [HXB.out k (by omega)] at ck
              have hs1 : orF MB k < 2 ^ n := orF_lt k fun i hi => HMB.out.lt i (by omega)
              have hs2 : MB k < 2 ^ n := HMB.out.lt k (by omega)
              have HOR := Lib.hid (i64_or (orF MB k) (MB k) (by omega) (by omega))
              have HST : Hid (orF MB (k + 1) = orF MB k ||| MB k) := Lib.hid rfl
              have hs16 : orF MB k < 65536 := by omega
              have ht16 : MB k < 65536 := by omega
              generalize MB k = t at *
              generalize orF MB k = so at *
              go_wp2_with fail
              go_roundw
              case rel => exact ⟨k + 1, by omega, by go_num, by first | (rw [HST.out]; done) | (rw [HST.out, HOR.out]; done) | (rw [HST.out]; rfl), by first | trivial | rfl⟩
              case measure => simp [intOf]; omega
            · have hke : k = m := by omega
              clear hlt hk
              rw [hke]
              clear hke
              have hle := HMIN.out MB HMB.out
              rw [← HS.out] at hle
              have hs1 : s < 2 ^ n := by rw [HS.out]; exact orF_lt q HML.out.lt
              obtain ⟨t, ht⟩ : ∃ t, t = orF MB m := ⟨_, rfl⟩
              have ht2 : t = orF MB q := by rw [ht, HMQ2.out]
              rw [← ht2] at hle
              have hs2 : t < 2 ^ n := by rw [ht2]; exact orF_lt q HMB.out.lt
              rw [← ht]
              clear ht2
              have HSA := Lib.hid (fun w => Size_any (n := n) (by omega) s hs1 w)
              have HSB := Lib.hid (fun w => Size_any (n := n) (by omega) t hs2 w)
              generalize szS n s = x1 at *
              generalize szS n t = x2 at *
              have e1 : decide ((x1 : Int) > (x2 : Int)) = false := decide_eq_false (by omega)
              have e2 : decide ((x2 : Int) < (x1 : Int)) = false := decide_eq_false (by omega)
              have e3 : decide (x2 < x1) = false := decide_eq_false (by omega)
              clear ht
              go_wp2_with fail
              go_at_call 47
              refine (HSA.out _).mono ?_
              rintro e z1 ⟨rfl, rfl⟩
              go_wp2_with fail
              go_at_call 47
              refine (HSB.out _).mono ?_
              rintro e z2 ⟨rfl, rfl⟩
              obtain ⟨wn, hwn, r1, r2, r3, hbn, hsn⟩ := new3 w10 3 3 22 [.int .i64 0] [.int .i64 1] [.slice (some ⟨w10.heap.size, 0, none⟩) 1 1, .slice (some ⟨w10.heap.size + 1, 0, none⟩) 1 1]
              have HR1 := Lib.hid r1
              have HR2 := Lib.hid r2
              have HR3 := Lib.hid r3
              have HBN := Lib.hid (HB10.out.trans (hbn.mono HB10.out.size))
              have hl1 := r1.lt
              have hl2 := r2.lt
              have hl3 := r3.lt
              clear r1 r2 r3 hbn
              go_wp2_with fail
              rw [← hwn]
              clear hwn
              go_loopw [24, 25, 26, 27, 28, 120] (fun _ _ _ _ _ ix wr => ∃ k : Nat, k ≤ 2 ∧ ix = .int .i64 k ∧ Below wn.heap.size wn wr) (fun _ _ _ _ _ ix _ => 2 - (intOf ix).toNat)
              case atStart => exact ⟨0, by omega, rfl, Below.refl _ _⟩
              case round =>
                obtain ⟨k, hk, rfl, hbr⟩ := hrel
                have HRR := Lib.hid hbr
                have HBR := Lib.hid (HBN.out.trans (hbr.mono HBN.out.size))
                have k1 := (HR1.out.below hbr hl1).cell (i := 0) rfl
                have k2 := (HR2.out.below hbr hl2).cell (i := 0) rfl
                have k3 := (HR3.out.below hbr hl3).cell (i := 0) rfl
                have k4 := (HR3.out.below hbr hl3).cell (i := 1) rfl
                clear hbr
                rcases (show k = 0 ∨ k = 1 ∨ k = 2 by omega) with rfl | rfl | rfl
                · clear hk
                  go_wp2_with fail
                  go_at_call 12
                  refine (Few_any n z _ _ (HA.out.below HBR.out)).mono ?_
                  rintro e y1 ⟨ya, yc, rfl, hyi, hyb⟩
                  rw [HMN.out] at hyi
                  rw [HMN.out]
                  have HY1 := Lib.hid hyi
                  have HBA := Lib.hid (HBR.out.trans (hyb.mono HBR.out.size))
                  have HRA := Lib.hid (HRR.out.trans (hyb.mono HRR.out.size))
                  clear hyi hyb
                  go_wp2_with fail
                  go_at_call 43
                  refine (Delete_any yc HY1.out HZ.out (HT.out.below HBA.out) HG.out).mono ?_
                  rintro e y2 ⟨rfl | ⟨u, rfl, hu⟩, hyb⟩
                  · have HBC := Lib.hid (HRA.out.trans (hyb.mono HRA.out.size))
                    clear hyb
                    go_wp2_with fail
                    go_roundw
                    case rel => exact ⟨1, by omega, by go_num, HBC.out⟩
                    case measure => simp [intOf]
                  · have HBB := Lib.hid (HBA.out.trans (hyb.mono HBA.out.size))
                    have HRB := Lib.hid (HRA.out.trans (hyb.mono HRA.out.size))
                    have HU := Lib.hid hu
                    clear hyb hu
                    go_wp2_with fail
                    go_at_call 12
                    refine (Few_any q y _ _ (HB.out.below HBB.out)).mono ?_
                    rintro e y3 ⟨yb, yd, rfl, hyi, hyb⟩
                    rw [HMQ.out] at hyi
                    rw [HMQ.out]
                    have HY3 := Lib.hid hyi
                    have HU3 := Lib.hid (HU.out.below hyb)
                    have HBD := Lib.hid (HBB.out.trans (hyb.mono HBB.out.size))
                    have HRD := Lib.hid (HRB.out.trans (hyb.mono HRB.out.size))
                    clear hyi hyb
                    go_wp2_with fail
                    go_at_call 48
                    refine (hasL_less yd HU3.out HY3.out HY.out (HT.out.below HBD.out) HP.out).mono ?_
                    rintro e y4 ⟨⟨is, rfl, his⟩, hyb⟩
                    have HBE := Lib.hid (HRD.out.trans (hyb.mono HRD.out.size))
                    clear hyb
                    cases is
                    · clear his
                      go_wp2_with fail
                      go_roundw
                      case rel => exact ⟨1, by omega, by go_num, HBE.out⟩
                      case measure => simp [intOf]
                    · clear his
                      go_wp2_with fail
                      go_roundw
                      case rel => exact ⟨1, by omega, by go_num, HBE.out⟩
                      case measure => simp [intOf]
                · clear hk
                  go_wp2_with fail
                  go_at_call 12
                  refine (Few_any n z _ _ (HA.out.below HBR.out)).mono ?_
                  rintro e y1 ⟨ya, yc, rfl, hyi, hyb⟩
                  rw [HMN.out] at hyi
                  rw [HMN.out]
                  have HY1 := Lib.hid hyi
                  have HBA := Lib.hid (HBR.out.trans (hyb.mono HBR.out.size))
                  have HRA := Lib.hid (HRR.out.trans (hyb.mono HRR.out.size))
                  clear hyi hyb
                  go_wp2_with fail
                  go_at_call 44
                  refine (Contract_any yc HY1.out HZ.out (HT.out.below HBA.out) HG.out).mono ?_
                  rintro e y2 ⟨rfl | ⟨u, rfl, hu⟩, hyb⟩
                  · have HBC := Lib.hid (HRA.out.trans (hyb.mono HRA.out.size))
                    clear hyb
                    go_wp2_with fail
                    go_roundw
                    case rel => exact ⟨2, by omega, by go_num, HBC.out⟩
                    case measure => simp [intOf]
                  · have HBB := Lib.hid (HBA.out.trans (hyb.mono HBA.out.size))
                    have HRB := Lib.hid (HRA.out.trans (hyb.mono HRA.out.size))
                    have HU := Lib.hid hu
                    clear hyb hu
                    go_wp2_with fail
                    go_at_call 12
                    refine (Few_any q y _ _ (HB.out.below HBB.out)).mono ?_
                    rintro e y3 ⟨yb, yd, rfl, hyi, hyb⟩
                    rw [HMQ.out] at hyi
                    rw [HMQ.out]
                    have HY3 := Lib.hid hyi
                    have HU3 := Lib.hid (HU.out.below hyb)
                    have HBD := Lib.hid (HBB.out.trans (hyb.mono HBB.out.size))
                    have HRD := Lib.hid (HRB.out.trans (hyb.mono HRB.out.size))
                    clear hyi hyb
                    go_wp2_with fail
                    go_at_call 48
                    refine (hasL_less yd HU3.out HY3.out HY.out (HT.out.below HBD.out) HP.out).mono ?_
                    rintro e y4 ⟨⟨is, rfl, his⟩, hyb⟩
                    have HBE := Lib.hid (HRD.out.trans (hyb.mono HRD.out.size))
                    clear hyb
                    cases is
                    · clear his
                      go_wp2_with fail
                      go_roundw
                      case rel => exact ⟨2, by omega, by go_num, HBE.out⟩
                      case measure => simp [intOf]
                    · clear his
                      go_wp2_with fail
                      go_roundw
                      case rel => exact ⟨2, by omega, by go_num, HBE.out⟩
                      case measure => simp [intOf]
                · clear hk
                  go_wp2_with fail
                  go_at_call 17
                  refine (awake_any _ (HT.out.below HBR.out)).mono ?_
                  rintro e y1 ⟨rfl, hyb⟩
                  have HBA := Lib.hid (HBR.out.trans (hyb.mono HBR.out.size))
                  clear hyb
                  go_wp2_with fail
                  go_ret
                  exact ⟨rfl, HBA.out⟩

end Go.Proofs.YtjhodfabomhdaaaDoor
