/- The walk of the law ChaseApart. -/
import Derived.Test.YtbodgdbcbaggdaaDoorC3g
namespace Go.Proofs.YtbodgdbcbaggdaaDoor
set_option linter.unusedSimpArgs false
set_option linter.unusedVariables false
open Go.RowKit Go.Maps

def LawTrue2 (w : World) (e : Ending) (w' : World) : Prop := e = .returned (.bool true) ∧ Below w.heap.size w w'

theorem takesB_few {r : Nat → Nat} {n l : Nat} {y : Nat → Int} (hn : n ≤ 8) : takesB r n (min l 13) y = takesB r n l y := by
  by_cases h : l ≤ 13
  · rw [Nat.min_eq_left h]
  · rw [Nat.min_eq_right (by omega)]
    unfold takesB
    rw [beq_eq_false_iff_ne.2 (show 13 ≠ n by omega), beq_eq_false_iff_ne.2 (show l ≠ n by omega)]

set_option maxRecDepth 200000 in
set_option maxHeartbeats 4000000 in
theorem ChaseApart_walk (n : Nat) (z : Nat → Int) (v : Value) (l : Nat) (y : Nat → Int) (u : Value) (w : World) (hA : SliceArg w v n z) (hz : ∀ i, -9223372036854775808 ≤ z i ∧ z i ≤ 9223372036854775807) (hL : SliceArg w u l y) (hTab : HasTab w) :
    Calls Tryd.prog 3 #[v, u] w (LawTrue2 w) := by
  obtain ⟨a, cap, rfl, hI⟩ := hA.ints
  obtain ⟨al, capl, rfl, hIL⟩ := hL.ints
  have HA := Lib.hid hA
  have HL := Lib.hid hL
  have HI := Lib.hid hI
  have HIL := Lib.hid hIL
  have HZ := Lib.hid hz
  have HTab := Lib.hid hTab
  clear hA hL hTab hI hIL hz
  by_cases hv : validB n z = true
  · have ht : townB n z = true := by rw [townB_valid]; exact hv
    obtain ⟨hn1, hn8⟩ := townB_le ht
    obtain ⟨hg1, hg8, hcell⟩ := graphB_le (validB_graph hv)
    have HM : Hid (min n 13 = n) := Lib.hid (by omega)
    have HV := Lib.hid hv
    have HTB := Lib.hid ht
    have HN : Hid (Net n (rG fun i => (z i).toNat)) := Lib.hid (by rw [rG_reachOf]; exact net_town ht)
    have HG := Lib.hid (GrAt.of_graph HI.out (validB_graph hv) (by omega))
    have HTKF : Hid (takesB (reachOf z) n (min l 13) y = takesB (reachOf z) n l y) := Lib.hid (takesB_few hn8)
    have hcore := fun L T => core_one (net_town ht) (L := L) (T := T)
    have HCORE := Lib.hid hcore
    have HRG := Lib.hid (rG_reachOf z)
    clear hv ht hcore hcell hg1 hg8
    obtain ⟨bb, hby⟩ : ∃ bb, bb = bestOf n (ranksF n (reachOf z) (chs n 1)) (chs n 1) := ⟨_, rfl⟩
    rw [← hby] at HCORE
    have HBY := Lib.hid hby.symm
    clear hby
    go_enter Tryd.func3, Tryd.ntmps3
    go_wp2_with fail
    go_at_call 6
    refine (Few_any n z _ _ HA.out).mono ?_
    rintro e w1 ⟨a1, c1, rfl, hi1, hb1⟩
    rw [HM.out] at hi1
    rw [HM.out]
    have HB1 := Lib.hid hb1
    clear hb1
    have HI1 := Lib.hid hi1
    clear hi1
    go_wp2_with fail
    go_at_call 5
    refine (Apart_any n z _ _ _ HI1.out (HTab.out.below HB1.out)).mono ?_
    rintro e w2 ⟨hb2, hr1, -⟩
    obtain ⟨L, T, hst, hno, hyes, hnot⟩ := hr1 HTB.out
    clear hr1
    have HST := Lib.hid hst
    have HNO := Lib.hid hno
    rcases HCORE.out L T HST.out HNO.out with ⟨hz1, hbb⟩ | ⟨hz4, hbb⟩
    · obtain ⟨lv, t, hTt, rfl, hown⟩ := hyes hz1
      have hlen := HST.out.full
      rw [szS_all] at hlen
      obtain ⟨al, cl, rfl, hil⟩ := hown.ints (by simp; omega)
      have HLL := Lib.hid hil
      have HBB := Lib.hid hbb
      have HTT := Lib.hid hTt
      clear hyes hnot hown hil hbb hTt hst hno
      generalize hll : (L ++ [t]).length = ll at *
      have HLEN := Lib.hid hll
      clear hll
      have HB2 := Lib.hid (HB1.out.trans (hb2.mono HB1.out.size))
      clear hb2
      go_wp2_with fail
      go_at_call 6
      refine (Few_any n z _ _ (SliceArg.below HA.out HB2.out)).mono ?_
      rintro e w3 ⟨a3, c3, rfl, hi3, hb3⟩
      rw [HM.out] at hi3
      rw [HM.out]
      have HI3 := Lib.hid hi3
      have HLL := Lib.hid (HLL.out.below hb3)
      clear hi3
      have HB3 := Lib.hid (HB2.out.trans (hb3.mono HB2.out.size))
      clear hb3
      go_wp2_with fail
      go_at_call 8
      refine (List_any l y _ _ (SliceArg.below HL.out HB3.out)).mono ?_
      rintro e w4 ⟨a4, c4, rfl, hi4, hb4⟩
      have HI4 := Lib.hid hi4
      have HI34 := Lib.hid (HI3.out.below hb4)
      have HLL := Lib.hid (HLL.out.below hb4)
      clear hi4
      have HB4 := Lib.hid (HB3.out.trans (hb4.mono HB3.out.size))
      clear hb4
      go_wp2_with fail
      go_at_call 7
      refine (CheckApart_any n z _ _ (min l 13) y _ _ _ HI34.out HI4.out).mono ?_
      rintro e w5 ⟨hb5, hr1, -⟩
      obtain rfl := hr1 HTB.out
      rw [HTKF.out]
      have HLL := Lib.hid (HLL.out.below hb5)
      clear hr1
      have HB5 := Lib.hid (HB4.out.trans (hb5.mono HB4.out.size))
      clear hb5
      go_wp2_with fail
      go_at_call 6
      refine (Few_any n z _ _ (SliceArg.below HA.out HB5.out)).mono ?_
      rintro e w6 ⟨a6, c6, rfl, hi6, hb6⟩
      rw [HM.out] at hi6
      rw [HM.out]
      have HI6 := Lib.hid hi6
      have HLL := Lib.hid (HLL.out.below hb6)
      clear hi6
      have HB6 := Lib.hid (HB5.out.trans (hb6.mono HB5.out.size))
      clear hb6
      go_wp2_with fail
      go_at_call 9
      refine (Core_any n z _ _ _ HI6.out).mono ?_
      rintro e w7 ⟨hb7, hr1, -⟩
      obtain ⟨L', T', rfl, hst', hno'⟩ := hr1 HTB.out
      obtain rfl := HST.out.same hst' HNO.out hno'
      have HLL := Lib.hid (HLL.out.below hb7)
      clear hr1 hst' hno'
      have HB7 := Lib.hid (HB6.out.trans (hb7.mono HB6.out.size))
      clear hb7
      go_wp2_with fail
      go_at_call 10
      refine (Valid_any n z _ _ _ (HI.out.below HB7.out) HZ.out).mono ?_
      rintro e w8 ⟨rfl, hb8⟩
      rw [HV.out]
      have HLL := Lib.hid (HLL.out.below hb8)
      have HB8 := Lib.hid (HB7.out.trans (hb8.mono HB7.out.size))
      clear hb8
      go_wp2_with fail
      go_at_call 12
      refine (ApartR_any HN.out _ (HG.out.below HB8.out)).mono ?_
      rintro e w9 ⟨hb9, hrn, hry⟩
      rw [HRG.out, HBY.out] at hrn hry
      obtain ⟨rv, L3, t3, rfl, hst3, hno3, hone3, hown3⟩ := hry HBB.out
      have hL3 : L3 = L := (HST.out.same_list hst3 HNO.out hno3).symm
      have ht3 : t3 = t := by
        have h1 := HST.out.same hst3 HNO.out hno3
        rw [HTT.out] at h1
        exact ((Nat.pow_right_inj (by omega)).1 h1).symm
      subst hL3
      subst ht3
      obtain ⟨ar, cr, rfl, hir⟩ := hown3.ints (by simp; omega)
      rw [HLEN.out] at hir
      rw [HLEN.out]
      have HIR := Lib.hid hir
      have HLL := Lib.hid (HLL.out.below hb9)
      clear hrn hry hst3 hno3 hone3 hown3 hir
      have HB9 := Lib.hid (HB8.out.trans (hb9.mono HB8.out.size))
      clear hb9
      go_wp2_with fail
      go_at_call 13
      refine (EqualI_true _ _ HLL.out HIR.out).mono ?_
      rintro e w10 ⟨rfl, hb10⟩
      have HB10 := Lib.hid (HB9.out.trans (hb10.mono HB9.out.size))
      clear hb10
      go_wp2_with fail
      go_at_call 14
      refine (TakesR_any (HG.out.below HB10.out) _ _ (HIL.out.below HB10.out)).mono ?_
      rintro e w11 ⟨rfl, hb11⟩
      rw [HRG.out]
      have HB11 := Lib.hid (HB10.out.trans (hb11.mono HB10.out.size))
      clear hb11
      generalize takesB (reachOf z) n l y = tb at *
      go_wp2_with fail
      go_at_call 15
      refine (CoreR_any (HG.out.below HB11.out) _).mono ?_
      rintro e w12 ⟨⟨L2, T2, rfl, hst2, hno2⟩, hb12⟩
      rw [HRG.out] at hst2 hno2
      obtain rfl := HST.out.same hst2 HNO.out hno2
      clear hst2 hno2
      have HB12 := Lib.hid (HB11.out.trans (hb12.mono HB11.out.size))
      clear hb12
      go_wp2_with fail
      go_at_call 11
      refine (awake_any _).mono ?_
      rintro e w13 ⟨rfl, hb13⟩
      have HB13 := Lib.hid (HB12.out.trans (hb13.mono HB12.out.size))
      clear hb13
      go_wp2_with fail
      go_ret
      exact ⟨rfl, HB13.out⟩
    · obtain rfl := hnot (by omega)
      have HBB := Lib.hid hbb
      clear hyes hnot hbb hst hno
      have HB2 := Lib.hid (HB1.out.trans (hb2.mono HB1.out.size))
      clear hb2
      go_wp2_with fail
      go_at_call 6
      refine (Few_any n z _ _ (SliceArg.below HA.out HB2.out)).mono ?_
      rintro e w3 ⟨a3, c3, rfl, hi3, hb3⟩
      rw [HM.out] at hi3
      rw [HM.out]
      have HI3 := Lib.hid hi3
      clear hi3
      have HB3 := Lib.hid (HB2.out.trans (hb3.mono HB2.out.size))
      clear hb3
      go_wp2_with fail
      go_at_call 8
      refine (List_any l y _ _ (SliceArg.below HL.out HB3.out)).mono ?_
      rintro e w4 ⟨a4, c4, rfl, hi4, hb4⟩
      have HI4 := Lib.hid hi4
      have HI34 := Lib.hid (HI3.out.below hb4)
      clear hi4
      have HB4 := Lib.hid (HB3.out.trans (hb4.mono HB3.out.size))
      clear hb4
      go_wp2_with fail
      go_at_call 7
      refine (CheckApart_any n z _ _ (min l 13) y _ _ _ HI34.out HI4.out).mono ?_
      rintro e w5 ⟨hb5, hr1, -⟩
      obtain rfl := hr1 HTB.out
      rw [HTKF.out]
      clear hr1
      have HB5 := Lib.hid (HB4.out.trans (hb5.mono HB4.out.size))
      clear hb5
      go_wp2_with fail
      go_at_call 6
      refine (Few_any n z _ _ (SliceArg.below HA.out HB5.out)).mono ?_
      rintro e w6 ⟨a6, c6, rfl, hi6, hb6⟩
      rw [HM.out] at hi6
      rw [HM.out]
      have HI6 := Lib.hid hi6
      clear hi6
      have HB6 := Lib.hid (HB5.out.trans (hb6.mono HB5.out.size))
      clear hb6
      go_wp2_with fail
      go_at_call 9
      refine (Core_any n z _ _ _ HI6.out).mono ?_
      rintro e w7 ⟨hb7, hr1, -⟩
      obtain ⟨L', T', rfl, hst', hno'⟩ := hr1 HTB.out
      obtain rfl := HST.out.same hst' HNO.out hno'
      clear hr1 hst' hno'
      have HB7 := Lib.hid (HB6.out.trans (hb7.mono HB6.out.size))
      clear hb7
      go_wp2_with fail
      go_at_call 10
      refine (Valid_any n z _ _ _ (HI.out.below HB7.out) HZ.out).mono ?_
      rintro e w8 ⟨rfl, hb8⟩
      rw [HV.out]
      have HB8 := Lib.hid (HB7.out.trans (hb8.mono HB7.out.size))
      clear hb8
      go_wp2_with fail
      go_at_call 12
      refine (ApartR_any HN.out _ (HG.out.below HB8.out)).mono ?_
      rintro e w9 ⟨hb9, hrn, hry⟩
      rw [HRG.out, HBY.out] at hrn hry
      obtain rfl := hrn HBB.out
      clear hrn hry
      have HB9 := Lib.hid (HB8.out.trans (hb9.mono HB8.out.size))
      clear hb9
      go_wp2_with fail
      go_at_call 13
      refine (EqualI_true (z := fun _ => 0) _ _ ⟨by decide, fun h => by omega⟩ ⟨by decide, fun h => by omega⟩).mono ?_
      rintro e w10 ⟨rfl, hb10⟩
      have HB10 := Lib.hid (HB9.out.trans (hb10.mono HB9.out.size))
      clear hb10
      go_wp2_with fail
      go_at_call 14
      refine (TakesR_any (HG.out.below HB10.out) _ _ (HIL.out.below HB10.out)).mono ?_
      rintro e w11 ⟨rfl, hb11⟩
      rw [HRG.out]
      have HB11 := Lib.hid (HB10.out.trans (hb11.mono HB10.out.size))
      clear hb11
      generalize takesB (reachOf z) n l y = tb at *
      go_wp2_with fail
      go_at_call 15
      refine (CoreR_any (HG.out.below HB11.out) _).mono ?_
      rintro e w12 ⟨⟨L2, T2, rfl, hst2, hno2⟩, hb12⟩
      rw [HRG.out] at hst2 hno2
      obtain rfl := HST.out.same hst2 HNO.out hno2
      clear hst2 hno2
      have HB12 := Lib.hid (HB11.out.trans (hb12.mono HB11.out.size))
      clear hb12
      go_wp2_with fail
      go_at_call 11
      refine (awake_any _).mono ?_
      rintro e w13 ⟨rfl, hb13⟩
      have HB13 := Lib.hid (HB12.out.trans (hb13.mono HB12.out.size))
      clear hb13
      go_wp2_with fail
      go_ret
      exact ⟨rfl, HB13.out⟩
  · have HVB : Hid (validB n z = false) := Lib.hid (by simpa using hv)
    have HTB : Hid (¬ townB (min n 13) z = true) := Lib.hid (fun h => hv (by rw [townB_few] at h; exact h))
    clear hv
    go_enter Tryd.func3, Tryd.ntmps3
    go_wp2_with fail
    go_at_call 6
    refine (Few_any n z _ _ HA.out).mono ?_
    rintro e w1 ⟨a1, c1, rfl, hi1, hb1⟩
    have HB1 := Lib.hid hb1
    clear hb1
    have HI1 := Lib.hid hi1
    clear hi1
    go_wp2_with fail
    go_at_call 5
    refine (Apart_any (min n 13) z _ _ _ HI1.out (HTab.out.below HB1.out)).mono ?_
    rintro e w2 ⟨hb2, -, hr1⟩
    obtain rfl := hr1 HTB.out
    clear hr1
    have HB2 := Lib.hid (HB1.out.trans (hb2.mono HB1.out.size))
    clear hb2
    go_wp2_with fail
    go_at_call 6
    refine (Few_any n z _ _ (SliceArg.below HA.out HB2.out)).mono ?_
    rintro e w3 ⟨a3, c3, rfl, hi3, hb3⟩
    have HI3 := Lib.hid hi3
    clear hi3
    have HB3 := Lib.hid (HB2.out.trans (hb3.mono HB2.out.size))
    clear hb3
    go_wp2_with fail
    go_at_call 8
    refine (List_any l y _ _ (SliceArg.below HL.out HB3.out)).mono ?_
    rintro e w4 ⟨a4, c4, rfl, hi4, hb4⟩
    have HI4 := Lib.hid hi4
    have HI34 := Lib.hid (HI3.out.below hb4)
    clear hi4
    have HB4 := Lib.hid (HB3.out.trans (hb4.mono HB3.out.size))
    clear hb4
    go_wp2_with fail
    go_at_call 7
    refine (CheckApart_any (min n 13) z _ _ (min l 13) y _ _ _ HI34.out HI4.out).mono ?_
    rintro e w5 ⟨hb5, -, hr1⟩
    obtain rfl := hr1 HTB.out
    clear hr1
    have HB5 := Lib.hid (HB4.out.trans (hb5.mono HB4.out.size))
    clear hb5
    go_wp2_with fail
    go_at_call 6
    refine (Few_any n z _ _ (SliceArg.below HA.out HB5.out)).mono ?_
    rintro e w6 ⟨a6, c6, rfl, hi6, hb6⟩
    have HI6 := Lib.hid hi6
    clear hi6
    have HB6 := Lib.hid (HB5.out.trans (hb6.mono HB5.out.size))
    clear hb6
    go_wp2_with fail
    go_at_call 9
    refine (Core_any (min n 13) z _ _ _ HI6.out).mono ?_
    rintro e w7 ⟨hb7, -, hr1⟩
    obtain rfl := hr1 HTB.out
    clear hr1
    have HB7 := Lib.hid (HB6.out.trans (hb7.mono HB6.out.size))
    clear hb7
    go_wp2_with fail
    go_at_call 10
    refine (Valid_any n z _ _ _ (HI.out.below HB7.out) HZ.out).mono ?_
    rintro e w8 ⟨rfl, hb8⟩
    rw [HVB.out]
    have HB8 := Lib.hid (HB7.out.trans (hb8.mono HB7.out.size))
    clear hb8
    go_wp2_with fail
    go_at_call 11
    refine (awake_any _).mono ?_
    rintro e w9 ⟨rfl, hb9⟩
    have HB9 := Lib.hid (HB8.out.trans (hb9.mono HB8.out.size))
    clear hb9
    go_wp2_with fail
    go_ret
    exact ⟨rfl, HB9.out⟩

end Go.Proofs.YtbodgdbcbaggdaaDoor
