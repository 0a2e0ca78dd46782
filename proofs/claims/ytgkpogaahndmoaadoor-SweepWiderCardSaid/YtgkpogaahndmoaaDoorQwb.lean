/- The walk of the law SweepWider. -/
import Derived.Test.YtgkpogaahndmoaaDoorQwa
import Derived.Test.YtgkpogaahndmoaaDoorQia
import Derived.Test.YtgkpogaahndmoaaDoorQr
import Derived.Test.YtgkpogaahndmoaaDoorQk
namespace Go.Proofs.YtgkpogaahndmoaaDoor
set_option linter.unusedSimpArgs false
set_option linter.unusedVariables false
open Go.RowKit Go.Maps

theorem pf_few {n m : Nat} {r : Nat → Nat} {y : Nat → Int} : pathB n r (min m 140) y = pathB n r m y := by
  by_cases h : m ≤ 140
  · rw [Nat.min_eq_left h]
  · rw [Nat.min_eq_right (by omega), path_len (by omega), path_len (by omega)]
theorem graphB_nine {n : Nat} {z : Nat → Int} (h : graphB n 7 z = true) : graphB n 9 z = true := by
  unfold graphB at *
  simp only [Bool.and_eq_true, decide_eq_true_eq] at *
  exact ⟨⟨h.1.1, by omega⟩, h.2⟩
def chainL (k : Nat) : List Int := (List.range k).map chainP
theorem chainL_succ (k : Nat) : chainL (k + 1) = chainL k ++ [(k : Int) - 1] := by unfold chainL; rw [List.range_succ, List.map_append]; rfl
theorem chainL_len (k : Nat) : (chainL k).length = k := by simp [chainL]
theorem chainL_get {k i : Nat} (h : i < k) : zListI (chainL k) i = chainP i := by
  unfold zListI chainL
  rw [List.getD_eq_getElem?_getD, List.getElem?_map, List.getElem?_range h]; rfl
theorem IntsAt.congr {w : World} {a : Option Addr} {n : Nat} {z z' : Nat → Int} (h : IntsAt w a n z) (he : ∀ i, i < n → z i = z' i) : IntsAt w a n z' :=
  ⟨h.1, fun hn => by
    obtain ⟨b, off, h1, h2, h3⟩ := h.2 hn
    exact ⟨b, off, h1, h2, fun i hi => by rw [← he i hi]; exact h3 i hi⟩⟩

theorem grown_set (w : World) (b i : Nat) (v : Value) : w.grownBy (w.setCell ⟨b, i, none⟩ v) (some b) :=
  ⟨rfl, rfl, rfl, by simp [World.setCell], fun k _ hr => Below.heap_setCell _ _ _ _ (fun e => hr (by rw [e]))⟩

set_option maxRecDepth 200000 in
set_option maxHeartbeats 8000000 in
theorem SweepWider_walk (n m : Nat) (z y : Nat → Int) (v vo : Value) (w : World) (hA : SliceArg w v n z) (hz : InI64 z) (hO : SliceArg w vo m y) (hTab : HasTab w) :
    Calls Tryd.prog 14 #[v, vo] w (LawTrue w) := by
  obtain ⟨a, cap, rfl, hI⟩ := hA.ints
  obtain ⟨o, co, rfl, hL⟩ := hO.ints
  have HA := Lib.hid hA
  have HI0 := Lib.hid hI
  have HZ := Lib.hid hz
  have HLA := Lib.hid hO
  have HT := Lib.hid (Tab.of hTab)
  have hmm := hL.1
  unfold maxLen at hmm
  have hnn := hI.1
  unfold maxLen at hnn
  clear hA hI hz hTab hO hL
  cases hg : graphB n 7 z
  · have HG0 := Lib.hid hg
    have HGM : graphB (min n 11) 7 z = false := by rw [graphB_few]; exact hg
    clear hg
    go_enter Tryd.func14, Tryd.ntmps14
    go_wp2_with fail
    go_at_call 18
    refine (Few_any n z _ _ HA.out).mono ?_
    rintro e w1 ⟨a1, c1, rfl, hi1, hb1⟩
    have HB1 := Lib.hid hb1
    have HI1 := Lib.hid hi1
    clear hb1 hi1
    go_wp2_with fail
    go_at_call 20
    refine (Layout_none _ HI1.out HZ.out (HT.out.below HB1.out) HGM).mono ?_
    rintro e w2 ⟨rfl, hb2⟩
    have HB2 := Lib.hid (HB1.out.trans (hb2.mono HB1.out.size))
    clear hb2
    go_wp2_with fail
    go_at_call 22
    refine (awake_any _ (HT.out.below HB2.out)).mono ?_
    rintro e w3 ⟨rfl, hb3⟩
    have HB3 := Lib.hid (HB2.out.trans (hb3.mono HB2.out.size))
    clear hb3
    go_wp2_with fail
    go_ret
    exact ⟨rfl, HB3.out⟩
  · have hP := pl_of hg
    have hn7 := hP.le
    have hn1 := hP.one
    have hmin : min n 11 = n := by omega
    have HM : Hid (min n 11 = n) := Lib.hid hmin
    have HG0 := Lib.hid hg
    have HG9 := Lib.hid (graphB_nine hg)
    obtain ⟨W, hW⟩ : ∃ W, W = rst n (tbd n (natG z)) 0 := ⟨_, rfl⟩
    obtain ⟨T, hT⟩ : ∃ T, T = Wd.widthG n z := ⟨_, rfl⟩
    have hTW : T ≤ W := by rw [hT, hW]; exact width_path hP
    have hWn : W ≤ n - 1 := by rw [hW]; exact path_few_nodes hP
    have HW := Lib.hid hW
    have HTT := Lib.hid hT
    have HPL := Lib.hid hP
    have HPW : Hid (pathB n (natG z) m y = true → W ≤ mostB n y m - 1) := Lib.hid fun h => by rw [hW]; exact path_wide hP (path_iff.1 h).2.2.2
    have HCH : Hid (pathB n (natG z) m y = true → Wd.decB n (natG z) m m y chainP = true) := Lib.hid fun h => chain_dec h
    clear hmin hW hT hP hg
    have d1 : ¬ (W : Int) < (T : Int) := by omega
    have d2 : ¬ (n : Int) - 1 < (W : Int) := by omega
    go_enter Tryd.func14, Tryd.ntmps14
    go_wp2_with fail
    go_at_call 18
    refine (Few_any n z _ _ HA.out).mono ?_
    rintro e w1 ⟨a1, c1, rfl, hi1, hb1⟩
    rw [HM.out] at hi1
    rw [HM.out]
    have HB1 := Lib.hid hb1
    have HI1 := Lib.hid hi1
    clear hb1 hi1
    go_wp2_with fail
    go_at_call 20
    refine (Layout_yes _ HI1.out HZ.out (HT.out.below HB1.out) HG0.out).mono ?_
    rintro e w2 ⟨v2, rfl, hO2, hb2⟩
    rw [← HW.out]
    clear hO2
    have HB2 := Lib.hid (HB1.out.trans (hb2.mono HB1.out.size))
    clear hb2
    go_wp2_with fail
    go_at_call 18
    refine (Few_any n z _ _ (HA.out.below HB2.out)).mono ?_
    rintro e w3 ⟨a3, c3, rfl, hi3, hb3⟩
    rw [HM.out] at hi3
    rw [HM.out]
    have HI3 := Lib.hid hi3
    have HB3 := Lib.hid (HB2.out.trans (hb3.mono HB2.out.size))
    clear hb3
    clear hi3
    go_wp2_with fail
    go_at_call 44
    refine (Wd.Width_yes _ HI3.out HZ.out HG9.out).mono ?_
    rintro e w4 ⟨rfl, hb4⟩
    rw [← HTT.out]
    have HB4 := Lib.hid (HB3.out.trans (hb4.mono HB3.out.size))
    clear hb4
    go_wp2_with fail
    go_at_call 18
    refine (Few_any n z _ _ (HA.out.below HB4.out)).mono ?_
    rintro e w5 ⟨a5, c5, rfl, hi5, hb5⟩
    rw [HM.out] at hi5
    rw [HM.out]
    have HI5 := Lib.hid hi5
    have HB5 := Lib.hid (HB4.out.trans (hb5.mono HB4.out.size))
    clear hb5
    clear hi5
    go_wp2_with fail
    go_at_call 19
    refine (List_any m y _ _ (HLA.out.below HB5.out)).mono ?_
    rintro e w6 ⟨a6, c6, rfl, hi6, hb6⟩
    have HI6 := Lib.hid hi6
    have HX6 := Lib.hid hb6
    have HB6 := Lib.hid (HB5.out.trans (hb6.mono HB5.out.size))
    clear hb6
    clear hi6
    cases hp : pathB n (natG z) m y
    · have HPN : Hid (pathB n (natG z) (min m 140) y = false) := Lib.hid (by rw [pf_few]; exact hp)
      clear hp
      go_wp2_with fail
      go_at_call 29
      refine (Check_no _ _ (HI5.out.below HX6.out) HZ.out HI6.out (HT.out.below HB6.out) HG0.out HPN.out).mono ?_
      rintro e w7 ⟨rfl, hb7⟩
      have HB7 := Lib.hid (HB6.out.trans (hb7.mono HB6.out.size))
      clear hb7
      go_wp2_with fail
      go_at_call 22
      refine (awake_any _ (HT.out.below HB7.out)).mono ?_
      rintro e w8 ⟨rfl, hb8⟩
      have HB8 := Lib.hid (HB7.out.trans (hb8.mono HB7.out.size))
      clear hb8
      go_wp2_with fail
      go_ret
      exact ⟨rfl, HB8.out⟩
    · obtain ⟨hm1, hm30, _, _⟩ := path_iff.1 hp
      have HMM : Hid (min m 140 = m) := Lib.hid (by omega)
      rw [HMM.out] at HI6
      have HPN := Lib.hid hp
      have hWM := HPW.out hp
      have HDEC := Lib.hid (HCH.out hp)
      have hM1 : 1 ≤ mostB n y m := by
        have hb := (path_iff.1 hp).2.2.2
        obtain ⟨i, hi, hbit⟩ := hb.node 0 (by omega)
        have h1 := (mostB_le m).1 (Nat.le_refl (mostB n y m)) i hi
        have h2 := sz_pos (n := n) (show 0 < n by omega) hbit
        omega
      have HMX := Lib.hid (chain_most n y m)
      have hM9 := mostB_le9 (n := n) (m := m) (z := y)
      obtain ⟨M, hM⟩ : ∃ M, M = mostB n y m := ⟨_, rfl⟩
      have HMS : Hid (mostB n y m = M) := Lib.hid hM.symm
      rw [← hM] at HMX hWM hM1 hM9
      clear hM
      obtain ⟨i0, hi0, hz1, hz2, hz3⟩ := info_parts info_int
      have d3 : (W : Int) ≤ (M : Int) - 1 := by omega
      rw [HMM.out]
      clear hp
      go_wp2_with fail
      go_at_call 29
      refine (Check_yes c5 c6 (HI5.out.below HX6.out) HZ.out HI6.out (HT.out.below HB6.out) HG0.out HPN.out).mono ?_
      rintro e w7 ⟨rfl, hb7⟩
      rw [HMS.out]
      have HB7 := Lib.hid (HB6.out.trans (hb7.mono HB6.out.size))
      clear hb7
      go_wp2_with fail
      go_at_call 19
      refine (List_any m y _ _ (HLA.out.below HB7.out)).mono ?_
      rintro e w8 ⟨a8, c8, rfl, hi8, hb8⟩
      rw [HMM.out] at hi8
      rw [HMM.out]
      have HI8 := Lib.hid hi8
      have hlt8 : w.heap.size ≤ w8.heap.size := Nat.le_trans HB7.out.size hb8.size
      have HB8 := Lib.hid (HB7.out.trans (hb8.mono HB7.out.size))
      clear hb8
      clear hi8
      obtain ⟨w9, hw9, R9, hb9, hsz9⟩ := new1 w8 71 [.slice a8 m c8, .slice none 0 0]
      go_upto_region 11 with fail
      rw [← hw9]
      have HR9 := Lib.hid R9
      have HX9 := Lib.hid hb9
      clear hw9 R9 hb9
      go_wp2_with fail
      go_loopw [72] (fun i wr => ∃ (k : Nat) (pv : Value), k ≤ m ∧ i = .int .i64 k ∧ Row wr w8.heap.size 71 [.slice a8 m c8, pv] ∧ IntsOwn wr (w8.heap.size + 1) pv (chainL k) ∧ Below w8.heap.size w8 wr) (fun i _ => m - (intOf i).toNat)
      case atStart => exact ⟨0, _, Nat.zero_le _, rfl, HR9.out, IntsOwn.nil _ _, HX9.out⟩
      case round =>
        obtain ⟨k, pv, hk, rfl, hrow, hown, hbr⟩ := hrel
        have HRW := Lib.hid hrow
        have HOW := Lib.hid hown
        have HBX := Lib.hid hbr
        have hlr := hrow.lt
        clear hrow hown hbr HR9 HX9
        by_cases hlt : k < m
        · have c1 := HRW.out.cell (i := 1) rfl
          have c0 := HRW.out.cell (i := 0) rfl
          have HCS := Lib.hid (chainL_succ k)
          have HCL := Lib.hid (chainL_len k)
          obtain ⟨ga, gc, hpv⟩ := own_form HOW.out
          rw [HCL.out] at hpv
          subst hpv
          go_wp2_with (at_builtin; refine wpList_app_int (w8.heap.size + 1) (chainL k) ((k : Int) - 1) _ rfl _ _ rfl rfl HOW.out rfl ?c1 ?c2 ?_)
          case c1 => rw [HCL.out]; omega
          try (case c2 => omega)
          intro v' w3 ho3 hb3 _
          obtain ⟨ga3, gc3, hv3⟩ := own_form ho3
          have hL1 : (chainL k ++ [(k : Int) - 1]).length = k + 1 := by rw [List.length_append, HCL.out]; rfl
          rw [hL1] at hv3
          subst hv3
          have HO3 := Lib.hid ho3
          have HR3 := Lib.hid (HRW.out.below hb3 (Nat.lt_succ_self _))
          have HB3 := Lib.hid (HBX.out.trans (hb3.mono (Nat.le_succ _)))
          clear ho3 hb3 c0 c1
          have c1 := HR3.out.cell (i := 1) rfl
          have f1 := HR3.out.free 1
          have l1 := HR3.out.lt
          go_wp2_with fail
          go_roundw
          case rel =>
            refine ⟨k + 1, _, by omega, by go_num, HR3.out.set 1 _, ?_, HB3.out.setCell (p := ⟨w8.heap.size, 1, none⟩) (Nat.le_refl _) _⟩
            rw [HCS.out]
            exact World.ownsRow.kept HO3.out (grown_set w3 w8.heap.size 1 _) (.inr (not_own HO3.out (Nat.lt_succ_self _)).symm)
          case measure => simp [intOf]; omega
        · have hke : k = m := by omega
          rw [hke] at HOW
          obtain ⟨pa, pc, hpv, hpi⟩ := HOW.out.ints (by rw [chainL_len]; omega)
          rw [chainL_len] at hpv hpi
          subst hpv
          have HTA : Hid (Wd.TreeAt wr a8 pa m m y chainP) := Lib.hid ⟨HI8.out.below HBX.out, hpi.congr fun i hi => chainL_get hi⟩
          have HBW := Lib.hid (HB8.out.trans (HBX.out.mono hlt8))
          have c0 := HRW.out.cell (i := 0) rfl
          have c1 := HRW.out.cell (i := 1) rfl
          clear hpi hke
          have hbd : Below wr.heap.size wr wr.drew := (Below.refl _ _).drew
          have HBD := Lib.hid hbd
          have HR1 := Lib.hid (HRW.out.below hbd hlr)
          have HTD := Lib.hid (HTA.out.below hbd)
          have HBE := Lib.hid HBW.out.drew
          have HCHK : Hid (Wd.chkRes n m y (Wd.decB n (Wd.natG z) m m y chainP) = .tuple #[.int .i64 ((M : Nat) - 1), .bool true, .int .i64 0]) := Lib.hid (by rw [show Wd.decB n (Wd.natG z) m m y chainP = true from HDEC.out]; show Value.tuple #[.int .i64 ((Wd.mxTo n y m : Nat) - 1), .bool true, .int .i64 0] = _; rw [HMX.out])
          clear hbd
          go_upto_region 16 with fail
          go_region_with (first
            | (go_at_call 18; refine (Few_any n z _ _ (HA.out.below HBE.out)).mono ?_; rintro e w10 ⟨a10, c10, rfl, hi10, hb10⟩; rw [HM.out] at hi10; rw [HM.out]; have c0 := (HR1.out.below hb10 hlr).cell (i := 0) rfl; have c1 := (HR1.out.below hb10 hlr).cell (i := 1) rfl; have HI10 := Lib.hid hi10; have HX10 := Lib.hid hb10; clear hi10 hb10)
            | (go_at_call 45; refine (Wd.Check_yes c10 c8 pc HI10.out HZ.out HG9.out (HTD.out.below HX10.out)).mono ?_; rintro e w11 ⟨rfl, hb11⟩; rw [HCHK.out]; have HB11 := Lib.hid ((HBE.out.trans (HX10.out.mono HBE.out.size)).trans (hb11.mono (Nat.le_trans HBE.out.size HX10.out.size))); clear hb11))
          all_goals
            go_wp2_with (go_at_call 22; refine (awake_any _ (HT.out.below HB11.out)).mono ?_; rintro e w12 ⟨rfl, hb12⟩; have HB12 := Lib.hid (HB11.out.trans (hb12.mono HB11.out.size)); clear hb12)
            go_ret
            exact ⟨rfl, HB12.out⟩

end Go.Proofs.YtgkpogaahndmoaaDoor
