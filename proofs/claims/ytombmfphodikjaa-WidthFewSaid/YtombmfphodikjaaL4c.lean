/- The walk of the law WidthFew. -/
import Derived.Test.YtombmfphodikjaaL4b
import Derived.Test.YtombmfphodikjaaW48
namespace Go.Proofs.Ytombmfphodikjaa
set_option linter.unusedSimpArgs false
set_option linter.unusedVariables false
open Go.RowKit Go.Maps

set_option maxRecDepth 200000 in
set_option maxHeartbeats 4000000 in
theorem WidthFew_no (n m q : Nat) (z y p : Nat → Int) (v vb vp : Value) (w : World) (hA : SliceArg w v n z) (hz : InI64 z) (hB : SliceArg w vb m y) (hC : SliceArg w vp q p) (hg : (graphB n 9 z && decB n (natG z) m q y p) = false) :
    Calls Try.prog 11 #[v, .agg #[vb, vp]] w (LawTrue w) := by
  obtain ⟨w0, hw0, R0, hb0, hs0⟩ := new1 w 41 [vb, vp]
  have HA := Lib.hid (hA.below hb0)
  obtain ⟨a, cap, rfl, hI⟩ := hA.ints
  obtain ⟨ta, ka, tp, kp, rfl, rfl, hT0⟩ := SliceArg.tree hB hC
  have HTB := Lib.hid (hB.below hb0)
  have HTP := Lib.hid (hC.below hb0)
  have HT0 := Lib.hid (hT0.below hb0)
  have HZ := Lib.hid hz
  have HI0 := Lib.hid (hI.below hb0)
  have HG := Lib.hid hg
  have HGF : Hid ((graphB (min n 13) 9 z && decB (min n 13) (natG z) (min m 210) (min q 210) y p) = false) := Lib.hid (by rw [dec_few]; exact hg)
  have HW0 := Lib.hid hw0
  have HBW := Lib.hid hb0
  have HR := Lib.hid R0
  have d0 := R0.cell (i := 0) rfl
  have d1 := R0.cell (i := 1) rfl
  clear hA hI hz hg hB hC hw0 hb0 R0 hT0
  have B0 : Below w0.heap.size w0 w0.drew := (Below.refl _ _).drew
  have B0a : Below w0.heap.size w0 (w0.alloc (.cells #[.slice none 0 0, .slice none 0 0] 42)).drew := ((Below.refl _ _).alloc (Nat.le_refl _) _).drew
  have hl0 := HR.out.lt
  go_enter Try.func11, Try.ntmps11
  go_wp2_with fail
  rw [← HW0.out]
  go_cut [5, 6] (fun s5 s6 wx => ∃ B, s5 = .pointer (some ⟨B, 0, none⟩) ∧ s6 = .int .i64 2 ∧ Row wx B 42 [.slice none 0 0, .slice none 0 0] ∧ Below w0.heap.size w0 wx)
  case first =>
    go_region_law (first
      | (go_simp; go_at_call 13; refine (Few_any n z _ _ (SliceArg.below HA.out (by first | exact B0 | exact B0a))).mono ?_; rintro e w4 ⟨a4, c4, rfl, hi4, hb4⟩; have HB4 : Hid (Below w0.heap.size w0 w4) := Lib.hid (by first | exact B0.trans (hb4.mono B0.size) | exact B0a.trans (hb4.mono B0a.size)); have R4 := HR.out.below HB4.out HR.out.lt; have d2 := R4.cell (i := 0) rfl; have d3 := R4.cell (i := 1) rfl; have hl4 := R4.lt; have hs4 := HB4.out.size; (try have hN := rowNew hb4); (try have hN := rowNewD hb4); have HI4 := Lib.hid hi4; clear hi4 hb4 R4)
      | (go_simp; go_at_call 26; refine (Of_any (HTB.out.below (by first | exact HB4.out | exact HB4.out.alloc HB4.out.size _)) (HTP.out.below (by first | exact HB4.out | exact HB4.out.alloc HB4.out.size _))).mono ?_; rintro e w5 ⟨a5, k5, b5, l5, rfl, hT5, hb5⟩; have HT5 := Lib.hid hT5; have HI5 : Hid (IntsAt w5 a4 (min n 13) z) := Lib.hid (by first | exact HI4.out.below hb5 | exact (HI4.out.alloc _).below hb5); have HB5 : Hid (Below w0.heap.size w0 w5) := Lib.hid (by first | exact HB4.out.trans (hb5.mono HB4.out.size) | exact (HB4.out.alloc HB4.out.size _).trans (hb5.mono (HB4.out.alloc HB4.out.size _).size)); have hs5 := HB5.out.size; (try have hN := hN.below hb5 hN.lt); (try have hN := rowNew hb5); clear hT5 hb5 HI4)
      | (go_simp; go_at_call 30; refine (Narrow_no _ _ _ (by first | exact HI5.out | exact HI5.out.alloc _) HZ.out (by first | exact HT5.out | exact HT5.out.below ((Below.refl _ _).alloc (Nat.le_refl _) _)) HGF.out).mono ?_; rintro e w6 ⟨rfl, hb6⟩; have HB6 : Hid (Below w0.heap.size w0 w6) := Lib.hid (by first | exact HB5.out.trans (hb6.mono HB5.out.size) | exact (HB5.out.alloc HB5.out.size _).trans (hb6.mono (HB5.out.alloc HB5.out.size _).size)); have hs6 := HB6.out.size; (try have hN := hN.below hb6 hN.lt); (try have hN := rowNew hb6); (try have n0 := Row.cell hN (i := 0) rfl); (try have n1 := Row.cell hN (i := 1) rfl); (try have f0 := Row.free hN 0); (try have f1 := Row.free hN 1); (try have nl := Row.lt hN); clear hb6 HI5 HT5))
    all_goals
      go_wp2_with fail
      go_meet
      first
        | exact ⟨_, rfl, rfl, Row.new _ _ _, HB6.out.alloc hs6 _⟩
        | exact ⟨_, rfl, rfl, (hN.set 0 _).set 1 _, (HB6.out.setCell (by first | exact hs5 | exact hs4 | exact Nat.le_refl _) _).setCell (by first | exact hs5 | exact hs4 | exact Nat.le_refl _) _⟩
  case rest =>
    obtain ⟨B, rfl, rfl, rb, hbb⟩ := hcut
    obtain ⟨wd, rfl⟩ : ∃ wd : World, wd = wc := ⟨_, rfl⟩
    have HB7 := Lib.hid hbb
    have HRB := Lib.hid rb
    have R7 := HR.out.below hbb HR.out.lt
    have d2 := R7.cell (i := 0) rfl
    have d3 := R7.cell (i := 1) rfl
    clear rb hbb R7 d0 d1
    go_wp2_with fail
    go_at_call 18
    refine (awake_any _).mono ?_
    rintro e w10 ⟨rfl, hb10⟩
    have HB10 := Lib.hid (HB7.out.trans (hb10.mono HB7.out.size))
    clear hb10
    go_wp2_with fail
    go_ret
    exact ⟨rfl, HBW.out.trans (HB10.out.mono HBW.out.size)⟩

set_option maxRecDepth 200000 in
set_option maxHeartbeats 4000000 in
theorem WidthFew_yes (n m q : Nat) (z y p : Nat → Int) (v vb vp : Value) (w : World) (hA : SliceArg w v n z) (hz : InI64 z) (hB : SliceArg w vb m y) (hC : SliceArg w vp q p) (hg : (graphB n 9 z && decB n (natG z) m q y p) = true) :
    Calls Try.prog 11 #[v, .agg #[vb, vp]] w (LawTrue w) := by
  obtain ⟨w0, hw0, R0, hb0, hs0⟩ := new1 w 41 [vb, vp]
  have HA := Lib.hid (hA.below hb0)
  obtain ⟨a, cap, rfl, hI⟩ := hA.ints
  obtain ⟨ta, ka, tp, kp, rfl, rfl, hT0⟩ := SliceArg.tree hB hC
  have HTB := Lib.hid (hB.below hb0)
  have HTP := Lib.hid (hC.below hb0)
  have HT0 := Lib.hid (hT0.below hb0)
  have HZ := Lib.hid hz
  have HI0 := Lib.hid (hI.below hb0)
  have HG := Lib.hid hg
  obtain ⟨g1, g2, g3, g4, g5, hle⟩ := fine_few hg
  have HG1 := Lib.hid g1
  have HG2 := Lib.hid g2
  have HM := Lib.hid g3
  have HMB := Lib.hid g4
  have HMQ := Lib.hid g5
  have HGR := Lib.hid (graph_gr (hI.below hb0) g1)
  have HW0 := Lib.hid hw0
  have HBW := Lib.hid hb0
  have HR := Lib.hid R0
  have d0 := R0.cell (i := 0) rfl
  have d1 := R0.cell (i := 1) rfl
  clear hA hI hz hg hB hC hw0 hb0 R0 hT0 g1 g2 g3 g4 g5
  have B0 : Below w0.heap.size w0 w0.drew := (Below.refl _ _).drew
  have B0a : Below w0.heap.size w0 (w0.alloc (.cells #[.slice none 0 0, .slice none 0 0] 42)).drew := ((Below.refl _ _).alloc (Nat.le_refl _) _).drew
  have hl0 := HR.out.lt
  go_enter Try.func11, Try.ntmps11
  go_wp2_with fail
  rw [← HW0.out]
  go_cut [5, 6] (fun s5 s6 wx => ∃ B xb kb xp kp M z' p', s5 = .pointer (some ⟨B, 0, none⟩) ∧ s6 = .int .i64 0 ∧ Row wx B 42 [.slice xb M kb, .slice xp M kp] ∧ NarrowAt wx xb xp n (natG z) m y M z' p' ∧ Below w0.heap.size w0 wx)
  case first =>
    go_region_law (first
      | (go_simp; go_at_call 13; refine (Few_any n z _ _ (SliceArg.below HA.out (by first | exact B0 | exact B0a))).mono ?_; rintro e w4 ⟨a4, c4, rfl, hi4, hb4⟩; rw [HM.out] at hi4; rw [HM.out]; have HB4 : Hid (Below w0.heap.size w0 w4) := Lib.hid (by first | exact B0.trans (hb4.mono B0.size) | exact B0a.trans (hb4.mono B0a.size)); have R4 := HR.out.below HB4.out HR.out.lt; have d2 := R4.cell (i := 0) rfl; have d3 := R4.cell (i := 1) rfl; have hl4 := R4.lt; have hs4 := HB4.out.size; (try have hN := rowNew hb4); (try have hN := rowNewD hb4); have HI4 := Lib.hid hi4; clear hi4 hb4 R4)
      | (go_simp; go_at_call 26; refine (Of_any (HTB.out.below (by first | exact HB4.out | exact HB4.out.alloc HB4.out.size _)) (HTP.out.below (by first | exact HB4.out | exact HB4.out.alloc HB4.out.size _))).mono ?_; rintro e w5 ⟨a5, k5, b5, l5, rfl, hT5, hb5⟩; rw [HMB.out, HMQ.out] at hT5; rw [HMB.out, HMQ.out]; have HT5 := Lib.hid hT5; have HI5 : Hid (IntsAt w5 a4 n z) := Lib.hid (by first | exact HI4.out.below hb5 | exact (HI4.out.alloc _).below hb5); have HB5 : Hid (Below w0.heap.size w0 w5) := Lib.hid (by first | exact HB4.out.trans (hb5.mono HB4.out.size) | exact (HB4.out.alloc HB4.out.size _).trans (hb5.mono (HB4.out.alloc HB4.out.size _).size)); have hs5 := HB5.out.size; (try have hN := hN.below hb5 hN.lt); (try have hN := rowNew hb5); clear hT5 hb5 HI4)
      | (go_simp; go_at_call 30; refine (Narrow_yes _ _ _ (by first | exact HI5.out | exact HI5.out.alloc _) HZ.out HG1.out (by first | exact HT5.out | exact HT5.out.below ((Below.refl _ _).alloc (Nat.le_refl _) _)) HG2.out).mono ?_; rintro e w6 ⟨xb, kb, xp, kp, M, z', p', rfl, hnar, hb6⟩; have HNAR := Lib.hid hnar; have HB6 : Hid (Below w0.heap.size w0 w6) := Lib.hid (by first | exact HB5.out.trans (hb6.mono HB5.out.size) | exact (HB5.out.alloc HB5.out.size _).trans (hb6.mono (HB5.out.alloc HB5.out.size _).size)); have hs6 := HB6.out.size; (try have hN := hN.below hb6 hN.lt); (try have hN := rowNew hb6); (try have n0 := Row.cell hN (i := 0) rfl); (try have n1 := Row.cell hN (i := 1) rfl); (try have f0 := Row.free hN 0); (try have f1 := Row.free hN 1); (try have nl := Row.lt hN); clear hnar hb6 HI5 HT5))
    all_goals
      go_wp2_with fail
      go_meet
      first
        | exact ⟨_, xb, kb, xp, kp, M, z', p', rfl, rfl, Row.new _ _ _, ⟨box_new HNAR.out.at_ _, HNAR.out.nar, HNAR.out.apart⟩, HB6.out.alloc hs6 _⟩
        | exact ⟨_, xb, kb, xp, kp, M, z', p', rfl, rfl, (hN.set 0 _).set 1 _, ⟨⟨(box_two hN HNAR.out.at_.bags HNAR.out.at_.pars kb kp).1, (box_two hN HNAR.out.at_.bags HNAR.out.at_.pars kb kp).2.1⟩, HNAR.out.nar, HNAR.out.apart⟩, (HB6.out.setCell (by first | exact hs5 | exact hs4 | exact Nat.le_refl _) _).setCell (by first | exact hs5 | exact hs4 | exact Nat.le_refl _) _⟩
  case rest =>
    obtain ⟨B, xb, kb, xp, kp, M, z', p', rfl, rfl, rb, hnar, hbb⟩ := hcut
    obtain ⟨wd, rfl⟩ : ∃ wd : World, wd = wc := ⟨_, rfl⟩
    have HB7 := Lib.hid hbb
    have HRB := Lib.hid rb
    have HX := Lib.hid hnar.at_
    have HN := Lib.hid hnar.nar
    have HAP := Lib.hid hnar.apart
    have HD := Lib.hid (dec_iff.2 ⟨rfl, hnar.nar.dec⟩)
    have R7 := HR.out.below hbb HR.out.lt
    have d2 := R7.cell (i := 0) rfl
    have d3 := R7.cell (i := 1) rfl
    have hMn : M ≤ n := hnar.nar.dec.few (graphB_le HG1.out).1 hnar.apart
    have hM1 := hnar.nar.dec.one
    have hn9 := (graphB_le HG1.out).2.1
    obtain ⟨K, hK⟩ : ∃ K : Int, K = ((mxTo n y m : Nat) : Int) - 1 := ⟨_, rfl⟩
    have HC1 : Hid (chkRes n M z' true = .tuple #[.int .i64 K, .bool true, .int .i64 0]) := Lib.hid (by
      show Value.tuple #[.int .i64 ((mxTo n z' M : Nat) - 1), .bool true, .int .i64 0] = _
      rw [hnar.nar.width, hK])
    have HC2 : Hid (chkRes n m y true = .tuple #[.int .i64 K, .bool true, .int .i64 0]) := Lib.hid (by
      show Value.tuple #[.int .i64 ((mxTo n y m : Nat) - 1), .bool true, .int .i64 0] = _
      rw [hK])
    clear rb hbb R7 d0 d1 hnar hK
    have B0 : Below wd.heap.size wd wd.drew := (Below.refl _ _).drew
    have b0 := HRB.out.cell (i := 0) rfl
    have b1 := HRB.out.cell (i := 1) rfl
    go_upto_region 4 with fail
    go_cut [7, 8, 9] (fun s7 s8 s9 wx => s7 = .int .i64 K ∧ s8 = .bool true ∧ s9 = .int .i64 0 ∧ Below wd.heap.size wd wx)
    case first =>
      go_region_law (first
        | (go_simp; go_at_call 13; refine (Few_any n z _ _ (SliceArg.below HA.out (HB7.out.trans (B0.mono HB7.out.size)))).mono ?_; rintro e w8 ⟨a8, c8, rfl, hi8, hb8⟩; rw [HM.out] at hi8; rw [HM.out]; have hx := B0.trans (hb8.mono B0.size); have HB8 := Lib.hid hx; have R8 := HRB.out.below hx HRB.out.lt; have b2 := R8.cell (i := 0) rfl; have b3 := R8.cell (i := 1) rfl; have HX8 := Lib.hid (HX.out.below hx); have HI8 := Lib.hid hi8; clear hi8 hb8 R8 hx)
        | (go_simp; go_at_call 25; refine (Check_yes _ _ _ HI8.out HZ.out HG1.out HX8.out).mono ?_; rintro e w9 ⟨he, hb9⟩; rw [HD.out, HC1.out] at he; subst he; have HB9 := Lib.hid (HB8.out.trans (hb9.mono HB8.out.size)); clear hb9))
      all_goals
        go_wp2_with fail
        go_meet
        exact ⟨rfl, rfl, rfl, HB9.out⟩
    case rest =>
      obtain ⟨rfl, rfl, rfl, hbb⟩ := hcut
      obtain ⟨we, rfl⟩ : ∃ we : World, we = wc := ⟨_, rfl⟩
      have HBE := Lib.hid hbb
      have HB8 := Lib.hid (HB7.out.trans (hbb.mono HB7.out.size))
      have R8 := HR.out.below HB8.out HR.out.lt
      have e0 := R8.cell (i := 0) rfl
      have e1 := R8.cell (i := 1) rfl
      clear R8 hbb d2 d3
      have B1 : Below we.heap.size we we.drew := (Below.refl _ _).drew
      go_upto_region 5 with fail
      go_cut [10, 11, 12] (fun s7 s8 s9 wx => s7 = .int .i64 K ∧ s8 = .bool true ∧ s9 = .int .i64 0 ∧ Below we.heap.size we wx)
      case first =>
        go_region_law (first
          | (go_simp; go_at_call 13; refine (Few_any n z _ _ (SliceArg.below HA.out (HB8.out.trans (B1.mono HB8.out.size)))).mono ?_; rintro e w9 ⟨a9, c9, rfl, hi9, hb9⟩; rw [HM.out] at hi9; rw [HM.out]; have hx := B1.trans (hb9.mono B1.size); have HB9 := Lib.hid hx; have HBZ := Lib.hid (HB8.out.trans (hx.mono HB8.out.size)); have R9 := HR.out.below HBZ.out HR.out.lt; have b2 := R9.cell (i := 0) rfl; have b3 := R9.cell (i := 1) rfl; have HI9 := Lib.hid hi9; clear hi9 hb9 R9 hx)
          | (go_simp; go_at_call 26; refine (Of_any (HTB.out.below HBZ.out) (HTP.out.below HBZ.out)).mono ?_; rintro e w10 ⟨a10, k10, b10, l10, rfl, hT10, hb10⟩; rw [HMB.out, HMQ.out] at hT10; rw [HMB.out, HMQ.out]; have HT10 := Lib.hid hT10; have HI10 := Lib.hid (HI9.out.below hb10); have HB10 := Lib.hid (HB9.out.trans (hb10.mono HB9.out.size)); clear hT10 hb10 HI9)
          | (go_simp; go_at_call 25; refine (Check_yes _ _ _ HI10.out HZ.out HG1.out HT10.out).mono ?_; rintro e w11 ⟨he, hb11⟩; rw [HG2.out, HC2.out] at he; subst he; have HB11 := Lib.hid (HB10.out.trans (hb11.mono HB10.out.size)); clear hb11))
        all_goals
          go_wp2_with fail
          go_meet
          exact ⟨rfl, rfl, rfl, HB11.out⟩
      case rest =>
        obtain ⟨rfl, rfl, rfl, hbb⟩ := hcut
        obtain ⟨wf, rfl⟩ : ∃ wf : World, wf = wc := ⟨_, rfl⟩
        have HBF := Lib.hid (HBE.out.trans (hbb.mono HBE.out.size))
        have HBA := Lib.hid (HB8.out.trans (hbb.mono HB8.out.size))
        obtain ⟨xbb, xoff, rfl, hxl, hxc⟩ := HX.out.bags.2 (by omega)
        have HXL := Lib.hid hxl
        have HXC := Lib.hid hxc
        have HRF := Lib.hid (HRB.out.below HBF.out HRB.out.lt)
        have f0 := HRF.out.cell (i := 0) rfl
        have f1 := HRF.out.cell (i := 1) rfl
        have hKK : decide (K < K) = false := by simp
        have hMd : decide ((n : Int) < (M : Int)) = false := by simp; omega
        clear hbb e0 e1 b0 b1 hxl hxc
        go_upto_region 6 with fail
        go_cut [73] (fun s wx => s = .bool false ∧ wf = wx)
        case first =>
          go_wp2_with fail
          go_meet
          exact ⟨by simp; omega, by trivial⟩
        obtain ⟨rfl, rfl⟩ := hcut
        clear hKK hMd
        go_wp2_with fail
        go_loopw [77] (fun i wr => ∃ k : Nat, k ≤ M ∧ i = .int .i64 k ∧ Below wf.heap.size wf wr) (fun i _ => M - (intOf i).toNat)
        case atStart => exact ⟨0, Nat.zero_le _, rfl, Below.refl _ _⟩
        case round =>
          obtain ⟨k, hk, rfl, hbel⟩ := hrel
          have HB := Lib.hid hbel
          have HB0 := Lib.hid (HBA.out.trans (hbel.mono HBA.out.size))
          clear hbel f0 f1
          by_cases hlt : k < M
          · have ck : wr.cell? ⟨xbb, xoff + k, none⟩ = some (.int .i64 (z' k)) := by
              rw [(HBF.out.trans (HB.out.mono HBF.out.size)).cell (p := ⟨xbb, xoff + k, none⟩) HXL.out]
              exact HXC.out k hlt
            have R9 := HR.out.below HB0.out HR.out.lt
            have e0 := R9.cell (i := 0) rfl
            have e1 := R9.cell (i := 1) rfl
            have HO : Hid (∃ j : Nat, j < m ∧ y j = z' k) := Lib.hid (by obtain ⟨j, hj, e⟩ := HN.out.old k hlt; exact ⟨j, hj, e.symm⟩)
            clear R9
            go_wp2_with fail
            go_at_call 39
            refine (Contains_yes _ ((HT0.out.bags).below HB0.out) _ HO.out).mono ?_
            rintro e w12 ⟨rfl, hb12⟩
            have HB12 := Lib.hid (HB.out.trans (hb12.mono HB.out.size))
            clear hb12
            go_wp2_with fail
            go_roundw
            case rel => exact ⟨k + 1, by omega, by go_num, HB12.out⟩
            case measure => simp [intOf]; omega
          · have hke : k = M := by omega
            subst hke
            go_wp2_with fail
            go_at_call 18
            refine (awake_any _).mono ?_
            rintro e w13 ⟨rfl, hb13⟩
            have HB13 := Lib.hid (HB0.out.trans (hb13.mono HB0.out.size))
            go_wp2_with fail
            go_ret
            exact ⟨rfl, HBW.out.trans (HB13.out.mono HBW.out.size)⟩

theorem WidthFew_walk (n m q : Nat) (z y p : Nat → Int) (v vb vp : Value) (w : World) (hA : SliceArg w v n z) (hz : InI64 z) (hB : SliceArg w vb m y) (hC : SliceArg w vp q p) :
    Calls Try.prog 11 #[v, .agg #[vb, vp]] w fun e w' => e = .returned (.bool true) ∧ Below w.heap.size w w' := by
  cases hg : (graphB n 9 z && decB n (natG z) m q y p)
  · exact WidthFew_no n m q z y p v vb vp w hA hz hB hC hg
  · exact WidthFew_yes n m q z y p v vb vp w hA hz hB hC hg

end Go.Proofs.Ytombmfphodikjaa
