/- The walk of the law WidthParts. -/
import Derived.Test.YtombmfphodikjaaW64
import Derived.Deep.DeepCutAuto
import Derived.Deep.RegionLaw
import Derived.BigRegion
namespace Go.Proofs.Ytombmfphodikjaa
set_option linter.unusedSimpArgs false
set_option linter.unusedVariables false
open Go.RowKit Go.Maps
attribute [local go_sem] i64_bit toNat_eq_one toNat_ne_one toNat_eq_zero toNat_ne_zero i64_and i64_or i64_andNot i64_or_pow i64_andNot_pow

set_option maxRecDepth 200000 in
set_option maxHeartbeats 4000000 in
theorem WidthParts_no (n : Nat) (z : Nat → Int) (x y : Int) (v : Value) (w : World) (hA : SliceArg w v n z) (hz : InI64 z) (hg : graphB n 9 z = false ∨ n < 2) :
    Calls Try.prog 8 #[v, .int .i64 x, .int .i64 y] w (LawTrue w) := by
  have HA := Lib.hid hA
  obtain ⟨a, cap, rfl, hI⟩ := hA.ints
  have HZ := Lib.hid hz
  clear hA hI hz
  cases hgb : graphB n 9 z
  · have HG : Hid (graphB (min n 13) 9 z = false) := Lib.hid (by rw [graphB_few]; exact hgb)
    clear hg hgb
    go_enter Try.func8, Try.ntmps8
    go_wp2_with fail
    go_at_call 13
    refine (Few_any n z _ _ HA.out).mono ?_
    rintro e w1 ⟨a1, c1, rfl, hi1, hb1⟩
    have HB1 := Lib.hid hb1
    have HI1 := Lib.hid hi1
    clear hb1 hi1
    go_wp2_with fail
    go_at_call 12
    refine (Width_no _ HI1.out HZ.out HG.out).mono ?_
    rintro e w2 ⟨rfl, hb2⟩
    have HB2 := Lib.hid (HB1.out.trans (hb2.mono HB1.out.size))
    clear hb2
    go_wp2_with fail
    go_at_call 18
    refine (awake_any _).mono ?_
    rintro e w3 ⟨rfl, hb3⟩
    have HB3 := Lib.hid (HB2.out.trans (hb3.mono HB2.out.size))
    clear hb3
    go_wp2_with fail
    go_ret
    exact ⟨rfl, HB3.out⟩
  · have hn2 : n < 2 := by rcases hg with h | h; rw [h] at hgb; cases hgb; exact h
    have HG : Hid (graphB (min n 13) 9 z = true) := Lib.hid (by rw [graphB_few]; exact hgb)
    clear hg hgb
    go_enter Try.func8, Try.ntmps8
    go_wp2_with fail
    go_at_call 13
    refine (Few_any n z _ _ HA.out).mono ?_
    rintro e w1 ⟨a1, c1, rfl, hi1, hb1⟩
    have HB1 := Lib.hid hb1
    have HI1 := Lib.hid hi1
    clear hb1 hi1
    go_wp2_with fail
    go_at_call 12
    refine (Width_yes _ HI1.out HZ.out HG.out).mono ?_
    rintro e w2 ⟨rfl, hb2⟩
    have HB2 := Lib.hid (HB1.out.trans (hb2.mono HB1.out.size))
    clear hb2
    go_wp2_with fail
    go_at_call 18
    refine (awake_any _).mono ?_
    rintro e w3 ⟨rfl, hb3⟩
    have HB3 := Lib.hid (HB2.out.trans (hb3.mono HB2.out.size))
    clear hb3
    go_wp2_with fail
    go_ret
    exact ⟨rfl, HB3.out⟩

set_option maxRecDepth 200000 in
set_option maxHeartbeats 4000000 in
theorem WidthParts_yes (n : Nat) (z : Nat → Int) (x y : Int) (v : Value) (w : World) (hA : SliceArg w v n z) (hz : InI64 z) (hg : graphB n 9 z = true) (hn2 : 2 ≤ n) :
    Calls Try.prog 8 #[v, .int .i64 x, .int .i64 y] w (LawTrue w) := by
  have HA := Lib.hid hA
  obtain ⟨a, cap, rfl, hI⟩ := hA.ints
  have HZ := Lib.hid hz
  have HI := Lib.hid hI
  have hle := (graphB_le hg).2.1
  have HM : Hid (min n 13 = n) := Lib.hid (by omega)
  have HG := Lib.hid hg
  have HP := Lib.hid (plain_of hg)
  have HGR : Hid (Gr w a n (natG z)) := Lib.hid ⟨GrAt.of_graph hI hg (by decide), (graphB_le hg).2.1, (plain_of hg).bd⟩
  have HZN : Hid (∀ i, i < n → z i = ((natG z i : Nat) : Int)) := Lib.hid (fun i hi => by have := ((graphB_le hg).2.2 i hi).1; show z i = ((z i).toNat : Int); omega)
  have HZB : Hid (∀ i, i < n → 0 ≤ z i ∧ z i < 2 ^ n) := Lib.hid (graphB_le hg).2.2
  obtain ⟨W, hW⟩ : ∃ W, W = widthG n z := ⟨_, rfl⟩
  have HW : Hid (widthG n z = W) := Lib.hid hW.symm
  have hW9 : W ≤ 9 := by rw [hW]; exact Nat.le_trans (rst_le (Nat.two_pow_pos n)) hle
  obtain ⟨A, hAn, hRA⟩ := idx_any x (show 0 < n by omega) (by omega)
  obtain ⟨B, hBn, hRB⟩ := idx_any y (show 0 < n by omega) (by omega)
  clear hA hI hz hg hW
  have d0 : ((n : Int) == 0) = false := beq_eq_false_iff_ne.2 (by omega)
  have HRA := Lib.hid hRA
  have HRB := Lib.hid hRB
  go_enter Try.func8, Try.ntmps8
  go_wp2_with fail
  go_at_call 13
  refine (Few_any n z _ _ HA.out).mono ?_
  rintro e w1 ⟨a1, c1, rfl, hi1, hb1⟩
  rw [HM.out] at hi1
  rw [HM.out]
  have HB1 := Lib.hid hb1
  have HI1 := Lib.hid hi1
  clear hb1 hi1
  go_wp2_with fail
  go_at_call 12
  refine (Width_yes _ HI1.out HZ.out HG.out).mono ?_
  rintro e w2 ⟨rfl, hb2⟩
  rw [HW.out]
  have HB2 := Lib.hid (HB1.out.trans (hb2.mono HB1.out.size))
  clear hb2
  go_upto_region 4 with fail
  go_cut [1, 2] (fun s1 s2 wx => s1 = .int .i64 (A : Nat) ∧ s2 = .int .i64 (B : Nat) ∧ Below w.heap.size w wx)
  case first =>
    go_wp2_with fail
    go_quiet (fail)
    go_wp2_with fail
    go_meet
    exact ⟨by rw [HRA.out], by rw [HRB.out], below_drewN HB2.out _⟩
  case rest =>
    obtain ⟨rfl, rfl, hbb⟩ := hcut
    obtain ⟨w3, rfl⟩ : ∃ w3 : World, w3 = wc := ⟨_, rfl⟩
    have HB3 := Lib.hid hbb
    clear hbb hRA hRB HRA HRB
    go_upto_region 5 with fail
    go_wp2_with fail
    go_at_call 36
    refine (without_any (HI.out.below HB3.out) hAn hle HZB.out).mono ?_
    rintro e w4 ⟨⟨u, rfl, ho⟩, hb4⟩
    obtain ⟨au, cu, rfl⟩ := own_form ho
    have HO := Lib.hid ho
    have HB4 := Lib.hid (HB3.out.trans (hb4.mono HB3.out.size))
    clear hb4
    clear ho
    obtain ⟨w5, hw5, R5, hb5, hs5⟩ := new1 w4 23 [.slice au (n - 1) cu]
    have HW5 := Lib.hid hw5
    have hb5' := hb5.mono (Nat.le_refl _)
    have HL1 : Hid (LessAt w5 w4.heap.size 1 W) := Lib.hid ⟨R5.lt, fun i hi => by
      obtain rfl : i = 0 := by omega
      obtain ⟨a6, m6, c6, z6, e6, q2, q3⟩ := without_less (W := W) HZN.out HP.out hn2 hAn HO.out (by rw [← HW.out]; exact wid_del HP.out hn2 hAn) (by rw [← HW.out]; exact wid_add HP.out hn2 hAn)
      exact ⟨a6, m6, c6, z6, by rw [← e6]; exact R5.cell (i := 0) rfl, q2.below hb5', q3⟩⟩
    have HR5 := Lib.hid R5
    have HB5 := Lib.hid (HB4.out.trans (hb5.mono HB4.out.size))
    clear hb5
    clear hw5 R5 hb5'
    go_upto_region 6 with fail
    rw [← HW5.out]
    clear HW5
    have HGW := HGR.out.below HB5.out
    obtain ⟨gb, goff, rfl, hgl, hgc⟩ := HGW.at_.ints.2 (by omega)
    have cA : w5.cell? ⟨gb, goff + A, none⟩ = some (.int .i64 ((natG z A : Nat) : Int)) := hgc A hAn
    have hA16 : natG z A < 65536 := HGW.at_.bd A hAn
    have hBn64 : B < 64 := by omega
    obtain ⟨rA, hrA⟩ : ∃ r : Nat, r = natG z A := ⟨_, rfl⟩
    rw [← hrA] at cA hA16
    have HEA : Hid (natG z A = rA) := Lib.hid hrA.symm
    clear HGW hgl hgc hrA
    cases hq : rA.testBit B
    · obtain ⟨wt, rfl⟩ : ∃ wt : World, wt = w5 := ⟨_, rfl⟩
      have HLK := HL1
      have HBK := HB5
      have HQ := Lib.hid hq
      go_upto_region 19 with fail
      clear cA hq
      go_wp2_with fail
      go_loopw [137] (fun i wr => ∃ t : Nat, t ≤ 1 ∧ i = .int .i64 t ∧ Below wt.heap.size wt wr) (fun i _ => 1 - (intOf i).toNat)
      case atStart => exact ⟨0, Nat.zero_le _, rfl, Below.refl _ _⟩
      case round =>
        obtain ⟨t, ht, rfl, hbel⟩ := hrel
        have HB := Lib.hid hbel
        clear hbel
        by_cases hlt : t < 1
        · obtain ⟨a6, m6, c6, z6, q1, q2, q3, q4, q5, q6⟩ := (HLK.out.below HB.out).each t hlt
          have HQ2 := Lib.hid q2
          have HQ3 := Lib.hid q3
          have HQ4 := Lib.hid q4
          obtain ⟨V, hV⟩ : ∃ V, V = widthG m6 z6 := ⟨_, rfl⟩
          rw [← hV] at q5 q6
          have HV : Hid (widthG m6 z6 = V) := Lib.hid hV.symm
          clear q2 q3 q4 hV
          go_wp2_with fail
          go_at_call 12
          refine (Width_yes _ HQ2.out HQ3.out HQ4.out).mono ?_
          rintro e w9 ⟨rfl, hb9⟩
          rw [HV.out]
          have HB9 := Lib.hid (HB.out.trans (hb9.mono HB.out.size))
          clear hb9 q1
          go_upto_region 23 with fail
          go_cut [158] (fun s wx => s = .bool false ∧ w9 = wx)
          case first =>
            go_wp2_with fail
            go_meet
            exact ⟨by simp; omega, by trivial⟩
          obtain ⟨rfl, rfl⟩ := hcut
          go_wp2_with fail
          go_roundw
          case rel => exact ⟨t + 1, by omega, by go_num, HB9.out⟩
          case measure => simp [intOf]; omega
        · have hte : t = 1 := by omega
          subst hte
          go_wp2_with fail
          go_at_call 18
          refine (awake_any _).mono ?_
          rintro e w13 ⟨rfl, hb13⟩
          have HB13 := Lib.hid ((HBK.out.trans (HB.out.mono HBK.out.size)).trans (hb13.mono (HBK.out.trans (HB.out.mono HBK.out.size)).size))
          go_wp2_with fail
          go_ret
          exact ⟨rfl, HB13.out⟩
    · have HQ := Lib.hid hq
      have hAB : A ≠ B := fun e => by subst e; rw [← HEA.out, HP.out.loop A hAn] at hq; cases hq
      go_upto_region 7 with fail
      clear cA hq
      go_wp2_with fail
      go_at_call 13
      refine (Few_own (by omega) hle (SliceArg.below HA.out HB5.out)).mono ?_
      rintro e w6 ⟨g10, c10, rfl, m10, hg10, hb6⟩
      have HL6 := Lib.hid (HL1.out.below hb6)
      have HR6 := Lib.hid (HR5.out.below hb6 HR5.out.lt)
      have HX6 := Lib.hid hb6
      have HB6 := Lib.hid (HB5.out.trans (hb6.mono HB5.out.size))
      clear hb6
      go_wp2_with fail
      go_at_call 13
      refine (Few_own (by omega) hle (SliceArg.below HA.out HB6.out)).mono ?_
      rintro e w7 ⟨g11, c11, rfl, m11, hg11, hb7⟩
      have HX7 := Lib.hid (HX6.out.trans (hb7.mono HX6.out.size))
      have hlt10 := m10.lt
      have hne : g10 ≠ g11 := by omega
      have h5g : w5.heap.size ≤ g11 := by have := HX6.out.size; omega
      have HM10 : Hid (Mine w7 g10 n (fun t => ((natG z t : Nat) : Int))) := Lib.hid ((m10.below hb7).mono (Nat.le_refl _) fun i hi => (HZN.out i hi).symm)
      have HM11 : Hid (Mine w7 g11 n (fun t => ((natG z t : Nat) : Int))) := Lib.hid (m11.mono (Nat.le_refl _) fun i hi => (HZN.out i hi).symm)
      have HB7 := Lib.hid (HB6.out.trans (hb7.mono HB6.out.size))
      clear hb7
      clear m10 m11 hlt10
      have hpA := pow_bd A (by omega)
      have hpB := pow_bd B (by omega)
      have hA15 : A < 16 := by omega
      have hB15 : B < 16 := by omega
      have hA64 : A < 64 := by omega
      obtain ⟨rB, hrB⟩ : ∃ r : Nat, r = natG z B := ⟨_, rfl⟩
      have hB16 : rB < 65536 := by rw [hrB]; exact HGR.out.at_.bd B hBn
      have HEB : Hid (natG z B = rB) := Lib.hid hrB.symm
      clear hrB
      go_upto_region 8 with fail
      go_cut [75] (fun _ wx => Mine wx g10 n (fun t => if t = A then ((diff rA (2 ^ B) : Nat) : Int) else ((natG z t : Nat) : Int)) ∧ Mine wx g11 n (fun t => ((natG z t : Nat) : Int)) ∧ Below w5.heap.size w5 wx)
      case first =>
        have c0 : w7.cell? ⟨g10, A, none⟩ = some (.int .i64 ((rA : Nat) : Int)) := by rw [← HEA.out]; exact HM10.out.cell A hAn
        have f0 := HM10.out.free A hAn
        have l0 := HM10.out.lt
        go_wp2_with fail
        go_region
        all_goals
          go_wp2_with fail
          go_meet
          exact ⟨(Mine.drewN HM10.out _).set hAn _, (Mine.drewN HM11.out _).other (Ne.symm hne) A _, (below_drewN HX7.out _).setCell hg10 _⟩
      obtain ⟨hx1, hx2, hx3⟩ := hcut
      obtain ⟨w8, rfl⟩ : ∃ w8 : World, w8 = wc := ⟨_, rfl⟩
      have HM12 := Lib.hid hx1
      have HM13 := Lib.hid hx2
      have HX8 := Lib.hid hx3
      clear hx1 hx2 hx3 HM10 HM11
      go_upto_region 9 with fail
      go_cut [83] (fun _ wx => Mine wx g10 n (fun t => ((cutN (natG z) A B t : Nat) : Int)) ∧ Mine wx g11 n (fun t => ((natG z t : Nat) : Int)) ∧ Below w5.heap.size w5 wx)
      case first =>
        have c0 : w8.cell? ⟨g10, B, none⟩ = some (.int .i64 ((rB : Nat) : Int)) := by
          rw [HM12.out.cell B hBn, if_neg (Ne.symm hAB), HEB.out]
        have f0 := HM12.out.free B hBn
        have l0 := HM12.out.lt
        go_wp2_with fail
        go_region
        all_goals
          go_wp2_with fail
          go_meet
          refine ⟨((Mine.drewN HM12.out _).set hBn _).mono (Nat.le_refl _) fun i hi => ?_, (Mine.drewN HM13.out _).other (Ne.symm hne) B _, (below_drewN HX8.out _).setCell hg10 _⟩
          show ((cutN (natG z) A B i : Nat) : Int) = if i = B then ((diff rB (2 ^ A) : Nat) : Int) else if i = A then ((diff rA (2 ^ B) : Nat) : Int) else ((natG z i : Nat) : Int)
          unfold cutN
          rw [HEA.out, HEB.out]
          by_cases e1 : i = A
          · rw [if_pos e1, if_neg (by rw [e1]; exact hAB), if_pos e1]
          · rw [if_neg e1, if_neg e1]
            split <;> rfl
      obtain ⟨hx1, hx2, hx3⟩ := hcut
      obtain ⟨w9, rfl⟩ : ∃ w9 : World, w9 = wc := ⟨_, rfl⟩
      have HM14 := Lib.hid hx1
      have HM15 := Lib.hid hx2
      have HX9 := Lib.hid hx3
      clear hx1 hx2 hx3 HM12 HM13
      go_wp2_with fail
      go_loopw [87] (fun i wr => ∃ k : Nat, k ≤ n ∧ i = .int .i64 k ∧ Mine wr g10 n (fun t => ((cutN (natG z) A B t : Nat) : Int)) ∧ Mine wr g11 n (fun t => ((joTo (natG z) A B k t : Nat) : Int)) ∧ Below w5.heap.size w5 wr) (fun i _ => n - (intOf i).toNat)
      case atStart => exact ⟨0, Nat.zero_le _, rfl, HM14.out, HM15.out, HX9.out⟩
      case round =>
        clear HM14 HM15
        obtain ⟨k, hk, rfl, hx1, hx2, hx3⟩ := hrel
        have HMA := Lib.hid hx1
        have HMB := Lib.hid hx2
        have HXR := Lib.hid hx3
        clear hx1 hx2 hx3
        by_cases hlt : k < n
        · have HGW := HGR.out.below (HB5.out.trans (HXR.out.mono HB5.out.size))
          have cB : wr.cell? ⟨gb, goff + B, none⟩ = some (.int .i64 ((rB : Nat) : Int)) := by
            obtain ⟨gb', goff', e, hgl, hgc⟩ := HGW.at_.ints.2 (by omega)
            cases e
            exact (hgc B hBn).trans (by rw [← HEB.out])
          have hk64 : k < 64 := by omega
          have hk15 : k < 16 := by omega
          have hpk := pow_bd k hk15
          clear HGW
          by_cases hkA : k = A
          · have hd : ((k : Int) != (A : Int)) = false := by simp; omega
            have HJ : Hid (∀ t, joTo (natG z) A B (k + 1) t = joTo (natG z) A B k t) := Lib.hid (fun t => by unfold joTo; rw [if_neg (fun h => h.1 hkA)]; split <;> rfl)
            clear hkA
            go_wp2_with fail
            go_roundw
            case rel => exact ⟨k + 1, by omega, by go_num, HMA.out, HMB.out.mono (Nat.le_refl _) fun i _ => by rw [HJ.out], HXR.out⟩
            case measure => simp [intOf]; omega
          · have hd : ((k : Int) != (A : Int)) = true := by simp; omega
            cases hq2 : rB.testBit k
            · have HJ : Hid (∀ t, joTo (natG z) A B (k + 1) t = joTo (natG z) A B k t) := Lib.hid (fun t => by rw [joTo]; rw [if_neg (fun h => by have := h.2; rw [HEB.out, hq2] at this; cases this)])
              clear hkA
              go_wp2_with fail
              go_roundw
              case rel => exact ⟨k + 1, by omega, by go_num, HMA.out, HMB.out.mono (Nat.le_refl _) fun i _ => by rw [HJ.out], HXR.out⟩
              case measure => simp [intOf]; omega
            · obtain ⟨jk, hjk⟩ : ∃ j, j = joTo (natG z) A B k k := ⟨_, rfl⟩
              obtain ⟨jA, hjA⟩ : ∃ j, j = joTo (natG z) A B k A := ⟨_, rfl⟩
              have hjk16 : jk < 65536 := by rw [hjk]; exact lt16 hle (joTo_lt HP.out hAn k hk k hlt)
              have hjA16 : jA < 65536 := by rw [hjA]; exact lt16 hle (joTo_lt HP.out hAn k hk A hAn)
              have HJK := Lib.hid hjk
              have HJA := Lib.hid hjA
              have HQ2 : Hid ((natG z B).testBit k = true) := Lib.hid (by rw [HEB.out]; exact hq2)
              have HKA := Lib.hid hkA
              clear hjk hjA
              go_upto_region 14 with fail
              clear hq2 hd cB
              go_cut [109] (fun _ wx => Mine wx g10 n (fun t => ((cutN (natG z) A B t : Nat) : Int)) ∧ Mine wx g11 n (fun t => if t = k then ((jk ||| 2 ^ A : Nat) : Int) else ((joTo (natG z) A B k t : Nat) : Int)) ∧ Below w5.heap.size w5 wx)
              case first =>
                have c0 : wr.cell? ⟨g11, k, none⟩ = some (.int .i64 ((jk : Nat) : Int)) := by rw [HMB.out.cell k hlt, HJK.out]
                have f0 := HMB.out.free k hlt
                have l0 := HMB.out.lt
                clear hkA
                go_wp2_with fail
                go_region
                all_goals
                  go_wp2_with fail
                  go_meet
                  exact ⟨(Mine.drewN HMA.out _).other hne k _, (Mine.drewN HMB.out _).set hlt _, (below_drewN HXR.out _).setCell h5g _⟩
              obtain ⟨hx1, hx2, hx3⟩ := hcut
              obtain ⟨wa, rfl⟩ : ∃ wa : World, wa = wc := ⟨_, rfl⟩
              have HMA2 := Lib.hid hx1
              have HMB2 := Lib.hid hx2
              have HXR2 := Lib.hid hx3
              clear hx1 hx2 hx3 HMA HMB
              go_upto_region 15 with fail
              have c0 : wa.cell? ⟨g11, A, none⟩ = some (.int .i64 ((jA : Nat) : Int)) := by rw [HMB2.out.cell A hAn, if_neg (fun e => HKA.out e.symm), HJA.out]
              have f0 := HMB2.out.free A hAn
              have l0 := HMB2.out.lt
              clear hkA
              go_wp2_with fail
              go_region
              all_goals
                go_wp2_with fail
                go_roundw
                case rel =>
                  refine ⟨k + 1, by omega, by go_num, (Mine.drewN HMA2.out _).other hne A _, ((Mine.drewN HMB2.out _).set hAn _).mono (Nat.le_refl _) fun i hi => ?_, (below_drewN HXR2.out _).setCell h5g _⟩
                  show ((joTo (natG z) A B (k + 1) i : Nat) : Int) = if i = A then ((jA ||| 2 ^ k : Nat) : Int) else if i = k then ((jk ||| 2 ^ A : Nat) : Int) else ((joTo (natG z) A B k i : Nat) : Int)
                  rw [joTo, if_pos ⟨HKA.out, HQ2.out⟩, HJA.out, HJK.out]
                  split
                  · rfl
                  · split <;> rfl
                case measure => simp [intOf]; omega
        · have hke : k = n := by omega
          subst hke
          obtain ⟨jA, hjA⟩ : ∃ j, j = joTo (natG z) A B k A := ⟨_, rfl⟩
          have hjA16 : jA < 65536 := by rw [hjA]; exact lt16 hle (joTo_lt HP.out hAn k (Nat.le_refl _) A hAn)
          have HJA := Lib.hid hjA
          clear hjA
          go_upto_region 17 with fail
          go_cut [126] (fun _ wx => Mine wx g10 k (fun t => ((cutN (natG z) A B t : Nat) : Int)) ∧ Mine wx g11 k (fun t => ((joN (natG z) A B k t : Nat) : Int)) ∧ Below w5.heap.size w5 wx)
          case first =>
            have c0 : wr.cell? ⟨g11, A, none⟩ = some (.int .i64 ((jA : Nat) : Int)) := by rw [HMB.out.cell A hAn, HJA.out]
            have f0 := HMB.out.free A hAn
            have l0 := HMB.out.lt
            go_wp2_with fail
            go_region
            all_goals
              go_wp2_with fail
              go_meet
              refine ⟨(Mine.drewN HMA.out _).other hne A _, ((Mine.drewN HMB.out _).set hAn _).mono (Nat.le_refl _) fun i hi => ?_, (below_drewN HXR.out _).setCell h5g _⟩
              show ((joN (natG z) A B k i : Nat) : Int) = if i = A then ((diff jA (2 ^ A) : Nat) : Int) else ((joTo (natG z) A B k i : Nat) : Int)
              unfold joN
              rw [HJA.out]
              split <;> rfl
          obtain ⟨hx1, hx2, hx3⟩ := hcut
          obtain ⟨wa, rfl⟩ : ∃ wa : World, wa = wc := ⟨_, rfl⟩
          have HMA2 := Lib.hid hx1
          have HMB2 := Lib.hid hx2
          have HXR2 := Lib.hid hx3
          have HPJ := Lib.hid (joN_plain (b := B) HP.out hAn)
          have HPC := Lib.hid (cutN_plain HP.out hAn hBn hAB)
          have HBC := Lib.hid (by have := wid_cut HP.out hn2 hAn hBn hAB; exact this : wid k (cutN (natG z) A B) ≤ wid k (natG z) ∧ wid k (natG z) ≤ wid k (cutN (natG z) A B) + 1)
          have HBJ := Lib.hid (wid_join HP.out hn2 hAn hBn hAB (by rw [HEA.out]; exact HQ.out))
          clear hx1 hx2 hx3 HMA HMB
          obtain ⟨i0, hi0, hz1, hz2, hz3⟩ := info_parts info_graph
          have hkm : k ≤ maxLen := by unfold maxLen; omega
          have HJB : Hid (∀ i, i < k → 0 ≤ ((joN (natG z) A B k i : Nat) : Int) ∧ ((joN (natG z) A B k i : Nat) : Int) < 2 ^ k) := Lib.hid (fun i hi => by
            have := HPJ.out.bd i hi
            rw [pow_cast]
            omega)
          have HII := Lib.hid (HMB2.out.ints hkm)
          have HRA5 := Lib.hid (HR5.out.below HXR2.out HR5.out.lt)
          have HLA5 := Lib.hid (HL1.out.below HXR2.out)
          clear hkm
          go_upto_region 19 with (first
            | (go_at_call 36; refine (without_any HII.out hBn hle HJB.out).mono ?_; rintro e wd ⟨⟨ud, rfl, hod⟩, hbd⟩; obtain ⟨ad, cd, rfl⟩ := own_form hod; have HOD := Lib.hid hod; have HBD := Lib.hid hbd; clear hod hbd)
            | (at_builtin; refine wpList_append_grows _ rfl _ _ 61 rfl 23 i0 (.slice none 0 0) 1 24 Try.underlying61 hi0 hz1 hz2 hz3 rfl (by decide) (some ⟨w4.heap.size, 0, none⟩) 1 1 [.slice au (k - 1) cu] rfl (by simp) rfl ?c0 ⟨_, 0, none⟩ 2 2 [.slice (some ⟨g10, 0, none⟩) k c10, .slice ad (k - 1) cd] rfl rfl ?c1 ?c2 (by decide) ?c3 ?c4 ?_))
          case c0 =>
            intro b hb j u hj
            cases hb
            have := ((HRA5.out.below HBD.out HRA5.out.lt).alloc (.cells #[.slice (some ⟨g10, 0, none⟩) k c10, .slice ad (k - 1) cd] 23)).cellAdd2 j u hj
            exact this
          case c1 => exact cells_new _ _ _
          case c2 => intro u hu; simp at hu; rcases hu with rfl | rfl <;> rfl
          case c3 => unfold maxLen; omega
          case c4 => omega
          intro v' wt hown hgr
          obtain ⟨g, cg, rfl, hg1, hg2⟩ := own_form' hown (by decide)
          have HBa : Below wd.heap.size wd wt := ((Below.refl _ _).alloc (Nat.le_refl _) (.cells #[.slice (some ⟨g10, 0, none⟩) k c10, .slice ad (k - 1) cd] 23)).grown hgr (by simp) (fun k hk => by cases hk)
          have HBb := HBD.out.trans (HBa.mono HBD.out.size)
          have HLK : Hid (LessAt wt g 3 W) := Lib.hid ⟨hg2, fun i hi => by
            rcases (show i = 0 ∨ i = 1 ∨ i = 2 by omega) with rfl | rfl | rfl
            · obtain ⟨a6, m6, c6, z6, q1, q2, q3⟩ := HLA5.out.each 0 (by omega)
              rw [HRA5.out.cell (i := 0) rfl] at q1
              cases q1
              exact ⟨_, _, _, z6, by rw [World.ownsRow.cellAt hown 0 (by decide)]; rfl, q2.below HBb, q3⟩
            · obtain ⟨a6, m6, c6, z6, e6, q2, q3⟩ := less_of (W := W) c10 HPC.out (HMA2.out.ints (by unfold maxLen; omega)) (by rw [← HW.out]; exact HBC.out.1) (by rw [← HW.out]; exact HBC.out.2)
              cases e6
              exact ⟨_, _, _, z6, by rw [World.ownsRow.cellAt hown 1 (by decide)]; rfl, q2.below HBb, q3⟩
            · obtain ⟨a6, m6, c6, z6, e6, q2, q3⟩ := without_less (W := W) (fun _ _ => rfl) HPJ.out hn2 hBn HOD.out (by rw [← HW.out]; exact HBJ.out.1) (by rw [← HW.out]; exact HBJ.out.2)
              cases e6
              exact ⟨_, _, _, z6, by rw [World.ownsRow.cellAt hown 2 (by decide)]; rfl, q2.below HBa, q3⟩⟩
          have HBK := Lib.hid (HB5.out.trans ((HXR2.out.trans (HBb.mono HXR2.out.size)).mono HB5.out.size))
          clear hown hgr HBa HBb hg1 hg2 hi0 hz1 hz2 hz3
          go_wp2_with fail
          go_loopw [137] (fun i wr => ∃ t : Nat, t ≤ 3 ∧ i = .int .i64 t ∧ Below wt.heap.size wt wr) (fun i _ => 3 - (intOf i).toNat)
          case atStart => exact ⟨0, Nat.zero_le _, rfl, Below.refl _ _⟩
          case round =>
            obtain ⟨t, ht, rfl, hbel⟩ := hrel
            have HB := Lib.hid hbel
            clear hbel
            by_cases hlt : t < 3
            · obtain ⟨a6, m6, c6, z6, q1, q2, q3, q4, q5, q6⟩ := (HLK.out.below HB.out).each t hlt
              have HQ2 := Lib.hid q2
              have HQ3 := Lib.hid q3
              have HQ4 := Lib.hid q4
              obtain ⟨V, hV⟩ : ∃ V, V = widthG m6 z6 := ⟨_, rfl⟩
              rw [← hV] at q5 q6
              have HV : Hid (widthG m6 z6 = V) := Lib.hid hV.symm
              clear q2 q3 q4 hV
              go_wp2_with fail
              go_at_call 12
              refine (Width_yes _ HQ2.out HQ3.out HQ4.out).mono ?_
              rintro e w9 ⟨rfl, hb9⟩
              rw [HV.out]
              have HB9 := Lib.hid (HB.out.trans (hb9.mono HB.out.size))
              clear hb9 q1
              go_upto_region 23 with fail
              go_cut [158] (fun s wx => s = .bool false ∧ w9 = wx)
              case first =>
                go_wp2_with fail
                go_meet
                exact ⟨by simp; omega, by trivial⟩
              obtain ⟨rfl, rfl⟩ := hcut
              go_wp2_with fail
              go_roundw
              case rel => exact ⟨t + 1, by omega, by go_num, HB9.out⟩
              case measure => simp [intOf]; omega
            · have hte : t = 3 := by omega
              subst hte
              go_wp2_with fail
              go_at_call 18
              refine (awake_any _).mono ?_
              rintro e w13 ⟨rfl, hb13⟩
              have HB13 := Lib.hid ((HBK.out.trans (HB.out.mono HBK.out.size)).trans (hb13.mono (HBK.out.trans (HB.out.mono HBK.out.size)).size))
              go_wp2_with fail
              go_ret
              exact ⟨rfl, HB13.out⟩


theorem WidthParts_walk (n : Nat) (z : Nat → Int) (x y : Int) (v : Value) (w : World) (hA : SliceArg w v n z) (hz : InI64 z) :
    Calls Try.prog 8 #[v, .int .i64 x, .int .i64 y] w fun e w' => e = .returned (.bool true) ∧ Below w.heap.size w w' := by
  by_cases h : graphB n 9 z = true ∧ 2 ≤ n
  · exact WidthParts_yes n z x y v w hA hz h.1 h.2
  · refine WidthParts_no n z x y v w hA hz ?_
    cases hg : graphB n 9 z
    · exact Or.inl rfl
    · exact Or.inr (Nat.lt_of_not_le fun h2 => h ⟨hg, h2⟩)

end Go.Proofs.Ytombmfphodikjaa
