/- The walk of the law WidthCliques. -/
import Derived.Test.YtombmfphodikjaaL4b
import Derived.Test.YtombmfphodikjaaW49
import Derived.Maps.AppendAt
namespace Go.Proofs.Ytombmfphodikjaa
set_option linter.unusedSimpArgs false
set_option linter.unusedVariables false
open Go.RowKit Go.Maps

theorem info_tree : (Try.prog.info? 42).map (fun i => (i.zero, i.size, i.bytes)) = some (some (.agg #[.slice none 0 0, .slice none 0 0]), 2, 48) := by kernel_rfl
theorem Row.cellAdd {w : World} {b : Nat} {e : TypeId} {xs : List Value} (h : Row w b e xs) : ∀ j u, xs[j]? = some u → w.cell? ((⟨b, 0, none⟩ : Addr).add j) = some u := by
  intro j u hj
  have e1 : (⟨b, 0, none⟩ : Addr).add j = ⟨b, j, none⟩ := by
    unfold Addr.add
    split
    · rename_i h0; subst h0; rfl
    · simp
  rw [e1]
  exact h.cell hj

attribute [local go_sem] i64_bit toNat_eq_one toNat_ne_one toNat_eq_zero toNat_ne_zero i64_and i64_or i64_andNot i64_or_pow i64_andNot_pow

set_option maxRecDepth 200000 in
set_option maxHeartbeats 4000000 in
theorem WidthCliques_no (n m q : Nat) (z y p : Nat → Int) (v vb vp : Value) (w : World) (hA : SliceArg w v n z) (hz : InI64 z) (hB : SliceArg w vb m y) (hC : SliceArg w vp q p) (hg : graphB n 9 z = false) :
    Calls Try.prog 9 #[v, .agg #[vb, vp]] w (LawTrue w) := by
  obtain ⟨w0, hw0, R0, hb0, hs0⟩ := new1 w 41 [vb, vp]
  have HA := Lib.hid (hA.below hb0)
  obtain ⟨a, cap, rfl, hI⟩ := hA.ints
  have HZ := Lib.hid hz
  have HG : Hid (graphB (min n 13) 9 z = false) := Lib.hid (by rw [graphB_few]; exact hg)
  have HW0 := Lib.hid hw0
  have HBW := Lib.hid hb0
  clear hA hI hz hg hB hC hw0 hb0 R0
  go_enter Try.func9, Try.ntmps9
  go_wp2_with fail
  rw [← HW0.out]
  go_at_call 13
  refine (Few_any n z _ _ HA.out).mono ?_
  rintro e w1 ⟨a1, c1, rfl, hi1, hb1⟩
  have HB1 := Lib.hid hb1
  have HI1 := Lib.hid hi1
  clear hb1 hi1
  go_wp2_with fail
  go_at_call 24
  refine (Decompose_no _ HI1.out HZ.out HG.out).mono ?_
  rintro e w2 ⟨rfl, hb2⟩
  have HB2 := Lib.hid (HB1.out.trans (hb2.mono HB1.out.size))
  clear hb2
  have B2 : Below w2.heap.size w2 (w2.alloc (.cells #[.slice none 0 0, .slice none 0 0] 42)) := (Below.refl _ _).alloc (Nat.le_refl _) _
  obtain ⟨w3, hw3, R3, hb3, hs3⟩ := new1 w2 42 [.slice none 0 0, .slice none 0 0]
  have HW3 := Lib.hid hw3
  have HB3 := Lib.hid (HB2.out.trans (hb3.mono HB2.out.size))
  clear hb3
  clear hw3 R3 B2
  go_wp2_with fail
  rw [← HW3.out]
  go_at_call 18
  refine (awake_any _).mono ?_
  rintro e w4 ⟨rfl, hb4⟩
  have HB4 := Lib.hid (HB3.out.trans (hb4.mono HB3.out.size))
  clear hb4
  go_wp2_with fail
  go_ret
  exact ⟨rfl, HBW.out.trans (HB4.out.mono HBW.out.size)⟩

set_option maxRecDepth 200000 in
set_option maxHeartbeats 4000000 in
theorem WidthCliques_yes (n m q : Nat) (z y p : Nat → Int) (v vb vp : Value) (w : World) (hA : SliceArg w v n z) (hz : InI64 z) (hB : SliceArg w vb m y) (hC : SliceArg w vp q p) (hg : graphB n 9 z = true) :
    Calls Try.prog 9 #[v, .agg #[vb, vp]] w (LawTrue w) := by
  obtain ⟨w0, hw0, R0, hb0, hs0⟩ := new1 w 41 [vb, vp]
  have HA := Lib.hid (hA.below hb0)
  obtain ⟨a, cap, rfl, hI⟩ := hA.ints
  obtain ⟨ta, ka, tp, kp, rfl, rfl, hT0⟩ := SliceArg.tree hB hC
  have HTB := Lib.hid (hB.below hb0)
  have HTP := Lib.hid (hC.below hb0)
  have HT0 := Lib.hid (hT0.below hb0)
  have HZ := Lib.hid hz
  have HI0 := Lib.hid (hI.below hb0)
  have hle := (graphB_le hg).2.1
  have hn1 := (graphB_le hg).1
  have HM : Hid (min n 13 = n) := Lib.hid (by omega)
  have HG := Lib.hid hg
  have HGR := Lib.hid (graph_gr (hI.below hb0) hg)
  have HW0 := Lib.hid hw0
  have HBW := Lib.hid hb0
  have HR := Lib.hid R0
  obtain ⟨bb, hbb⟩ : ∃ b, b = decB n (natG z) m q y p := ⟨_, rfl⟩
  have HBB := Lib.hid hbb
  clear hA hI hz hg hB hC hw0 hb0 R0 hT0 hbb
  go_enter Try.func9, Try.ntmps9
  go_wp2_with fail
  rw [← HW0.out]
  go_at_call 13
  refine (Few_any n z _ _ HA.out).mono ?_
  rintro e w1 ⟨a1, c1, rfl, hi1, hb1⟩
  rw [HM.out] at hi1
  rw [HM.out]
  have HB1 := Lib.hid hb1
  have HI1 := Lib.hid hi1
  clear hb1 hi1
  go_wp2_with fail
  go_at_call 24
  refine (Decompose_yes _ HI1.out HZ.out HG.out).mono ?_
  rintro e w2 ⟨xb, kxb, xp, kxp, M, z', p', zz, rfl, hN, hmx, hb2⟩
  have HD := Lib.hid (dec_iff.2 ⟨rfl, hN.nar.dec⟩)
  have HDD := Lib.hid hN.nar.dec
  have HX2 := Lib.hid hN.at_
  have HB2 := Lib.hid (HB1.out.trans (hb2.mono HB1.out.size))
  clear hb2
  clear hN hmx
  obtain ⟨w3, hw3, R3, hb3, hs3⟩ := new1 w2 42 [.slice xb M kxb, .slice xp M kxp]
  have HW3 := Lib.hid hw3
  have HX3 := Lib.hid (HX2.out.below (hb3.mono (Nat.le_refl _)))
  have HB3 := Lib.hid (HB2.out.trans (hb3.mono HB2.out.size))
  clear hb3
  have HRX := Lib.hid R3
  clear hw3 R3 HX2
  go_wp2_with fail
  rw [← HW3.out]
  clear HW3
  have hl2 := HRX.out.lt
  have B0 : Below w3.heap.size w3 w3.drew := (Below.refl _ _).drew
  have B0a : Below w3.heap.size w3 (w3.alloc (.cells #[.slice none 0 0, .slice none 0 0] 42)).drew := ((Below.refl _ _).alloc (Nat.le_refl _) _).drew
  have c0 := HRX.out.cell (i := 0) rfl
  have c1 := HRX.out.cell (i := 1) rfl
  go_cut [6, 7] (fun s6 s7 wx => ∃ B yb kb yp kp M' z2 p2, s7 = .pointer (some ⟨B, 0, none⟩) ∧ s6 = .int .i64 0 ∧ Row wx B 42 [.slice yb M' kb, .slice yp M' kp] ∧ NarrowAt wx yb yp n (natG z) M z' M' z2 p2 ∧ Below w3.heap.size w3 wx)
  case first =>
    go_region_law (first
      | (go_simp; go_at_call 13; refine (Few_any n z _ _ (SliceArg.below HA.out (by first | exact HB3.out.trans (B0.mono HB3.out.size) | exact HB3.out.trans (B0a.mono HB3.out.size)))).mono ?_; rintro e w4 ⟨a4, c4, rfl, hi4, hb4⟩; rw [HM.out] at hi4; rw [HM.out]; have HB4 : Hid (Below w3.heap.size w3 w4) := Lib.hid (by first | exact B0.trans (hb4.mono B0.size) | exact B0a.trans (hb4.mono B0a.size)); have R4 := HRX.out.below HB4.out HRX.out.lt; have d2 := R4.cell (i := 0) rfl; have d3 := R4.cell (i := 1) rfl; have hl4 := R4.lt; have hs4 := HB4.out.size; (try have hN := rowNew hb4); (try have hN := rowNewD hb4); have HX4 := Lib.hid (HX3.out.below HB4.out); have HI4 := Lib.hid hi4; clear hi4 hb4 R4)
      | (go_simp; go_at_call 30; refine (Narrow_yes _ _ _ (by first | exact HI4.out | exact HI4.out.alloc _) HZ.out HG.out (by first | exact HX4.out | exact HX4.out.below ((Below.refl _ _).alloc (Nat.le_refl _) _)) HD.out).mono ?_; rintro e w6 ⟨yb, kb, yp, kp, M', z2, p2, rfl, hnar, hb6⟩; have HNAR := Lib.hid hnar; have HB6 : Hid (Below w3.heap.size w3 w6) := Lib.hid (by first | exact HB4.out.trans (hb6.mono HB4.out.size) | exact (HB4.out.alloc HB4.out.size _).trans (hb6.mono (HB4.out.alloc HB4.out.size _).size)); have hs6 := HB6.out.size; (try have hN := hN.below hb6 hN.lt); (try have hN := rowNew hb6); (try have n0 := Row.cell hN (i := 0) rfl); (try have n1 := Row.cell hN (i := 1) rfl); (try have f0 := Row.free hN 0); (try have f1 := Row.free hN 1); (try have nl := Row.lt hN); clear hnar hb6 HI4 HX4))
    all_goals
      go_wp2_with fail
      go_meet
      first
        | exact ⟨_, yb, kb, yp, kp, M', z2, p2, rfl, rfl, Row.new _ _ _, ⟨box_new HNAR.out.at_ _, HNAR.out.nar, HNAR.out.apart⟩, HB6.out.alloc hs6 _⟩
        | exact ⟨_, yb, kb, yp, kp, M', z2, p2, rfl, rfl, (hN.set 0 _).set 1 _, ⟨⟨(box_two hN HNAR.out.at_.bags HNAR.out.at_.pars kb kp).1, (box_two hN HNAR.out.at_.bags HNAR.out.at_.pars kb kp).2.1⟩, HNAR.out.nar, HNAR.out.apart⟩, (HB6.out.setCell (by first | exact hs4 | exact Nat.le_refl _) _).setCell (by first | exact hs4 | exact Nat.le_refl _) _⟩
  case rest =>
    obtain ⟨B, yb, kb, yp, kp, M', z2, p2, rfl, rfl, rb, hnar, hbb⟩ := hcut
    obtain ⟨wd, rfl⟩ : ∃ wd : World, wd = wc := ⟨_, rfl⟩
    have HX4 := Lib.hid (HX3.out.below hbb)
    have HY4 := Lib.hid hnar.at_
    have HDY := Lib.hid hnar.nar.dec
    have HB4 := Lib.hid (HB3.out.trans (hbb.mono HB3.out.size))
    have RX4 := HRX.out.below hbb HRX.out.lt
    have e0 := RX4.cell (i := 0) rfl
    have e1 := RX4.cell (i := 1) rfl
    have e2 := rb.cell (i := 0) rfl
    have e3 := rb.cell (i := 1) rfl
    clear rb hbb RX4 hnar c0 c1 HX3 HRX
    obtain ⟨we, hwe, RT, hbT, hsT⟩ := new1 wd 42 [.slice xb M kxb, .slice xp M kxp, .slice yb M' kb, .slice yp M' kp]
    have HWE := Lib.hid hwe
    have HBE := Lib.hid (HB4.out.trans (hbT.mono HB4.out.size))
    have hbT2 := hbT.mono (Nat.le_refl _)
    have HTS : Hid (TreesAt we wd.heap.size 2 n (natG z)) := Lib.hid ⟨RT.lt, fun i hi => by
      rcases (show i = 0 ∨ i = 1 by omega) with rfl | rfl
      · exact ⟨xb, M, kxb, _, _, _, z', p', RT.cell (i := 0) rfl, RT.cell (i := 1) rfl, (HX4.out.below hbT2).bags, HDD.out⟩
      · exact ⟨yb, M', kb, _, _, _, z2, p2, RT.cell (i := 2) rfl, RT.cell (i := 3) rfl, (HY4.out.below hbT2).bags, HDY.out⟩⟩
    have HRT := Lib.hid RT
    clear hwe RT hbT hbT2
    go_upto_region 8 with fail
    rw [← HWE.out]
    clear e0 e1 e2 e3
    have B1 : Below we.heap.size we we.drew := (Below.refl _ _).drew
    have RE := HR.out.below HBE.out HR.out.lt
    have e0 := RE.cell (i := 0) rfl
    have e1 := RE.cell (i := 1) rfl
    have HCF := Lib.hid (chk_few (n := n) (r := natG z) (m := m) (q := q) (z := y) (p := p))
    clear RE
    go_cut [10, 11] (fun s10 s11 wx => s10 = .bool bb ∧ s11 = .int .i64 0 ∧ Below we.heap.size we wx)
    case first =>
      cases bb
      all_goals
        go_region_law (first
          | (go_simp; go_at_call 13; refine (Few_any n z _ _ (SliceArg.below HA.out (HBE.out.trans (B1.mono HBE.out.size)))).mono ?_; rintro e w9 ⟨a9, c9, rfl, hi9, hb9⟩; rw [HM.out] at hi9; rw [HM.out]; have hx := B1.trans (hb9.mono B1.size); have HB9 := Lib.hid hx; have HBZ := Lib.hid (HBE.out.trans (hx.mono HBE.out.size)); have R9 := HR.out.below HBZ.out HR.out.lt; have b2 := R9.cell (i := 0) rfl; have b3 := R9.cell (i := 1) rfl; have HI9 := Lib.hid hi9; clear hi9 hb9 R9 hx)
          | (go_simp; go_at_call 26; refine (Of_any (HTB.out.below HBZ.out) (HTP.out.below HBZ.out)).mono ?_; rintro e w10 ⟨a10, k10, b10, l10, rfl, hT10, hb10⟩; have HT10 := Lib.hid hT10; have HI10 := Lib.hid (HI9.out.below hb10); have HB10 := Lib.hid (HB9.out.trans (hb10.mono HB9.out.size)); clear hT10 hb10 HI9)
          | (go_simp; go_at_call 25; refine (Check_yes _ _ _ HI10.out HZ.out HG.out HT10.out).mono ?_; rintro e w11 ⟨he, hb11⟩; rw [HCF.out, ← HBB.out] at he; dsimp only [chkRes] at he; subst he; have HB11 := Lib.hid (HB10.out.trans (hb11.mono HB10.out.size)); clear hb11))
        all_goals
          go_wp2_with fail
          go_meet
          exact ⟨rfl, rfl, HB11.out⟩
    case rest =>
      obtain ⟨rfl, rfl, hbb⟩ := hcut
      obtain ⟨wf, rfl⟩ : ∃ wf : World, wf = wc := ⟨_, rfl⟩
      have HBF := Lib.hid (HBE.out.trans (hbb.mono HBE.out.size))
      have HTF := Lib.hid (HTS.out.below hbb)
      have HRTF := Lib.hid (HRT.out.below hbb HRT.out.lt)
      have RF := HR.out.below HBF.out HR.out.lt
      have f0 := RF.cell (i := 0) rfl
      have f1 := RF.cell (i := 1) rfl
      clear hbb RF e0 e1 HTS HRT
      have hn16 : n < 16 := by omega
      have hpn := pow_bd n hn16
      have h9 := pow_le9 hle
      obtain ⟨N, hN⟩ : ∃ N : Nat, N = 2 ^ n := ⟨_, rfl⟩
      have hcast : (2 : Int) ^ n = (N : Int) := by rw [pow_cast, hN]
      have HN := Lib.hid hN
      have HC2 := Lib.hid hcast
      have hN9 : N ≤ 512 := by omega
      clear hN h9 hcast
      -- the slice of trees, with the third one or without it
      have fin : ∀ (bt ct K : Nat) (wt : World), K ≤ 3 → True := fun _ _ _ _ _ => trivial
      cases bb
      case' false =>
        have HTK : Hid (TreesAt wf wd.heap.size 2 n (natG z)) := HTF
        have HBK := HBF
        obtain ⟨wt, rfl⟩ : ∃ wt : World, wt = wf := ⟨_, rfl⟩
        go_upto_region 11 with fail
        go_wp2_with fail
        try rw [HC2.out]
        go_loopw [64] (fun i wr => ∃ k : Nat, k ≤ N ∧ i = .int .i64 k ∧ Below wt.heap.size wt wr) (fun i _ => N - (intOf i).toNat)
        case atStart => exact ⟨0, Nat.zero_le _, rfl, Below.refl _ _⟩
        case round =>
          obtain ⟨k, hk, rfl, hbel⟩ := hrel
          have HB := Lib.hid hbel
          have HB0 := Lib.hid (HBK.out.trans (hbel.mono HBK.out.size))
          clear hbel
          by_cases hlt : k < N
          · have hk2 : k < 2 ^ n := by rw [← HN.out]; exact hlt
            have hk16 := lt16 hle hk2
            have HK2 := Lib.hid hk2
            have hmf : ∀ (fn : Fn) (first cap : Array Value) (w : World), (Instr.makeFunc fn first cap).run Try.prog w = .ok (.func fn first cap) w := fun _ _ _ _ => rfl
            clear hk2
            go_upto_region 13 with fail
            go_cut [12] (fun s12 wx => ∃ X, s12 = .pointer (some ⟨X, 0, none⟩) ∧ Row wx X 3 [.int .i64 (k : Nat)] ∧ Below wr.heap.size wr wx)
            case first =>
              go_wp2_with fail
              go_meet
              exact ⟨_, rfl, Row.new wr _ _, (Below.refl _ _).alloc (Nat.le_refl _) _⟩
            obtain ⟨X, rfl, hrx, hbx⟩ := hcut
            obtain ⟨wx, rfl⟩ : ∃ wx : World, wx = wc := ⟨_, rfl⟩
            have HRX2 := Lib.hid hrx
            have HBX := Lib.hid (HB.out.trans (hbx.mono HB.out.size))
            clear hrx hbx
            go_wp2_with fail
            go_loopw [13, 69] (fun c i wy => ∃ j : Nat, j ≤ n ∧ i = .int .i64 j ∧ c = .bool (clqTo (natG z) k j) ∧ Below wx.heap.size wx wy) (fun _ i _ => n - (intOf i).toNat)
            case atStart => exact ⟨0, Nat.zero_le _, rfl, rfl, Below.refl _ _⟩
            case round =>
              obtain ⟨j, hj, rfl, rfl, hbel⟩ := hrel
              have HBY := Lib.hid hbel
              have HBZ := Lib.hid (HBX.out.trans (hbel.mono HBX.out.size))
              have RXY := HRX2.out.below hbel HRX2.out.lt
              have x0 := RXY.cell (i := 0) rfl
              clear hbel
              by_cases hlj : j < n
              · have hj16 : j < 16 := by omega
                have hj64 : j < 64 := by omega
                have hpj := pow_bd j hj16
                have HGY := HGR.out.below (HBK.out.trans (HBZ.out.mono HBK.out.size))
                obtain ⟨gb, goff, rfl, hgl, hgc⟩ := HGY.at_.ints.2 (by omega)
                have cj : wr.cell? ⟨gb, goff + j, none⟩ = some (.int .i64 ((natG z j : Nat) : Int)) := hgc j hlj
                have hrj : natG z j < 65536 := HGY.at_.bd j hlj
                have HST : Hid (clqTo (natG z) k (j + 1) = (clqTo (natG z) k j && (!k.testBit j || diff (diff k (natG z j)) (2 ^ j) == 0))) := Lib.hid rfl
                clear HGY hgl hgc RXY
                generalize clqTo (natG z) k j = c at *
                generalize natG z j = rj at *
                have hd1 := diff_lt (b := rj) hk16
                have hd2 := diff_lt (b := 2 ^ j) hd1
                have hqq := cast_beq0 (diff (diff k rj) (2 ^ j))
                cases c
                · go_wp2_with fail
                  try (go_quiet (fail))
                  go_wp2_with fail
                  go_roundw
                  case rel => exact ⟨j + 1, by omega, by go_num, by rw [HST.out]; rfl, below_drewN HBY.out _⟩
                  case measure => simp [intOf]; omega
                · cases hq : k.testBit j
                  · go_wp2_with fail
                    try (go_quiet (fail))
                    go_wp2_with fail
                    go_roundw
                    case rel => exact ⟨j + 1, by omega, by go_num, by rw [HST.out, hq]; rfl, below_drewN HBY.out _⟩
                    case measure => simp [intOf]; omega
                  · cases hz0 : (diff (diff k rj) (2 ^ j) == 0)
                    all_goals
                      rw [hz0] at hqq
                      have HZ0 := Lib.hid hz0
                      clear hz0
                      go_wp2_with fail
                      try (go_quiet (fail))
                      go_wp2_with fail
                      go_roundw
                      case rel => exact ⟨j + 1, by omega, by go_num, by rw [HST.out, hq, HZ0.out]; rfl, below_drewN HBY.out _⟩
                      case measure => simp [intOf]; omega
              · have hje : j = n := by omega
                subst hje
                cases hcq : clqTo (natG z) k j
                · go_wp2_with fail
                  go_roundw
                  case rel => exact ⟨k + 1, by omega, by go_num, HBZ.out⟩
                  case measure => simp [intOf]; omega
                · have HCQ := Lib.hid hcq
                  clear hcq
                  obtain ⟨wq, rfl⟩ : ∃ wq : World, wq = wr := ⟨_, rfl⟩
                  have HRQ := Lib.hid RXY
                  clear RXY x0
                  go_wp2_with fail
                  go_loopw [97] (fun i wz => ∃ t : Nat, t ≤ 2 ∧ i = .int .i64 t ∧ Below wq.heap.size wq wz) (fun i _ => 2 - (intOf i).toNat)
                  case atStart => exact ⟨0, Nat.zero_le _, rfl, Below.refl _ _⟩
                  case round =>
                    obtain ⟨t, ht, rfl, hbel⟩ := hrel
                    have HBR := Lib.hid hbel
                    have HBT := Lib.hid (HBZ.out.trans (hbel.mono HBZ.out.size))
                    clear hbel
                    by_cases hlt3 : t < 2
                    · obtain ⟨yb, My, ky, xy, qy, kq, zy, py, q1, q2, q3, q4⟩ := (HTK.out.below HBT.out).each t hlt3
                      have HQ3 := Lib.hid q3
                      have HQ4 := Lib.hid q4
                      clear q3 q4
                      go_upto_region 23 with fail
                      go_cut [16] (fun s16 wy => ∃ Y, s16 = .pointer (some ⟨Y, 0, none⟩) ∧ Row wy Y 42 [.slice yb My ky, .slice xy qy kq] ∧ Below wr.heap.size wr wy)
                      case first =>
                        go_wp2_with fail
                        go_meet
                        exact ⟨_, rfl, Row.new wr _ _, (Below.refl _ _).alloc (Nat.le_refl _) _⟩
                      obtain ⟨Y, rfl, hry, hby⟩ := hcut
                      obtain ⟨wy, rfl⟩ : ∃ wy : World, wy = wc := ⟨_, rfl⟩
                      have HB9 := Lib.hid (HBR.out.trans (hby.mono HBR.out.size))
                      have HIY := Lib.hid (HQ3.out.below hby)
                      have RY := HRQ.out.below HB9.out HRQ.out.lt
                      have y0 := hry.cell (i := 0) rfl
                      have y1 := hry.cell (i := 1) rfl
                      have y2 := RY.cell (i := 0) rfl
                      have HCL := Lib.hid (clq_in HQ4.out HK2.out HCQ.out)
                      clear hry hby RY q1 q2
                      go_wp2_with (go_at_call 37; refine (SubIn_any hle ky HIY.out HQ4.out.bags hk16 y2 HCL.out).mono ?_; rintro e wz ⟨rfl, rfl⟩)
                      go_roundw
                      case rel => exact ⟨t + 1, by omega, by go_num, HB9.out⟩
                      case measure => simp [intOf]; omega
                    · have hte : t = 2 := by omega
                      subst hte
                      go_wp2_with fail
                      go_roundw
                      case rel => exact ⟨k + 1, by omega, by go_num, HBT.out⟩
                      case measure => simp [intOf]; omega
          · have hke : k = N := by omega
            subst hke
            go_wp2_with fail
            go_at_call 18
            refine (awake_any _).mono ?_
            rintro e w13 ⟨rfl, hb13⟩
            have HB13 := Lib.hid (HB0.out.trans (hb13.mono HB0.out.size))
            go_wp2_with fail
            go_ret
            exact ⟨rfl, HBW.out.trans (HB13.out.mono HBW.out.size)⟩
      case' true =>
        have hdm := dec_iff.1 HBB.out.symm
        have HDT := Lib.hid hdm.2
        have e1 : Hid (min m 210 = m) := Lib.hid (by have := hdm.2.most; omega)
        have e2 : Hid (min q 210 = q) := Lib.hid (by have := hdm.2.most; have := hdm.1; omega)
        obtain ⟨i0, hi0, hz1, hz2, hz3⟩ := info_parts info_tree
        clear hdm
        go_upto_region 11 with (first
          | (go_at_call 26; refine (Of_any (HTB.out.below HBF.out) (HTP.out.below HBF.out)).mono ?_; rintro e w10 ⟨a10, k10, b10, l10, rfl, hT10, hb10⟩; rw [e1.out, e2.out] at hT10; rw [e1.out, e2.out]; have HT10 := Lib.hid hT10; have HB10 := Lib.hid (HBF.out.trans (hb10.mono HBF.out.size)); have HR10 := Lib.hid (HRTF.out.below hb10 HRTF.out.lt); have HTF10 := Lib.hid (HTF.out.below hb10); clear hT10 hb10)
          | (at_builtin; refine wpList_append_grows _ rfl _ _ 63 rfl 42 i0 (.agg #[.slice none 0 0, .slice none 0 0]) 2 48 Try.underlying63 hi0 hz1 hz2 hz3 rfl (by decide) (some ⟨wd.heap.size, 0, none⟩) 2 2 [.slice xb M kxb, .slice xp M kxp, .slice yb M' kb, .slice yp M' kp] rfl (by simp) rfl ?c0 ⟨_, 0, none⟩ 1 1 [.slice a10 m k10, .slice b10 q l10] rfl rfl ?c1 ?c2 (by decide) ?c3 ?c4 ?_))
        case c0 =>
          intro b hb j u hj
          cases hb
          exact (HR10.out.alloc _).cellAdd j u hj
        case c1 => exact cells_new _ _ _
        case c2 => intro u hu; simp at hu; rcases hu with rfl | rfl <;> rfl
        case c3 => unfold maxLen; omega
        case c4 => omega
        intro v' w12 hown hgr
        obtain ⟨g, cg, rfl, hg1, hg2⟩ := own_form' hown (by decide)
        have HBa : Below w10.heap.size w10 w12 := ((Below.refl _ _).alloc (Nat.le_refl _) (.cells #[.slice a10 m k10, .slice b10 q l10] 42)).grown hgr (by simp) (fun k hk => by cases hk)
        have HTK : Hid (TreesAt w12 g 3 n (natG z)) := Lib.hid ⟨hg2, fun i hi => by
          have HTa := HTF10.out.below HBa
          rcases (show i < 2 ∨ i = 2 by omega) with h2 | rfl
          · obtain ⟨x1, M1, k1, x2, M2, k2, z1, p1, q1, q2, q3, q4⟩ := HTF10.out.each i h2
            rcases (show i = 0 ∨ i = 1 by omega) with rfl | rfl
            · have c0 := HR10.out.cell (i := 0) rfl
              have c1 := HR10.out.cell (i := 1) rfl
              rw [c0] at q1; cases q1
              exact ⟨_, _, _, _, _, _, z1, p1, by rw [World.ownsRow.cellAt hown 0 (by decide)]; rfl, by rw [World.ownsRow.cellAt hown 1 (by decide)]; rfl, q3.below HBa, q4⟩
            · have c0 := HR10.out.cell (i := 2) rfl
              rw [c0] at q1; cases q1
              exact ⟨_, _, _, _, _, _, z1, p1, by rw [World.ownsRow.cellAt hown 2 (by decide)]; rfl, by rw [World.ownsRow.cellAt hown 3 (by decide)]; rfl, q3.below HBa, q4⟩
          · exact ⟨_, _, _, _, _, _, y, p, by rw [World.ownsRow.cellAt hown 4 (by decide)]; rfl, by rw [World.ownsRow.cellAt hown 5 (by decide)]; rfl, (HT10.out.below HBa).bags, HDT.out⟩⟩
        have HBK := Lib.hid (HB10.out.trans (HBa.mono HB10.out.size))
        obtain ⟨wt, rfl⟩ : ∃ wt : World, wt = w12 := ⟨_, rfl⟩
        clear hown hgr HBa hg1 hg2 hi0 hz1 hz2 hz3
        go_wp2_with fail
        try rw [HC2.out]
        go_loopw [64] (fun i wr => ∃ k : Nat, k ≤ N ∧ i = .int .i64 k ∧ Below wt.heap.size wt wr) (fun i _ => N - (intOf i).toNat)
        case atStart => exact ⟨0, Nat.zero_le _, rfl, Below.refl _ _⟩
        case round =>
          obtain ⟨k, hk, rfl, hbel⟩ := hrel
          have HB := Lib.hid hbel
          have HB0 := Lib.hid (HBK.out.trans (hbel.mono HBK.out.size))
          clear hbel
          by_cases hlt : k < N
          · have hk2 : k < 2 ^ n := by rw [← HN.out]; exact hlt
            have hk16 := lt16 hle hk2
            have HK2 := Lib.hid hk2
            have hmf : ∀ (fn : Fn) (first cap : Array Value) (w : World), (Instr.makeFunc fn first cap).run Try.prog w = .ok (.func fn first cap) w := fun _ _ _ _ => rfl
            clear hk2
            go_upto_region 13 with fail
            go_cut [12] (fun s12 wx => ∃ X, s12 = .pointer (some ⟨X, 0, none⟩) ∧ Row wx X 3 [.int .i64 (k : Nat)] ∧ Below wr.heap.size wr wx)
            case first =>
              go_wp2_with fail
              go_meet
              exact ⟨_, rfl, Row.new wr _ _, (Below.refl _ _).alloc (Nat.le_refl _) _⟩
            obtain ⟨X, rfl, hrx, hbx⟩ := hcut
            obtain ⟨wx, rfl⟩ : ∃ wx : World, wx = wc := ⟨_, rfl⟩
            have HRX2 := Lib.hid hrx
            have HBX := Lib.hid (HB.out.trans (hbx.mono HB.out.size))
            clear hrx hbx
            go_wp2_with fail
            go_loopw [13, 69] (fun c i wy => ∃ j : Nat, j ≤ n ∧ i = .int .i64 j ∧ c = .bool (clqTo (natG z) k j) ∧ Below wx.heap.size wx wy) (fun _ i _ => n - (intOf i).toNat)
            case atStart => exact ⟨0, Nat.zero_le _, rfl, rfl, Below.refl _ _⟩
            case round =>
              obtain ⟨j, hj, rfl, rfl, hbel⟩ := hrel
              have HBY := Lib.hid hbel
              have HBZ := Lib.hid (HBX.out.trans (hbel.mono HBX.out.size))
              have RXY := HRX2.out.below hbel HRX2.out.lt
              have x0 := RXY.cell (i := 0) rfl
              clear hbel
              by_cases hlj : j < n
              · have hj16 : j < 16 := by omega
                have hj64 : j < 64 := by omega
                have hpj := pow_bd j hj16
                have HGY := HGR.out.below (HBK.out.trans (HBZ.out.mono HBK.out.size))
                obtain ⟨gb, goff, rfl, hgl, hgc⟩ := HGY.at_.ints.2 (by omega)
                have cj : wr.cell? ⟨gb, goff + j, none⟩ = some (.int .i64 ((natG z j : Nat) : Int)) := hgc j hlj
                have hrj : natG z j < 65536 := HGY.at_.bd j hlj
                have HST : Hid (clqTo (natG z) k (j + 1) = (clqTo (natG z) k j && (!k.testBit j || diff (diff k (natG z j)) (2 ^ j) == 0))) := Lib.hid rfl
                clear HGY hgl hgc RXY
                generalize clqTo (natG z) k j = c at *
                generalize natG z j = rj at *
                have hd1 := diff_lt (b := rj) hk16
                have hd2 := diff_lt (b := 2 ^ j) hd1
                have hqq := cast_beq0 (diff (diff k rj) (2 ^ j))
                cases c
                · go_wp2_with fail
                  try (go_quiet (fail))
                  go_wp2_with fail
                  go_roundw
                  case rel => exact ⟨j + 1, by omega, by go_num, by rw [HST.out]; rfl, below_drewN HBY.out _⟩
                  case measure => simp [intOf]; omega
                · cases hq : k.testBit j
                  · go_wp2_with fail
                    try (go_quiet (fail))
                    go_wp2_with fail
                    go_roundw
                    case rel => exact ⟨j + 1, by omega, by go_num, by rw [HST.out, hq]; rfl, below_drewN HBY.out _⟩
                    case measure => simp [intOf]; omega
                  · cases hz0 : (diff (diff k rj) (2 ^ j) == 0)
                    all_goals
                      rw [hz0] at hqq
                      have HZ0 := Lib.hid hz0
                      clear hz0
                      go_wp2_with fail
                      try (go_quiet (fail))
                      go_wp2_with fail
                      go_roundw
                      case rel => exact ⟨j + 1, by omega, by go_num, by rw [HST.out, hq, HZ0.out]; rfl, below_drewN HBY.out _⟩
                      case measure => simp [intOf]; omega
              · have hje : j = n := by omega
                subst hje
                cases hcq : clqTo (natG z) k j
                · go_wp2_with fail
                  go_roundw
                  case rel => exact ⟨k + 1, by omega, by go_num, HBZ.out⟩
                  case measure => simp [intOf]; omega
                · have HCQ := Lib.hid hcq
                  clear hcq
                  obtain ⟨wq, rfl⟩ : ∃ wq : World, wq = wr := ⟨_, rfl⟩
                  have HRQ := Lib.hid RXY
                  clear RXY x0
                  go_wp2_with fail
                  go_loopw [97] (fun i wz => ∃ t : Nat, t ≤ 3 ∧ i = .int .i64 t ∧ Below wq.heap.size wq wz) (fun i _ => 3 - (intOf i).toNat)
                  case atStart => exact ⟨0, Nat.zero_le _, rfl, Below.refl _ _⟩
                  case round =>
                    obtain ⟨t, ht, rfl, hbel⟩ := hrel
                    have HBR := Lib.hid hbel
                    have HBT := Lib.hid (HBZ.out.trans (hbel.mono HBZ.out.size))
                    clear hbel
                    by_cases hlt3 : t < 3
                    · obtain ⟨yb, My, ky, xy, qy, kq, zy, py, q1, q2, q3, q4⟩ := (HTK.out.below HBT.out).each t hlt3
                      have HQ3 := Lib.hid q3
                      have HQ4 := Lib.hid q4
                      clear q3 q4
                      go_upto_region 23 with fail
                      go_cut [16] (fun s16 wy => ∃ Y, s16 = .pointer (some ⟨Y, 0, none⟩) ∧ Row wy Y 42 [.slice yb My ky, .slice xy qy kq] ∧ Below wr.heap.size wr wy)
                      case first =>
                        go_wp2_with fail
                        go_meet
                        exact ⟨_, rfl, Row.new wr _ _, (Below.refl _ _).alloc (Nat.le_refl _) _⟩
                      obtain ⟨Y, rfl, hry, hby⟩ := hcut
                      obtain ⟨wy, rfl⟩ : ∃ wy : World, wy = wc := ⟨_, rfl⟩
                      have HB9 := Lib.hid (HBR.out.trans (hby.mono HBR.out.size))
                      have HIY := Lib.hid (HQ3.out.below hby)
                      have RY := HRQ.out.below HB9.out HRQ.out.lt
                      have y0 := hry.cell (i := 0) rfl
                      have y1 := hry.cell (i := 1) rfl
                      have y2 := RY.cell (i := 0) rfl
                      have HCL := Lib.hid (clq_in HQ4.out HK2.out HCQ.out)
                      clear hry hby RY q1 q2
                      go_wp2_with (go_at_call 37; refine (SubIn_any hle ky HIY.out HQ4.out.bags hk16 y2 HCL.out).mono ?_; rintro e wz ⟨rfl, rfl⟩)
                      go_roundw
                      case rel => exact ⟨t + 1, by omega, by go_num, HB9.out⟩
                      case measure => simp [intOf]; omega
                    · have hte : t = 3 := by omega
                      subst hte
                      go_wp2_with fail
                      go_roundw
                      case rel => exact ⟨k + 1, by omega, by go_num, HBT.out⟩
                      case measure => simp [intOf]; omega
          · have hke : k = N := by omega
            subst hke
            go_wp2_with fail
            go_at_call 18
            refine (awake_any _).mono ?_
            rintro e w13 ⟨rfl, hb13⟩
            have HB13 := Lib.hid (HB0.out.trans (hb13.mono HB0.out.size))
            go_wp2_with fail
            go_ret
            exact ⟨rfl, HBW.out.trans (HB13.out.mono HBW.out.size)⟩

theorem WidthCliques_walk (n m q : Nat) (z y p : Nat → Int) (v vb vp : Value) (w : World) (hA : SliceArg w v n z) (hz : InI64 z) (hB : SliceArg w vb m y) (hC : SliceArg w vp q p) :
    Calls Try.prog 9 #[v, .agg #[vb, vp]] w fun e w' => e = .returned (.bool true) ∧ Below w.heap.size w w' := by
  cases hg : graphB n 9 z
  · exact WidthCliques_no n m q z y p v vb vp w hA hz hB hC hg
  · exact WidthCliques_yes n m q z y p v vb vp w hA hz hB hC hg

end Go.Proofs.Ytombmfphodikjaa
