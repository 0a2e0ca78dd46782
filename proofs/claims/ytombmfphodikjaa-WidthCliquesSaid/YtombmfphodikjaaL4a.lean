/- The walk of the law WidthTrees. -/
import Derived.Test.YtombmfphodikjaaL3a
import Derived.Test.YtombmfphodikjaaW15
import Derived.Test.YtombmfphodikjaaW33
import Derived.Test.YtombmfphodikjaaW46
namespace Go.Proofs.Ytombmfphodikjaa
set_option linter.unusedSimpArgs false
set_option linter.unusedVariables false
open Go.RowKit Go.Maps

theorem decB_few {n : Nat} {r : Nat → Nat} {m q : Nat} {z p : Nat → Int} : decB n r (min m 210) (min q 210) z p = decB n r m q z p := by
  by_cases h1 : m ≤ 30
  · by_cases h2 : q ≤ 210
    · rw [Nat.min_eq_left (by omega), Nat.min_eq_left h2]
    · rw [decB_no (m := m), decB_no]
      · rintro ⟨h, _⟩; have := (treeB_iff h).2.2.1; omega
      · rintro ⟨h, _⟩; have := (treeB_iff h).2.2.1; omega
  · rw [decB_no (m := m), decB_no]
    · rintro ⟨h, _⟩; have := (treeB_iff h).2.1; omega
    · rintro ⟨h, _⟩; have := (treeB_iff h).2.1; omega
/-- What Check answers of a tree that was cut. -/
theorem chk_few {n : Nat} {r : Nat → Nat} {m q : Nat} {z p : Nat → Int} : chkRes n (min m 210) z (decB n r (min m 210) (min q 210) z p) = chkRes n m z (decB n r m q z p) := by
  rw [decB_few]
  cases h : decB n r m q z p
  · rfl
  · have := (dec_iff.1 h).2.most
    rw [Nat.min_eq_left (by omega)]
/-- A struct of two slices as an argument, read as a tree. -/
theorem SliceArg.tree {w : World} {vb vp : Value} {m q : Nat} {z p : Nat → Int} (h1 : SliceArg w vb m z) (h2 : SliceArg w vp q p) : ∃ ba ca pa cb, vb = .slice ba m ca ∧ vp = .slice pa q cb ∧ TreeAt w ba pa m q z p := by
  obtain ⟨ba, ca, rfl, hb⟩ := h1.ints
  obtain ⟨pa, cb, rfl, hp⟩ := h2.ints
  exact ⟨ba, ca, pa, cb, rfl, rfl, hb, hp⟩

set_option maxRecDepth 200000 in
set_option maxHeartbeats 4000000 in
theorem WidthTrees_no (n m q : Nat) (z y p : Nat → Int) (v vb vp : Value) (w : World) (hA : SliceArg w v n z) (hz : InI64 z) (hB : SliceArg w vb m y) (hC : SliceArg w vp q p) (hg : graphB n 9 z = false) :
    Calls Try.prog 4 #[v, .agg #[vb, vp]] w (LawTrue w) := by
  obtain ⟨w0, hw0, R0, hb0, hs0⟩ := new1 w 41 [vb, vp]
  have HA := Lib.hid (hA.below hb0)
  obtain ⟨a, cap, rfl, hI⟩ := hA.ints
  have HTB := Lib.hid (hB.below hb0)
  have HTP := Lib.hid (hC.below hb0)
  have HZ := Lib.hid hz
  have HI0 := Lib.hid (hI.below hb0)
  have HG : Hid (graphB (min n 13) 9 z = false) := Lib.hid (by rw [graphB_few]; exact hg)
  have HG0 := Lib.hid hg
  have HW0 := Lib.hid hw0
  have HBW := Lib.hid hb0
  have HR := Lib.hid R0
  clear hA hI hz hg hB hC hw0 hb0 R0
  go_enter Try.func4, Try.ntmps4
  go_wp2_with fail
  rw [← HW0.out]
  go_at_call 13
  refine (Few_any n z _ _ HA.out).mono ?_
  rintro e w1 ⟨a1, c1, rfl, hi1, hb1⟩
  have HB1 := Lib.hid hb1
  have HI1 := Lib.hid hi1
  clear hb1 hi1
  go_wp2_with fail
  go_at_call 24
  refine (Decompose_no _ HI1.out HZ.out HG.out).mono ?_
  rintro e w2 ⟨rfl, hb2⟩
  have HB2 := Lib.hid (HB1.out.trans (hb2.mono HB1.out.size))
  clear hb2
  obtain ⟨w3, hw3, R3, hb3, hs3⟩ := new1 w2 42 [.slice none 0 0, .slice none 0 0]
  have HW3 := Lib.hid hw3
  have HB3 := Lib.hid (HB2.out.trans (hb3.mono HB2.out.size))
  clear hb3
  have HRX := Lib.hid R3
  have HR3 := Lib.hid (HR.out.below HB3.out HR.out.lt)
  clear hw3 R3
  go_wp2_with fail
  rw [← HW3.out]
  have d0 := HR3.out.cell (i := 0) rfl
  have d1 := HR3.out.cell (i := 1) rfl
  have B0 : Below w3.heap.size w3 w3.drew := (Below.refl _ _).drew
  have HBD := Lib.hid (HB3.out.trans (B0.mono HB3.out.size))
  go_region_law (first
    | (have hbd := HBD.out; clear HBD; go_simp; go_at_call 13; refine (Few_any n z _ _ (SliceArg.below HA.out hbd)).mono ?_; rintro e w4 ⟨a4, c4, rfl, hi4, hb4⟩; have HB4 := Lib.hid (hbd.trans (hb4.mono hbd.size)); have HX4 := Lib.hid (HRX.out.below (B0.trans (hb4.mono B0.size)) HRX.out.lt); have R4 := HR3.out.below (B0.trans (hb4.mono B0.size)) HR3.out.lt; have d2 := R4.cell (i := 0) rfl; have d3 := R4.cell (i := 1) rfl; have HI4 := Lib.hid hi4; clear hi4 hb4 R4)
    | (have hi4 := HI4.out; clear HI4; go_simp; go_at_call 26; refine (Of_any (HTB.out.below HB4.out) (HTP.out.below HB4.out)).mono ?_; rintro e w5 ⟨a5, k5, b5, l5, rfl, hT5, hb5⟩; have HI5 := Lib.hid (hi4.below hb5); have HX5 := Lib.hid (HX4.out.below hb5 HX4.out.lt); have HB5 := Lib.hid (HB4.out.trans (hb5.mono HB4.out.size)); clear hi4 hT5 hb5 HB4 HX4)
    | (go_simp; go_at_call 25; refine (Check_no _ _ _ HI5.out HZ.out HG.out).mono ?_; rintro e w6 ⟨rfl, hb6⟩; have HB6 := Lib.hid (HB5.out.trans (hb6.mono HB5.out.size)); have HX6 := Lib.hid (HX5.out.below hb6 HX5.out.lt); clear hb6 HB5 HX5))
  all_goals
    go_wp2_with fail
    go_at_call 17
    refine (ValidR_any n z _ _ _ (HI0.out.below HB6.out) HZ.out).mono ?_
    rintro e w7 ⟨rfl, hb7⟩
    rw [HG0.out]
    have HX7 := Lib.hid (HX6.out.below hb7 HX6.out.lt)
    have HB7 := Lib.hid (HB6.out.trans (hb7.mono HB6.out.size))
    clear hb7
    have f0 := HX7.out.cell (i := 0) rfl
    have f1 := HX7.out.cell (i := 1) rfl
    go_wp2_with fail
    go_at_call 27
    refine (none_any (m := 0) (q := 0) (by omega) (by omega) _).mono ?_
    rintro e w8 ⟨rfl, hb8⟩
    have HB8 := Lib.hid (HB7.out.trans (hb8.mono HB7.out.size))
    clear hb8
    go_wp2_with fail
    go_at_call 18
    refine (awake_any _).mono ?_
    rintro e w9 ⟨rfl, hb9⟩
    have HB9 := Lib.hid (HB8.out.trans (hb9.mono HB8.out.size))
    clear hb9
    go_wp2_with fail
    go_ret
    exact ⟨rfl, HBW.out.trans (HB9.out.mono HBW.out.size)⟩

theorem treeRes_yes {n M : Nat} {z : Nat → Int} {W : Nat} (h : mxTo n z M = W + 1) : treeRes n M z true = .tuple #[.int .i64 (W : Nat), .bool true] := by
  show Value.tuple #[.int .i64 ((mxTo n z M : Nat) - 1), .bool true] = _
  rw [h, show (((W + 1 : Nat) : Int) - 1) = ((W : Nat) : Int) by omega]
theorem graph_gr {w : World} {a : Option Addr} {n : Nat} {z : Nat → Int} (h : IntsAt w a n z) (hg : graphB n 9 z = true) : Gr w a n (natG z) :=
  ⟨GrAt.of_graph h hg (by decide), (graphB_le hg).2.1, fun i hi => nat_pow_cast ((graphB_le hg).2.2 i hi).2 ((graphB_le hg).2.2 i hi).1⟩

set_option maxRecDepth 200000 in
set_option maxHeartbeats 4000000 in
theorem WidthTrees_yes (n m q : Nat) (z y p : Nat → Int) (v vb vp : Value) (w : World) (hA : SliceArg w v n z) (hz : InI64 z) (hB : SliceArg w vb m y) (hC : SliceArg w vp q p) (hg : graphB n 9 z = true) :
    Calls Try.prog 4 #[v, .agg #[vb, vp]] w (LawTrue w) := by
  obtain ⟨w0, hw0, R0, hb0, hs0⟩ := new1 w 41 [vb, vp]
  have HA := Lib.hid (hA.below hb0)
  obtain ⟨a, cap, rfl, hI⟩ := hA.ints
  obtain ⟨ta, ka, tp, kp, rfl, rfl, hT0⟩ := SliceArg.tree hB hC
  have HTB := Lib.hid (hB.below hb0)
  have HTP := Lib.hid (hC.below hb0)
  have HT0 := Lib.hid (hT0.below hb0)
  have HZ := Lib.hid hz
  have HI0 := Lib.hid (hI.below hb0)
  have hle := (graphB_le hg).2.1
  have HM : Hid (min n 13 = n) := Lib.hid (by omega)
  have HG := Lib.hid hg
  have HGR := Lib.hid (graph_gr (hI.below hb0) hg)
  have HW0 := Lib.hid hw0
  have HBW := Lib.hid hb0
  have HR := Lib.hid R0
  have HCF := Lib.hid (chk_few (n := n) (r := natG z) (m := m) (q := q) (z := y) (p := p))
  obtain ⟨bb, hbb⟩ : ∃ b, b = decB n (natG z) m q y p := ⟨_, rfl⟩
  have HBB := Lib.hid hbb
  have HWR : Hid (rst n (tn n (natG z)) 0 = widthG n z) := Lib.hid rfl
  clear hA hI hz hg hB hC hw0 hb0 R0 hT0 hbb
  go_enter Try.func4, Try.ntmps4
  go_wp2_with fail
  rw [← HW0.out]
  go_at_call 13
  refine (Few_any n z _ _ HA.out).mono ?_
  rintro e w1 ⟨a1, c1, rfl, hi1, hb1⟩
  rw [HM.out] at hi1
  rw [HM.out]
  have HB1 := Lib.hid hb1
  have HI1 := Lib.hid hi1
  clear hb1 hi1
  go_wp2_with fail
  go_at_call 24
  refine (Decompose_yes _ HI1.out HZ.out HG.out).mono ?_
  rintro e w2 ⟨xb, kxb, xp, kxp, M, z', p', zz, rfl, hN, hmx, hb2⟩
  have HMX := Lib.hid hmx
  have HD := Lib.hid (dec_iff.2 ⟨rfl, hN.nar.dec⟩)
  have HX2 := Lib.hid hN.at_
  have HB2 := Lib.hid (HB1.out.trans (hb2.mono HB1.out.size))
  clear hb2
  clear hN hmx
  obtain ⟨w3, hw3, R3, hb3, hs3⟩ := new1 w2 42 [.slice xb M kxb, .slice xp M kxp]
  have HW3 := Lib.hid hw3
  have HX3 := Lib.hid (HX2.out.below (hb3.mono (Nat.le_refl _)))
  have HB3 := Lib.hid (HB2.out.trans (hb3.mono HB2.out.size))
  clear hb3
  have HRX := Lib.hid R3
  have HR3 := Lib.hid (HR.out.below HB3.out HR.out.lt)
  clear hw3 R3
  go_wp2_with fail
  rw [← HW3.out]
  have d0 := HR3.out.cell (i := 0) rfl
  have d1 := HR3.out.cell (i := 1) rfl
  have B0 : Below w3.heap.size w3 w3.drew := (Below.refl _ _).drew
  have HBD := Lib.hid (HB3.out.trans (B0.mono HB3.out.size))
  cases bb
  all_goals
    go_region_law (first
      | (have hbd := HBD.out; clear HBD; go_simp; go_at_call 13; refine (Few_any n z _ _ (SliceArg.below HA.out hbd)).mono ?_; rintro e w4 ⟨a4, c4, rfl, hi4, hb4⟩; rw [HM.out] at hi4; rw [HM.out]; have HB4 := Lib.hid (hbd.trans (hb4.mono hbd.size)); have hbx := B0.trans (hb4.mono B0.size); have HX4 := Lib.hid (HRX.out.below hbx HRX.out.lt); have HXT4 := Lib.hid (HX3.out.below hbx); have R4 := HR3.out.below hbx HR3.out.lt; have d2 := R4.cell (i := 0) rfl; have d3 := R4.cell (i := 1) rfl; have HI4 := Lib.hid hi4; clear hi4 hb4 R4 hbx)
      | (have hi4 := HI4.out; clear HI4; go_simp; go_at_call 26; refine (Of_any (HTB.out.below HB4.out) (HTP.out.below HB4.out)).mono ?_; rintro e w5 ⟨a5, k5, b5, l5, rfl, hT5, hb5⟩; have HT5 := Lib.hid hT5; have HI5 := Lib.hid (hi4.below hb5); have HX5 := Lib.hid (HX4.out.below hb5 HX4.out.lt); have HXT5 := Lib.hid (HXT4.out.below hb5); have HB5 := Lib.hid (HB4.out.trans (hb5.mono HB4.out.size)); clear hi4 hT5 hb5 HB4 HX4 HXT4)
      | (go_simp; go_at_call 25; refine (Check_yes _ _ _ HI5.out HZ.out HG.out HT5.out).mono ?_; rintro e w6 ⟨he, hb6⟩; rw [HCF.out, ← HBB.out] at he; dsimp only [chkRes] at he; subst he; have HB6 := Lib.hid (HB5.out.trans (hb6.mono HB5.out.size)); have HX6 := Lib.hid (HX5.out.below hb6 HX5.out.lt); have HXT6 := Lib.hid (HXT5.out.below hb6); clear hb6 HB5 HX5 HXT5))
  all_goals
    go_wp2_with fail
    go_at_call 17
    refine (ValidR_any n z _ _ _ (HI0.out.below HB6.out) HZ.out).mono ?_
    rintro e w7 ⟨rfl, hb7⟩
    rw [HG.out]
    have HX7 := Lib.hid (HX6.out.below hb7 HX6.out.lt)
    have HXT7 := Lib.hid (HXT6.out.below hb7)
    have HB7 := Lib.hid (HB6.out.trans (hb7.mono HB6.out.size))
    clear hb7
    have f0 := HX7.out.cell (i := 0) rfl
    have f1 := HX7.out.cell (i := 1) rfl
    go_wp2_with fail
    go_at_call 29
    refine (ownT_any _).mono ?_
    rintro e w8 ⟨rfl, hb8⟩
    have HXT8 := Lib.hid (HXT7.out.below hb8)
    have HB8 := Lib.hid (HB7.out.trans (hb8.mono HB7.out.size))
    clear hb8
    go_wp2_with fail
    go_at_call 28
    refine (IsTreeR_any (HGR.out.below HB8.out) _ _ _ HXT8.out).mono ?_
    rintro e w9 ⟨he, hb9⟩
    rw [HD.out, treeRes_yes HMX.out] at he
    subst he
    have HB9 := Lib.hid (HB8.out.trans (hb9.mono HB8.out.size))
    clear hb9
    have HR9 := Lib.hid (HR.out.below HB9.out HR.out.lt)
    have g0 := HR9.out.cell (i := 0) rfl
    have g1 := HR9.out.cell (i := 1) rfl
    go_wp2_with fail
    go_at_call 28
    refine (IsTreeR_any (HGR.out.below HB9.out) _ _ _ (HT0.out.below HB9.out)).mono ?_
    rintro e w10 ⟨he, hb10⟩
    rw [← HBB.out] at he
    dsimp only [treeRes] at he
    subst he
    have HB10 := Lib.hid (HB9.out.trans (hb10.mono HB9.out.size))
    clear hb10
    go_wp2_with fail
    go_at_call 19
    refine (WidthR_any (HGR.out.below HB10.out) _).mono ?_
    rintro e w11 ⟨he, hb11⟩
    rw [HWR.out] at he
    subst he
    have HB11 := Lib.hid (HB10.out.trans (hb11.mono HB10.out.size))
    clear hb11
    go_wp2_with fail
    go_at_call 18
    refine (awake_any _).mono ?_
    rintro e w12 ⟨rfl, hb12⟩
    have HB12 := Lib.hid (HB11.out.trans (hb12.mono HB11.out.size))
    clear hb12
    go_wp2_with fail
    go_ret
    exact ⟨rfl, HBW.out.trans (HB12.out.mono HBW.out.size)⟩

theorem WidthTrees_walk (n m q : Nat) (z y p : Nat → Int) (v vb vp : Value) (w : World) (hA : SliceArg w v n z) (hz : InI64 z) (hB : SliceArg w vb m y) (hC : SliceArg w vp q p) :
    Calls Try.prog 4 #[v, .agg #[vb, vp]] w fun e w' => e = .returned (.bool true) ∧ Below w.heap.size w w' := by
  cases hg : graphB n 9 z
  · exact WidthTrees_no n m q z y p v vb vp w hA hz hB hC hg
  · exact WidthTrees_yes n m q z y p v vb vp w hA hz hB hC hg

end Go.Proofs.Ytombmfphodikjaa
