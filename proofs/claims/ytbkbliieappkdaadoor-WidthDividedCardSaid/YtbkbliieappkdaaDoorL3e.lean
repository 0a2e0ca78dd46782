/- The walk of the law WidthDivides. -/
import Derived.Test.YtbkbliieappkdaaDoorL3c
import Derived.Test.YtbkbliieappkdaaDoorW26
namespace Go.Proofs.YtbkbliieappkdaaDoor
set_option linter.unusedSimpArgs false
set_option linter.unusedVariables false
open Go.RowKit Go.Maps

set_option maxRecDepth 200000 in
set_option maxHeartbeats 2000000 in
theorem WidthDivides_walk (n : Nat) (z : Nat → Int) (v : Value) (w : World) (hA : SliceArg w v n z) (hz : InI64 z) (hT : HasTab w) :
    Calls Tryd.prog 6 #[v] w (LawTrue w) := by
  obtain ⟨a, cap, rfl, hI⟩ := hA.ints
  have HA := Lib.hid hA
  have HI0 := Lib.hid hI
  have HZ := Lib.hid hz
  have HT := Lib.hid hT
  clear hA hI hz hT
  cases hg : graphB n 9 z
  · have HG0 := Lib.hid hg
    have HG : Hid (graphB (min n 13) 9 z = false) := Lib.hid (by rw [graphB_few]; exact hg)
    clear hg
    go_enter Tryd.func6, Tryd.ntmps6
    go_wp2_with fail
    go_at_call 11
    refine (Few_any n z _ _ HA.out).mono ?_
    rintro e w1 ⟨a1, c1, rfl, hi1, hb1⟩
    have HB1 := Lib.hid hb1
    clear hb1
    have HI1 := Lib.hid hi1
    clear hi1
    go_wp2_with fail
    go_at_call 24
    refine (Divide_no _ HI1.out HZ.out HG.out).mono ?_
    rintro e w2 ⟨rfl, hb2⟩
    have HB2 := Lib.hid (HB1.out.trans (hb2.mono HB1.out.size))
    clear hb2
    go_wp2_with fail
    go_at_call 12
    refine (ValidR_any n z _ _ _ (HI0.out.below HB2.out) HZ.out).mono ?_
    rintro e w3 ⟨rfl, hb3⟩
    rw [HG0.out]
    have HB3 := Lib.hid (HB2.out.trans (hb3.mono HB2.out.size))
    clear hb3
    go_wp2_with fail
    go_at_call 13
    refine (awake_any _).mono ?_
    rintro e w4 ⟨rfl, hb4⟩
    have HB4 := Lib.hid (HB3.out.trans (hb4.mono HB3.out.size))
    clear hb4
    go_wp2_with fail
    go_ret
    exact ⟨rfl, HB4.out⟩
  · have hn9 := (graphB_le hg).2.1
    have HM : Hid (min n 13 = n) := Lib.hid (by omega)
    have HG := Lib.hid hg
    have HGR := Lib.hid (Gr.of_graph HI0.out hg)
    clear hg
    go_enter Tryd.func6, Tryd.ntmps6
    go_wp2_with fail
    go_at_call 11
    refine (Few_any n z _ _ HA.out).mono ?_
    rintro e w1 ⟨a1, c1, rfl, hi1, hb1⟩
    rw [HM.out] at hi1
    rw [HM.out]
    have HB1 := Lib.hid hb1
    have HT1 := Lib.hid (HT.out.below hb1)
    clear hb1
    have HI1 := Lib.hid hi1
    clear hi1
    go_wp2_with fail
    go_at_call 24
    refine (Divide_yes _ HI1.out HZ.out HT1.out HG.out).mono ?_
    rintro e w2 ⟨⟨X1, rfl, hX1⟩, hb2⟩
    have HX1 := Lib.hid hX1
    clear hX1
    have HB2 := Lib.hid (HB1.out.trans (hb2.mono HB1.out.size))
    clear hb2
    go_wp2_with fail
    go_at_call 12
    refine (ValidR_any n z _ _ _ (HI0.out.below HB2.out) HZ.out).mono ?_
    rintro e w3 ⟨rfl, hb3⟩
    rw [HG.out]
    have HB3 := Lib.hid (HB2.out.trans (hb3.mono HB2.out.size))
    clear hb3
    go_wp2_with fail
    go_at_call 25
    refine (DivideR_any (HGR.out.below HB3.out) _).mono ?_
    rintro e w4 ⟨⟨X2, rfl, hX2⟩, hb4⟩
    obtain rfl := HX1.out.uniq hX2
    have hXl := hX2.lt
    have hX9 : X1 < 512 := by have := pow_le9 hn9; omega
    clear hX2 HX1 hXl
    have HB4 := Lib.hid (HB3.out.trans (hb4.mono HB3.out.size))
    clear hb4
    go_wp2_with fail
    go_at_call 13
    refine (awake_any _).mono ?_
    rintro e w5 ⟨rfl, hb5⟩
    have HB5 := Lib.hid (HB4.out.trans (hb5.mono HB4.out.size))
    clear hb5
    go_wp2_with fail
    go_ret
    exact ⟨rfl, HB5.out⟩

end Go.Proofs.YtbkbliieappkdaaDoor
