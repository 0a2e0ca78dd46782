/- The contract of package width's Check. -/
import Derived.Test.YtgkpogaahndmoaaDoorWdW32
import Derived.Test.YtgkpogaahndmoaaDoorWdW12
namespace Go.Proofs.YtgkpogaahndmoaaDoor.Wd
set_option linter.unusedSimpArgs false
set_option linter.unusedVariables false
open Go.RowKit Go.Maps

/-- What Check returns of a graph. -/
def chkRes (n m : Nat) (z : Nat → Int) : Bool → Value
  | true => .tuple #[.int .i64 ((mxTo n z m : Nat) - 1), .bool true, .int .i64 0]
  | false => .tuple #[.int .i64 0, .bool false, .int .i64 0]

set_option maxRecDepth 20000 in
set_option maxHeartbeats 1000000 in
theorem Check_yes {n m q : Nat} {g z p : Nat → Int} {a ba pa : Option Addr} (cap ca cb : Nat) {w : World} (hI : IntsAt w a n g) (hz : InI64 g) (hg : graphB n 9 g = true) (T : TreeAt w ba pa m q z p) :
    Calls Tryd.prog 45 #[.slice a n cap, treeV ba m ca pa q cb] w fun e w' => e = .returned (chkRes n m z (decB n (natG g) m q z p)) ∧ Below w.heap.size w w' := by
  obtain ⟨w0, hw0, R0, HB0, hs0⟩ := new1 w 71 [.slice ba m ca, .slice pa q cb]
  have HI := Lib.hid (hI.below HB0)
  have HZ := Lib.hid hz
  have HT := Lib.hid (T.below HB0)
  have HW0 := Lib.hid hw0
  have HB := Lib.hid HB0
  have HR := Lib.hid R0
  have c0 := R0.cell (i := 0) rfl
  have c1 := R0.cell (i := 1) rfl
  have hl := R0.lt
  clear T hI hz hw0 R0 HB0
  cases hd : decB n (natG g) m q z p
  · go_enter Tryd.func45, Tryd.ntmps45
    go_wp2_with fail
    rw [← HW0.out]
    go_wp2_with fail
    go_at_call 68
    refine (newTown_yes cap HI.out HZ.out hg).mono ?_
    rintro e w1 ⟨rfl, hb1, hG⟩
    have HG := Lib.hid hG
    have HT1 := Lib.hid (HT.out.below hb1)
    have HB1 := Lib.hid (HB.out.trans (hb1.mono HB.out.size))
    have HR1 := Lib.hid (HR.out.below hb1 HR.out.lt)
    clear c0 c1 hl hb1 hG
    have c0 := HR1.out.cell (i := 0) rfl
    have c1 := HR1.out.cell (i := 1) rfl
    have hl := HR1.out.lt
    go_wp2_with fail
    go_at_call 70
    refine (isDecomposition_any HG.out cap ca cb HT1.out).mono ?_
    rintro e w2 ⟨rfl, hb2⟩
    rw [hd]
    have HT2 := Lib.hid (HT1.out.below hb2)
    have HB2 := Lib.hid (HB1.out.trans (hb2.mono HB1.out.size))
    have HR2 := Lib.hid (HR1.out.below hb2 HR1.out.lt)
    clear c0 c1 hl hb2
    have c0 := HR2.out.cell (i := 0) rfl
    have c1 := HR2.out.cell (i := 1) rfl
    have hl := HR2.out.lt
    go_wp2_with fail
    go_ret3
    exact ⟨rfl, HB2.out⟩
  · have HOK := Lib.hid (decB_iff.1 hd).2.1
    have hle := (graphB_le hg).2.1
    go_enter Tryd.func45, Tryd.ntmps45
    go_wp2_with fail
    rw [← HW0.out]
    go_wp2_with fail
    go_at_call 68
    refine (newTown_yes cap HI.out HZ.out hg).mono ?_
    rintro e w1 ⟨rfl, hb1, hG⟩
    have HG := Lib.hid hG
    have HT1 := Lib.hid (HT.out.below hb1)
    have HB1 := Lib.hid (HB.out.trans (hb1.mono HB.out.size))
    have HR1 := Lib.hid (HR.out.below hb1 HR.out.lt)
    clear c0 c1 hl hb1 hG
    have c0 := HR1.out.cell (i := 0) rfl
    have c1 := HR1.out.cell (i := 1) rfl
    have hl := HR1.out.lt
    go_wp2_with fail
    go_at_call 70
    refine (isDecomposition_any HG.out cap ca cb HT1.out).mono ?_
    rintro e w2 ⟨rfl, hb2⟩
    rw [hd]
    have HT2 := Lib.hid (HT1.out.below hb2)
    have HB2 := Lib.hid (HB1.out.trans (hb2.mono HB1.out.size))
    have HR2 := Lib.hid (HR1.out.below hb2 HR1.out.lt)
    clear c0 c1 hl hb2
    have c0 := HR2.out.cell (i := 0) rfl
    have c1 := HR2.out.cell (i := 1) rfl
    have hl := HR2.out.lt
    go_wp2_with (go_at_call 71; refine (widthOf_any hle ca cb HT2.out HOK.out).mono ?_; rintro e w3 ⟨rfl, hb3⟩; have HB3 := Lib.hid (HB2.out.trans (hb3.mono HB2.out.size)); clear hb3)
    go_ret3
    exact ⟨rfl, HB3.out⟩
set_option maxRecDepth 20000 in
set_option maxHeartbeats 1000000 in
theorem Check_no {n m q : Nat} {g : Nat → Int} {a ba pa : Option Addr} (cap ca cb : Nat) {w : World} (hI : IntsAt w a n g) (hz : InI64 g) (hg : graphB n 9 g = false) :
    Calls Tryd.prog 45 #[.slice a n cap, treeV ba m ca pa q cb] w fun e w' => e = .returned (.tuple #[.int .i64 0, .bool false, .int .i64 2]) ∧ Below w.heap.size w w' := by
  obtain ⟨w0, hw0, R0, HB0, hs0⟩ := new1 w 71 [.slice ba m ca, .slice pa q cb]
  have HI := Lib.hid (hI.below HB0)
  have HZ := Lib.hid hz
  have HW0 := Lib.hid hw0
  have HB := Lib.hid HB0
  have HR := Lib.hid R0
  have c0 := R0.cell (i := 0) rfl
  have c1 := R0.cell (i := 1) rfl
  have hl := R0.lt
  clear hI hz hw0 R0 HB0
  go_enter Tryd.func45, Tryd.ntmps45
  go_wp2_with fail
  rw [← HW0.out]
  go_wp2_with (go_at_call 68; refine (newTown_no cap HI.out HZ.out hg).mono ?_; rintro e w1 ⟨rfl, hb1⟩; have HB1 := Lib.hid (HB.out.trans (hb1.mono HB.out.size)); clear hb1)
  go_ret3
  exact ⟨rfl, HB1.out⟩

end Go.Proofs.YtgkpogaahndmoaaDoor.Wd
