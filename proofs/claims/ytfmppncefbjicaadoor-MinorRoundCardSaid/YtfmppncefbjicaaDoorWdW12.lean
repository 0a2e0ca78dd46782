/- The contracts of package width's Width, Order, Along; of the law's awake; of slices.Compare for numbers. -/
import Derived.Test.YtfmppncefbjicaaDoorWdW8
import Derived.Test.YtfmppncefbjicaaDoorW11
namespace Go.Proofs.YtfmppncefbjicaaDoor.Wd
set_option linter.unusedSimpArgs false
set_option linter.unusedVariables false
open Go.RowKit Go.Maps

/-- The graph in natural numbers. -/
abbrev natG (z : Nat → Int) (i : Nat) : Nat := (z i).toNat
def InI64 (z : Nat → Int) : Prop := ∀ i, -9223372036854775808 ≤ z i ∧ z i ≤ 9223372036854775807
/-- The width of a graph. -/
def widthG (n : Nat) (z : Nat → Int) : Nat := rst n (tn n (natG z)) 0
/-- Its first order of that width. -/
def orderG (n : Nat) (z : Nat → Int) : List Nat := ordW n (tn n (natG z)) (widthG n z) n 0

theorem newTown_yes {n : Nat} {z : Nat → Int} {a : Option Addr} (cap : Nat) {w : World} (hI : IntsAt w a n z) (hz : InI64 z) (hg : graphB n 9 z = true) :
    Calls Tryd.prog 82 #[.slice a n cap] w fun e w' => e = .returned (.tuple #[.slice a n cap, .bool true]) ∧ Below w.heap.size w w' ∧ Gr w' a n (natG z) :=
  (newTown_any n z a cap w hI hz).mono fun e w' ⟨he, hb⟩ => ⟨by rw [he, hg]; rfl, hb, Gr.of_graph (hI.below hb) hg⟩
theorem newTown_no {n : Nat} {z : Nat → Int} {a : Option Addr} (cap : Nat) {w : World} (hI : IntsAt w a n z) (hz : InI64 z) (hg : graphB n 9 z = false) :
    Calls Tryd.prog 82 #[.slice a n cap] w fun e w' => e = .returned (.tuple #[.slice none 0 0, .bool false]) ∧ Below w.heap.size w w' :=
  (newTown_any n z a cap w hI hz).mono fun e w' ⟨he, hb⟩ => ⟨by rw [he, hg]; rfl, hb⟩

set_option maxRecDepth 20000 in
set_option maxHeartbeats 1000000 in
theorem Width_yes {n : Nat} {z : Nat → Int} {a : Option Addr} (cap : Nat) {w : World} (hI : IntsAt w a n z) (hz : InI64 z) (hg : graphB n 9 z = true) :
    Calls Tryd.prog 53 #[.slice a n cap] w fun e w' => e = .returned (.tuple #[.int .i64 (widthG n z : Nat), .int .i64 0]) ∧ Below w.heap.size w w' := by
  have HI := Lib.hid hI
  have HZ := Lib.hid hz
  clear hI hz
  go_enter Tryd.func53, Tryd.ntmps53
  go_wp2_with (first
    | (go_at_call 82; refine (newTown_yes cap HI.out HZ.out hg).mono ?_; rintro e w1 ⟨rfl, hb1, hG⟩; have HB1 := Lib.hid hb1; have HG := Lib.hid hG; clear hb1 hG)
    | (go_at_call 83; refine (width_any HG.out cap).mono ?_; rintro e w2 ⟨rfl, hb2⟩; have HB2 := Lib.hid (HB1.out.trans (hb2.mono HB1.out.size)); clear hb2))
  go_ret2
  exact ⟨rfl, HB2.out⟩
set_option maxRecDepth 20000 in
set_option maxHeartbeats 1000000 in
theorem Width_no {n : Nat} {z : Nat → Int} {a : Option Addr} (cap : Nat) {w : World} (hI : IntsAt w a n z) (hz : InI64 z) (hg : graphB n 9 z = false) :
    Calls Tryd.prog 53 #[.slice a n cap] w fun e w' => e = .returned (.tuple #[.int .i64 0, .int .i64 2]) ∧ Below w.heap.size w w' := by
  have HI := Lib.hid hI
  have HZ := Lib.hid hz
  clear hI hz
  go_enter Tryd.func53, Tryd.ntmps53
  go_wp2_with (go_at_call 82; refine (newTown_no cap HI.out HZ.out hg).mono ?_; rintro e w1 ⟨rfl, hb1⟩; have HB1 := Lib.hid hb1; clear hb1)
  go_ret2
  exact ⟨rfl, HB1.out⟩

end Go.Proofs.YtfmppncefbjicaaDoor.Wd
