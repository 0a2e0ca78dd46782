/- The contracts of package width's Width and of the law's awake, for a seat without orders. -/
import Derived.Test.YtbkbliieappkdaaDoorW8
import Derived.Test.YtbkbliieappkdaaDoorW3
namespace Go.Proofs.YtbkbliieappkdaaDoor
set_option linter.unusedSimpArgs false
set_option linter.unusedVariables false
open Go.RowKit Go.Maps

/-- The graph in natural numbers. -/
abbrev natG (z : Nat → Int) (i : Nat) : Nat := (z i).toNat
def InI64 (z : Nat → Int) : Prop := ∀ i, -9223372036854775808 ≤ z i ∧ z i ≤ 9223372036854775807
/-- The width of a graph. -/
def widthG (n : Nat) (z : Nat → Int) : Nat := rst n (tn n (natG z)) 0
theorem newTown_yes {n : Nat} {z : Nat → Int} {a : Option Addr} (cap : Nat) {w : World} (hI : IntsAt w a n z) (hz : InI64 z) (hg : graphB n 9 z = true) :
    Calls Tryd.prog 37 #[.slice a n cap] w fun e w' => e = .returned (.tuple #[.slice a n cap, .bool true]) ∧ Below w.heap.size w w' ∧ Gr w' a n (natG z) :=
  (newTown_any n z a cap w hI hz).mono fun e w' ⟨he, hb⟩ => ⟨by rw [he, hg]; rfl, hb, Gr.of_graph (hI.below hb) hg⟩
theorem newTown_no {n : Nat} {z : Nat → Int} {a : Option Addr} (cap : Nat) {w : World} (hI : IntsAt w a n z) (hz : InI64 z) (hg : graphB n 9 z = false) :
    Calls Tryd.prog 37 #[.slice a n cap] w fun e w' => e = .returned (.tuple #[.slice none 0 0, .bool false]) ∧ Below w.heap.size w w' :=
  (newTown_any n z a cap w hI hz).mono fun e w' ⟨he, hb⟩ => ⟨by rw [he, hg]; rfl, hb⟩

set_option maxRecDepth 20000 in
set_option maxHeartbeats 1000000 in
theorem Width_yes {n : Nat} {z : Nat → Int} {a : Option Addr} (cap : Nat) {w : World} (hI : IntsAt w a n z) (hz : InI64 z) (hg : graphB n 9 z = true) :
    Calls Tryd.prog 26 #[.slice a n cap] w fun e w' => e = .returned (.tuple #[.int .i64 (widthG n z : Nat), .int .i64 0]) ∧ Below w.heap.size w w' := by
  have HI := Lib.hid hI
  have HZ := Lib.hid hz
  clear hI hz
  go_enter Tryd.func26, Tryd.ntmps26
  go_wp2_with (first
    | (go_at_call 37; refine (newTown_yes cap HI.out HZ.out hg).mono ?_; rintro e w1 ⟨rfl, hb1, hG⟩; have HB1 := Lib.hid hb1; have HG := Lib.hid hG; clear hb1 hG)
    | (go_at_call 39; refine (width_any HG.out cap).mono ?_; rintro e w2 ⟨rfl, hb2⟩; have HB2 := Lib.hid (HB1.out.trans (hb2.mono HB1.out.size)); clear hb2))
  go_ret2
  exact ⟨rfl, HB2.out⟩
set_option maxRecDepth 20000 in
set_option maxHeartbeats 1000000 in
theorem Width_no {n : Nat} {z : Nat → Int} {a : Option Addr} (cap : Nat) {w : World} (hI : IntsAt w a n z) (hz : InI64 z) (hg : graphB n 9 z = false) :
    Calls Tryd.prog 26 #[.slice a n cap] w fun e w' => e = .returned (.tuple #[.int .i64 0, .int .i64 2]) ∧ Below w.heap.size w w' := by
  have HI := Lib.hid hI
  have HZ := Lib.hid hz
  clear hI hz
  go_enter Tryd.func26, Tryd.ntmps26
  go_wp2_with (go_at_call 37; refine (newTown_no cap HI.out HZ.out hg).mono ?_; rintro e w1 ⟨rfl, hb1⟩; have HB1 := Lib.hid hb1; clear hb1)
  go_ret2
  exact ⟨rfl, HB1.out⟩

def zTwo (i : Nat) : Int := if i = 0 then 2 else 1
theorem two_graph : graphB 2 9 zTwo = true := by decide
theorem two_width : widthG 2 zTwo = 1 := by decide
theorem two_in : InI64 zTwo := fun i => by unfold zTwo; split <;> omega

set_option maxRecDepth 20000 in
set_option maxHeartbeats 1000000 in
theorem awake_any (w : World) : Calls Tryd.prog 13 #[] w fun e w' => e = .returned (.bool true) ∧ Below w.heap.size w w' := by
  have hI : IntsAt (w.alloc (.cells #[.int .i64 2, .int .i64 1] 3)) (some ⟨w.heap.size, 0, none⟩) 2 zTwo := by
    refine ⟨by decide, fun _ => ⟨_, _, rfl, by simp, fun i hi => ?_⟩⟩
    rcases Nat.lt_succ_iff_lt_or_eq.1 hi with h | h
    · obtain rfl : i = 0 := by omega
      exact (Row.new w 3 [.int .i64 2, .int .i64 1]).cell rfl
    · subst h
      exact (Row.new w 3 [.int .i64 2, .int .i64 1]).cell rfl
  have HI := Lib.hid hI
  clear hI
  go_enter Tryd.func13, Tryd.ntmps13
  go_wp2_with (go_at_call 26; refine (Width_yes 2 HI.out two_in two_graph).mono ?_; rintro e w1 ⟨rfl, hb1⟩; rw [two_width]; have HB1 := Lib.hid hb1; clear hb1)
  go_ret
  exact ⟨rfl, ((Below.refl _ _).alloc (Nat.le_refl _) _).trans (HB1.out.mono (by simp))⟩

end Go.Proofs.YtbkbliieappkdaaDoor
