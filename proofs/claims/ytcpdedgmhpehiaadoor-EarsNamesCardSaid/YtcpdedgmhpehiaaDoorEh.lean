/- The contracts of Bridges and Cuts, of the reference's Valid, of the law's awake; the walk of the law EarsBridges. -/
import Derived.Test.YtcpdedgmhpehiaaDoorEg
namespace Go.Proofs.YtcpdedgmhpehiaaDoor
set_option linter.unusedSimpArgs false
set_option linter.unusedVariables false
open Go.RowKit Go.Maps

def InI64 (z : Nat → Int) : Prop := ∀ i, -9223372036854775808 ≤ z i ∧ z i ≤ 9223372036854775807

theorem newTown_yes {n : Nat} {z : Nat → Int} {a : Option Addr} (cap : Nat) {w : World} (hI : IntsAt w a n z) (hz : InI64 z) (hT : Tab w) (hg : graphB n 10 z = true) :
    Calls Tryd.prog 55 #[.slice a n cap] w fun e w' => e = .returned (.tuple #[.slice a n cap, .bool true]) ∧ Below w.heap.size w w' ∧ GrAt w' a n (natG z) ∧ Tab w' :=
  (newTown_any n z a cap w hI hz hT).mono fun e w' ⟨he, hb⟩ => ⟨by rw [he, hg]; rfl, hb, GrAt.of_graph (hI.below hb) hg (by omega), hT.below hb⟩
theorem newTown_no {n : Nat} {z : Nat → Int} {a : Option Addr} (cap : Nat) {w : World} (hI : IntsAt w a n z) (hz : InI64 z) (hT : Tab w) (hg : graphB n 10 z = false) :
    Calls Tryd.prog 55 #[.slice a n cap] w fun e w' => e = .returned (.tuple #[.slice none 0 0, .bool false]) ∧ Below w.heap.size w w' :=
  (newTown_any n z a cap w hI hz hT).mono fun e w' ⟨he, hb⟩ => ⟨by rw [he, hg]; rfl, hb⟩

/-- The bridges and the cut nodes of a graph. -/
def bridgesG (n : Nat) (z : Nat → Int) : List (Nat × Nat) := (edgesTo (natG z) n).filter (brB n (natG z))
def cutsG (n : Nat) (z : Nat → Int) : Nat := cutsTo n (natG z) n

set_option maxRecDepth 20000 in
set_option maxHeartbeats 1000000 in
theorem Bridges_yes {n : Nat} {z : Nat → Int} {a : Option Addr} (cap : Nat) {w : World} (hI : IntsAt w a n z) (hz : InI64 z) (hT : Tab w) (hg : graphB n 10 z = true) :
    Calls Tryd.prog 43 #[.slice a n cap] w fun e w' => ∃ v, e = .returned (.tuple #[v, .int .i64 0]) ∧ PairsOwn w' w.heap.size v (bridgesG n z) ∧ Below w.heap.size w w' := by
  have HI := Lib.hid hI
  have HZ := Lib.hid hz
  have HT := Lib.hid hT
  have hP := pl_of hg
  clear hI hz hT
  go_enter Tryd.func43, Tryd.ntmps43
  go_wp2_with (first
    | (go_at_call 55; refine (newTown_yes cap HI.out HZ.out HT.out hg).mono ?_; rintro e w1 ⟨rfl, hb1, hG, hT1⟩; have HB1 := Lib.hid hb1; have HG := Lib.hid hG; have HT1 := Lib.hid hT1; clear hb1 hG hT1)
    | (go_at_call 83; refine (bridges_any HG.out hP.le hP.bd cap HT1.out).mono ?_; rintro e w2 ⟨v, rfl, hO, hb2⟩; have HO := Lib.hid hO; have HB2 := Lib.hid (HB1.out.trans (hb2.mono HB1.out.size)); clear hb2 hO))
  go_ret2
  exact ⟨v, rfl, ownsRow_base HO.out HB1.out.size, HB2.out⟩
set_option maxRecDepth 20000 in
set_option maxHeartbeats 1000000 in
theorem Bridges_no {n : Nat} {z : Nat → Int} {a : Option Addr} (cap : Nat) {w : World} (hI : IntsAt w a n z) (hz : InI64 z) (hT : Tab w) (hg : graphB n 10 z = false) :
    Calls Tryd.prog 43 #[.slice a n cap] w fun e w' => e = .returned (.tuple #[.slice none 0 0, .int .i64 2]) ∧ Below w.heap.size w w' := by
  have HI := Lib.hid hI
  have HZ := Lib.hid hz
  have HT := Lib.hid hT
  clear hI hz hT
  go_enter Tryd.func43, Tryd.ntmps43
  go_wp2_with (go_at_call 55; refine (newTown_no cap HI.out HZ.out HT.out hg).mono ?_; rintro e w1 ⟨rfl, hb1⟩; have HB1 := Lib.hid hb1; clear hb1)
  go_ret2
  exact ⟨rfl, HB1.out⟩
set_option maxRecDepth 20000 in
set_option maxHeartbeats 1000000 in
theorem Cuts_yes {n : Nat} {z : Nat → Int} {a : Option Addr} (cap : Nat) {w : World} (hI : IntsAt w a n z) (hz : InI64 z) (hT : Tab w) (hg : graphB n 10 z = true) :
    Calls Tryd.prog 39 #[.slice a n cap] w fun e w' => e = .returned (.tuple #[.int .i64 (cutsG n z : Nat), .int .i64 0]) ∧ Below w.heap.size w w' := by
  have HI := Lib.hid hI
  have HZ := Lib.hid hz
  have HT := Lib.hid hT
  have hP := pl_of hg
  clear hI hz hT
  go_enter Tryd.func39, Tryd.ntmps39
  go_wp2_with (first
    | (go_at_call 55; refine (newTown_yes cap HI.out HZ.out HT.out hg).mono ?_; rintro e w1 ⟨rfl, hb1, hG, hT1⟩; have HB1 := Lib.hid hb1; have HG := Lib.hid hG; have HT1 := Lib.hid hT1; clear hb1 hG hT1)
    | (go_at_call 80; refine (cuts_any HG.out hP.le hP.bd cap HT1.out).mono ?_; rintro e w2 ⟨rfl, hb2⟩; have HB2 := Lib.hid (HB1.out.trans (hb2.mono HB1.out.size)); clear hb2))
  go_ret2
  exact ⟨rfl, HB2.out⟩
set_option maxRecDepth 20000 in
set_option maxHeartbeats 1000000 in
theorem Cuts_no {n : Nat} {z : Nat → Int} {a : Option Addr} (cap : Nat) {w : World} (hI : IntsAt w a n z) (hz : InI64 z) (hT : Tab w) (hg : graphB n 10 z = false) :
    Calls Tryd.prog 39 #[.slice a n cap] w fun e w' => e = .returned (.tuple #[.int .i64 0, .int .i64 2]) ∧ Below w.heap.size w w' := by
  have HI := Lib.hid hI
  have HZ := Lib.hid hz
  have HT := Lib.hid hT
  clear hI hz hT
  go_enter Tryd.func39, Tryd.ntmps39
  go_wp2_with (go_at_call 55; refine (newTown_no cap HI.out HZ.out HT.out hg).mono ?_; rintro e w1 ⟨rfl, hb1⟩; have HB1 := Lib.hid hb1; clear hb1)
  go_ret2
  exact ⟨rfl, HB1.out⟩

set_option maxRecDepth 20000 in
set_option maxHeartbeats 1000000 in
theorem ValidR_any (n : Nat) (z : Nat → Int) (a : Option Addr) (cap : Nat) (w : World) (hI : IntsAt w a n z) (hz : InI64 z) :
    Calls Tryd.prog 16 #[.slice a n cap] w fun e w' => e = .returned (.bool (graphB n 10 z)) ∧ Below w.heap.size w w' := by
  have HI := Lib.hid hI
  have HZ := Lib.hid hz
  clear hI hz
  go_enter Tryd.func16, Tryd.ntmps16
  go_wp2_with (go_at_call 58; refine (IsGraph_any n 10 10 rfl z a cap _ HI.out HZ.out (by omega)).mono ?_; rintro e w1 ⟨rfl, hb1⟩; have HB1 := Lib.hid hb1; clear hb1)
  go_ret
  exact ⟨rfl, HB1.out⟩

/-- A slice of one pair, written out. -/
theorem pairs_lit (w : World) (a b : Nat) : PairsOwn (w.alloc (.cells #[.int .i64 a, .int .i64 b] 66)) w.heap.size (.slice (some ⟨w.heap.size, 0, none⟩) 1 1) [(a, b)] := by
  refine ⟨rfl, Or.inr ⟨w.heap.size, 1, #[.int .i64 a, .int .i64 b], rfl, Nat.le_refl _, ?_, Nat.le_refl _, by decide, rfl, rfl⟩⟩
  exact Row.new w 66 [.int .i64 a, .int .i64 b]
def zTwo (i : Nat) : Int := if i = 0 then 2 else 1
theorem graph_two : graphB 2 10 zTwo = true := by decide
theorem bridges_two : bridgesG 2 zTwo = [(0, 1)] := by decide +kernel

set_option maxRecDepth 20000 in
set_option maxHeartbeats 1000000 in
theorem awake_any (w : World) (hT : Tab w) : Calls Tryd.prog 17 #[] w fun e w' => e = .returned (.bool true) ∧ Below w.heap.size w w' := by
  have HT := Lib.hid hT
  have HZ := Lib.hid (show InI64 zTwo from fun i => by unfold zTwo; split <;> omega)
  have HI := Lib.hid (show IntsAt (w.alloc (.cells #[.int .i64 2, .int .i64 1] 3)) (some ⟨w.heap.size, 0, none⟩) 2 zTwo from ⟨by decide, fun _ => ⟨w.heap.size, 0, rfl, by simp, fun i hi => by
    have hr := Row.new w 3 [.int .i64 2, .int .i64 1]
    rw [Nat.zero_add]
    have : i = 0 ∨ i = 1 := by omega
    rcases this with rfl | rfl
    · exact hr.cell rfl
    · exact hr.cell rfl⟩⟩)
  have hb0 : Below w.heap.size w (w.alloc (.cells #[.int .i64 2, .int .i64 1] 3)) := (Below.refl _ _).alloc (Nat.le_refl _) _
  have HB0 := Lib.hid hb0
  clear hT hb0
  go_enter Tryd.func17, Tryd.ntmps17
  go_wp2_with (first
    | (go_at_call 43; refine (Bridges_yes _ HI.out HZ.out (HT.out.below HB0.out) graph_two).mono ?_; rintro e w1 ⟨v, rfl, hO, hb1⟩; rw [bridges_two] at hO; have HO := Lib.hid hO; have HB1 := Lib.hid (HB0.out.trans (hb1.mono HB0.out.size)); clear hO hb1)
    | (go_at_call 59; refine (EqualPairs_any (ownsRow_below HO.out ((Below.refl _ _).alloc (Nat.le_refl _) _) (Nat.le_refl _)) (pairs_lit w1 0 1) (by simp)).mono ?_; rintro e w2 ⟨rfl, hb2⟩; have HB2 := Lib.hid ((HB1.out.alloc HB1.out.size _).trans (hb2.mono (Nat.le_trans HB1.out.size (by simp)))); clear hb2))
  go_ret
  exact ⟨rfl, HB2.out⟩

/-- What a law returns: true, and nothing that was there has turned. -/
def LawTrue (w : World) (e : Ending) (w' : World) : Prop := e = .returned (.bool true) ∧ Below w.heap.size w w'
theorem graphB_few {n : Nat} {z : Nat → Int} : graphB (min n 14) 10 z = graphB n 10 z := by
  by_cases h : n ≤ 14
  · rw [Nat.min_eq_left h]
  · rw [Nat.min_eq_right (by omega), graphB_no (Or.inr (by omega)), graphB_no (Or.inr (by omega))]


end Go.Proofs.YtcpdedgmhpehiaaDoor
