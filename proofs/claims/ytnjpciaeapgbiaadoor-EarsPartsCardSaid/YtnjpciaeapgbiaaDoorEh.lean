/- The contracts of Bridges and Cuts, of the reference's Valid, of the law's awake; the walk of the law EarsBridges. -/
import Derived.Test.YtnjpciaeapgbiaaDoorEg
namespace Go.Proofs.YtnjpciaeapgbiaaDoor
set_option linter.unusedSimpArgs false
set_option linter.unusedVariables false
open Go.RowKit Go.Maps

def InI64 (z : Nat → Int) : Prop := ∀ i, -9223372036854775808 ≤ z i ∧ z i ≤ 9223372036854775807

theorem newTown_yes {n : Nat} {z : Nat → Int} {a : Option Addr} (cap : Nat) {w : World} (hI : IntsAt w a n z) (hz : InI64 z) (hT : Tab w) (hg : graphB n 10 z = true) :
    Calls Tryd.prog 58 #[.slice a n cap] w fun e w' => e = .returned (.tuple #[.slice a n cap, .bool true]) ∧ Below w.heap.size w w' ∧ GrAt w' a n (natG z) ∧ Tab w' :=
  (newTown_any n z a cap w hI hz hT).mono fun e w' ⟨he, hb⟩ => ⟨by rw [he, hg]; rfl, hb, GrAt.of_graph (hI.below hb) hg (by omega), hT.below hb⟩
theorem newTown_no {n : Nat} {z : Nat → Int} {a : Option Addr} (cap : Nat) {w : World} (hI : IntsAt w a n z) (hz : InI64 z) (hT : Tab w) (hg : graphB n 10 z = false) :
    Calls Tryd.prog 58 #[.slice a n cap] w fun e w' => e = .returned (.tuple #[.slice none 0 0, .bool false]) ∧ Below w.heap.size w w' :=
  (newTown_any n z a cap w hI hz hT).mono fun e w' ⟨he, hb⟩ => ⟨by rw [he, hg]; rfl, hb⟩

/-- The bridges and the cut nodes of a graph. -/
def bridgesG (n : Nat) (z : Nat → Int) : List (Nat × Nat) := (edgesTo (natG z) n).filter (brB n (natG z))
def cutsG (n : Nat) (z : Nat → Int) : Nat := cutsTo n (natG z) n

set_option maxRecDepth 20000 in
set_option maxHeartbeats 1000000 in
theorem Bridges_yes {n : Nat} {z : Nat → Int} {a : Option Addr} (cap : Nat) {w : World} (hI : IntsAt w a n z) (hz : InI64 z) (hT : Tab w) (hg : graphB n 10 z = true) :
    Calls Tryd.prog 15 #[.slice a n cap] w fun e w' => ∃ v, e = .returned (.tuple #[v, .int .i64 0]) ∧ PairsOwn w' w.heap.size v (bridgesG n z) ∧ Below w.heap.size w w' := by
  have HI := Lib.hid hI
  have HZ := Lib.hid hz
  have HT := Lib.hid hT
  have hP := pl_of hg
  clear hI hz hT
  go_enter Tryd.func15, Tryd.ntmps15
  go_wp2_with (first
    | (go_at_call 58; refine (newTown_yes cap HI.out HZ.out HT.out hg).mono ?_; rintro e w1 ⟨rfl, hb1, hG, hT1⟩; have HB1 := Lib.hid hb1; have HG := Lib.hid hG; have HT1 := Lib.hid hT1; clear hb1 hG hT1)
    | (go_at_call 59; refine (bridges_any HG.out hP.le hP.bd cap HT1.out).mono ?_; rintro e w2 ⟨v, rfl, hO, hb2⟩; have HO := Lib.hid hO; have HB2 := Lib.hid (HB1.out.trans (hb2.mono HB1.out.size)); clear hb2 hO))
  go_ret2
  exact ⟨v, rfl, ownsRow_base HO.out HB1.out.size, HB2.out⟩
set_option maxRecDepth 20000 in
set_option maxHeartbeats 1000000 in
theorem Bridges_no {n : Nat} {z : Nat → Int} {a : Option Addr} (cap : Nat) {w : World} (hI : IntsAt w a n z) (hz : InI64 z) (hT : Tab w) (hg : graphB n 10 z = false) :
    Calls Tryd.prog 15 #[.slice a n cap] w fun e w' => e = .returned (.tuple #[.slice none 0 0, .int .i64 2]) ∧ Below w.heap.size w w' := by
  have HI := Lib.hid hI
  have HZ := Lib.hid hz
  have HT := Lib.hid hT
  clear hI hz hT
  go_enter Tryd.func15, Tryd.ntmps15
  go_wp2_with (go_at_call 58; refine (newTown_no cap HI.out HZ.out HT.out hg).mono ?_; rintro e w1 ⟨rfl, hb1⟩; have HB1 := Lib.hid hb1; clear hb1)
  go_ret2
  exact ⟨rfl, HB1.out⟩
set_option maxRecDepth 20000 in
set_option maxHeartbeats 1000000 in
theorem Cuts_yes {n : Nat} {z : Nat → Int} {a : Option Addr} (cap : Nat) {w : World} (hI : IntsAt w a n z) (hz : InI64 z) (hT : Tab w) (hg : graphB n 10 z = true) :
    Calls Tryd.prog 17 #[.slice a n cap] w fun e w' => e = .returned (.tuple #[.int .i64 (cutsG n z : Nat), .int .i64 0]) ∧ Below w.heap.size w w' := by
  have HI := Lib.hid hI
  have HZ := Lib.hid hz
  have HT := Lib.hid hT
  have hP := pl_of hg
  clear hI hz hT
  go_enter Tryd.func17, Tryd.ntmps17
  go_wp2_with (first
    | (go_at_call 58; refine (newTown_yes cap HI.out HZ.out HT.out hg).mono ?_; rintro e w1 ⟨rfl, hb1, hG, hT1⟩; have HB1 := Lib.hid hb1; have HG := Lib.hid hG; have HT1 := Lib.hid hT1; clear hb1 hG hT1)
    | (go_at_call 61; refine (cuts_any HG.out hP.le hP.bd cap HT1.out).mono ?_; rintro e w2 ⟨rfl, hb2⟩; have HB2 := Lib.hid (HB1.out.trans (hb2.mono HB1.out.size)); clear hb2))
  go_ret2
  exact ⟨rfl, HB2.out⟩
set_option maxRecDepth 20000 in
set_option maxHeartbeats 1000000 in
theorem Cuts_no {n : Nat} {z : Nat → Int} {a : Option Addr} (cap : Nat) {w : World} (hI : IntsAt w a n z) (hz : InI64 z) (hT : Tab w) (hg : graphB n 10 z = false) :
    Calls Tryd.prog 17 #[.slice a n cap] w fun e w' => e = .returned (.tuple #[.int .i64 0, .int .i64 2]) ∧ Below w.heap.size w w' := by
  have HI := Lib.hid hI
  have HZ := Lib.hid hz
  have HT := Lib.hid hT
  clear hI hz hT
  go_enter Tryd.func17, Tryd.ntmps17
  go_wp2_with (go_at_call 58; refine (newTown_no cap HI.out HZ.out HT.out hg).mono ?_; rintro e w1 ⟨rfl, hb1⟩; have HB1 := Lib.hid hb1; clear hb1)
  go_ret2
  exact ⟨rfl, HB1.out⟩

set_option maxRecDepth 20000 in
set_option maxHeartbeats 1000000 in
theorem ValidR_any (n : Nat) (z : Nat → Int) (a : Option Addr) (cap : Nat) (w : World) (hI : IntsAt w a n z) (hz : InI64 z) :
    Calls Tryd.prog 18 #[.slice a n cap] w fun e w' => e = .returned (.bool (graphB n 10 z)) ∧ Below w.heap.size w w' := by
  have HI := Lib.hid hI
  have HZ := Lib.hid hz
  clear hI hz
  go_enter Tryd.func18, Tryd.ntmps18
  go_wp2_with (go_at_call 62; refine (IsGraph_any n 10 10 rfl z a cap _ HI.out HZ.out (by omega)).mono ?_; rintro e w1 ⟨rfl, hb1⟩; have HB1 := Lib.hid hb1; clear hb1)
  go_ret
  exact ⟨rfl, HB1.out⟩

/-- A slice of one pair, written out. -/
theorem pairs_lit (w : World) (a b : Nat) : PairsOwn (w.alloc (.cells #[.int .i64 a, .int .i64 b] 34)) w.heap.size (.slice (some ⟨w.heap.size, 0, none⟩) 1 1) [(a, b)] := by
  refine ⟨rfl, Or.inr ⟨w.heap.size, 1, #[.int .i64 a, .int .i64 b], rfl, Nat.le_refl _, ?_, Nat.le_refl _, by decide, rfl, rfl⟩⟩
  exact Row.new w 34 [.int .i64 a, .int .i64 b]
def zTwo (i : Nat) : Int := if i = 0 then 2 else 1
theorem graph_two : graphB 2 10 zTwo = true := by decide
theorem bridges_two : bridgesG 2 zTwo = [(0, 1)] := by decide +kernel

set_option maxRecDepth 20000 in
set_option maxHeartbeats 1000000 in
theorem awake_any (w : World) (hT : Tab w) : Calls Tryd.prog 19 #[] w fun e w' => e = .returned (.bool true) ∧ Below w.heap.size w w' := by
  have HT := Lib.hid hT
  have HZ := Lib.hid (show InI64 zTwo from fun i => by unfold zTwo; split <;> omega)
  have HI := Lib.hid (show IntsAt (w.alloc (.cells #[.int .i64 2, .int .i64 1] 3)) (some ⟨w.heap.size, 0, none⟩) 2 zTwo from ⟨by decide, fun _ => ⟨w.heap.size, 0, rfl, by simp, fun i hi => by
    have hr := Row.new w 3 [.int .i64 2, .int .i64 1]
    rw [Nat.zero_add]
    have : i = 0 ∨ i = 1 := by omega
    rcases this with rfl | rfl
    · exact hr.cell rfl
    · exact hr.cell rfl⟩⟩)
  have hb0 : Below w.heap.size w (w.alloc (.cells #[.int .i64 2, .int .i64 1] 3)) := (Below.refl _ _).alloc (Nat.le_refl _) _
  have HB0 := Lib.hid hb0
  clear hT hb0
  go_enter Tryd.func19, Tryd.ntmps19
  go_wp2_with (first
    | (go_at_call 15; refine (Bridges_yes _ HI.out HZ.out (HT.out.below HB0.out) graph_two).mono ?_; rintro e w1 ⟨v, rfl, hO, hb1⟩; rw [bridges_two] at hO; have HO := Lib.hid hO; have HB1 := Lib.hid (HB0.out.trans (hb1.mono HB0.out.size)); clear hO hb1)
    | (go_at_call 20; refine (EqualPairs_any (ownsRow_below HO.out ((Below.refl _ _).alloc (Nat.le_refl _) _) (Nat.le_refl _)) (pairs_lit w1 0 1) (by simp)).mono ?_; rintro e w2 ⟨rfl, hb2⟩; have HB2 := Lib.hid ((HB1.out.alloc HB1.out.size _).trans (hb2.mono (Nat.le_trans HB1.out.size (by simp)))); clear hb2))
  go_ret
  exact ⟨rfl, HB2.out⟩

/-- What a law returns: true, and nothing that was there has turned. -/
def LawTrue (w : World) (e : Ending) (w' : World) : Prop := e = .returned (.bool true) ∧ Below w.heap.size w w'
theorem graphB_few {n : Nat} {z : Nat → Int} : graphB (min n 14) 10 z = graphB n 10 z := by
  by_cases h : n ≤ 14
  · rw [Nat.min_eq_left h]
  · rw [Nat.min_eq_right (by omega), graphB_no (Or.inr (by omega)), graphB_no (Or.inr (by omega))]

set_option maxRecDepth 200000 in
set_option maxHeartbeats 4000000 in
theorem EarsBridges_walk (n : Nat) (z : Nat → Int) (v : Value) (w : World) (hA : SliceArg w v n z) (hz : InI64 z) (hTab : HasTab w) :
    Calls Tryd.prog 3 #[v] w (LawTrue w) := by
  obtain ⟨a, cap, rfl, hI⟩ := hA.ints
  have HA := Lib.hid hA
  have HI0 := Lib.hid hI
  have HZ := Lib.hid hz
  have HT := Lib.hid (Tab.of hTab)
  clear hA hI hz hTab
  cases hg : graphB n 10 z
  · have HG0 := Lib.hid hg
    have HGM : graphB (min n 14) 10 z = false := by rw [graphB_few]; exact hg
    clear hg
    go_enter Tryd.func3, Tryd.ntmps3
    go_wp2_with fail
    go_at_call 16
    refine (Few_any n z _ _ HA.out).mono ?_
    rintro e w1 ⟨a1, c1, rfl, hi1, hb1⟩
    have HB1 := Lib.hid hb1
    have HT1 := Lib.hid (HT.out.below hb1)
    have HI1 := Lib.hid hi1
    clear hb1 hi1
    go_wp2_with fail
    go_at_call 15
    refine (Bridges_no _ HI1.out HZ.out HT1.out HGM).mono ?_
    rintro e w2 ⟨rfl, hb2⟩
    have HB2 := Lib.hid (HB1.out.trans (hb2.mono HB1.out.size))
    clear hb2
    go_wp2_with fail
    go_at_call 16
    refine (Few_any n z _ _ (HA.out.below HB2.out)).mono ?_
    rintro e w3 ⟨a3, c3, rfl, hi3, hb3⟩
    have HB3 := Lib.hid (HB2.out.trans (hb3.mono HB2.out.size))
    clear hb3
    have HI3 := Lib.hid hi3
    clear hi3
    go_wp2_with fail
    go_at_call 17
    refine (Cuts_no _ HI3.out HZ.out (HT.out.below HB3.out) HGM).mono ?_
    rintro e w4 ⟨rfl, hb4⟩
    have HB4 := Lib.hid (HB3.out.trans (hb4.mono HB3.out.size))
    clear hb4
    go_wp2_with fail
    go_at_call 18
    refine (ValidR_any n z _ _ _ (HI0.out.below HB4.out) HZ.out).mono ?_
    rintro e w5 ⟨rfl, hb5⟩
    rw [HG0.out]
    have HB5 := Lib.hid (HB4.out.trans (hb5.mono HB4.out.size))
    clear hb5
    go_wp2_with fail
    go_at_call 19
    refine (awake_any _ (HT.out.below HB5.out)).mono ?_
    rintro e w6 ⟨rfl, hb6⟩
    have HB6 := Lib.hid (HB5.out.trans (hb6.mono HB5.out.size))
    clear hb6
    go_wp2_with fail
    go_ret
    exact ⟨rfl, HB6.out⟩
  · have hP := pl_of hg
    have hmin : min n 14 = n := by have := hP.le; omega
    have HM : Hid (min n 14 = n) := Lib.hid hmin
    have HG0 := Lib.hid hg
    have HGR := Lib.hid (GrAt.of_graph HI0.out hg (by omega))
    have HCE : Hid (cutsG n z = cutsRTo n (natG z) (2 ^ n - 1) n) := Lib.hid (cuts_same hP n (Nat.le_refl _))
    have HBE : Hid (bridgesG n z = (edgesTo (natG z) n).filter (brR n (natG z))) := Lib.hid (bridges_same hP)
    have hbl : (bridgesG n z).length ≤ 65536 := by
      have h1 := List.length_filter_le (brB n (natG z)) (edgesTo (natG z) n)
      have h2 := edgesTo_len (natG z) n
      have h3 := hP.le
      unfold bridgesG
      omega
    have HBL := Lib.hid hbl
    clear hbl hmin
    go_enter Tryd.func3, Tryd.ntmps3
    go_wp2_with fail
    go_at_call 16
    refine (Few_any n z _ _ HA.out).mono ?_
    rintro e w1 ⟨a1, c1, rfl, hi1, hb1⟩
    rw [HM.out] at hi1
    rw [HM.out]
    have HB1 := Lib.hid hb1
    have HT1 := Lib.hid (HT.out.below hb1)
    have HI1 := Lib.hid hi1
    clear hb1 hi1
    go_wp2_with fail
    go_at_call 15
    refine (Bridges_yes _ HI1.out HZ.out HT1.out HG0.out).mono ?_
    rintro e w2 ⟨v2, rfl, hO2, hb2⟩
    have HB2 := Lib.hid (HB1.out.trans (hb2.mono HB1.out.size))
    clear hb2
    have HO2 := Lib.hid hO2
    clear hO2
    go_wp2_with fail
    go_at_call 16
    refine (Few_any n z _ _ (HA.out.below HB2.out)).mono ?_
    rintro e w3 ⟨a3, c3, rfl, hi3, hb3⟩
    rw [HM.out] at hi3
    rw [HM.out]
    have HX3 := Lib.hid hb3
    have HB3 := Lib.hid (HB2.out.trans (hb3.mono HB2.out.size))
    clear hb3
    have HI3 := Lib.hid hi3
    clear hi3
    go_wp2_with fail
    go_at_call 17
    refine (Cuts_yes _ HI3.out HZ.out (HT.out.below HB3.out) HG0.out).mono ?_
    rintro e w4 ⟨rfl, hb4⟩
    have HX4 := Lib.hid (HX3.out.trans (hb4.mono HX3.out.size))
    have HB4 := Lib.hid (HB3.out.trans (hb4.mono HB3.out.size))
    clear hb4
    go_wp2_with fail
    go_at_call 18
    refine (ValidR_any n z _ _ _ (HI0.out.below HB4.out) HZ.out).mono ?_
    rintro e w5 ⟨rfl, hb5⟩
    rw [HG0.out]
    have HX5 := Lib.hid (HX4.out.trans (hb5.mono HX4.out.size))
    have HB5 := Lib.hid (HB4.out.trans (hb5.mono HB4.out.size))
    clear hb5
    go_wp2_with fail
    go_at_call 21
    refine (BridgesR_any (HGR.out.below HB5.out) hP.le hP.bd _).mono ?_
    rintro e w6 ⟨v6, rfl, hO6, hb6⟩
    have HX6 := Lib.hid (HX5.out.trans (hb6.mono HX5.out.size))
    have HO6 := Lib.hid hO6
    clear hO6
    have HB6 := Lib.hid (HB5.out.trans (hb6.mono HB5.out.size))
    clear hb6
    go_wp2_with fail
    go_at_call 20
    refine (EqualPairs_any (ownsRow_below HO2.out HX6.out (Nat.le_refl _)) HO6.out HBL.out).mono ?_
    rintro e w7 ⟨rfl, hb7⟩
    rw [decide_eq_true HBE.out]
    have HB7 := Lib.hid (HB6.out.trans (hb7.mono HB6.out.size))
    clear hb7
    go_wp2_with fail
    go_at_call 22
    refine (CutsR_any (HGR.out.below HB7.out) hP.le hP.bd _).mono ?_
    rintro e w8 ⟨rfl, hb8⟩
    rw [← HCE.out]
    have HB8 := Lib.hid (HB7.out.trans (hb8.mono HB7.out.size))
    clear hb8
    go_wp2_with fail
    go_at_call 19
    refine (awake_any _ (HT.out.below HB8.out)).mono ?_
    rintro e w9 ⟨rfl, hb9⟩
    have HB9 := Lib.hid (HB8.out.trans (hb9.mono HB8.out.size))
    clear hb9
    go_wp2_with fail
    go_ret
    exact ⟨rfl, HB9.out⟩

end Go.Proofs.YtnjpciaeapgbiaaDoor
