/- The contracts of package sweep's Layout and Breadth; the walk of the law SweepLayouts. -/
import Derived.Test.YtgkpogaahndmoaaDoorQq
import Derived.Test.YtgkpogaahndmoaaDoorQk
namespace Go.Proofs.YtgkpogaahndmoaaDoor
set_option linter.unusedSimpArgs false
set_option linter.unusedVariables false
open Go.RowKit Go.Maps

set_option maxRecDepth 20000 in
set_option maxHeartbeats 1000000 in
theorem Breadth_no {n m : Nat} {z y : Nat → Int} {a o : Option Addr} (cap co : Nat) {w : World} (hI : IntsAt w a n z) (hz : InI64 z) (hO : IntsAt w o m y) (hT : Tab w) (hg : graphB n 7 z = true) (ho : ordB n m y = false) :
    Calls Tryd.prog 17 #[.slice a n cap, .slice o m co] w fun e w' => e = .returned (.tuple #[.int .i64 0, .int .i64 2]) ∧ Below w.heap.size w w' := by
  have HI := Lib.hid hI
  have HZ := Lib.hid hz
  have HT := Lib.hid hT
  have HL := Lib.hid hO
  have HO := Lib.hid ho
  have hn9 : n ≤ 9 := by have := (pl_of hg).le; omega
  clear hI hz hT hO ho
  go_enter Tryd.func17, Tryd.ntmps17
  go_wp2_with (first
    | (go_at_call 47; refine (newTown_yes cap HI.out HZ.out HT.out hg).mono ?_; rintro e w1 ⟨rfl, hb1, hG, hT1⟩; have HB1 := Lib.hid hb1; clear hb1 hG hT1)
    | (go_at_call 48; refine (isLayout_any _ _ hn9 co (HL.out.below HB1.out)).mono ?_; rintro e w2 ⟨rfl, rfl⟩; rw [HO.out]))
  go_ret2
  exact ⟨rfl, HB1.out⟩
set_option maxRecDepth 20000 in
set_option maxHeartbeats 1000000 in
theorem Breadth_none {n m : Nat} {z : Nat → Int} {a o : Option Addr} (cap co : Nat) {w : World} (hI : IntsAt w a n z) (hz : InI64 z) (hT : Tab w) (hg : graphB n 7 z = false) :
    Calls Tryd.prog 17 #[.slice a n cap, .slice o m co] w fun e w' => e = .returned (.tuple #[.int .i64 0, .int .i64 2]) ∧ Below w.heap.size w w' := by
  have HI := Lib.hid hI
  have HZ := Lib.hid hz
  have HT := Lib.hid hT
  clear hI hz hT
  go_enter Tryd.func17, Tryd.ntmps17
  go_wp2_with (go_at_call 47; refine (newTown_no cap HI.out HZ.out HT.out hg).mono ?_; rintro e w1 ⟨rfl, hb1⟩; have HB1 := Lib.hid hb1; clear hb1)
  go_ret2
  exact ⟨rfl, HB1.out⟩
set_option maxRecDepth 20000 in
set_option maxHeartbeats 1000000 in
theorem Layout_none {n : Nat} {z : Nat → Int} {a : Option Addr} (cap : Nat) {w : World} (hI : IntsAt w a n z) (hz : InI64 z) (hT : Tab w) (hg : graphB n 7 z = false) :
    Calls Tryd.prog 20 #[.slice a n cap] w fun e w' => e = .returned (.tuple #[.slice none 0 0, .int .i64 0, .int .i64 2]) ∧ Below w.heap.size w w' := by
  have HI := Lib.hid hI
  have HZ := Lib.hid hz
  have HT := Lib.hid hT
  clear hI hz hT
  go_enter Tryd.func20, Tryd.ntmps20
  go_wp2_with (go_at_call 47; refine (newTown_no cap HI.out HZ.out HT.out hg).mono ?_; rintro e w1 ⟨rfl, hb1⟩; have HB1 := Lib.hid hb1; clear hb1)
  go_ret3
  exact ⟨rfl, HB1.out⟩

/-- The path width, and the first layout that has it. -/
abbrev pwZ (n : Nat) (z : Nat → Int) : Nat := rst n (tbd n (natG z)) 0
def layZ (n : Nat) (z : Nat → Int) : List Nat := ordW n (tbd n (natG z)) (pwZ n z) n 0
theorem layZ_len (n : Nat) (z : Nat → Int) : (layZ n z).length = n := first_len (fun g v _ => szS_le _ _) (Nat.le_refl _)
set_option maxRecDepth 20000 in
set_option maxHeartbeats 1000000 in
theorem Layout_yes {n : Nat} {z : Nat → Int} {a : Option Addr} (cap : Nat) {w : World} (hI : IntsAt w a n z) (hz : InI64 z) (hT : Tab w) (hg : graphB n 7 z = true) :
    Calls Tryd.prog 20 #[.slice a n cap] w fun e w' => ∃ v, e = .returned (.tuple #[v, .int .i64 (rst n (tbd n (natG z)) 0 : Nat), .int .i64 0]) ∧ IntsOwn w' w.heap.size v ((layZ n z).map fun (x : Nat) => (x : Int)) ∧ Below w.heap.size w w' := by
  have HI := Lib.hid hI
  have HZ := Lib.hid hz
  have HT := Lib.hid hT
  have HP := Lib.hid (pl_of hg)
  clear hI hz hT
  go_enter Tryd.func20, Tryd.ntmps20
  go_wp2_with (first
    | (go_at_call 47; refine (newTown_yes cap HI.out HZ.out HT.out hg).mono ?_; rintro e w1 ⟨rfl, hb1, hG, hT1⟩; have HB1 := Lib.hid hb1; have HG := Lib.hid hG; have HT1 := Lib.hid hT1; clear hb1 hG hT1)
    | (go_at_call 52; refine (firstLayout_any HG.out HP.out.le HP.out.bd cap HT1.out).mono ?_; rintro e w2 ⟨v, rfl, hown, hb2⟩; have HO := Lib.hid hown; have HB2 := Lib.hid hb2; clear hown hb2)
    | (go_at_call 53; refine (pathWidth_any (HG.out.below HB2.out) HP.out.le HP.out.bd cap (HT1.out.below HB2.out)).mono ?_; rintro e w3 ⟨rfl, hb3⟩; rw [lst_rst]; have HB3 := Lib.hid hb3; clear hb3))
  go_ret3
  exact ⟨v, rfl, ownsRow_base (ownsRow_below HO.out HB3.out (Nat.le_refl _)) HB1.out.size, HB1.out.trans ((HB2.out.trans (HB3.out.mono HB2.out.size)).mono HB1.out.size)⟩

theorem zList_map (l : List Nat) (i : Nat) : zListI (l.map fun (x : Nat) => (x : Int)) i = listZ l i := by
  unfold zListI listZ
  rw [List.getD_eq_getElem?_getD, List.getElem?_map, List.getD_eq_getElem?_getD]
  cases l[i]? <;> rfl

set_option maxRecDepth 200000 in
set_option maxHeartbeats 4000000 in
theorem SweepLayouts_walk (n m : Nat) (z y : Nat → Int) (v vo : Value) (w : World) (hA : SliceArg w v n z) (hz : InI64 z) (hO : SliceArg w vo m y) (hTab : HasTab w) :
    Calls Tryd.prog 3 #[v, vo] w (LawTrue w) := by
  obtain ⟨a, cap, rfl, hI⟩ := hA.ints
  obtain ⟨o, co, rfl, hL⟩ := hO.ints
  have HA := Lib.hid hA
  have HI0 := Lib.hid hI
  have HZ := Lib.hid hz
  have HLA := Lib.hid hO
  have HL0 := Lib.hid hL
  have HT := Lib.hid (Tab.of hTab)
  clear hA hI hz hTab hO hL
  cases hg : graphB n 7 z
  · have HG0 := Lib.hid hg
    have HGM : graphB (min n 11) 7 z = false := by rw [graphB_few]; exact hg
    clear hg
    go_enter Tryd.func3, Tryd.ntmps3
    go_wp2_with fail
    go_at_call 18
    refine (Few_any n z _ _ HA.out).mono ?_
    rintro e w1 ⟨a1, c1, rfl, hi1, hb1⟩
    have HB1 := Lib.hid hb1
    have HI1 := Lib.hid hi1
    clear hb1 hi1
    go_wp2_with fail
    go_at_call 19
    refine (List_any m y _ _ (HLA.out.below HB1.out)).mono ?_
    rintro e w2 ⟨a2, c2, rfl, hi2, hb2⟩
    have HX2 := Lib.hid hb2
    have HB2 := Lib.hid (HB1.out.trans (hb2.mono HB1.out.size))
    clear hb2
    clear hi2
    go_wp2_with fail
    go_at_call 17
    refine (Breadth_none _ _ (HI1.out.below HX2.out) HZ.out (HT.out.below HB2.out) HGM).mono ?_
    rintro e w3 ⟨rfl, hb3⟩
    have HB3 := Lib.hid (HB2.out.trans (hb3.mono HB2.out.size))
    clear hb3
    go_wp2_with fail
    go_at_call 18
    refine (Few_any n z _ _ (HA.out.below HB3.out)).mono ?_
    rintro e w4 ⟨a4, c4, rfl, hi4, hb4⟩
    have HI4 := Lib.hid hi4
    have HB4 := Lib.hid (HB3.out.trans (hb4.mono HB3.out.size))
    clear hb4
    clear hi4
    go_wp2_with fail
    go_at_call 20
    refine (Layout_none _ HI4.out HZ.out (HT.out.below HB4.out) HGM).mono ?_
    rintro e w5 ⟨rfl, hb5⟩
    have HB5 := Lib.hid (HB4.out.trans (hb5.mono HB4.out.size))
    clear hb5
    go_wp2_with fail
    go_at_call 21
    refine (ValidR_any n z _ _ _ (HI0.out.below HB5.out) HZ.out).mono ?_
    rintro e w6 ⟨rfl, hb6⟩
    rw [HG0.out]
    have HB6 := Lib.hid (HB5.out.trans (hb6.mono HB5.out.size))
    clear hb6
    go_wp2_with fail
    go_at_call 22
    refine (awake_any _ (HT.out.below HB6.out)).mono ?_
    rintro e w7 ⟨rfl, hb7⟩
    have HB7 := Lib.hid (HB6.out.trans (hb7.mono HB6.out.size))
    clear hb7
    go_wp2_with fail
    go_ret
    exact ⟨rfl, HB7.out⟩
  · have hP := pl_of hg
    have hn7 := hP.le
    have HM : Hid (min n 11 = n) := Lib.hid (by omega)
    have HG0 := Lib.hid hg
    have HP := Lib.hid hP
    have hrl := rst_le (n := n) (t := tbd n (natG z)) (Nat.two_pow_pos n)
    have hbrl := brd_le (n := n) (r := natG z) (z := y) n
    have hll := layZ_len n z
    clear hg hP
    cases ho : ordB n m y
    · have HO0 := Lib.hid ho
      have HOM : Hid (ordB n (min m 140) y = false) := Lib.hid (by rw [ordB_few (by omega)]; exact ho)
      clear ho
      go_enter Tryd.func3, Tryd.ntmps3
      go_wp2_with fail
      go_at_call 18
      refine (Few_any n z _ _ HA.out).mono ?_
      rintro e w1 ⟨a1, c1, rfl, hi1, hb1⟩
      rw [HM.out] at hi1
      rw [HM.out]
      have HB1 := Lib.hid hb1
      have HI1 := Lib.hid hi1
      clear hb1 hi1
      go_wp2_with fail
      go_at_call 19
      refine (List_any m y _ _ (HLA.out.below HB1.out)).mono ?_
      rintro e w2 ⟨a2, c2, rfl, hi2, hb2⟩
      have HX2 := Lib.hid hb2
      have HI2 := Lib.hid hi2
      have HB2 := Lib.hid (HB1.out.trans (hb2.mono HB1.out.size))
      clear hb2
      clear hi2
      go_wp2_with fail
      go_at_call 17
      refine (Breadth_no _ _ (HI1.out.below HX2.out) HZ.out HI2.out (HT.out.below HB2.out) HG0.out HOM.out).mono ?_
      rintro e w3 ⟨rfl, hb3⟩
      have HB3 := Lib.hid (HB2.out.trans (hb3.mono HB2.out.size))
      clear hb3
      go_wp2_with fail
      go_at_call 18
      refine (Few_any n z _ _ (HA.out.below HB3.out)).mono ?_
      rintro e w4 ⟨a4, c4, rfl, hi4, hb4⟩
      rw [HM.out] at hi4
      rw [HM.out]
      have HI4 := Lib.hid hi4
      have HB4 := Lib.hid (HB3.out.trans (hb4.mono HB3.out.size))
      clear hb4
      clear hi4
      go_wp2_with fail
      go_at_call 20
      refine (Layout_yes _ HI4.out HZ.out (HT.out.below HB4.out) HG0.out).mono ?_
      rintro e w5 ⟨v5, rfl, hO5, hb5⟩
      have HO5 := Lib.hid hO5
      clear hO5
      have HB5 := Lib.hid (HB4.out.trans (hb5.mono HB4.out.size))
      clear hb5
      go_wp2_with fail
      go_at_call 21
      refine (ValidR_any n z _ _ _ (HI0.out.below HB5.out) HZ.out).mono ?_
      rintro e w6 ⟨rfl, hb6⟩
      rw [HG0.out]
      have HX6 := Lib.hid hb6
      have HB6 := Lib.hid (HB5.out.trans (hb6.mono HB5.out.size))
      clear hb6
      go_wp2_with fail
      go_at_call 23
      refine (LayoutR_any (GrAt.same (HI0.out.below HB6.out) HG0.out) hn7 HP.out.bd _).mono ?_
      rintro e w7 ⟨x7, rfl, hL7, hb7⟩
      have HX7 := Lib.hid (HX6.out.trans (hb7.mono HX6.out.size))
      have hL7' : Lay1 w7 x7 (layZ n z) := hL7
      obtain ⟨a7, c7, rfl, hi7⟩ := hL7'.ints (by omega)
      rw [hll] at hi7
      rw [hll]
      have HI7 := Lib.hid hi7
      have HB7 := Lib.hid (HB6.out.trans (hb7.mono HB6.out.size))
      clear hb7
      clear hL7 hL7' hi7
      obtain ⟨a5, c5, rfl, hi5⟩ := HO5.out.ints (by simp; omega)
      rw [List.length_map, hll] at hi5
      rw [List.length_map, hll]
      have HI5 := Lib.hid (show IntsAt w5 a5 n (listZ (layZ n z)) by
        have h : zListI ((layZ n z).map fun (x : Nat) => (x : Int)) = listZ (layZ n z) := funext fun i => zList_map _ i
        rw [← h]; exact hi5)
      clear hi5
      go_wp2_with fail
      go_at_call 24
      refine (EqualI_true _ _ (HI5.out.below HX7.out) HI7.out).mono ?_
      rintro e w8 ⟨rfl, hb8⟩
      have HB8 := Lib.hid (HB7.out.trans (hb8.mono HB7.out.size))
      clear hb8
      generalize rst n (tbd n (natG z)) 0 = W at *
      go_wp2_with fail
      go_at_call 22
      refine (awake_any _ (HT.out.below HB8.out)).mono ?_
      rintro e w10 ⟨rfl, hb10⟩
      have HB10 := Lib.hid (HB8.out.trans (hb10.mono HB8.out.size))
      clear hb10
      go_wp2_with fail
      go_at_call 25
      refine (IsOrderR_any (n := n) (by omega) _ (HL0.out.below HB10.out)).mono ?_
      rintro e w11 ⟨rfl, rfl⟩
      rw [HO0.out]
      go_wp2_with fail
      go_ret
      exact ⟨rfl, HB10.out⟩
    · obtain rfl : m = n := by
        apply Classical.byContradiction
        intro hne
        rw [ordB_len hne] at ho; cases ho
      have HO0 := Lib.hid ho
      have HMM : Hid (min m 140 = m) := Lib.hid (by omega)
      clear ho
      go_enter Tryd.func3, Tryd.ntmps3
      go_wp2_with fail
      go_at_call 18
      refine (Few_any m z _ _ HA.out).mono ?_
      rintro e w1 ⟨a1, c1, rfl, hi1, hb1⟩
      rw [HM.out] at hi1
      rw [HM.out]
      have HB1 := Lib.hid hb1
      have HI1 := Lib.hid hi1
      clear hb1 hi1
      go_wp2_with fail
      go_at_call 19
      refine (List_any m y _ _ (HLA.out.below HB1.out)).mono ?_
      rintro e w2 ⟨a2, c2, rfl, hi2, hb2⟩
      rw [HMM.out] at hi2
      rw [HMM.out]
      have HX2 := Lib.hid hb2
      have HI2 := Lib.hid hi2
      have HB2 := Lib.hid (HB1.out.trans (hb2.mono HB1.out.size))
      clear hb2
      clear hi2
      go_wp2_with fail
      go_at_call 17
      refine (Breadth_yes _ _ (HI1.out.below HX2.out) HZ.out HI2.out (HT.out.below HB2.out) HG0.out HO0.out).mono ?_
      rintro e w3 ⟨rfl, hb3⟩
      have HB3 := Lib.hid (HB2.out.trans (hb3.mono HB2.out.size))
      clear hb3
      go_wp2_with fail
      go_at_call 18
      refine (Few_any m z _ _ (HA.out.below HB3.out)).mono ?_
      rintro e w4 ⟨a4, c4, rfl, hi4, hb4⟩
      rw [HM.out] at hi4
      rw [HM.out]
      have HI4 := Lib.hid hi4
      have HB4 := Lib.hid (HB3.out.trans (hb4.mono HB3.out.size))
      clear hb4
      clear hi4
      go_wp2_with fail
      go_at_call 20
      refine (Layout_yes _ HI4.out HZ.out (HT.out.below HB4.out) HG0.out).mono ?_
      rintro e w5 ⟨v5, rfl, hO5, hb5⟩
      have HO5 := Lib.hid hO5
      clear hO5
      have HB5 := Lib.hid (HB4.out.trans (hb5.mono HB4.out.size))
      clear hb5
      go_wp2_with fail
      go_at_call 21
      refine (ValidR_any m z _ _ _ (HI0.out.below HB5.out) HZ.out).mono ?_
      rintro e w6 ⟨rfl, hb6⟩
      rw [HG0.out]
      have HX6 := Lib.hid hb6
      have HB6 := Lib.hid (HB5.out.trans (hb6.mono HB5.out.size))
      clear hb6
      go_wp2_with fail
      go_at_call 23
      refine (LayoutR_any (GrAt.same (HI0.out.below HB6.out) HG0.out) hn7 HP.out.bd _).mono ?_
      rintro e w7 ⟨x7, rfl, hL7, hb7⟩
      have HX7 := Lib.hid (HX6.out.trans (hb7.mono HX6.out.size))
      have hL7' : Lay1 w7 x7 (layZ m z) := hL7
      obtain ⟨a7, c7, rfl, hi7⟩ := hL7'.ints (by omega)
      rw [hll] at hi7
      rw [hll]
      have HI7 := Lib.hid hi7
      have HB7 := Lib.hid (HB6.out.trans (hb7.mono HB6.out.size))
      clear hb7
      clear hL7 hL7' hi7
      obtain ⟨a5, c5, rfl, hi5⟩ := HO5.out.ints (by simp; omega)
      rw [List.length_map, hll] at hi5
      rw [List.length_map, hll]
      have HI5 := Lib.hid (show IntsAt w5 a5 m (listZ (layZ m z)) by
        have h : zListI ((layZ m z).map fun (x : Nat) => (x : Int)) = listZ (layZ m z) := funext fun i => zList_map _ i
        rw [← h]; exact hi5)
      clear hi5
      go_wp2_with fail
      go_at_call 24
      refine (EqualI_true _ _ (HI5.out.below HX7.out) HI7.out).mono ?_
      rintro e w8 ⟨rfl, hb8⟩
      have HB8 := Lib.hid (HB7.out.trans (hb8.mono HB7.out.size))
      clear hb8
      generalize rst m (tbd m (natG z)) 0 = W at *
      go_wp2_with fail
      go_at_call 22
      refine (awake_any _ (HT.out.below HB8.out)).mono ?_
      rintro e w10 ⟨rfl, hb10⟩
      have HB10 := Lib.hid (HB8.out.trans (hb10.mono HB8.out.size))
      clear hb10
      go_wp2_with fail
      go_at_call 25
      refine (IsOrderR_any (n := m) (by omega) _ (HL0.out.below HB10.out)).mono ?_
      rintro e w11 ⟨rfl, rfl⟩
      rw [HO0.out]
      go_wp2_with fail
      go_at_call 26
      refine (BreadthR_any (GrAt.same (HI0.out.below HB10.out) HG0.out) hn7 HP.out.bd _ _ HO0.out (HL0.out.below HB10.out)).mono ?_
      rintro e w12 ⟨rfl, hb12⟩
      have HB12 := Lib.hid (HB10.out.trans (hb12.mono HB10.out.size))
      clear hb12
      generalize brdTo m (natG z) y m = bb at *
      go_wp2_with fail
      go_ret
      exact ⟨rfl, HB12.out⟩

end Go.Proofs.YtgkpogaahndmoaaDoor
