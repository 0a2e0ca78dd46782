/- The contracts of package sweep's Bags and Least, of the reference's Valid, of the law's awake; the walk of the law SweepBags. -/
import Derived.Test.YtgkpogaahndmoaaDoorQg
namespace Go.Proofs.YtgkpogaahndmoaaDoor
set_option linter.unusedSimpArgs false
set_option linter.unusedVariables false
open Go.RowKit Go.Maps

/-- The graph in natural numbers. -/
abbrev natG (z : Nat → Int) (i : Nat) : Nat := (z i).toNat
theorem g_sym {n most : Nat} {g : Nat → Int} (h : graphB n most g = true) : ∀ u x, u < n → x < n → (natG g u).testBit x = (natG g x).testBit u := by
  intro u x hu hx
  have h3 := (graphB_le h).2.2
  unfold graphB at h
  simp only [Bool.and_eq_true, decide_eq_true_eq, List.all_eq_true, List.mem_range, beq_iff_eq] at h
  have := (h.2 u hu).2 x hx
  rw [show g u = ((natG g u : Nat) : Int) by have := (h3 u hu).1; show g u = ((g u).toNat : Int); omega, bitZ_nat, show g x = ((natG g x : Nat) : Int) by have := (h3 x hx).1; show g x = ((g x).toNat : Int); omega, bitZ_nat] at this
  exact this
theorem g_loop {n most : Nat} {g : Nat → Int} (h : graphB n most g = true) : ∀ u, u < n → (natG g u).testBit u = false := by
  intro u hu
  have h3 := (graphB_le h).2.2
  unfold graphB at h
  simp only [Bool.and_eq_true, decide_eq_true_eq, List.all_eq_true, List.mem_range, beq_iff_eq] at h
  have := (h.2 u hu).1
  unfold okCellZ at this
  rw [Bool.and_eq_true, show g u = ((natG g u : Nat) : Int) by have := (h3 u hu).1; show g u = ((g u).toNat : Int); omega, bitZ_nat] at this
  simpa using this.2

theorem pl_of {n : Nat} {z : Nat → Int} (h : graphB n 7 z = true) : Pl n (natG z) := by
  have h3 := graphB_le h
  exact ⟨h3.1, h3.2.1, fun i hi => nat_pow_cast (h3.2.2 i hi).2 (h3.2.2 i hi).1, g_loop h, g_sym h⟩

def InI64 (z : Nat → Int) : Prop := ∀ i, -9223372036854775808 ≤ z i ∧ z i ≤ 9223372036854775807

theorem newTown_yes {n : Nat} {z : Nat → Int} {a : Option Addr} (cap : Nat) {w : World} (hI : IntsAt w a n z) (hz : InI64 z) (hT : Tab w) (hg : graphB n 7 z = true) :
    Calls Tryd.prog 47 #[.slice a n cap] w fun e w' => e = .returned (.tuple #[.slice a n cap, .bool true]) ∧ Below w.heap.size w w' ∧ GrAt w' a n (natG z) ∧ Tab w' :=
  (newTown_any n z a cap w hI hz hT).mono fun e w' ⟨he, hb⟩ => ⟨by rw [he, hg]; rfl, hb, GrAt.of_graph (hI.below hb) hg (by omega), hT.below hb⟩
theorem newTown_no {n : Nat} {z : Nat → Int} {a : Option Addr} (cap : Nat) {w : World} (hI : IntsAt w a n z) (hz : InI64 z) (hT : Tab w) (hg : graphB n 7 z = false) :
    Calls Tryd.prog 47 #[.slice a n cap] w fun e w' => e = .returned (.tuple #[.slice none 0 0, .bool false]) ∧ Below w.heap.size w w' :=
  (newTown_any n z a cap w hI hz hT).mono fun e w' ⟨he, hb⟩ => ⟨by rw [he, hg]; rfl, hb⟩

set_option maxRecDepth 20000 in
set_option maxHeartbeats 1000000 in
theorem Bags_yes {n : Nat} {z y : Nat → Int} {a o : Option Addr} (cap co : Nat) {w : World} (hI : IntsAt w a n z) (hz : InI64 z) (hO : IntsAt w o n y) (hT : Tab w) (hg : graphB n 7 z = true) (ho : ordB n n y = true) :
    Calls Tryd.prog 27 #[.slice a n cap, .slice o n co] w fun e w' => ∃ v, e = .returned (.tuple #[v, .int .i64 0]) ∧ IntsOwn w' w.heap.size v (bagL (natG z) y n) ∧ Below w.heap.size w w' := by
  have HI := Lib.hid hI
  have HZ := Lib.hid hz
  have HT := Lib.hid hT
  have HL := Lib.hid hO
  have HO := Lib.hid ho
  have hP := pl_of hg
  have HP := Lib.hid hP
  have hn9 : n ≤ 9 := by have := hP.le; omega
  clear hI hz hT hO ho hP
  go_enter Tryd.func27, Tryd.ntmps27
  go_wp2_with (first
    | (go_at_call 47; refine (newTown_yes cap HI.out HZ.out HT.out hg).mono ?_; rintro e w1 ⟨rfl, hb1, hG, hT1⟩; have HB1 := Lib.hid hb1; have HG := Lib.hid hG; have HT1 := Lib.hid hT1; clear hb1 hG hT1)
    | (go_at_call 48; refine (isLayout_any _ _ hn9 co (HL.out.below HB1.out)).mono ?_; rintro e w2 ⟨rfl, rfl⟩; rw [HO.out])
    | (go_at_call 58; refine (bagsOf_any HG.out HP.out.le HP.out.bd cap co HO.out (HL.out.below HB1.out) HT1.out).mono ?_; rintro e w3 ⟨v, rfl, hO3, hb3⟩; have HO3 := Lib.hid hO3; have HB3 := Lib.hid (HB1.out.trans (hb3.mono HB1.out.size)); clear hb3 hO3))
  go_ret2
  exact ⟨v, rfl, ownsRow_base HO3.out HB1.out.size, HB3.out⟩
set_option maxRecDepth 20000 in
set_option maxHeartbeats 1000000 in
theorem Bags_no {n m : Nat} {z y : Nat → Int} {a o : Option Addr} (cap co : Nat) {w : World} (hI : IntsAt w a n z) (hz : InI64 z) (hO : IntsAt w o m y) (hT : Tab w) (hg : graphB n 7 z = true) (ho : ordB n m y = false) :
    Calls Tryd.prog 27 #[.slice a n cap, .slice o m co] w fun e w' => e = .returned (.tuple #[.slice none 0 0, .int .i64 2]) ∧ Below w.heap.size w w' := by
  have HI := Lib.hid hI
  have HZ := Lib.hid hz
  have HT := Lib.hid hT
  have HL := Lib.hid hO
  have HO := Lib.hid ho
  have hn9 : n ≤ 9 := by have := (pl_of hg).le; omega
  clear hI hz hT hO ho
  go_enter Tryd.func27, Tryd.ntmps27
  go_wp2_with (first
    | (go_at_call 47; refine (newTown_yes cap HI.out HZ.out HT.out hg).mono ?_; rintro e w1 ⟨rfl, hb1, hG, hT1⟩; have HB1 := Lib.hid hb1; clear hb1 hG hT1)
    | (go_at_call 48; refine (isLayout_any _ _ hn9 co (HL.out.below HB1.out)).mono ?_; rintro e w2 ⟨rfl, rfl⟩; rw [HO.out]))
  go_ret2
  exact ⟨rfl, HB1.out⟩
set_option maxRecDepth 20000 in
set_option maxHeartbeats 1000000 in
theorem Bags_none {n m : Nat} {z : Nat → Int} {a o : Option Addr} (cap co : Nat) {w : World} (hI : IntsAt w a n z) (hz : InI64 z) (hT : Tab w) (hg : graphB n 7 z = false) :
    Calls Tryd.prog 27 #[.slice a n cap, .slice o m co] w fun e w' => e = .returned (.tuple #[.slice none 0 0, .int .i64 2]) ∧ Below w.heap.size w w' := by
  have HI := Lib.hid hI
  have HZ := Lib.hid hz
  have HT := Lib.hid hT
  clear hI hz hT
  go_enter Tryd.func27, Tryd.ntmps27
  go_wp2_with (go_at_call 47; refine (newTown_no cap HI.out HZ.out HT.out hg).mono ?_; rintro e w1 ⟨rfl, hb1⟩; have HB1 := Lib.hid hb1; clear hb1)
  go_ret2
  exact ⟨rfl, HB1.out⟩

set_option maxRecDepth 20000 in
set_option maxHeartbeats 1000000 in
theorem Least_yes {n : Nat} {z : Nat → Int} {a : Option Addr} (cap : Nat) {w : World} (hI : IntsAt w a n z) (hz : InI64 z) (hT : Tab w) (hg : graphB n 7 z = true) :
    Calls Tryd.prog 43 #[.slice a n cap] w fun e w' => e = .returned (.tuple #[.int .i64 (lst n (natG z) 0 + 1 : Nat), .int .i64 0]) ∧ Below w.heap.size w w' := by
  have HI := Lib.hid hI
  have HZ := Lib.hid hz
  have HT := Lib.hid hT
  have HP := Lib.hid (pl_of hg)
  have hl := lst_le (r := natG z) (Nat.two_pow_pos n)
  have hn := HP.out.le
  clear hI hz hT
  go_enter Tryd.func43, Tryd.ntmps43
  go_wp2_with (first
    | (go_at_call 47; refine (newTown_yes cap HI.out HZ.out HT.out hg).mono ?_; rintro e w1 ⟨rfl, hb1, hG, hT1⟩; have HB1 := Lib.hid hb1; have HG := Lib.hid hG; have HT1 := Lib.hid hT1; clear hb1 hG hT1)
    | (go_at_call 53; refine (pathWidth_any HG.out HP.out.le HP.out.bd cap HT1.out).mono ?_; rintro e w3 ⟨rfl, hb3⟩; have HB3 := Lib.hid (HB1.out.trans (hb3.mono HB1.out.size)); clear hb3))
  go_ret2
  exact ⟨by go_num, HB3.out⟩

set_option maxRecDepth 20000 in
set_option maxHeartbeats 1000000 in
theorem ValidR_any (n : Nat) (z : Nat → Int) (a : Option Addr) (cap : Nat) (w : World) (hI : IntsAt w a n z) (hz : InI64 z) :
    Calls Tryd.prog 21 #[.slice a n cap] w fun e w' => e = .returned (.bool (graphB n 7 z)) ∧ Below w.heap.size w w' := by
  have HI := Lib.hid hI
  have HZ := Lib.hid hz
  clear hI hz
  go_enter Tryd.func21, Tryd.ntmps21
  go_wp2_with (go_at_call 54; refine (IsGraph_any n 7 7 rfl z a cap _ HI.out HZ.out (by omega)).mono ?_; rintro e w1 ⟨rfl, hb1⟩; have HB1 := Lib.hid hb1; clear hb1)
  go_ret
  exact ⟨rfl, HB1.out⟩

def zTwo (i : Nat) : Int := if i = 0 then 2 else 1
theorem graph_two : graphB 2 7 zTwo = true := by decide
theorem least_two : lst 2 (natG zTwo) 0 = 1 := by decide +kernel

set_option maxRecDepth 20000 in
set_option maxHeartbeats 1000000 in
theorem awake_any (w : World) (hT : Tab w) : Calls Tryd.prog 22 #[] w fun e w' => e = .returned (.bool true) ∧ Below w.heap.size w w' := by
  have HT := Lib.hid hT
  have HZ := Lib.hid (show InI64 zTwo from fun i => by unfold zTwo; split <;> omega)
  have HI := Lib.hid (show IntsAt (w.alloc (.cells #[.int .i64 2, .int .i64 1] 3)) (some ⟨w.heap.size, 0, none⟩) 2 zTwo from ⟨by decide, fun _ => ⟨w.heap.size, 0, rfl, by simp, fun i hi => by
    have hr := Row.new w 3 [.int .i64 2, .int .i64 1]
    rw [Nat.zero_add]
    have : i = 0 ∨ i = 1 := by omega
    rcases this with rfl | rfl
    · exact hr.cell rfl
    · exact hr.cell rfl⟩⟩)
  have hb0 : Below w.heap.size w (w.alloc (.cells #[.int .i64 2, .int .i64 1] 3)) := (Below.refl _ _).alloc (Nat.le_refl _) _
  have HB0 := Lib.hid hb0
  clear hT hb0
  go_enter Tryd.func22, Tryd.ntmps22
  go_wp2_with (go_at_call 43; refine (Least_yes _ HI.out HZ.out (HT.out.below HB0.out) graph_two).mono ?_; rintro e w1 ⟨rfl, hb1⟩; rw [least_two]; have HB1 := Lib.hid (HB0.out.trans (hb1.mono HB0.out.size)); clear hb1)
  go_ret
  exact ⟨rfl, HB1.out⟩

/-- What a law returns: true, and nothing that was there has turned. -/
def LawTrue (w : World) (e : Ending) (w' : World) : Prop := e = .returned (.bool true) ∧ Below w.heap.size w w'
theorem graphB_few {n : Nat} {z : Nat → Int} : graphB (min n 11) 7 z = graphB n 7 z := by
  by_cases h : n ≤ 11
  · rw [Nat.min_eq_left h]
  · rw [Nat.min_eq_right (by omega), graphB_no (Or.inr (by omega)), graphB_no (Or.inr (by omega))]
theorem ordB_few {n m : Nat} {y : Nat → Int} (hn : n ≤ 9) : ordB n (min m 140) y = ordB n m y := by
  by_cases h : m ≤ 140
  · rw [Nat.min_eq_left h]
  · rw [Nat.min_eq_right (by omega), ordB_len (by omega), ordB_len (by omega)]
theorem GrAt.same {w : World} {a : Option Addr} {n : Nat} {z : Nat → Int} (hI : IntsAt w a n z) (hg : graphB n 7 z = true) : GrAt w a n (natG z) := GrAt.of_graph hI hg (by omega)

set_option maxRecDepth 200000 in
set_option maxHeartbeats 4000000 in
theorem SweepBags_walk (n m : Nat) (z y : Nat → Int) (v vo : Value) (w : World) (hA : SliceArg w v n z) (hz : InI64 z) (hO : SliceArg w vo m y) (hTab : HasTab w) :
    Calls Tryd.prog 4 #[v, vo] w (LawTrue w) := by
  obtain ⟨a, cap, rfl, hI⟩ := hA.ints
  obtain ⟨o, co, rfl, hL⟩ := hO.ints
  have HA := Lib.hid hA
  have HI0 := Lib.hid hI
  have HZ := Lib.hid hz
  have HLA := Lib.hid hO
  have HL0 := Lib.hid hL
  have HT := Lib.hid (Tab.of hTab)
  clear hA hI hz hTab hO hL
  cases hg : graphB n 7 z
  · have HG0 := Lib.hid hg
    have HGM : graphB (min n 11) 7 z = false := by rw [graphB_few]; exact hg
    clear hg
    go_enter Tryd.func4, Tryd.ntmps4
    go_wp2_with fail
    go_at_call 18
    refine (Few_any n z _ _ HA.out).mono ?_
    rintro e w1 ⟨a1, c1, rfl, hi1, hb1⟩
    have HB1 := Lib.hid hb1
    have HI1 := Lib.hid hi1
    clear hb1 hi1
    go_wp2_with fail
    go_at_call 19
    refine (List_any m y _ _ (HLA.out.below HB1.out)).mono ?_
    rintro e w2 ⟨a2, c2, rfl, hi2, hb2⟩
    have HX2 := Lib.hid hb2
    have HB2 := Lib.hid (HB1.out.trans (hb2.mono HB1.out.size))
    clear hb2
    clear hi2
    go_wp2_with fail
    go_at_call 27
    refine (Bags_none _ _ (HI1.out.below HX2.out) HZ.out (HT.out.below HB2.out) HGM).mono ?_
    rintro e w3 ⟨rfl, hb3⟩
    have HB3 := Lib.hid (HB2.out.trans (hb3.mono HB2.out.size))
    clear hb3
    go_wp2_with fail
    go_at_call 21
    refine (ValidR_any n z _ _ _ (HI0.out.below HB3.out) HZ.out).mono ?_
    rintro e w4 ⟨rfl, hb4⟩
    rw [HG0.out]
    have HB4 := Lib.hid (HB3.out.trans (hb4.mono HB3.out.size))
    clear hb4
    go_wp2_with fail
    go_at_call 22
    refine (awake_any _ (HT.out.below HB4.out)).mono ?_
    rintro e w5 ⟨rfl, hb5⟩
    have HB5 := Lib.hid (HB4.out.trans (hb5.mono HB4.out.size))
    clear hb5
    go_wp2_with fail
    go_ret
    exact ⟨rfl, HB5.out⟩
  · have hP := pl_of hg
    have hn7 := hP.le
    have HM : Hid (min n 11 = n) := Lib.hid (by omega)
    have HG0 := Lib.hid hg
    have HP := Lib.hid hP
    clear hg hP
    cases ho : ordB n m y
    · have HO0 := Lib.hid ho
      have HOM : Hid (ordB n (min m 140) y = false) := Lib.hid (by rw [ordB_few (by omega)]; exact ho)
      clear ho
      go_enter Tryd.func4, Tryd.ntmps4
      go_wp2_with fail
      go_at_call 18
      refine (Few_any n z _ _ HA.out).mono ?_
      rintro e w1 ⟨a1, c1, rfl, hi1, hb1⟩
      rw [HM.out] at hi1
      rw [HM.out]
      have HB1 := Lib.hid hb1
      have HI1 := Lib.hid hi1
      clear hb1 hi1
      go_wp2_with fail
      go_at_call 19
      refine (List_any m y _ _ (HLA.out.below HB1.out)).mono ?_
      rintro e w2 ⟨a2, c2, rfl, hi2, hb2⟩
      have HX2 := Lib.hid hb2
      have HI2 := Lib.hid hi2
      have HB2 := Lib.hid (HB1.out.trans (hb2.mono HB1.out.size))
      clear hb2
      clear hi2
      go_wp2_with fail
      go_at_call 27
      refine (Bags_no _ _ (HI1.out.below HX2.out) HZ.out HI2.out (HT.out.below HB2.out) HG0.out HOM.out).mono ?_
      rintro e w3 ⟨rfl, hb3⟩
      have HB3 := Lib.hid (HB2.out.trans (hb3.mono HB2.out.size))
      clear hb3
      go_wp2_with fail
      go_at_call 21
      refine (ValidR_any n z _ _ _ (HI0.out.below HB3.out) HZ.out).mono ?_
      rintro e w4 ⟨rfl, hb4⟩
      rw [HG0.out]
      have HB4 := Lib.hid (HB3.out.trans (hb4.mono HB3.out.size))
      clear hb4
      go_wp2_with fail
      go_at_call 25
      refine (IsOrderR_any (n := n) (by omega) _ (HL0.out.below HB4.out)).mono ?_
      rintro e w5 ⟨rfl, rfl⟩
      rw [HO0.out]
      go_wp2_with fail
      go_at_call 22
      refine (awake_any _ (HT.out.below HB4.out)).mono ?_
      rintro e w6 ⟨rfl, hb6⟩
      have HB6 := Lib.hid (HB4.out.trans (hb6.mono HB4.out.size))
      clear hb6
      go_wp2_with fail
      go_ret
      exact ⟨rfl, HB6.out⟩
    · obtain rfl : m = n := by
        apply Classical.byContradiction
        intro hne
        rw [ordB_len hne] at ho; cases ho
      have HO0 := Lib.hid ho
      have HMM : Hid (min m 140 = m) := Lib.hid (by omega)
      have hbl := bagL_len (natG z) y m
      clear ho
      go_enter Tryd.func4, Tryd.ntmps4
      go_wp2_with fail
      go_at_call 18
      refine (Few_any m z _ _ HA.out).mono ?_
      rintro e w1 ⟨a1, c1, rfl, hi1, hb1⟩
      rw [HM.out] at hi1
      rw [HM.out]
      have HB1 := Lib.hid hb1
      have HI1 := Lib.hid hi1
      clear hb1 hi1
      go_wp2_with fail
      go_at_call 19
      refine (List_any m y _ _ (HLA.out.below HB1.out)).mono ?_
      rintro e w2 ⟨a2, c2, rfl, hi2, hb2⟩
      rw [HMM.out] at hi2
      rw [HMM.out]
      have HX2 := Lib.hid hb2
      have HI2 := Lib.hid hi2
      have HB2 := Lib.hid (HB1.out.trans (hb2.mono HB1.out.size))
      clear hb2
      clear hi2
      go_wp2_with fail
      go_at_call 27
      refine (Bags_yes _ _ (HI1.out.below HX2.out) HZ.out HI2.out (HT.out.below HB2.out) HG0.out HO0.out).mono ?_
      rintro e w3 ⟨v3, rfl, hO3, hb3⟩
      have HO3 := Lib.hid hO3
      clear hO3
      have HB3 := Lib.hid (HB2.out.trans (hb3.mono HB2.out.size))
      clear hb3
      go_wp2_with fail
      go_at_call 21
      refine (ValidR_any m z _ _ _ (HI0.out.below HB3.out) HZ.out).mono ?_
      rintro e w4 ⟨rfl, hb4⟩
      rw [HG0.out]
      have HX4 := Lib.hid hb4
      have HB4 := Lib.hid (HB3.out.trans (hb4.mono HB3.out.size))
      clear hb4
      go_wp2_with fail
      go_at_call 25
      refine (IsOrderR_any (n := m) (by omega) _ (HL0.out.below HB4.out)).mono ?_
      rintro e w5 ⟨rfl, rfl⟩
      rw [HO0.out]
      go_wp2_with fail
      go_at_call 28
      refine (BagsR_any (GrAt.same (HI0.out.below HB4.out) HG0.out) hn7 HP.out.bd _ _ HO0.out (HL0.out.below HB4.out)).mono ?_
      rintro e w6 ⟨v6, rfl, hO6, hb6⟩
      have HX6 := Lib.hid (HX4.out.trans (hb6.mono HX4.out.size))
      obtain ⟨a6, c6, rfl, hi6⟩ := hO6.ints (by omega)
      rw [hbl] at hi6
      rw [hbl]
      have HI6 := Lib.hid hi6
      have HB6 := Lib.hid (HB4.out.trans (hb6.mono HB4.out.size))
      clear hb6
      clear hO6 hi6
      obtain ⟨a3, c3, rfl, hi3⟩ := HO3.out.ints (by omega)
      rw [hbl] at hi3
      rw [hbl]
      have HI3 := Lib.hid hi3
      clear hi3
      go_wp2_with fail
      go_at_call 24
      refine (EqualI_true _ _ (HI3.out.below HX6.out) HI6.out).mono ?_
      rintro e w7 ⟨rfl, hb7⟩
      have HB7 := Lib.hid (HB6.out.trans (hb7.mono HB6.out.size))
      clear hb7
      go_wp2_with fail
      go_at_call 22
      refine (awake_any _ (HT.out.below HB7.out)).mono ?_
      rintro e w8 ⟨rfl, hb8⟩
      have HB8 := Lib.hid (HB7.out.trans (hb8.mono HB7.out.size))
      clear hb8
      go_wp2_with fail
      go_ret
      exact ⟨rfl, HB8.out⟩

end Go.Proofs.YtgkpogaahndmoaaDoor
