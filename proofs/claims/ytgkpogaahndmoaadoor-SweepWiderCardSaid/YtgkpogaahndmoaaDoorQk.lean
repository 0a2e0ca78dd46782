/- The contracts of package sweep's Breadth and Check; the walk of the law SweepOrders. -/
import Derived.Test.YtgkpogaahndmoaaDoorQj
namespace Go.Proofs.YtgkpogaahndmoaaDoor
set_option linter.unusedSimpArgs false
set_option linter.unusedVariables false
open Go.RowKit Go.Maps

theorem mostB_congr {n : Nat} {z z' : Nat → Int} : ∀ m, (∀ k, k < m → z k = z' k) → mostB n z m = mostB n z' m
  | 0, _ => rfl
  | m + 1, h => by
    show max _ (szS n (z m).toNat) = max _ (szS n (z' m).toNat)
    rw [mostB_congr m fun k hk => h k (by omega), h m (by omega)]
theorem zListI_bag {r : Nat → Nat} {y : Nat → Int} {n k : Nat} (hk : k < n) : zListI (bagL r y n) k = bagZ r y k := by
  unfold zListI bagL
  rw [List.getD_eq_getElem?_getD, List.getElem?_map, List.getElem?_range hk]
  rfl

set_option maxRecDepth 20000 in
set_option maxHeartbeats 1000000 in
theorem Breadth_yes {n : Nat} {z y : Nat → Int} {a o : Option Addr} (cap co : Nat) {w : World} (hI : IntsAt w a n z) (hz : InI64 z) (hO : IntsAt w o n y) (hT : Tab w) (hg : graphB n 7 z = true) (ho : ordB n n y = true) :
    Calls Tryd.prog 17 #[.slice a n cap, .slice o n co] w fun e w' => e = .returned (.tuple #[.int .i64 (brdTo n (natG z) y n : Nat), .int .i64 0]) ∧ Below w.heap.size w w' := by
  have HI := Lib.hid hI
  have HZ := Lib.hid hz
  have HT := Lib.hid hT
  have HL := Lib.hid hO
  have HO := Lib.hid ho
  have HP := Lib.hid (pl_of hg)
  have hn9 : n ≤ 9 := by have := HP.out.le; omega
  clear hI hz hT hO ho
  go_enter Tryd.func17, Tryd.ntmps17
  go_wp2_with (first
    | (go_at_call 47; refine (newTown_yes cap HI.out HZ.out HT.out hg).mono ?_; rintro e w1 ⟨rfl, hb1, hG, hT1⟩; have HB1 := Lib.hid hb1; have HG := Lib.hid hG; have HT1 := Lib.hid hT1; clear hb1 hG hT1)
    | (go_at_call 48; refine (isLayout_any _ _ hn9 co (HL.out.below HB1.out)).mono ?_; rintro e w2 ⟨rfl, rfl⟩; rw [HO.out])
    | (go_at_call 49; refine (breadth_any HG.out HP.out.le HP.out.bd cap co HO.out (HL.out.below HB1.out) HT1.out).mono ?_; rintro e w3 ⟨rfl, hb3⟩; have HB3 := Lib.hid (HB1.out.trans (hb3.mono HB1.out.size)); clear hb3))
  go_ret2
  exact ⟨rfl, HB3.out⟩

set_option maxRecDepth 20000 in
set_option maxHeartbeats 1000000 in
theorem Check_yes {n m : Nat} {z y : Nat → Int} {a o : Option Addr} (cap co : Nat) {w : World} (hI : IntsAt w a n z) (hz : InI64 z) (hO : IntsAt w o m y) (hT : Tab w) (hg : graphB n 7 z = true) (hp : pathB n (natG z) m y = true) :
    Calls Tryd.prog 29 #[.slice a n cap, .slice o m co] w fun e w' => e = .returned (.tuple #[.int .i64 ((mostB n y m : Nat) - 1), .bool true, .int .i64 0]) ∧ Below w.heap.size w w' := by
  have HI := Lib.hid hI
  have HZ := Lib.hid hz
  have HT := Lib.hid hT
  have HL := Lib.hid hO
  have HPB := Lib.hid hp
  have HIN := Lib.hid (path_iff.1 hp).2.2.1
  have HP := Lib.hid (pl_of hg)
  clear hI hz hT hO hp
  go_enter Tryd.func29, Tryd.ntmps29
  go_wp2_with (first
    | (go_at_call 47; refine (newTown_yes cap HI.out HZ.out HT.out hg).mono ?_; rintro e w1 ⟨rfl, hb1, hG, hT1⟩; have HB1 := Lib.hid hb1; have HG := Lib.hid hG; have HT1 := Lib.hid hT1; clear hb1 hG hT1)
    | (go_at_call 59; refine (isDecomposition_any HG.out HP.out.le HP.out.bd cap co (HL.out.below HB1.out) HT1.out).mono ?_; rintro e w2 ⟨rfl, hb2⟩; rw [HPB.out]; have HB2 := Lib.hid (HB1.out.trans (hb2.mono HB1.out.size)); clear hb2)
    | (go_at_call 60; refine (widthOf_any HP.out.le co (HL.out.below HB2.out) HIN.out).mono ?_; rintro e w3 ⟨rfl, rfl⟩))
  go_ret3
  exact ⟨rfl, HB2.out⟩
set_option maxRecDepth 20000 in
set_option maxHeartbeats 1000000 in
theorem Check_no {n m : Nat} {z y : Nat → Int} {a o : Option Addr} (cap co : Nat) {w : World} (hI : IntsAt w a n z) (hz : InI64 z) (hO : IntsAt w o m y) (hT : Tab w) (hg : graphB n 7 z = true) (hp : pathB n (natG z) m y = false) :
    Calls Tryd.prog 29 #[.slice a n cap, .slice o m co] w fun e w' => e = .returned (.tuple #[.int .i64 0, .bool false, .int .i64 0]) ∧ Below w.heap.size w w' := by
  have HI := Lib.hid hI
  have HZ := Lib.hid hz
  have HT := Lib.hid hT
  have HL := Lib.hid hO
  have HPB := Lib.hid hp
  have HP := Lib.hid (pl_of hg)
  clear hI hz hT hO hp
  go_enter Tryd.func29, Tryd.ntmps29
  go_wp2_with (first
    | (go_at_call 47; refine (newTown_yes cap HI.out HZ.out HT.out hg).mono ?_; rintro e w1 ⟨rfl, hb1, hG, hT1⟩; have HB1 := Lib.hid hb1; have HG := Lib.hid hG; have HT1 := Lib.hid hT1; clear hb1 hG hT1)
    | (go_at_call 59; refine (isDecomposition_any HG.out HP.out.le HP.out.bd cap co (HL.out.below HB1.out) HT1.out).mono ?_; rintro e w2 ⟨rfl, hb2⟩; rw [HPB.out]; have HB2 := Lib.hid (HB1.out.trans (hb2.mono HB1.out.size)); clear hb2))
  go_ret3
  exact ⟨rfl, HB2.out⟩
set_option maxRecDepth 20000 in
set_option maxHeartbeats 1000000 in
theorem Check_none {n m : Nat} {z : Nat → Int} {a o : Option Addr} (cap co : Nat) {w : World} (hI : IntsAt w a n z) (hz : InI64 z) (hT : Tab w) (hg : graphB n 7 z = false) :
    Calls Tryd.prog 29 #[.slice a n cap, .slice o m co] w fun e w' => e = .returned (.tuple #[.int .i64 0, .bool false, .int .i64 2]) ∧ Below w.heap.size w w' := by
  have HI := Lib.hid hI
  have HZ := Lib.hid hz
  have HT := Lib.hid hT
  clear hI hz hT
  go_enter Tryd.func29, Tryd.ntmps29
  go_wp2_with (go_at_call 47; refine (newTown_no cap HI.out HZ.out HT.out hg).mono ?_; rintro e w1 ⟨rfl, hb1⟩; have HB1 := Lib.hid hb1; clear hb1)
  go_ret3
  exact ⟨rfl, HB1.out⟩

set_option maxRecDepth 200000 in
set_option maxHeartbeats 4000000 in
theorem SweepOrders_walk (n m : Nat) (z y : Nat → Int) (v vo : Value) (w : World) (hA : SliceArg w v n z) (hz : InI64 z) (hO : SliceArg w vo m y) (hTab : HasTab w) :
    Calls Tryd.prog 13 #[v, vo] w (LawTrue w) := by
  obtain ⟨a, cap, rfl, hI⟩ := hA.ints
  obtain ⟨o, co, rfl, hL⟩ := hO.ints
  have HA := Lib.hid hA
  have HZ := Lib.hid hz
  have HLA := Lib.hid hO
  have HT := Lib.hid (Tab.of hTab)
  have hml := hL.1
  unfold maxLen at hml
  clear hA hI hz hTab hO hL
  cases hg : graphB n 7 z
  · have HGM : graphB (min n 11) 7 z = false := by rw [graphB_few]; exact hg
    clear hg
    go_enter Tryd.func13, Tryd.ntmps13
    go_wp2_with fail
    go_at_call 18
    refine (Few_any n z _ _ HA.out).mono ?_
    rintro e w1 ⟨a1, c1, rfl, hi1, hb1⟩
    have HB1 := Lib.hid hb1
    have HI1 := Lib.hid hi1
    clear hb1 hi1
    go_wp2_with fail
    go_at_call 19
    refine (List_any m y _ _ (HLA.out.below HB1.out)).mono ?_
    rintro e w2 ⟨a2, c2, rfl, hi2, hb2⟩
    have HX2 := Lib.hid hb2
    have HB2 := Lib.hid (HB1.out.trans (hb2.mono HB1.out.size))
    clear hb2
    clear hi2
    go_wp2_with fail
    go_at_call 27
    refine (Bags_none _ _ (HI1.out.below HX2.out) HZ.out (HT.out.below HB2.out) HGM).mono ?_
    rintro e w3 ⟨rfl, hb3⟩
    have HB3 := Lib.hid (HB2.out.trans (hb3.mono HB2.out.size))
    clear hb3
    go_wp2_with fail
    go_at_call 22
    refine (awake_any _ (HT.out.below HB3.out)).mono ?_
    rintro e w5 ⟨rfl, hb5⟩
    have HB5 := Lib.hid (HB3.out.trans (hb5.mono HB3.out.size))
    clear hb5
    go_wp2_with fail
    go_ret
    exact ⟨rfl, HB5.out⟩
  · have hP := pl_of hg
    have hn7 := hP.le
    have HM : Hid (min n 11 = n) := Lib.hid (by omega)
    have HG0 := Lib.hid hg
    have HP := Lib.hid hP
    clear hg hP
    cases ho : ordB n m y
    · have HOM : Hid (ordB n (min m 140) y = false) := Lib.hid (by rw [ordB_few (by omega)]; exact ho)
      clear ho
      go_enter Tryd.func13, Tryd.ntmps13
      go_wp2_with fail
      go_at_call 18
      refine (Few_any n z _ _ HA.out).mono ?_
      rintro e w1 ⟨a1, c1, rfl, hi1, hb1⟩
      rw [HM.out] at hi1
      rw [HM.out]
      have HB1 := Lib.hid hb1
      have HI1 := Lib.hid hi1
      clear hb1 hi1
      go_wp2_with fail
      go_at_call 19
      refine (List_any m y _ _ (HLA.out.below HB1.out)).mono ?_
      rintro e w2 ⟨a2, c2, rfl, hi2, hb2⟩
      have HX2 := Lib.hid hb2
      have HI2 := Lib.hid hi2
      have HB2 := Lib.hid (HB1.out.trans (hb2.mono HB1.out.size))
      clear hb2
      clear hi2
      go_wp2_with fail
      go_at_call 27
      refine (Bags_no _ _ (HI1.out.below HX2.out) HZ.out HI2.out (HT.out.below HB2.out) HG0.out HOM.out).mono ?_
      rintro e w3 ⟨rfl, hb3⟩
      have HB3 := Lib.hid (HB2.out.trans (hb3.mono HB2.out.size))
      clear hb3
      go_wp2_with fail
      go_at_call 22
      refine (awake_any _ (HT.out.below HB3.out)).mono ?_
      rintro e w6 ⟨rfl, hb6⟩
      have HB6 := Lib.hid (HB3.out.trans (hb6.mono HB3.out.size))
      clear hb6
      go_wp2_with fail
      go_ret
      exact ⟨rfl, HB6.out⟩
    · obtain rfl : m = n := by
        apply Classical.byContradiction
        intro hne
        rw [ordB_len hne] at ho; cases ho
      have HO0 := Lib.hid ho
      have HMM : Hid (min m 140 = m) := Lib.hid (by omega)
      have hbl := bagL_len (natG z) y m
      have HPB : Hid (pathB m (natG z) m (zListI (bagL (natG z) y m)) = true) := Lib.hid (path_congr (fun k hk => (zListI_bag hk).symm) (path_iff.2 ⟨HP.out.one, by omega, fun k hk => by
        have h1 : setZ (bagZ (natG z) y) k < 2 ^ m := by
          show ((bord (natG z) (metO y k) ||| 2 ^ (y k).toNat : Nat) : Int).toNat < _
          rw [Int.toNat_natCast]
          exact Nat.or_lt_two_pow (bord_lt (lay_met ho (by omega))) (pow_lt_pow (lay_at ho hk).1)
        have h2 : (0 : Int) ≤ bagZ (natG z) y k := Int.natCast_nonneg _
        refine ⟨h2, ?_⟩
        rw [pow_cast]
        have h3 : ((bagZ (natG z) y k).toNat : Int) < ((2 ^ m : Nat) : Int) := by exact_mod_cast h1
        omega, bags_path HP.out ho⟩))
      have hmost : mostB m (zListI (bagL (natG z) y m)) m = brdTo m (natG z) y m + 1 := by
        rw [mostB_congr m fun k hk => zListI_bag hk]; exact bags_most HP.out ho
      have HMO : Hid (((mostB m (zListI (bagL (natG z) y m)) m : Nat) : Int) - 1 = (brdTo m (natG z) y m : Nat)) := Lib.hid (by omega)
      clear ho hmost
      go_enter Tryd.func13, Tryd.ntmps13
      go_wp2_with fail
      go_at_call 18
      refine (Few_any m z _ _ HA.out).mono ?_
      rintro e w1 ⟨a1, c1, rfl, hi1, hb1⟩
      rw [HM.out] at hi1
      rw [HM.out]
      have HB1 := Lib.hid hb1
      have HI1 := Lib.hid hi1
      clear hb1 hi1
      go_wp2_with fail
      go_at_call 19
      refine (List_any m y _ _ (HLA.out.below HB1.out)).mono ?_
      rintro e w2 ⟨a2, c2, rfl, hi2, hb2⟩
      rw [HMM.out] at hi2
      rw [HMM.out]
      have HX2 := Lib.hid hb2
      have HI2 := Lib.hid hi2
      have HB2 := Lib.hid (HB1.out.trans (hb2.mono HB1.out.size))
      clear hb2
      clear hi2
      go_wp2_with fail
      go_at_call 27
      refine (Bags_yes _ _ (HI1.out.below HX2.out) HZ.out HI2.out (HT.out.below HB2.out) HG0.out HO0.out).mono ?_
      rintro e w3 ⟨v3, rfl, hO3, hb3⟩
      obtain ⟨a3, c3, rfl, hi3⟩ := hO3.ints (by omega)
      rw [hbl] at hi3
      rw [hbl]
      have HI3 := Lib.hid hi3
      clear hi3 hO3
      have HB3 := Lib.hid (HB2.out.trans (hb3.mono HB2.out.size))
      clear hb3
      go_wp2_with fail
      go_at_call 18
      refine (Few_any m z _ _ (HA.out.below HB3.out)).mono ?_
      rintro e w4 ⟨a4, c4, rfl, hi4, hb4⟩
      rw [HM.out] at hi4
      rw [HM.out]
      have HX4 := Lib.hid hb4
      have HI4 := Lib.hid hi4
      have HB4 := Lib.hid (HB3.out.trans (hb4.mono HB3.out.size))
      clear hb4
      clear hi4
      go_wp2_with fail
      go_at_call 29
      refine (Check_yes _ _ HI4.out HZ.out (HI3.out.below HX4.out) (HT.out.below HB4.out) HG0.out HPB.out).mono ?_
      rintro e w5 ⟨rfl, hb5⟩
      rw [HMO.out]
      have HB5 := Lib.hid (HB4.out.trans (hb5.mono HB4.out.size))
      clear hb5
      go_wp2_with fail
      go_at_call 18
      refine (Few_any m z _ _ (HA.out.below HB5.out)).mono ?_
      rintro e w6 ⟨a6, c6, rfl, hi6, hb6⟩
      rw [HM.out] at hi6
      rw [HM.out]
      have HI6 := Lib.hid hi6
      have HB6 := Lib.hid (HB5.out.trans (hb6.mono HB5.out.size))
      clear hb6
      clear hi6
      go_wp2_with fail
      go_at_call 19
      refine (List_any m y _ _ (HLA.out.below HB6.out)).mono ?_
      rintro e w7 ⟨a7, c7, rfl, hi7, hb7⟩
      rw [HMM.out] at hi7
      rw [HMM.out]
      have HX7 := Lib.hid hb7
      have HI7 := Lib.hid hi7
      have HB7 := Lib.hid (HB6.out.trans (hb7.mono HB6.out.size))
      clear hb7
      clear hi7
      go_wp2_with fail
      go_at_call 17
      refine (Breadth_yes _ _ (HI6.out.below HX7.out) HZ.out HI7.out (HT.out.below HB7.out) HG0.out HO0.out).mono ?_
      rintro e w8 ⟨rfl, hb8⟩
      have HB8 := Lib.hid (HB7.out.trans (hb8.mono HB7.out.size))
      clear hb8
      go_wp2_with fail
      go_at_call 22
      refine (awake_any _ (HT.out.below HB8.out)).mono ?_
      rintro e w9 ⟨rfl, hb9⟩
      have HB9 := Lib.hid (HB8.out.trans (hb9.mono HB8.out.size))
      clear hb9
      go_wp2_with fail
      go_ret
      exact ⟨rfl, HB9.out⟩

end Go.Proofs.YtgkpogaahndmoaaDoor
