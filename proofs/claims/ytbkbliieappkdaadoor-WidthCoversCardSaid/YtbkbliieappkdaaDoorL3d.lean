/- The walk of the law WidthCovers. (Made by gen_l3d.py.) -/
import Derived.Test.YtbkbliieappkdaaDoorL3c
import Derived.Test.YtbkbliieappkdaaDoorW23
import Derived.Test.YtbkbliieappkdaaDoorW24
namespace Go.Proofs.YtbkbliieappkdaaDoor
set_option linter.unusedSimpArgs false
set_option linter.unusedVariables false
open Go.RowKit Go.Maps

/-- What a cover of a bramble is. -/
abbrev CoverIs (n m : Nat) (y : Nat → Int) (X : Nat) : Prop := LeastFit n (fun s => covTo y s m) X

set_option maxRecDepth 20000 in
set_option maxHeartbeats 2000000 in
theorem Cover_yes {n : Nat} {z : Nat → Int} {a : Option Addr} (cap : Nat) {w : World} (hI : IntsAt w a n z) (hz : InI64 z) (hT : HasTab w) {m : Nat} {y : Nat → Int} {o : Option Addr} (co : Nat) (hco : m ≤ co) (hJ : IntsAt w o m y) (hg : graphB n 9 z = true) (hb : brB n (natG z) m y = true) :
    Calls Tryd.prog 20 #[.slice a n cap, .slice o m co] w fun e w' => (∃ X, e = .returned (.tuple #[.int .i64 (X : Nat), .int .i64 0]) ∧ CoverIs n m y X) ∧ Below w.heap.size w w' := by
  have HI := Lib.hid hI
  have HZ := Lib.hid hz
  have HT := Lib.hid hT
  have HJ := Lib.hid hJ
  have hle := (graphB_le hg).2.1
  clear hI hz hT hJ
  go_enter Tryd.func20, Tryd.ntmps20
  go_wp2_with (first
    | (go_at_call 37; refine (newTown_yes cap HI.out HZ.out hg).mono ?_; rintro e w1 ⟨rfl, hb1, hG⟩; have HB1 := Lib.hid hb1; have HG := Lib.hid hG; have HT1 := Lib.hid (HT.out.below hb1); have HJ1 := Lib.hid (HJ.out.below hb1); clear hb1 hG)
    | (go_at_call 43; refine (isBramble_any HG.out cap HT1.out co hco HJ1.out).mono ?_; rintro e w2 ⟨rfl, rfl⟩; rw [hb])
    | (go_at_call 45; refine (cover_any cap hle co (brB_sets HJ1.out hb)).mono ?_; rintro e w3 ⟨⟨X, rfl, hX⟩, hb3⟩; have HX := Lib.hid hX; have HB3 := Lib.hid (HB1.out.trans (hb3.mono HB1.out.size)); clear hX hb3))
  go_ret2
  exact ⟨⟨X, rfl, HX.out⟩, HB3.out⟩

set_option maxRecDepth 20000 in
set_option maxHeartbeats 2000000 in
theorem Cover_no {n : Nat} {z : Nat → Int} {a : Option Addr} (cap : Nat) {w : World} (hI : IntsAt w a n z) (hz : InI64 z) (hT : HasTab w) {m : Nat} {y : Nat → Int} {o : Option Addr} (co : Nat) (hco : m ≤ co) (hJ : IntsAt w o m y) (hno : (graphB n 9 z && brB n (natG z) m y) = false) :
    Calls Tryd.prog 20 #[.slice a n cap, .slice o m co] w fun e w' => e = .returned (.tuple #[.int .i64 0, .int .i64 2]) ∧ Below w.heap.size w w' := by
  have HI := Lib.hid hI
  have HZ := Lib.hid hz
  have HT := Lib.hid hT
  have HJ := Lib.hid hJ
  clear hI hz hT hJ
  cases hg : graphB n 9 z
  · go_enter Tryd.func20, Tryd.ntmps20
    go_wp2_with (go_at_call 37; refine (newTown_no cap HI.out HZ.out hg).mono ?_; rintro e w1 ⟨rfl, hb1⟩; have HB1 := Lib.hid hb1; clear hb1)
    go_ret2
    exact ⟨rfl, HB1.out⟩
  · rw [hg, Bool.true_and] at hno
    go_enter Tryd.func20, Tryd.ntmps20
    go_wp2_with (first
      | (go_at_call 37; refine (newTown_yes cap HI.out HZ.out hg).mono ?_; rintro e w1 ⟨rfl, hb1, hG⟩; have HB1 := Lib.hid hb1; have HG := Lib.hid hG; have HT1 := Lib.hid (HT.out.below hb1); have HJ1 := Lib.hid (HJ.out.below hb1); clear hb1 hG)
      | (go_at_call 43; refine (isBramble_any HG.out cap HT1.out co hco HJ1.out).mono ?_; rintro e w2 ⟨rfl, rfl⟩; rw [hno]))
    go_ret2
    exact ⟨rfl, HB1.out⟩

set_option maxRecDepth 20000 in
set_option maxHeartbeats 2000000 in
theorem Check_yes {n : Nat} {z : Nat → Int} {a : Option Addr} (cap : Nat) {w : World} (hI : IntsAt w a n z) (hz : InI64 z) (hT : HasTab w) {m : Nat} {y : Nat → Int} {o : Option Addr} (co : Nat) (hco : m ≤ co) (hJ : IntsAt w o m y) (hg : graphB n 9 z = true) (hb : brB n (natG z) m y = true) :
    Calls Tryd.prog 18 #[.slice a n cap, .slice o m co] w fun e w' => (∃ X, e = .returned (.tuple #[.int .i64 (szS n X : Nat), .bool true, .int .i64 0]) ∧ CoverIs n m y X) ∧ Below w.heap.size w w' := by
  have HI := Lib.hid hI
  have HZ := Lib.hid hz
  have HT := Lib.hid hT
  have HJ := Lib.hid hJ
  have hle := (graphB_le hg).2.1
  clear hI hz hT hJ
  go_enter Tryd.func18, Tryd.ntmps18
  go_wp2_with (first
    | (go_at_call 37; refine (newTown_yes cap HI.out HZ.out hg).mono ?_; rintro e w1 ⟨rfl, hb1, hG⟩; have HB1 := Lib.hid hb1; have HG := Lib.hid hG; have HT1 := Lib.hid (HT.out.below hb1); have HJ1 := Lib.hid (HJ.out.below hb1); clear hb1 hG)
    | (go_at_call 43; refine (isBramble_any HG.out cap HT1.out co hco HJ1.out).mono ?_; rintro e w2 ⟨rfl, rfl⟩; rw [hb])
    | (go_at_call 45; refine (cover_any cap hle co (brB_sets HJ1.out hb)).mono ?_; rintro e w3 ⟨⟨X, rfl, hX⟩, hb3⟩; have HX := Lib.hid hX; have HB3 := Lib.hid (HB1.out.trans (hb3.mono HB1.out.size)); clear hX hb3)
    | (go_at_call 44; refine (count_any hle X HX.out.lt _).mono ?_; rintro e w4 ⟨rfl, rfl⟩))
  go_ret3
  exact ⟨⟨X, rfl, HX.out⟩, HB3.out⟩

set_option maxRecDepth 20000 in
set_option maxHeartbeats 2000000 in
theorem Check_bad {n : Nat} {z : Nat → Int} {a : Option Addr} (cap : Nat) {w : World} (hI : IntsAt w a n z) (hz : InI64 z) (hT : HasTab w) {m : Nat} {y : Nat → Int} {o : Option Addr} (co : Nat) (hco : m ≤ co) (hJ : IntsAt w o m y) (hg : graphB n 9 z = true) (hb : brB n (natG z) m y = false) :
    Calls Tryd.prog 18 #[.slice a n cap, .slice o m co] w fun e w' => e = .returned (.tuple #[.int .i64 0, .bool false, .int .i64 0]) ∧ Below w.heap.size w w' := by
  have HI := Lib.hid hI
  have HZ := Lib.hid hz
  have HT := Lib.hid hT
  have HJ := Lib.hid hJ
  clear hI hz hT hJ
  go_enter Tryd.func18, Tryd.ntmps18
  go_wp2_with (first
    | (go_at_call 37; refine (newTown_yes cap HI.out HZ.out hg).mono ?_; rintro e w1 ⟨rfl, hb1, hG⟩; have HB1 := Lib.hid hb1; have HG := Lib.hid hG; have HT1 := Lib.hid (HT.out.below hb1); have HJ1 := Lib.hid (HJ.out.below hb1); clear hb1 hG)
    | (go_at_call 43; refine (isBramble_any HG.out cap HT1.out co hco HJ1.out).mono ?_; rintro e w2 ⟨rfl, rfl⟩; rw [hb]))
  go_ret3
  exact ⟨rfl, HB1.out⟩

set_option maxRecDepth 20000 in
set_option maxHeartbeats 2000000 in
theorem Check_no {n : Nat} {z : Nat → Int} {a : Option Addr} (cap : Nat) {w : World} (hI : IntsAt w a n z) (hz : InI64 z) {m : Nat} {o : Option Addr} (co : Nat) (hg : graphB n 9 z = false) :
    Calls Tryd.prog 18 #[.slice a n cap, .slice o m co] w fun e w' => e = .returned (.tuple #[.int .i64 0, .bool false, .int .i64 2]) ∧ Below w.heap.size w w' := by
  have HI := Lib.hid hI
  have HZ := Lib.hid hz
  clear hI hz
  go_enter Tryd.func18, Tryd.ntmps18
  go_wp2_with (go_at_call 37; refine (newTown_no cap HI.out HZ.out hg).mono ?_; rintro e w1 ⟨rfl, hb1⟩; have HB1 := Lib.hid hb1; clear hb1)
  go_ret3
  exact ⟨rfl, HB1.out⟩

theorem brB_few {n m : Nat} {r : Nat → Nat} {y : Nat → Int} : brB n r (min m 210) y = brB n r m y := by
  by_cases h : m ≤ 210
  · rw [Nat.min_eq_left h]
  · rw [Nat.min_eq_right (by omega), brB_len (Or.inr (by omega)), brB_len (Or.inr (by omega))]

set_option maxRecDepth 200000 in
set_option maxHeartbeats 4000000 in
theorem WidthCovers_walk (n m : Nat) (z y : Nat → Int) (v vo : Value) (w : World) (hA : SliceArg w v n z) (hz : InI64 z) (hO : SliceArg w vo m y) (hT : HasTab w) :
    Calls Tryd.prog 4 #[v, vo] w (LawTrue w) := by
  obtain ⟨a, cap, rfl, hI⟩ := hA.ints
  obtain ⟨o, co, rfl, hJ, hmco⟩ := hO.ints_cap
  have HA := Lib.hid hA
  have HO := Lib.hid hO
  have HJ := Lib.hid hJ
  have HI0 := Lib.hid hI
  have HZ := Lib.hid hz
  have HT := Lib.hid hT
  clear hA hI hz hT hO hJ
  cases hg : graphB n 9 z
  · have HG0 := Lib.hid hg
    have hg13 : graphB (min n 13) 9 z = false := by rw [graphB_few]; exact hg
    have HG := Lib.hid hg13
    have HNO : Hid ((graphB (min n 13) 9 z && brB (min n 13) (natG z) (min m 210) y) = false) := Lib.hid (by rw [hg13]; rfl)
    clear hg hg13
    go_enter Tryd.func4, Tryd.ntmps4
    go_wp2_with fail
    go_at_call 11
    refine (Few_any n z _ _ HA.out).mono ?_
    rintro e w1 ⟨a1, c1, rfl, hi1, hb1⟩
    have HB1 := Lib.hid hb1
    clear hb1
    have HI1 := Lib.hid hi1
    clear hi1
    go_wp2_with fail
    go_at_call 19
    refine (List_cap m y _ _ (SliceArg.below HO.out HB1.out)).mono ?_
    rintro e w2 ⟨a2, c2, rfl, hi2, hc2, hb2⟩
    have HJ2 := Lib.hid hi2
    have HI1' := Lib.hid (HI1.out.below hb2)
    clear hi2
    have HB2 := Lib.hid (HB1.out.trans (hb2.mono HB1.out.size))
    clear hb2
    have HT2 := Lib.hid (HT.out.below HB2.out)
    go_wp2_with fail
    go_at_call 18
    refine (Check_no _ HI1'.out HZ.out _ HG.out).mono ?_
    rintro e w3 ⟨rfl, hb3⟩
    have HB3 := Lib.hid (HB2.out.trans (hb3.mono HB2.out.size))
    clear hb3
    go_wp2_with fail
    go_at_call 11
    refine (Few_any n z _ _ (SliceArg.below HA.out HB3.out)).mono ?_
    rintro e w4 ⟨a4, c4, rfl, hi4, hb4⟩
    have HI4 := Lib.hid hi4
    clear hi4
    have HB4 := Lib.hid (HB3.out.trans (hb4.mono HB3.out.size))
    clear hb4
    go_wp2_with fail
    go_at_call 19
    refine (List_cap m y _ _ (SliceArg.below HO.out HB4.out)).mono ?_
    rintro e w5 ⟨a5, c5, rfl, hi5, hc5, hb5⟩
    have HJ5 := Lib.hid hi5
    have HI4' := Lib.hid (HI4.out.below hb5)
    clear hi5
    have HB5 := Lib.hid (HB4.out.trans (hb5.mono HB4.out.size))
    clear hb5
    have HT5 := Lib.hid (HT.out.below HB5.out)
    go_wp2_with fail
    go_at_call 20
    refine (Cover_no _ HI4'.out HZ.out HT5.out _ hc5 HJ5.out HNO.out).mono ?_
    rintro e w6 ⟨rfl, hb6⟩
    have HB6 := Lib.hid (HB5.out.trans (hb6.mono HB5.out.size))
    clear hb6
    go_wp2_with fail
    go_at_call 12
    refine (ValidR_any n z _ _ _ (HI0.out.below HB6.out) HZ.out).mono ?_
    rintro e w7 ⟨rfl, hb7⟩
    rw [HG0.out]
    have HB7 := Lib.hid (HB6.out.trans (hb7.mono HB6.out.size))
    clear hb7
    go_wp2_with fail
    go_at_call 13
    refine (awake_any _).mono ?_
    rintro e w8 ⟨rfl, hb8⟩
    have HB8 := Lib.hid (HB7.out.trans (hb8.mono HB7.out.size))
    clear hb8
    go_wp2_with fail
    go_ret
    exact ⟨rfl, HB8.out⟩
  · have hn9 := (graphB_le hg).2.1
    have HM : Hid (min n 13 = n) := Lib.hid (by omega)
    have HG := Lib.hid hg
    have HGR := Lib.hid (Gr.of_graph HI0.out hg)
    cases hbr : brB n (natG z) m y
    · have HBF : Hid (brB n (natG z) (min m 210) y = false) := Lib.hid (by rw [brB_few]; exact hbr)
      have HNO : Hid ((graphB n 9 z && brB n (natG z) (min m 210) y) = false) := Lib.hid (by rw [HBF.out, Bool.and_false])
      have HBR : Hid (brB n (fun i => (z i).toNat) m y = false) := Lib.hid hbr
      clear hg hbr
      go_enter Tryd.func4, Tryd.ntmps4
      go_wp2_with fail
      go_at_call 11
      refine (Few_any n z _ _ HA.out).mono ?_
      rintro e w1 ⟨a1, c1, rfl, hi1, hb1⟩
      rw [HM.out] at hi1
      rw [HM.out]
      have HB1 := Lib.hid hb1
      clear hb1
      have HI1 := Lib.hid hi1
      clear hi1
      go_wp2_with fail
      go_at_call 19
      refine (List_cap m y _ _ (SliceArg.below HO.out HB1.out)).mono ?_
      rintro e w2 ⟨a2, c2, rfl, hi2, hc2, hb2⟩
      have HJ2 := Lib.hid hi2
      have HI1' := Lib.hid (HI1.out.below hb2)
      clear hi2
      have HB2 := Lib.hid (HB1.out.trans (hb2.mono HB1.out.size))
      clear hb2
      have HT2 := Lib.hid (HT.out.below HB2.out)
      go_wp2_with fail
      go_at_call 18
      refine (Check_bad _ HI1'.out HZ.out HT2.out _ hc2 HJ2.out HG.out HBF.out).mono ?_
      rintro e w3 ⟨rfl, hb3⟩
      have HB3 := Lib.hid (HB2.out.trans (hb3.mono HB2.out.size))
      clear hb3
      go_wp2_with fail
      go_at_call 11
      refine (Few_any n z _ _ (SliceArg.below HA.out HB3.out)).mono ?_
      rintro e w4 ⟨a4, c4, rfl, hi4, hb4⟩
      rw [HM.out] at hi4
      rw [HM.out]
      have HI4 := Lib.hid hi4
      clear hi4
      have HB4 := Lib.hid (HB3.out.trans (hb4.mono HB3.out.size))
      clear hb4
      go_wp2_with fail
      go_at_call 19
      refine (List_cap m y _ _ (SliceArg.below HO.out HB4.out)).mono ?_
      rintro e w5 ⟨a5, c5, rfl, hi5, hc5, hb5⟩
      have HJ5 := Lib.hid hi5
      have HI4' := Lib.hid (HI4.out.below hb5)
      clear hi5
      have HB5 := Lib.hid (HB4.out.trans (hb5.mono HB4.out.size))
      clear hb5
      have HT5 := Lib.hid (HT.out.below HB5.out)
      go_wp2_with fail
      go_at_call 20
      refine (Cover_no _ HI4'.out HZ.out HT5.out _ hc5 HJ5.out HNO.out).mono ?_
      rintro e w6 ⟨rfl, hb6⟩
      have HB6 := Lib.hid (HB5.out.trans (hb6.mono HB5.out.size))
      clear hb6
      go_wp2_with fail
      go_at_call 12
      refine (ValidR_any n z _ _ _ (HI0.out.below HB6.out) HZ.out).mono ?_
      rintro e w7 ⟨rfl, hb7⟩
      rw [HG.out]
      have HB7 := Lib.hid (HB6.out.trans (hb7.mono HB6.out.size))
      clear hb7
      go_wp2_with fail
      go_at_call 14
      refine (IsBrambleR_any (HGR.out.below HB7.out) _ _ hmco (HJ.out.below HB7.out)).mono ?_
      rintro e w8 ⟨rfl, hb8⟩
      rw [HBR.out]
      have HB8 := Lib.hid (HB7.out.trans (hb8.mono HB7.out.size))
      clear hb8
      go_wp2_with fail
      go_at_call 13
      refine (awake_any _).mono ?_
      rintro e w9 ⟨rfl, hb9⟩
      have HB9 := Lib.hid (HB8.out.trans (hb9.mono HB8.out.size))
      clear hb9
      go_wp2_with fail
      go_ret
      exact ⟨rfl, HB9.out⟩
    · have HBT : Hid (brB n (natG z) (min m 210) y = true) := Lib.hid (by rw [brB_few]; exact hbr)
      have HBR : Hid (brB n (fun i => (z i).toNat) m y = true) := Lib.hid hbr
      have hm200 := (brB_iff hbr).2.1
      have HMM : Hid (min m 210 = m) := Lib.hid (by omega)
      have HST := Lib.hid (brB_sets HJ.out hbr)
      clear hg hbr hm200
      go_enter Tryd.func4, Tryd.ntmps4
      go_wp2_with fail
      go_at_call 11
      refine (Few_any n z _ _ HA.out).mono ?_
      rintro e w1 ⟨a1, c1, rfl, hi1, hb1⟩
      rw [HM.out] at hi1
      rw [HM.out]
      have HB1 := Lib.hid hb1
      clear hb1
      have HI1 := Lib.hid hi1
      clear hi1
      go_wp2_with fail
      go_at_call 19
      refine (List_cap m y _ _ (SliceArg.below HO.out HB1.out)).mono ?_
      rintro e w2 ⟨a2, c2, rfl, hi2, hc2, hb2⟩
      have HJ2 := Lib.hid hi2
      have HI1' := Lib.hid (HI1.out.below hb2)
      clear hi2
      have HB2 := Lib.hid (HB1.out.trans (hb2.mono HB1.out.size))
      clear hb2
      have HT2 := Lib.hid (HT.out.below HB2.out)
      go_wp2_with fail
      go_at_call 18
      refine (Check_yes _ HI1'.out HZ.out HT2.out _ hc2 HJ2.out HG.out HBT.out).mono ?_
      rintro e w3 ⟨⟨X1, rfl, hX1⟩, hb3⟩
      have HX1 := Lib.hid hX1
      clear hX1
      have HB3 := Lib.hid (HB2.out.trans (hb3.mono HB2.out.size))
      clear hb3
      go_wp2_with fail
      go_at_call 11
      refine (Few_any n z _ _ (SliceArg.below HA.out HB3.out)).mono ?_
      rintro e w4 ⟨a4, c4, rfl, hi4, hb4⟩
      rw [HM.out] at hi4
      rw [HM.out]
      have HI4 := Lib.hid hi4
      clear hi4
      have HB4 := Lib.hid (HB3.out.trans (hb4.mono HB3.out.size))
      clear hb4
      go_wp2_with fail
      go_at_call 19
      refine (List_cap m y _ _ (SliceArg.below HO.out HB4.out)).mono ?_
      rintro e w5 ⟨a5, c5, rfl, hi5, hc5, hb5⟩
      have HJ5 := Lib.hid hi5
      have HI4' := Lib.hid (HI4.out.below hb5)
      clear hi5
      have HB5 := Lib.hid (HB4.out.trans (hb5.mono HB4.out.size))
      clear hb5
      have HT5 := Lib.hid (HT.out.below HB5.out)
      go_wp2_with fail
      go_at_call 20
      refine (Cover_yes _ HI4'.out HZ.out HT5.out _ hc5 HJ5.out HG.out HBT.out).mono ?_
      rintro e w6 ⟨⟨X2, rfl, hX2⟩, hb6⟩
      have HX2 := Lib.hid hX2
      clear hX2
      have HB6 := Lib.hid (HB5.out.trans (hb6.mono HB5.out.size))
      clear hb6
      go_wp2_with fail
      go_at_call 12
      refine (ValidR_any n z _ _ _ (HI0.out.below HB6.out) HZ.out).mono ?_
      rintro e w7 ⟨rfl, hb7⟩
      rw [HG.out]
      have HB7 := Lib.hid (HB6.out.trans (hb7.mono HB6.out.size))
      clear hb7
      go_wp2_with fail
      go_at_call 14
      refine (IsBrambleR_any (HGR.out.below HB7.out) _ _ hmco (HJ.out.below HB7.out)).mono ?_
      rintro e w8 ⟨rfl, hb8⟩
      rw [HBR.out]
      have HB8 := Lib.hid (HB7.out.trans (hb8.mono HB7.out.size))
      clear hb8
      go_wp2_with fail
      go_at_call 16
      refine (CoverR_any (HGR.out.below HB8.out) _ _ (HST.out.below HB8.out)).mono ?_
      rintro e w9 ⟨⟨X3, rfl, hX3⟩, rfl⟩
      have h1 := HX1.out
      have h2 := HX2.out
      rw [HMM.out] at h1 h2
      obtain rfl := h1.uniq hX3
      obtain rfl := h2.uniq h1
      have hXl := h1.lt
      have HXL := Lib.hid hXl
      have hsz := szS_le n X2
      clear h1 h2 hX3 HX1 HX2 hXl
      go_wp2_with fail
      go_at_call 15
      refine (Size_any hn9 X2 HXL.out _).mono ?_
      rintro e w10 ⟨rfl, rfl⟩
      go_wp2_with fail
      go_at_call 13
      refine (awake_any _).mono ?_
      rintro e w11 ⟨rfl, hb11⟩
      have HB11 := Lib.hid (HB8.out.trans (hb11.mono HB8.out.size))
      clear hb11
      go_wp2_with fail
      go_ret
      exact ⟨rfl, HB11.out⟩

end Go.Proofs.YtbkbliieappkdaaDoor
