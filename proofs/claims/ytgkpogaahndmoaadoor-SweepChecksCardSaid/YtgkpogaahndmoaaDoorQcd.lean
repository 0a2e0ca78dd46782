/- The contracts of package sweep's CheckBlockage; the walk of the law SweepChecks. -/
import Derived.Test.YtgkpogaahndmoaaDoorQcc
namespace Go.Proofs.YtgkpogaahndmoaaDoor
set_option linter.unusedSimpArgs false
set_option linter.unusedVariables false
open Go.RowKit Go.Maps

theorem ok_grow {n K m : Nat} {r : Nat → Nat} {z : Nat → Int} (h : okAll n r K m z = true) : ∀ k, k < m → (k : Int) ≤ z k := by
  have hk : ∀ k, k < m → lastZ z k < z k := fun k hk => by
    have := List.all_eq_true.1 h k (List.mem_range.2 hk)
    unfold okBl at this
    simp only [Bool.and_eq_true, decide_eq_true_eq] at this
    exact this.1
  intro k
  induction k with
  | zero => intro h0; have := hk 0 h0; unfold lastZ at this; simp at this; omega
  | succ k ih =>
    intro h1
    have h2 := ih (by omega)
    have h3 := hk (k + 1) h1
    unfold lastZ at h3
    simp at h3
    omega
theorem ok_len {n K m : Nat} {r : Nat → Nat} {z : Nat → Int} (h : okAll n r K m z = true) : m ≤ 2 ^ n := by
  apply Classical.byContradiction
  intro hm
  have h1 := ok_grow h (2 ^ n) (by omega)
  have h2 := List.all_eq_true.1 h (2 ^ n) (List.mem_range.2 (by omega))
  unfold okBl at h2
  simp only [Bool.and_eq_true] at h2
  have h3 := (inB_iff.1 h2.2.1).2
  rw [pow_cast] at h3
  omega
theorem blk_few {n K m : Nat} {r : Nat → Nat} {z : Nat → Int} (hn : n ≤ 7) : blkP n r K (min m 140) z = blkP n r K m z := by
  by_cases h : m ≤ 140
  · rw [Nat.min_eq_left h]
  · have h7 := pow_le7 hn
    have key : ∀ q, 128 < q → blkP n r K q z = false := fun q hq => by
      unfold blkP
      cases ha : okAll n r K q z
      · rfl
      · have := ok_len ha; omega
    rw [key _ (by omega), key _ (by omega)]

set_option maxRecDepth 20000 in
set_option maxHeartbeats 1000000 in
theorem CheckB_none {n m : Nat} {z : Nat → Int} {a o : Option Addr} (cap co : Nat) (k : Int) {w : World} (hI : IntsAt w a n z) (hz : InI64 z) (hT : Tab w) (hg : graphB n 7 z = false) :
    Calls Tryd.prog 42 #[.slice a n cap, .int .i64 k, .slice o m co] w fun e w' => e = .returned (.tuple #[.bool false, .int .i64 2]) ∧ Below w.heap.size w w' := by
  have HI := Lib.hid hI
  have HZ := Lib.hid hz
  have HT := Lib.hid hT
  clear hI hz hT
  go_enter Tryd.func42, Tryd.ntmps42
  go_wp2_with (go_at_call 47; refine (newTown_no cap HI.out HZ.out HT.out hg).mono ?_; rintro e w1 ⟨rfl, hb1⟩; have HB1 := Lib.hid hb1; clear hb1)
  go_ret2
  exact ⟨rfl, HB1.out⟩
set_option maxRecDepth 20000 in
set_option maxHeartbeats 1000000 in
theorem CheckB_no {n m : Nat} {z : Nat → Int} {a o : Option Addr} (cap co : Nat) (k : Int) {w : World} (hI : IntsAt w a n z) (hz : InI64 z) (hT : Tab w) (hg : graphB n 7 z = true) (hk : inB k 8 = false) :
    Calls Tryd.prog 42 #[.slice a n cap, .int .i64 k, .slice o m co] w fun e w' => e = .returned (.tuple #[.bool false, .int .i64 2]) ∧ Below w.heap.size w w' := by
  have HI := Lib.hid hI
  have HZ := Lib.hid hz
  have HT := Lib.hid hT
  have HK := Lib.hid hk
  clear hI hz hT hk
  go_enter Tryd.func42, Tryd.ntmps42
  go_wp2_with (first
    | (go_at_call 47; refine (newTown_yes cap HI.out HZ.out HT.out hg).mono ?_; rintro e w1 ⟨rfl, hb1, hG, hT1⟩; have HB1 := Lib.hid hb1; clear hb1 hG hT1)
    | (go_at_call 65; refine (isOrder_any k _).mono ?_; rintro e w2 ⟨rfl, rfl⟩; rw [HK.out]))
  go_ret2
  exact ⟨rfl, HB1.out⟩
set_option maxRecDepth 20000 in
set_option maxHeartbeats 1000000 in
theorem CheckB_yes {n m K : Nat} {z y : Nat → Int} {a o : Option Addr} (cap co : Nat) {w : World} (hI : IntsAt w a n z) (hz : InI64 z) (hO : IntsAt w o m y) (hT : Tab w) (hg : graphB n 7 z = true) (hK : K ≤ 7) :
    Calls Tryd.prog 42 #[.slice a n cap, .int .i64 K, .slice o m co] w fun e w' => e = .returned (.tuple #[.bool (blkP n (natG z) K m y), .int .i64 0]) ∧ Below w.heap.size w w' := by
  have HI := Lib.hid hI
  have HZ := Lib.hid hz
  have HT := Lib.hid hT
  have HO := Lib.hid hO
  have HP := Lib.hid (pl_of hg)
  have HK : Hid (inB (K : Int) 8 = true) := Lib.hid (inB_true (by omega) (by omega))
  obtain ⟨b, hb⟩ : ∃ b, b = blkP n (natG z) K m y := ⟨_, rfl⟩
  have HX := Lib.hid hb
  clear hI hz hT hO hb
  go_enter Tryd.func42, Tryd.ntmps42
  go_wp2_with (first
    | (go_at_call 47; refine (newTown_yes cap HI.out HZ.out HT.out hg).mono ?_; rintro e w1 ⟨rfl, hb1, hG, hT1⟩; have HB1 := Lib.hid hb1; have HG := Lib.hid hG; have HT1 := Lib.hid hT1; clear hb1 hG hT1)
    | (go_at_call 65; refine (isOrder_any K _).mono ?_; rintro e w2 ⟨rfl, rfl⟩; rw [HK.out])
    | (go_at_call 67; refine (isBlockage_any HG.out HP.out cap co K hK (HO.out.below HB1.out) HT1.out).mono ?_; rintro e w3 ⟨rfl, hb3⟩; rw [← HX.out]; have HB3 := Lib.hid (HB1.out.trans (hb3.mono HB1.out.size)); clear hb3))
  go_ret2
  exact ⟨by rw [HX.out]; rfl, HB3.out⟩

set_option maxRecDepth 200000 in
set_option maxHeartbeats 4000000 in
theorem SweepChecks_walk (n m : Nat) (z y : Nat → Int) (v vo : Value) (k : Int) (w : World) (hA : SliceArg w v n z) (hz : InI64 z) (hO : SliceArg w vo m y) (hTab : HasTab w) :
    Calls Tryd.prog 9 #[v, .int .i64 k, vo] w (LawTrue w) := by
  obtain ⟨a, cap, rfl, hI⟩ := hA.ints
  obtain ⟨o, co, rfl, hL⟩ := hO.ints
  have HA := Lib.hid hA
  have HI0 := Lib.hid hI
  have HZ := Lib.hid hz
  have HLA := Lib.hid hO
  have HL0 := Lib.hid hL
  have HT := Lib.hid (Tab.of hTab)
  clear hA hI hz hTab hO hL
  cases hg : graphB n 7 z
  · have HG0 := Lib.hid hg
    have HGM : graphB (min n 11) 7 z = false := by rw [graphB_few]; exact hg
    clear hg
    go_enter Tryd.func9, Tryd.ntmps9
    go_wp2_with fail
    go_at_call 18
    refine (Few_any n z _ _ HA.out).mono ?_
    rintro e w1 ⟨a1, c1, rfl, hi1, hb1⟩
    have HB1 := Lib.hid hb1
    have HI1 := Lib.hid hi1
    clear hb1 hi1
    go_wp2_with fail
    go_at_call 19
    refine (List_any m y _ _ (HLA.out.below HB1.out)).mono ?_
    rintro e w2 ⟨a2, c2, rfl, hi2, hb2⟩
    have HX2 := Lib.hid hb2
    have HB2 := Lib.hid (HB1.out.trans (hb2.mono HB1.out.size))
    clear hb2
    clear hi2
    go_wp2_with fail
    go_at_call 42
    refine (CheckB_none _ _ _ (HI1.out.below HX2.out) HZ.out (HT.out.below HB2.out) HGM).mono ?_
    rintro e w3 ⟨rfl, hb3⟩
    have HB3 := Lib.hid (HB2.out.trans (hb3.mono HB2.out.size))
    clear hb3
    go_wp2_with fail
    go_at_call 21
    refine (ValidR_any n z _ _ _ (HI0.out.below HB3.out) HZ.out).mono ?_
    rintro e w4 ⟨rfl, hb4⟩
    rw [HG0.out]
    have HB4 := Lib.hid (HB3.out.trans (hb4.mono HB3.out.size))
    clear hb4
    go_wp2_with fail
    go_at_call 22
    refine (awake_any _ (HT.out.below HB4.out)).mono ?_
    rintro e w5 ⟨rfl, hb5⟩
    have HB5 := Lib.hid (HB4.out.trans (hb5.mono HB4.out.size))
    clear hb5
    go_wp2_with fail
    go_ret
    exact ⟨rfl, HB5.out⟩
  · have hP := pl_of hg
    have hn7 := hP.le
    have hmin : min n 11 = n := by omega
    have HM : Hid (min n 11 = n) := Lib.hid hmin
    have HG0 := Lib.hid hg
    have HPL := Lib.hid hP
    have HGR := Lib.hid (GrAt.same HI0.out hg)
    clear hmin hP hg
    cases hk : inB k 8
    · have HK := Lib.hid hk
      have hkk : k < 0 ∨ 7 < k := by
        unfold inB at hk
        rw [decide_eq_false_iff_not] at hk
        omega
      clear hk
      go_enter Tryd.func9, Tryd.ntmps9
      go_wp2_with fail
      go_at_call 18
      refine (Few_any n z _ _ HA.out).mono ?_
      rintro e w1 ⟨a1, c1, rfl, hi1, hb1⟩
      rw [HM.out] at hi1
      rw [HM.out]
      have HB1 := Lib.hid hb1
      have HI1 := Lib.hid hi1
      clear hb1 hi1
      go_wp2_with fail
      go_at_call 19
      refine (List_any m y _ _ (HLA.out.below HB1.out)).mono ?_
      rintro e w2 ⟨a2, c2, rfl, hi2, hb2⟩
      have HX2 := Lib.hid hb2
      have HB2 := Lib.hid (HB1.out.trans (hb2.mono HB1.out.size))
      clear hb2
      clear hi2
      go_wp2_with fail
      go_at_call 42
      refine (CheckB_no _ _ _ (HI1.out.below HX2.out) HZ.out (HT.out.below HB2.out) HG0.out HK.out).mono ?_
      rintro e w3 ⟨rfl, hb3⟩
      have HB3 := Lib.hid (HB2.out.trans (hb3.mono HB2.out.size))
      clear hb3
      go_wp2_with fail
      go_at_call 21
      refine (ValidR_any n z _ _ _ (HI0.out.below HB3.out) HZ.out).mono ?_
      rintro e w4 ⟨rfl, hb4⟩
      rw [HG0.out]
      have HB4 := Lib.hid (HB3.out.trans (hb4.mono HB3.out.size))
      clear hb4
      rcases hkk with hkk | hkk
      all_goals
        go_wp2_with fail
        go_at_call 22
        refine (awake_any _ (HT.out.below HB4.out)).mono ?_
        rintro e w5 ⟨rfl, hb5⟩
        have HB5 := Lib.hid (HB4.out.trans (hb5.mono HB4.out.size))
        clear hb5
        go_wp2_with fail
        go_ret
        exact ⟨rfl, HB5.out⟩
    · obtain ⟨k1, k2⟩ := inB_iff.1 hk
      obtain ⟨K, rfl⟩ : ∃ K : Nat, k = K := ⟨k.toNat, by omega⟩
      have hK : K ≤ 7 := by omega
      obtain ⟨b, hb⟩ : ∃ b, b = blkP n (natG z) K m y := ⟨_, rfl⟩
      have HBP : Hid (blkP n (natG z) K (min m 140) y = b) := Lib.hid (by rw [blk_few hn7, hb])
      have HBR : Hid (blkR n (natG z) K m y = b) := Lib.hid (by rw [← blk_same HPL.out, hb])
      have hbb : (b == b) = true := by simp
      clear hk k1 k2 hb
      go_enter Tryd.func9, Tryd.ntmps9
      go_wp2_with fail
      go_at_call 18
      refine (Few_any n z _ _ HA.out).mono ?_
      rintro e w1 ⟨a1, c1, rfl, hi1, hb1⟩
      rw [HM.out] at hi1
      rw [HM.out]
      have HB1 := Lib.hid hb1
      have HI1 := Lib.hid hi1
      clear hb1 hi1
      go_wp2_with fail
      go_at_call 19
      refine (List_any m y _ _ (HLA.out.below HB1.out)).mono ?_
      rintro e w2 ⟨a2, c2, rfl, hi2, hb2⟩
      have HX2 := Lib.hid hb2
      have HI2 := Lib.hid hi2
      have HB2 := Lib.hid (HB1.out.trans (hb2.mono HB1.out.size))
      clear hb2
      clear hi2
      go_wp2_with fail
      go_at_call 42
      refine (CheckB_yes _ _ (HI1.out.below HX2.out) HZ.out HI2.out (HT.out.below HB2.out) HG0.out hK).mono ?_
      rintro e w3 ⟨rfl, hb3⟩
      rw [HBP.out]
      have HB3 := Lib.hid (HB2.out.trans (hb3.mono HB2.out.size))
      clear hb3
      go_wp2_with fail
      go_at_call 21
      refine (ValidR_any n z _ _ _ (HI0.out.below HB3.out) HZ.out).mono ?_
      rintro e w4 ⟨rfl, hb4⟩
      rw [HG0.out]
      have HB4 := Lib.hid (HB3.out.trans (hb4.mono HB3.out.size))
      clear hb4
      go_wp2_with fail
      go_at_call 41
      refine (IsBlockageR_any (HGR.out.below HB4.out) HPL.out _ _ K hK (HL0.out.below HB4.out)).mono ?_
      rintro e w5 ⟨rfl, hb5⟩
      rw [HBR.out]
      have HB5 := Lib.hid (HB4.out.trans (hb5.mono HB4.out.size))
      clear hb5
      go_wp2_with fail
      go_at_call 22
      refine (awake_any _ (HT.out.below HB5.out)).mono ?_
      rintro e w6 ⟨rfl, hb6⟩
      have HB6 := Lib.hid (HB5.out.trans (hb6.mono HB5.out.size))
      clear hb6
      go_wp2_with fail
      go_ret
      exact ⟨rfl, HB6.out⟩

end Go.Proofs.YtgkpogaahndmoaaDoor
