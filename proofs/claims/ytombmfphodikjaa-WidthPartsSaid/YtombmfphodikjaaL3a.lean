/- The walk of the law WidthLeast. -/
import Derived.Test.YtombmfphodikjaaW12
namespace Go.Proofs.Ytombmfphodikjaa
set_option linter.unusedSimpArgs false
set_option linter.unusedVariables false
open Go.RowKit Go.Maps

/-- What a law returns: true, and nothing that was there has turned. -/
def LawTrue (w : World) (e : Ending) (w' : World) : Prop := e = .returned (.bool true) ∧ Below w.heap.size w w'

theorem graphB_few {n : Nat} {z : Nat → Int} : graphB (min n 13) 9 z = graphB n 9 z := by
  by_cases h : n ≤ 13
  · rw [Nat.min_eq_left h]
  · rw [Nat.min_eq_right (by omega), graphB_no (Or.inr (by omega)), graphB_no (Or.inr (by omega))]
theorem ordB_few {n m : Nat} {y : Nat → Int} (hn : n ≤ 9) : ordB n (min m 210) y = ordB n m y := by
  by_cases h : m ≤ 210
  · rw [Nat.min_eq_left h]
  · rw [Nat.min_eq_right (by omega), ordB_len (by omega), ordB_len (by omega)]
theorem orderG_ord {n : Nat} {z : Nat → Int} : ordB n (orderG n z).length (listZ (orderG n z)) = true := by
  have ht : ∀ g v, v < n → tn n (natG z) g v ≤ n := fun _ _ _ => tn_le _ _ _ _
  have hl : (orderG n z).length = n := first_len ht (Nat.le_refl _)
  rw [hl]
  exact ordB_good (first_ord ht (Nat.le_refl _))
theorem orderG_len {n : Nat} {z : Nat → Int} : (orderG n z).length = n := first_len (fun _ _ _ => tn_le _ _ _ _) (Nat.le_refl _)
theorem orderG_alo {n : Nat} {z : Nat → Int} : alo (tn n (natG z)) (listZ (orderG n z)) n = widthG n z := first_alo (fun _ _ _ => tn_le _ _ _ _)

set_option maxRecDepth 200000 in
set_option maxHeartbeats 2000000 in
theorem WidthLeast_no (n m : Nat) (z y : Nat → Int) (v vo : Value) (w : World) (hA : SliceArg w v n z) (hz : InI64 z) (hg : graphB n 9 z = false) :
    Calls Try.prog 7 #[v, vo] w (LawTrue w) := by
  obtain ⟨a, cap, rfl, hI⟩ := hA.ints
  have HA := Lib.hid hA
  have HZ := Lib.hid hz
  have HG : Hid (graphB (min n 13) 9 z = false) := Lib.hid (by rw [graphB_few]; exact hg)
  clear hA hI hz hg
  go_enter Try.func7, Try.ntmps7
  go_wp2_with fail
  go_at_call 13
  refine (Few_any n z _ _ HA.out).mono ?_
  rintro e w1 ⟨a1, c1, rfl, hi1, hb1⟩
  have HB1 := Lib.hid hb1
  clear hb1
  have HI1 := Lib.hid hi1
  clear hi1
  go_wp2_with fail
  go_at_call 12
  refine (Width_no _ HI1.out HZ.out HG.out).mono ?_
  rintro e w2 ⟨rfl, hb2⟩
  have HB2 := Lib.hid (HB1.out.trans (hb2.mono HB1.out.size))
  clear hb2
  go_wp2_with fail
  go_at_call 13
  refine (Few_any n z _ _ (SliceArg.below HA.out HB2.out)).mono ?_
  rintro e w3 ⟨a3, c3, rfl, hi3, hb3⟩
  have HI3 := Lib.hid hi3
  clear hi3
  have HB3 := Lib.hid (HB2.out.trans (hb3.mono HB2.out.size))
  clear hb3
  go_wp2_with fail
  go_at_call 14
  refine (Order_no _ HI3.out HZ.out HG.out).mono ?_
  rintro e w4 ⟨rfl, hb4⟩
  have HB4 := Lib.hid (HB3.out.trans (hb4.mono HB3.out.size))
  clear hb4
  go_wp2_with fail
  go_at_call 18
  refine (awake_any _).mono ?_
  rintro e w8 ⟨rfl, hb8⟩
  have HB8 := Lib.hid (HB4.out.trans (hb8.mono HB4.out.size))
  clear hb8
  go_wp2_with fail
  go_ret
  exact ⟨rfl, HB8.out⟩

set_option maxRecDepth 200000 in
set_option maxHeartbeats 4000000 in
theorem WidthLeast_yes (n m : Nat) (z y : Nat → Int) (v vo : Value) (w : World) (hA : SliceArg w v n z) (hz : InI64 z) (hO : SliceArg w vo m y) (hg : graphB n 9 z = true) :
    Calls Try.prog 7 #[v, vo] w (LawTrue w) := by
  obtain ⟨a, cap, rfl, hI⟩ := hA.ints
  obtain ⟨o, co, rfl, hJ⟩ := hO.ints
  have hn9 := (graphB_le hg).2.1
  have HM : Hid (min n 13 = n) := Lib.hid (by omega)
  have HA := Lib.hid hA
  have HO := Lib.hid hO
  have HJ := Lib.hid hJ
  have HZ := Lib.hid hz
  have HG := Lib.hid hg
  have hol : (orderG n z).length = n := orderG_len
  obtain ⟨W, hW⟩ : ∃ W, W = widthG n z := ⟨_, rfl⟩
  have HW := Lib.hid hW
  have hW9 : W ≤ 9 := by
    rw [hW]
    exact Nat.le_trans (rst_le (Nat.two_pow_pos n)) hn9
  have HOB := Lib.hid (orderG_ord (n := n) (z := z))
  have HOA : Hid (alo (tn n (natG z)) (listZ (orderG n z)) n = W) := Lib.hid (by rw [hW]; exact orderG_alo)
  have HOL := Lib.hid hol
  clear hA hI hz hg hO hJ hW hol
  cases hob : ordB n m y
  · have HOBY : Hid ((graphB n 9 z && ordB n (min m 210) y) = false) := Lib.hid (by rw [ordB_few hn9, hob, Bool.and_false])
    clear hob
    go_enter Try.func7, Try.ntmps7
    go_wp2_with fail
    go_at_call 13
    refine (Few_any n z _ _ HA.out).mono ?_
    rintro e w1 ⟨a1, c1, rfl, hi1, hb1⟩
    rw [HM.out] at hi1
    rw [HM.out]
    have HB1 := Lib.hid hb1
    clear hb1
    have HI1 := Lib.hid hi1
    clear hi1
    go_wp2_with fail
    go_at_call 12
    refine (Width_yes _ HI1.out HZ.out HG.out).mono ?_
    rintro e w2 ⟨rfl, hb2⟩
    rw [← HW.out]
    have HB2 := Lib.hid (HB1.out.trans (hb2.mono HB1.out.size))
    clear hb2
    go_wp2_with fail
    go_at_call 13
    refine (Few_any n z _ _ (SliceArg.below HA.out HB2.out)).mono ?_
    rintro e w3 ⟨a3, c3, rfl, hi3, hb3⟩
    rw [HM.out] at hi3
    rw [HM.out]
    have HI3 := Lib.hid hi3
    clear hi3
    have HB3 := Lib.hid (HB2.out.trans (hb3.mono HB2.out.size))
    clear hb3
    go_wp2_with fail
    go_at_call 14
    refine (Order_yes _ HI3.out HZ.out HG.out).mono ?_
    rintro e w4 ⟨vl, rfl, hl4, hb4⟩
    have HB4 := Lib.hid (HB3.out.trans (hb4.mono HB3.out.size))
    clear hb4
    obtain ⟨al, cl, hvl, hil⟩ := NatsOwn.ints hl4 (by rw [HOL.out]; omega)
    subst hvl
    have HIL := Lib.hid hil
    clear hl4 hil
    go_wp2_with fail
    go_at_call 13
    refine (Few_any n z _ _ (SliceArg.below HA.out HB4.out)).mono ?_
    rintro e w5 ⟨a5, c5, rfl, hi5, hb5⟩
    rw [HM.out] at hi5
    rw [HM.out]
    have HI5 := Lib.hid hi5
    have HIL5 := Lib.hid (HIL.out.below hb5)
    clear hi5
    have HB5 := Lib.hid (HB4.out.trans (hb5.mono HB4.out.size))
    clear hb5
    go_wp2_with fail
    go_at_call 15
    refine (Along_yes _ _ HI5.out HZ.out HG.out HIL5.out HOB.out).mono ?_
    rintro e w5' ⟨rfl, hb5'⟩
    rw [HOA.out]
    have HIL6 := Lib.hid (HIL5.out.below hb5')
    have HB5' := Lib.hid (HB5.out.trans (hb5'.mono HB5.out.size))
    clear hb5'
    go_wp2_with fail
    go_at_call 13
    refine (Few_any n z _ _ (SliceArg.below HA.out HB5'.out)).mono ?_
    rintro e w6 ⟨a6, c6, rfl, hi6, hb6⟩
    rw [HM.out] at hi6
    rw [HM.out]
    have HI6 := Lib.hid hi6
    have HIL7 := Lib.hid (HIL6.out.below hb6)
    clear hi6
    have HB6 := Lib.hid (HB5'.out.trans (hb6.mono HB5'.out.size))
    clear hb6
    go_wp2_with fail
    go_at_call 16
    refine (List_any m y _ _ (SliceArg.below HO.out HB6.out)).mono ?_
    rintro e w7 ⟨a7, c7, rfl, hi7, hb7⟩
    have HI7 := Lib.hid hi7
    have HI6' := Lib.hid (HI6.out.below hb7)
    clear hi7
    have HB7 := Lib.hid (HB6.out.trans (hb7.mono HB6.out.size))
    clear hb7
    go_wp2_with fail
    go_at_call 15
    refine (Along_no _ _ HI6'.out HZ.out HI7.out HOBY.out).mono ?_
    rintro e w8 ⟨rfl, hb8⟩
    have HB8 := Lib.hid (HB7.out.trans (hb8.mono HB7.out.size))
    clear hb8
    go_wp2_with fail
    go_at_call 18
    refine (awake_any _).mono ?_
    rintro e w9 ⟨rfl, hb9⟩
    have HB9 := Lib.hid (HB8.out.trans (hb9.mono HB8.out.size))
    clear hb9
    go_wp2_with fail
    go_ret
    exact ⟨rfl, HB9.out⟩
  · obtain ⟨hmn, hok⟩ := ordB_iff hob
    have HOBY : Hid (ordB n (min m 210) y = true) := Lib.hid (by rw [ordB_few hn9, hob])
    subst hmn
    obtain ⟨X, hX⟩ : ∃ X, X = alo (tn m (natG z)) y m := ⟨_, rfl⟩
    have hWX : W ≤ X := by rw [hX, HW.out]; exact alo_least hok
    have hX9 : X ≤ 9 := by
      rw [hX]
      exact Nat.le_trans (alo_bd m fun i _ => tn_le _ _ _ _) hn9
    have HX := Lib.hid hX
    have HLEX : Hid (X ≤ W → ∀ k, k < m → (∀ i, i < k → listZ (orderG m z) i = y i) → listZ (orderG m z) k ≤ y k) := Lib.hid fun hle k hk hs => by
      rw [hX, HW.out] at hle
      exact first_lex (fun _ _ _ => tn_le _ _ _ _) hok hle hk hs
    clear hob hok hX
    by_cases hXW : X ≤ W
    · obtain rfl : X = W := by omega
      have HC := Lib.hid (HLEX.out hXW)
      clear hXW hWX
      go_enter Try.func7, Try.ntmps7
      go_wp2_with fail
      go_at_call 13
      refine (Few_any m z _ _ HA.out).mono ?_
      rintro e w1 ⟨a1, c1, rfl, hi1, hb1⟩
      rw [HM.out] at hi1
      rw [HM.out]
      have HB1 := Lib.hid hb1
      clear hb1
      have HI1 := Lib.hid hi1
      clear hi1
      go_wp2_with fail
      go_at_call 12
      refine (Width_yes _ HI1.out HZ.out HG.out).mono ?_
      rintro e w2 ⟨rfl, hb2⟩
      rw [← HW.out]
      have HB2 := Lib.hid (HB1.out.trans (hb2.mono HB1.out.size))
      clear hb2
      go_wp2_with fail
      go_at_call 13
      refine (Few_any m z _ _ (SliceArg.below HA.out HB2.out)).mono ?_
      rintro e w3 ⟨a3, c3, rfl, hi3, hb3⟩
      rw [HM.out] at hi3
      rw [HM.out]
      have HI3 := Lib.hid hi3
      clear hi3
      have HB3 := Lib.hid (HB2.out.trans (hb3.mono HB2.out.size))
      clear hb3
      go_wp2_with fail
      go_at_call 14
      refine (Order_yes _ HI3.out HZ.out HG.out).mono ?_
      rintro e w4 ⟨vl, rfl, hl4, hb4⟩
      have HB4 := Lib.hid (HB3.out.trans (hb4.mono HB3.out.size))
      clear hb4
      obtain ⟨al, cl, hvl, hil⟩ := NatsOwn.ints hl4 (by rw [HOL.out]; omega)
      subst hvl
      have HIL := Lib.hid hil
      clear hl4 hil
      go_wp2_with fail
      go_at_call 13
      refine (Few_any m z _ _ (SliceArg.below HA.out HB4.out)).mono ?_
      rintro e w5 ⟨a5, c5, rfl, hi5, hb5⟩
      rw [HM.out] at hi5
      rw [HM.out]
      have HI5 := Lib.hid hi5
      have HIL5 := Lib.hid (HIL.out.below hb5)
      clear hi5
      have HB5 := Lib.hid (HB4.out.trans (hb5.mono HB4.out.size))
      clear hb5
      go_wp2_with fail
      go_at_call 15
      refine (Along_yes _ _ HI5.out HZ.out HG.out HIL5.out HOB.out).mono ?_
      rintro e w5' ⟨rfl, hb5'⟩
      rw [HOA.out]
      have HIL6 := Lib.hid (HIL5.out.below hb5')
      have HB5' := Lib.hid (HB5.out.trans (hb5'.mono HB5.out.size))
      clear hb5'
      go_wp2_with fail
      go_at_call 13
      refine (Few_any m z _ _ (SliceArg.below HA.out HB5'.out)).mono ?_
      rintro e w6 ⟨a6, c6, rfl, hi6, hb6⟩
      rw [HM.out] at hi6
      rw [HM.out]
      have HI6 := Lib.hid hi6
      have HIL7 := Lib.hid (HIL6.out.below hb6)
      clear hi6
      have HB6 := Lib.hid (HB5'.out.trans (hb6.mono HB5'.out.size))
      clear hb6
      go_wp2_with fail
      go_at_call 16
      refine (List_any m y _ _ (SliceArg.below HO.out HB6.out)).mono ?_
      rintro e w7 ⟨a7, c7, rfl, hi7, hb7⟩
      have HI7 := Lib.hid hi7
      have HI6' := Lib.hid (HI6.out.below hb7)
      have HIL8 := Lib.hid (HIL7.out.below hb7)
      clear hi7
      have HB7 := Lib.hid (HB6.out.trans (hb7.mono HB6.out.size))
      clear hb7
      go_wp2_with fail
      go_at_call 15
      refine (Along_yes _ _ HI6'.out HZ.out HG.out HI7.out HOBY.out).mono ?_
      rintro e w8 ⟨rfl, hb8⟩
      rw [← HX.out]
      have HIL9 := Lib.hid (HIL8.out.below hb8)
      have HB8 := Lib.hid (HB7.out.trans (hb8.mono HB7.out.size))
      clear hb8
      rw [HOL.out] at HIL9
      rw [HOL.out]
      go_wp2_with fail
      go_at_call 35
      refine (Compare_any _ _ HIL9.out (HJ.out.below HB8.out)).mono ?_
      rintro e w8' ⟨c, rfl, hc, rfl⟩
      have hc0 : c ≤ 0 := hc HC.out
      clear hc
      go_wp2_with fail
      go_at_call 18
      refine (awake_any _).mono ?_
      rintro e w9 ⟨rfl, hb9⟩
      have HB9 := Lib.hid (HB8.out.trans (hb9.mono HB8.out.size))
      clear hb9
      go_wp2_with fail
      go_ret
      exact ⟨rfl, HB9.out⟩
    · clear hWX
      have hlt : W < X := by omega
      clear hXW
      go_enter Try.func7, Try.ntmps7
      go_wp2_with fail
      go_at_call 13
      refine (Few_any m z _ _ HA.out).mono ?_
      rintro e w1 ⟨a1, c1, rfl, hi1, hb1⟩
      rw [HM.out] at hi1
      rw [HM.out]
      have HB1 := Lib.hid hb1
      clear hb1
      have HI1 := Lib.hid hi1
      clear hi1
      go_wp2_with fail
      go_at_call 12
      refine (Width_yes _ HI1.out HZ.out HG.out).mono ?_
      rintro e w2 ⟨rfl, hb2⟩
      rw [← HW.out]
      have HB2 := Lib.hid (HB1.out.trans (hb2.mono HB1.out.size))
      clear hb2
      go_wp2_with fail
      go_at_call 13
      refine (Few_any m z _ _ (SliceArg.below HA.out HB2.out)).mono ?_
      rintro e w3 ⟨a3, c3, rfl, hi3, hb3⟩
      rw [HM.out] at hi3
      rw [HM.out]
      have HI3 := Lib.hid hi3
      clear hi3
      have HB3 := Lib.hid (HB2.out.trans (hb3.mono HB2.out.size))
      clear hb3
      go_wp2_with fail
      go_at_call 14
      refine (Order_yes _ HI3.out HZ.out HG.out).mono ?_
      rintro e w4 ⟨vl, rfl, hl4, hb4⟩
      have HB4 := Lib.hid (HB3.out.trans (hb4.mono HB3.out.size))
      clear hb4
      obtain ⟨al, cl, hvl, hil⟩ := NatsOwn.ints hl4 (by rw [HOL.out]; omega)
      subst hvl
      have HIL := Lib.hid hil
      clear hl4 hil
      go_wp2_with fail
      go_at_call 13
      refine (Few_any m z _ _ (SliceArg.below HA.out HB4.out)).mono ?_
      rintro e w5 ⟨a5, c5, rfl, hi5, hb5⟩
      rw [HM.out] at hi5
      rw [HM.out]
      have HI5 := Lib.hid hi5
      have HIL5 := Lib.hid (HIL.out.below hb5)
      clear hi5
      have HB5 := Lib.hid (HB4.out.trans (hb5.mono HB4.out.size))
      clear hb5
      go_wp2_with fail
      go_at_call 15
      refine (Along_yes _ _ HI5.out HZ.out HG.out HIL5.out HOB.out).mono ?_
      rintro e w5' ⟨rfl, hb5'⟩
      rw [HOA.out]
      have HIL6 := Lib.hid (HIL5.out.below hb5')
      have HB5' := Lib.hid (HB5.out.trans (hb5'.mono HB5.out.size))
      clear hb5'
      go_wp2_with fail
      go_at_call 13
      refine (Few_any m z _ _ (SliceArg.below HA.out HB5'.out)).mono ?_
      rintro e w6 ⟨a6, c6, rfl, hi6, hb6⟩
      rw [HM.out] at hi6
      rw [HM.out]
      have HI6 := Lib.hid hi6
      have HIL7 := Lib.hid (HIL6.out.below hb6)
      clear hi6
      have HB6 := Lib.hid (HB5'.out.trans (hb6.mono HB5'.out.size))
      clear hb6
      go_wp2_with fail
      go_at_call 16
      refine (List_any m y _ _ (SliceArg.below HO.out HB6.out)).mono ?_
      rintro e w7 ⟨a7, c7, rfl, hi7, hb7⟩
      have HI7 := Lib.hid hi7
      have HI6' := Lib.hid (HI6.out.below hb7)
      have HIL8 := Lib.hid (HIL7.out.below hb7)
      clear hi7
      have HB7 := Lib.hid (HB6.out.trans (hb7.mono HB6.out.size))
      clear hb7
      go_wp2_with fail
      go_at_call 15
      refine (Along_yes _ _ HI6'.out HZ.out HG.out HI7.out HOBY.out).mono ?_
      rintro e w8 ⟨rfl, hb8⟩
      rw [← HX.out]
      have HIL9 := Lib.hid (HIL8.out.below hb8)
      have HB8 := Lib.hid (HB7.out.trans (hb8.mono HB7.out.size))
      clear hb8
      rw [HOL.out] at HIL9
      rw [HOL.out]
      go_wp2_with fail
      go_at_call 35
      refine (Compare_any _ _ HIL9.out (HJ.out.below HB8.out)).mono ?_
      rintro e w8' ⟨c, rfl, hc, rfl⟩
      clear hc
      by_cases hc0 : c ≤ 0
      all_goals
        go_wp2_with fail
        go_at_call 18
        refine (awake_any _).mono ?_
        rintro e w9 ⟨rfl, hb9⟩
        have HB9 := Lib.hid (HB8.out.trans (hb9.mono HB8.out.size))
        clear hb9
        go_wp2_with fail
        go_ret
        exact ⟨rfl, HB9.out⟩

theorem WidthLeast_walk (n m : Nat) (z y : Nat → Int) (v vo : Value) (w : World) (hA : SliceArg w v n z) (hz : InI64 z) (hO : SliceArg w vo m y) : Calls Try.prog 7 #[v, vo] w (LawTrue w) := by
  cases hg : graphB n 9 z
  · exact WidthLeast_no n m z y v vo w hA hz hg
  · exact WidthLeast_yes n m z y v vo w hA hz hO hg

end Go.Proofs.Ytombmfphodikjaa
