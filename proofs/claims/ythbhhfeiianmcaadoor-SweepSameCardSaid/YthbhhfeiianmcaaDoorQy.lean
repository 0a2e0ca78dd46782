/- The contracts of package sweep's Follow; the walk of the law SweepPaths. -/
import Derived.Test.YthbhhfeiianmcaaDoorQx
import Derived.Test.YthbhhfeiianmcaaDoorQk
namespace Go.Proofs.YthbhhfeiianmcaaDoor
set_option linter.unusedSimpArgs false
set_option linter.unusedVariables false
open Go.RowKit Go.Maps

theorem own_arg {w : World} {base : Nat} {v : Value} {n : Nat} {z : Nat → Int} (h : w.ownsRow base 3 1 v n (intL z n)) : SliceArg w v n z := by
  rcases h.2 with h1 | ⟨g, cap, cur, hv, hg, hh, hc1, hc2, _⟩
  · exact Or.inl h1
  · subst hv
    refine Or.inr ⟨_, cap, rfl, hc1, hc2, fun _ => ⟨g, 0, rfl, (Array.getElem?_eq_some_iff.1 hh).1, fun i hi => ?_⟩⟩
    rw [Nat.zero_add, World.ownsRow.cellAt h i (by omega)]
    unfold intL
    exact map_range_get _ hi
theorem ActsOwn.below {T : TypeId} {w w' : World} {base : Nat} {v : Value} {L : Acts} (h : ActsOwn T w base v L) (hb : Below w.heap.size w w') : ActsOwn T w' base v L := by
  unfold ActsOwn at *
  exact ownsRow_below h hb (Nat.le_refl _)
theorem path_few {n m : Nat} {r : Nat → Nat} {y : Nat → Int} : pathB n r (min m 140) y = pathB n r m y := by
  by_cases h : m ≤ 140
  · rw [Nat.min_eq_left h]
  · rw [Nat.min_eq_right (by omega), path_len (by omega), path_len (by omega)]

set_option maxRecDepth 20000 in
set_option maxHeartbeats 1000000 in
theorem Follow_yes {n m : Nat} {z y : Nat → Int} {a o : Option Addr} (cap co : Nat) {w : World} (hI : IntsAt w a n z) (hz : InI64 z) (hA : SliceArg w (.slice o m co) m y) (hT : Tab w) (hg : graphB n 7 z = true) (hp : pathB n (natG z) m y = true) :
    Calls Tryd.prog 30 #[.slice a n cap, .slice o m co] w fun e w' => ∃ v, e = .returned (.tuple #[v, .int .i64 0]) ∧ ActsOwn 88 w' w.heap.size v (folL (setZ y) m (m + 1)) ∧ Below w.heap.size w w' := by
  have HI := Lib.hid hI
  have HZ := Lib.hid hz
  have HT := Lib.hid hT
  have HA := Lib.hid hA
  have HL : Hid (IntsAt w o m y) := Lib.hid (by
    obtain ⟨a', c', e, hi⟩ := hA.ints
    cases e; exact hi)
  have HPB := Lib.hid hp
  have HPI := Lib.hid (path_iff.1 hp)
  have HP := Lib.hid (pl_of hg)
  clear hI hz hT hA hp
  go_enter Tryd.func30, Tryd.ntmps30
  go_wp2_with (first
    | (go_at_call 47; refine (newTown_yes cap HI.out HZ.out HT.out hg).mono ?_; rintro e w1 ⟨rfl, hb1, hG, hT1⟩; have HB1 := Lib.hid hb1; have HG := Lib.hid hG; have HT1 := Lib.hid hT1; clear hb1 hG hT1)
    | (go_at_call 59; refine (isDecomposition_any HG.out HP.out.le HP.out.bd cap co (HL.out.below HB1.out) HT1.out).mono ?_; rintro e w2 ⟨rfl, hb2⟩; rw [HPB.out]; have HX2 := Lib.hid hb2; have HB2 := Lib.hid (HB1.out.trans (hb2.mono HB1.out.size)); clear hb2)
    | (go_at_call 61; refine (follow_any HP.out.le (HA.out.below HB2.out) HPI.out.1 HPI.out.2.1 HPI.out.2.2.1 (HT.out.below HB2.out)).mono ?_; rintro e w3 ⟨v, rfl, ho3, hb3⟩; have HO3 := Lib.hid ho3; have HB3 := Lib.hid (HB2.out.trans (hb3.mono HB2.out.size)); clear ho3 hb3))
  go_ret2
  exact ⟨v, rfl, ownsRow_base HO3.out HB2.out.size, HB3.out⟩
set_option maxRecDepth 20000 in
set_option maxHeartbeats 1000000 in
theorem Follow_no {n m : Nat} {z y : Nat → Int} {a o : Option Addr} (cap co : Nat) {w : World} (hI : IntsAt w a n z) (hz : InI64 z) (hL : IntsAt w o m y) (hT : Tab w) (hg : graphB n 7 z = true) (hp : pathB n (natG z) m y = false) :
    Calls Tryd.prog 30 #[.slice a n cap, .slice o m co] w fun e w' => e = .returned (.tuple #[.slice none 0 0, .int .i64 2]) ∧ Below w.heap.size w w' := by
  have HI := Lib.hid hI
  have HZ := Lib.hid hz
  have HT := Lib.hid hT
  have HL := Lib.hid hL
  have HPB := Lib.hid hp
  have HP := Lib.hid (pl_of hg)
  clear hI hz hT hL hp
  go_enter Tryd.func30, Tryd.ntmps30
  go_wp2_with (first
    | (go_at_call 47; refine (newTown_yes cap HI.out HZ.out HT.out hg).mono ?_; rintro e w1 ⟨rfl, hb1, hG, hT1⟩; have HB1 := Lib.hid hb1; have HG := Lib.hid hG; have HT1 := Lib.hid hT1; clear hb1 hG hT1)
    | (go_at_call 59; refine (isDecomposition_any HG.out HP.out.le HP.out.bd cap co (HL.out.below HB1.out) HT1.out).mono ?_; rintro e w2 ⟨rfl, hb2⟩; rw [HPB.out]; have HB2 := Lib.hid (HB1.out.trans (hb2.mono HB1.out.size)); clear hb2))
  go_ret2
  exact ⟨rfl, HB2.out⟩
set_option maxRecDepth 20000 in
set_option maxHeartbeats 1000000 in
theorem Follow_none {n m : Nat} {z : Nat → Int} {a o : Option Addr} (cap co : Nat) {w : World} (hI : IntsAt w a n z) (hz : InI64 z) (hT : Tab w) (hg : graphB n 7 z = false) :
    Calls Tryd.prog 30 #[.slice a n cap, .slice o m co] w fun e w' => e = .returned (.tuple #[.slice none 0 0, .int .i64 2]) ∧ Below w.heap.size w w' := by
  have HI := Lib.hid hI
  have HZ := Lib.hid hz
  have HT := Lib.hid hT
  clear hI hz hT
  go_enter Tryd.func30, Tryd.ntmps30
  go_wp2_with (go_at_call 47; refine (newTown_no cap HI.out HZ.out HT.out hg).mono ?_; rintro e w1 ⟨rfl, hb1⟩; have HB1 := Lib.hid hb1; clear hb1)
  go_ret2
  exact ⟨rfl, HB1.out⟩

set_option maxRecDepth 200000 in
set_option maxHeartbeats 4000000 in
theorem SweepPaths_walk (n m : Nat) (z y : Nat → Int) (v vo : Value) (w : World) (hA : SliceArg w v n z) (hz : InI64 z) (hO : SliceArg w vo m y) (hTab : HasTab w) :
    Calls Tryd.prog 5 #[v, vo] w (LawTrue w) := by
  obtain ⟨a, cap, rfl, hI⟩ := hA.ints
  obtain ⟨o, co, rfl, hL⟩ := hO.ints
  have HA := Lib.hid hA
  have HI0 := Lib.hid hI
  have HZ := Lib.hid hz
  have HLA := Lib.hid hO
  have HL0 := Lib.hid hL
  have HT := Lib.hid (Tab.of hTab)
  clear hA hI hz hTab hO hL
  cases hg : graphB n 7 z
  · have HG0 := Lib.hid hg
    have HGM : graphB (min n 11) 7 z = false := by rw [graphB_few]; exact hg
    clear hg
    go_enter Tryd.func5, Tryd.ntmps5
    go_wp2_with fail
    go_at_call 18
    refine (Few_any n z _ _ HA.out).mono ?_
    rintro e w1 ⟨a1, c1, rfl, hi1, hb1⟩
    have HB1 := Lib.hid hb1
    have HI1 := Lib.hid hi1
    clear hb1 hi1
    go_wp2_with fail
    go_at_call 19
    refine (List_any m y _ _ (HLA.out.below HB1.out)).mono ?_
    rintro e w2 ⟨a2, c2, rfl, hi2, hb2⟩
    have HX2 := Lib.hid hb2
    have HB2 := Lib.hid (HB1.out.trans (hb2.mono HB1.out.size))
    clear hb2
    clear hi2
    go_wp2_with fail
    go_at_call 29
    refine (Check_none _ _ (HI1.out.below HX2.out) HZ.out (HT.out.below HB2.out) HGM).mono ?_
    rintro e w3 ⟨rfl, hb3⟩
    have HB3 := Lib.hid (HB2.out.trans (hb3.mono HB2.out.size))
    clear hb3
    go_wp2_with fail
    go_at_call 18
    refine (Few_any n z _ _ (HA.out.below HB3.out)).mono ?_
    rintro e w4 ⟨a4, c4, rfl, hi4, hb4⟩
    have HI4 := Lib.hid hi4
    have HB4 := Lib.hid (HB3.out.trans (hb4.mono HB3.out.size))
    clear hb4
    clear hi4
    go_wp2_with fail
    go_at_call 19
    refine (List_any m y _ _ (HLA.out.below HB4.out)).mono ?_
    rintro e w5 ⟨a5, c5, rfl, hi5, hb5⟩
    have HX5 := Lib.hid hb5
    have HB5 := Lib.hid (HB4.out.trans (hb5.mono HB4.out.size))
    clear hb5
    clear hi5
    go_wp2_with fail
    go_at_call 30
    refine (Follow_none _ _ (HI4.out.below HX5.out) HZ.out (HT.out.below HB5.out) HGM).mono ?_
    rintro e w6 ⟨rfl, hb6⟩
    have HB6 := Lib.hid (HB5.out.trans (hb6.mono HB5.out.size))
    clear hb6
    go_wp2_with fail
    go_at_call 21
    refine (ValidR_any n z _ _ _ (HI0.out.below HB6.out) HZ.out).mono ?_
    rintro e w7 ⟨rfl, hb7⟩
    rw [HG0.out]
    have HB7 := Lib.hid (HB6.out.trans (hb7.mono HB6.out.size))
    clear hb7
    go_wp2_with fail
    go_at_call 22
    refine (awake_any _ (HT.out.below HB7.out)).mono ?_
    rintro e w8 ⟨rfl, hb8⟩
    have HB8 := Lib.hid (HB7.out.trans (hb8.mono HB7.out.size))
    clear hb8
    go_wp2_with fail
    go_ret
    exact ⟨rfl, HB8.out⟩
  · have hP := pl_of hg
    have hn7 := hP.le
    have HM : Hid (min n 11 = n) := Lib.hid (by omega)
    have HG0 := Lib.hid hg
    have HP := Lib.hid hP
    clear hg hP
    cases hp : pathB n (natG z) m y
    · have HP0 := Lib.hid hp
      have HP1 : Hid (pathB n (natG z) (min m 140) y = false) := Lib.hid (by rw [path_few]; exact hp)
      clear hp
      go_enter Tryd.func5, Tryd.ntmps5
      go_wp2_with fail
      go_at_call 18
      refine (Few_any n z _ _ HA.out).mono ?_
      rintro e w1 ⟨a1, c1, rfl, hi1, hb1⟩
      rw [HM.out] at hi1
      rw [HM.out]
      have HB1 := Lib.hid hb1
      have HI1 := Lib.hid hi1
      clear hb1 hi1
      go_wp2_with fail
      go_at_call 19
      refine (List_any m y _ _ (HLA.out.below HB1.out)).mono ?_
      rintro e w2 ⟨a2, c2, rfl, hi2, hb2⟩
      have HX2 := Lib.hid hb2
      have HI2 := Lib.hid hi2
      have HB2 := Lib.hid (HB1.out.trans (hb2.mono HB1.out.size))
      clear hb2
      clear hi2
      go_wp2_with fail
      go_at_call 29
      refine (Check_no _ _ (HI1.out.below HX2.out) HZ.out HI2.out (HT.out.below HB2.out) HG0.out HP1.out).mono ?_
      rintro e w3 ⟨rfl, hb3⟩
      have HB3 := Lib.hid (HB2.out.trans (hb3.mono HB2.out.size))
      clear hb3
      go_wp2_with fail
      go_at_call 18
      refine (Few_any n z _ _ (HA.out.below HB3.out)).mono ?_
      rintro e w4 ⟨a4, c4, rfl, hi4, hb4⟩
      rw [HM.out] at hi4
      rw [HM.out]
      have HI4 := Lib.hid hi4
      have HB4 := Lib.hid (HB3.out.trans (hb4.mono HB3.out.size))
      clear hb4
      clear hi4
      go_wp2_with fail
      go_at_call 19
      refine (List_any m y _ _ (HLA.out.below HB4.out)).mono ?_
      rintro e w5 ⟨a5, c5, rfl, hi5, hb5⟩
      have HX5 := Lib.hid hb5
      have HI5 := Lib.hid hi5
      have HB5 := Lib.hid (HB4.out.trans (hb5.mono HB4.out.size))
      clear hb5
      clear hi5
      go_wp2_with fail
      go_at_call 30
      refine (Follow_no _ _ (HI4.out.below HX5.out) HZ.out HI5.out (HT.out.below HB5.out) HG0.out HP1.out).mono ?_
      rintro e w6 ⟨rfl, hb6⟩
      have HB6 := Lib.hid (HB5.out.trans (hb6.mono HB5.out.size))
      clear hb6
      go_wp2_with fail
      go_at_call 21
      refine (ValidR_any n z _ _ _ (HI0.out.below HB6.out) HZ.out).mono ?_
      rintro e w7 ⟨rfl, hb7⟩
      rw [HG0.out]
      have HB7 := Lib.hid (HB6.out.trans (hb7.mono HB6.out.size))
      clear hb7
      go_wp2_with fail
      go_at_call 31
      refine (IsPathR_any (GrAt.same (HI0.out.below HB7.out) HG0.out) hn7 HP.out.bd _ _ (HL0.out.below HB7.out)).mono ?_
      rintro e w8 ⟨rfl, rfl⟩
      rw [pathI_no HP0.out, HP0.out]
      go_wp2_with fail
      go_at_call 22
      refine (awake_any _ (HT.out.below HB7.out)).mono ?_
      rintro e w9 ⟨rfl, hb9⟩
      have HB9 := Lib.hid (HB7.out.trans (hb9.mono HB7.out.size))
      clear hb9
      go_wp2_with fail
      go_ret
      exact ⟨rfl, HB9.out⟩
    · have HP0 := Lib.hid hp
      have HPI := Lib.hid (path_iff.1 hp)
      have hm1 := (path_iff.1 hp).1
      have hm2 := (path_iff.1 hp).2.1
      have HMM : Hid (min m 140 = m) := Lib.hid (by omega)
      have HFL : Hid ((folL (setZ y) m (m + 1)).length ≤ 65536) := Lib.hid (Nat.le_trans (fol_len _ _ _) (by omega))
      have hmb := mostB_le9 (n := n) (m := m) (z := y)
      clear hp
      go_enter Tryd.func5, Tryd.ntmps5
      go_wp2_with fail
      go_at_call 18
      refine (Few_any n z _ _ HA.out).mono ?_
      rintro e w1 ⟨a1, c1, rfl, hi1, hb1⟩
      rw [HM.out] at hi1
      rw [HM.out]
      have HB1 := Lib.hid hb1
      have HI1 := Lib.hid hi1
      clear hb1 hi1
      go_wp2_with fail
      go_at_call 19
      refine (List_any m y _ _ (HLA.out.below HB1.out)).mono ?_
      rintro e w2 ⟨a2, c2, rfl, hi2, hb2⟩
      rw [HMM.out] at hi2
      rw [HMM.out]
      have HX2 := Lib.hid hb2
      have HI2 := Lib.hid hi2
      have HB2 := Lib.hid (HB1.out.trans (hb2.mono HB1.out.size))
      clear hb2
      clear hi2
      go_wp2_with fail
      go_at_call 29
      refine (Check_yes _ _ (HI1.out.below HX2.out) HZ.out HI2.out (HT.out.below HB2.out) HG0.out HP0.out).mono ?_
      rintro e w3 ⟨rfl, hb3⟩
      have HB3 := Lib.hid (HB2.out.trans (hb3.mono HB2.out.size))
      clear hb3
      go_wp2_with fail
      go_at_call 18
      refine (Few_any n z _ _ (HA.out.below HB3.out)).mono ?_
      rintro e w4 ⟨a4, c4, rfl, hi4, hb4⟩
      rw [HM.out] at hi4
      rw [HM.out]
      have HI4 := Lib.hid hi4
      have HB4 := Lib.hid (HB3.out.trans (hb4.mono HB3.out.size))
      clear hb4
      clear hi4
      go_wp2_with fail
      go_at_call 19
      refine (List_own m y _ _ (HLA.out.below HB4.out)).mono ?_
      rintro e w5 ⟨v5, rfl, ho5, hb5⟩
      rw [HMM.out] at ho5
      have hs5 := own_arg ho5
      obtain ⟨a5, c5, rfl, -⟩ := id hs5.ints
      have HS5 := Lib.hid hs5
      have HX5 := Lib.hid hb5
      have HB5 := Lib.hid (HB4.out.trans (hb5.mono HB4.out.size))
      clear hb5
      clear ho5 hs5
      go_wp2_with fail
      go_at_call 30
      refine (Follow_yes _ _ (HI4.out.below HX5.out) HZ.out HS5.out (HT.out.below HB5.out) HG0.out HP0.out).mono ?_
      rintro e w6 ⟨v6, rfl, ho6, hb6⟩
      have HO6 := Lib.hid ho6
      have HB6 := Lib.hid (HB5.out.trans (hb6.mono HB5.out.size))
      clear hb6
      clear ho6
      go_wp2_with fail
      go_at_call 21
      refine (ValidR_any n z _ _ _ (HI0.out.below HB6.out) HZ.out).mono ?_
      rintro e w7 ⟨rfl, hb7⟩
      rw [HG0.out]
      have HX7 := Lib.hid hb7
      have HB7 := Lib.hid (HB6.out.trans (hb7.mono HB6.out.size))
      clear hb7
      go_wp2_with fail
      go_at_call 31
      refine (IsPathR_any (GrAt.same (HI0.out.below HB7.out) HG0.out) hn7 HP.out.bd _ _ (HL0.out.below HB7.out)).mono ?_
      rintro e w8 ⟨rfl, rfl⟩
      rw [pathI_yes HP0.out, HP0.out]
      generalize mostB n y m = W at *
      go_wp2_with fail
      go_at_call 22
      refine (awake_any _ (HT.out.below HB7.out)).mono ?_
      rintro e w9 ⟨rfl, hb9⟩
      have HX9 := Lib.hid (HX7.out.trans (hb9.mono HX7.out.size))
      have HB9 := Lib.hid (HB7.out.trans (hb9.mono HB7.out.size))
      clear hb9
      go_wp2_with fail
      go_at_call 33
      refine (own_any (HO6.out.below HX9.out) HFL.out).mono ?_
      rintro e w10 ⟨v10, rfl, ho10, hb10⟩
      have HO10 := Lib.hid ho10
      have HB10 := Lib.hid (HB9.out.trans (hb10.mono HB9.out.size))
      clear hb10
      clear ho10
      go_wp2_with fail
      go_at_call 34
      refine (FollowR_any (GrAt.same (HI0.out.below HB10.out) HG0.out) hn7 _ _ (HL0.out.below HB10.out) hm1 hm2 HPI.out.2.2.1).mono ?_
      rintro e w11 ⟨v11, rfl, ho11, hb11⟩
      have HO11 := Lib.hid ho11
      have HX11 := Lib.hid hb11
      have HB11 := Lib.hid (HB10.out.trans (hb11.mono HB10.out.size))
      clear hb11
      clear ho11
      go_wp2_with fail
      go_at_call 32
      refine (EqualActs_true (HO10.out.below HX11.out) HO11.out HFL.out).mono ?_
      rintro e w12 ⟨rfl, hb12⟩
      have HB12 := Lib.hid (HB11.out.trans (hb12.mono HB11.out.size))
      clear hb12
      go_wp2_with fail
      go_ret
      exact ⟨rfl, HB12.out⟩

end Go.Proofs.YthbhhfeiianmcaaDoor
