/- The contract of package sweep's Plan; the walk of the law SweepPlans. -/
import Derived.Test.YthbhhfeiianmcaaDoorQz
import Derived.Test.YthbhhfeiianmcaaDoorQy
import Derived.Test.YthbhhfeiianmcaaDoorQr
namespace Go.Proofs.YthbhhfeiianmcaaDoor
set_option linter.unusedSimpArgs false
set_option linter.unusedVariables false
open Go.RowKit Go.Maps

theorem ints_arg {w : World} {base : Nat} {v : Value} {L : List Int} (h : IntsOwn w base v L) : SliceArg w v L.length (zListI L) := by
  rcases h.2 with h1 | ⟨g, cap, cur, hv, hg, hh, hc1, hc2, _⟩
  · exact Or.inl h1
  · subst hv
    refine Or.inr ⟨_, cap, rfl, hc1, hc2, fun _ => ⟨g, 0, rfl, (Array.getElem?_eq_some_iff.1 hh).1, fun i hi => ?_⟩⟩
    rw [Nat.zero_add, World.ownsRow.cellAt h i (by omega), List.getElem?_map]
    unfold zListI
    rw [List.getD_eq_getElem?_getD, List.getElem?_eq_getElem hi]
    rfl
/-- The bags of the first layout. -/
def bagsZ (n : Nat) (z : Nat → Int) : Nat → Int := zListI (bagL (natG z) (listZ (layZ n z)) n)
theorem lay_ord {n : Nat} {z : Nat → Int} : ordB n n (listZ (layZ n z)) = true := ordB_good (first_ord (fun g v _ => szS_le _ _) (Nat.le_refl _))
theorem bags_good {n : Nat} {z : Nat → Int} (h : Pl n (natG z)) : pathB n (natG z) n (bagsZ n z) = true :=
  path_congr (fun k hk => (zListI_bag hk).symm) (path_iff.2 ⟨h.one, by have := h.le; omega, fun k hk => by
    have h1 : bord (natG z) (metO (listZ (layZ n z)) k) ||| 2 ^ ((listZ (layZ n z)) k).toNat < 2 ^ n := Nat.or_lt_two_pow (bord_lt (lay_met lay_ord (by omega))) (pow_lt_pow (lay_at lay_ord hk).1)
    unfold bagZ
    rw [pow_cast]
    omega, bags_path h lay_ord⟩)
theorem bags_wide {n : Nat} {z : Nat → Int} (h : Pl n (natG z)) : mostB n (bagsZ n z) n = rst n (tbd n (natG z)) 0 + 1 := by
  show mostB n (zListI (bagL (natG z) (listZ (layZ n z)) n)) n = _
  rw [mostB_congr n fun k hk => zListI_bag hk, bags_most h lay_ord, brd_alo]
  show alo (tbd n (natG z)) (listZ (ordW n (tbd n (natG z)) (rst n (tbd n (natG z)) 0) n 0)) n + 1 = _
  rw [first_alo (n := n) (t := tbd n (natG z)) fun g v _ => szS_le _ _]

set_option maxRecDepth 20000 in
set_option maxHeartbeats 1000000 in
theorem Plan_none {n : Nat} {z : Nat → Int} {a : Option Addr} (cap : Nat) {w : World} (hI : IntsAt w a n z) (hz : InI64 z) (hT : Tab w) (hg : graphB n 7 z = false) :
    Calls Tryd.prog 38 #[.slice a n cap] w fun e w' => e = .returned (.tuple #[.slice none 0 0, .int .i64 2]) ∧ Below w.heap.size w w' := by
  have HI := Lib.hid hI
  have HZ := Lib.hid hz
  have HT := Lib.hid hT
  clear hI hz hT
  go_enter Tryd.func38, Tryd.ntmps38
  go_wp2_with (go_at_call 47; refine (newTown_no cap HI.out HZ.out HT.out hg).mono ?_; rintro e w1 ⟨rfl, hb1⟩; have HB1 := Lib.hid hb1; clear hb1)
  go_ret2
  exact ⟨rfl, HB1.out⟩
set_option maxRecDepth 20000 in
set_option maxHeartbeats 1000000 in
theorem Plan_yes {n : Nat} {z : Nat → Int} {a : Option Addr} (cap : Nat) {w : World} (hI : IntsAt w a n z) (hz : InI64 z) (hT : Tab w) (hg : graphB n 7 z = true) :
    Calls Tryd.prog 38 #[.slice a n cap] w fun e w' => ∃ v, e = .returned (.tuple #[v, .int .i64 0]) ∧ ActsOwn 88 w' w.heap.size v (folL (setZ (bagsZ n z)) n (n + 1)) ∧ Below w.heap.size w w' := by
  have HI := Lib.hid hI
  have HZ := Lib.hid hz
  have HT := Lib.hid hT
  have HP := Lib.hid (pl_of hg)
  have HLL := Lib.hid (layZ_len n z)
  have HPB := Lib.hid (path_iff.1 (bags_good (pl_of hg)))
  have HBL := Lib.hid (bagL_len (natG z) (listZ (layZ n z)) n)
  clear hI hz hT
  go_enter Tryd.func38, Tryd.ntmps38
  go_wp2_with (first
    | (go_at_call 47; refine (newTown_yes cap HI.out HZ.out HT.out hg).mono ?_; rintro e w1 ⟨rfl, hb1, hG, hT1⟩; have HB1 := Lib.hid hb1; have HG := Lib.hid hG; have HT1 := Lib.hid hT1; clear hb1 hG hT1)
    | (go_at_call 52; refine (firstLayout_any HG.out HP.out.le HP.out.bd cap HT1.out).mono ?_; rintro e w2 ⟨v, rfl, hown, hb2⟩; have ho2 : IntsOwn w2 w1.heap.size v ((layZ n z).map fun (x : Nat) => (x : Int)) := hown; obtain ⟨a2, c2, rfl, hi2⟩ := ho2.ints (by rw [List.length_map, HLL.out]; have := HP.out.le; omega); rw [List.length_map, HLL.out] at hi2; rw [List.length_map, HLL.out]; have HI2 := Lib.hid (show IntsAt w2 a2 n (listZ (layZ n z)) by have h : zListI ((layZ n z).map fun (x : Nat) => (x : Int)) = listZ (layZ n z) := funext fun i => zList_map _ i; rw [← h]; exact hi2); have HX2 := Lib.hid hb2; have HB2 := Lib.hid (HB1.out.trans (hb2.mono HB1.out.size)); clear hown ho2 hi2 hb2)
    | (go_at_call 58; refine (bagsOf_any (HG.out.below HX2.out) HP.out.le HP.out.bd cap _ lay_ord HI2.out (HT1.out.below HX2.out)).mono ?_; rintro e w3 ⟨v3, rfl, ho3, hb3⟩; have HA3 := Lib.hid (ints_arg ho3); have HB3 := Lib.hid (HB2.out.trans (hb3.mono HB2.out.size)); clear ho3 hb3)
    | (go_at_call 61; refine (follow_any (z := bagsZ n z) HP.out.le (by have h := HA3.out; rw [HBL.out] at h; exact h) HPB.out.1 HPB.out.2.1 HPB.out.2.2.1 (HT.out.below HB3.out)).mono ?_; rintro e w4 ⟨v4, rfl, ho4, hb4⟩; have HO4 := Lib.hid ho4; have HB4 := Lib.hid (HB3.out.trans (hb4.mono HB3.out.size)); clear ho4 hb4))
  go_ret2
  exact ⟨v4, rfl, ownsRow_base HO4.out HB3.out.size, HB4.out⟩

set_option maxRecDepth 200000 in
set_option maxHeartbeats 1000000 in
theorem SweepPlans_walk (n : Nat) (z : Nat → Int) (v : Value) (w : World) (hA : SliceArg w v n z) (hz : InI64 z) (hTab : HasTab w) :
    Calls Tryd.prog 7 #[v] w (LawTrue w) := by
  obtain ⟨a, cap, rfl, hI⟩ := hA.ints
  have HA := Lib.hid hA
  have HI0 := Lib.hid hI
  have HZ := Lib.hid hz
  have HT := Lib.hid (Tab.of hTab)
  clear hA hI hz hTab
  cases hg : graphB n 7 z
  · have HG0 := Lib.hid hg
    have HGM : graphB (min n 11) 7 z = false := by rw [graphB_few]; exact hg
    clear hg
    go_enter Tryd.func7, Tryd.ntmps7
    go_wp2_with fail
    go_at_call 18
    refine (Few_any n z _ _ HA.out).mono ?_
    rintro e w1 ⟨a1, c1, rfl, hi1, hb1⟩
    have HB1 := Lib.hid hb1
    have HI1 := Lib.hid hi1
    clear hb1 hi1
    go_wp2_with fail
    go_at_call 38
    refine (Plan_none _ HI1.out HZ.out (HT.out.below HB1.out) HGM).mono ?_
    rintro e w3 ⟨rfl, hb3⟩
    have HB3 := Lib.hid (HB1.out.trans (hb3.mono HB1.out.size))
    clear hb3
    go_wp2_with fail
    go_at_call 21
    refine (ValidR_any n z _ _ _ (HI0.out.below HB3.out) HZ.out).mono ?_
    rintro e w4 ⟨rfl, hb4⟩
    rw [HG0.out]
    have HB4 := Lib.hid (HB3.out.trans (hb4.mono HB3.out.size))
    clear hb4
    go_wp2_with fail
    go_at_call 22
    refine (awake_any _ (HT.out.below HB4.out)).mono ?_
    rintro e w5 ⟨rfl, hb5⟩
    have HB5 := Lib.hid (HB4.out.trans (hb5.mono HB4.out.size))
    clear hb5
    go_wp2_with fail
    go_ret
    exact ⟨rfl, HB5.out⟩
  · have hP := pl_of hg
    have hn7 := hP.le
    have HM : Hid (min n 11 = n) := Lib.hid (by omega)
    have HG0 := Lib.hid hg
    have HP := Lib.hid hP
    have hrl := rst_le (n := n) (t := tbd n (natG z)) (Nat.two_pow_pos n)
    have HPB := Lib.hid (bags_good hP)
    have HEND := Lib.hid (fol_end (n := n) (m := n) (r := natG z) (by omega) (bags_good hP) hP.bd)
    have HMO := Lib.hid (bags_wide hP)
    have hB : ∀ i, i < n → setZ (bagsZ n z) i < 2 ^ n := fun k hk => by
      have := (path_iff.1 (bags_good hP)).2.2.1 k hk
      rw [pow_cast] at this
      show (bagsZ n z k).toNat < _
      omega
    have HLEN : Hid ((folL (setZ (bagsZ n z)) n (n + 1)).length ≤ 100) := Lib.hid (by
      have h1 := fol_short (n := n) (m := n) (by omega) hB (n + 1)
      have h2 : n * (n + 1) ≤ 7 * 8 := Nat.mul_le_mul hn7 (by omega)
      omega)
    clear hg hP hB
    go_enter Tryd.func7, Tryd.ntmps7
    go_wp2_with fail
    go_at_call 18
    refine (Few_any n z _ _ HA.out).mono ?_
    rintro e w1 ⟨a1, c1, rfl, hi1, hb1⟩
    rw [HM.out] at hi1
    rw [HM.out]
    have HB1 := Lib.hid hb1
    have HI1 := Lib.hid hi1
    clear hb1 hi1
    go_wp2_with fail
    go_at_call 38
    refine (Plan_yes _ HI1.out HZ.out (HT.out.below HB1.out) HG0.out).mono ?_
    rintro e w3 ⟨v3, rfl, ho3, hb3⟩
    have HO3 := Lib.hid ho3
    clear ho3
    have HB3 := Lib.hid (HB1.out.trans (hb3.mono HB1.out.size))
    clear hb3
    go_wp2_with fail
    go_at_call 21
    refine (ValidR_any n z _ _ _ (HI0.out.below HB3.out) HZ.out).mono ?_
    rintro e w4 ⟨rfl, hb4⟩
    rw [HG0.out]
    have HX4 := Lib.hid hb4
    have HB4 := Lib.hid (HB3.out.trans (hb4.mono HB3.out.size))
    clear hb4
    go_wp2_with fail
    go_at_call 33
    refine (own_any (HO3.out.below HX4.out) (Nat.le_trans HLEN.out (by omega))).mono ?_
    rintro e w5 ⟨v5, rfl, ho5, hb5⟩
    have HO5 := Lib.hid ho5
    clear ho5
    have HB5 := Lib.hid (HB4.out.trans (hb5.mono HB4.out.size))
    clear hb5
    go_wp2_with fail
    go_at_call 37
    refine (PlayR_any (GrAt.same (HI0.out.below HB5.out) HG0.out) hn7 HP.out.bd cap HO5.out HLEN.out HEND.out.1 HEND.out.2.1 HEND.out.2.2.2).mono ?_
    rintro e w6 ⟨rfl, hb6⟩
    rw [HEND.out.2.2.1, HMO.out]
    have HB6 := Lib.hid (HB5.out.trans (hb6.mono HB5.out.size))
    clear hb6
    generalize hW : rst n (tbd n (natG z)) 0 = W at *
    have HW := Lib.hid hW
    clear hW
    go_wp2_with fail
    go_at_call 39
    refine (PathWidthR_any (GrAt.same (HI0.out.below HB6.out) HG0.out) hn7 HP.out.bd cap).mono ?_
    rintro e w7 ⟨rfl, hb7⟩
    rw [HW.out]
    have HB7 := Lib.hid (HB6.out.trans (hb7.mono HB6.out.size))
    clear hb7
    go_wp2_with fail
    go_at_call 22
    refine (awake_any _ (HT.out.below HB7.out)).mono ?_
    rintro e w8 ⟨rfl, hb8⟩
    have HB8 := Lib.hid (HB7.out.trans (hb8.mono HB7.out.size))
    clear hb8
    go_wp2_with fail
    go_ret
    exact ⟨rfl, HB8.out⟩

end Go.Proofs.YthbhhfeiianmcaaDoor
