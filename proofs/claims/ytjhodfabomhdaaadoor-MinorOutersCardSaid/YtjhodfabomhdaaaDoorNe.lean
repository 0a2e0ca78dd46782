/- Package minor: the walk of MinorWidths. -/
import Derived.Test.YtjhodfabomhdaaaDoorNd
namespace Go.Proofs.YtjhodfabomhdaaaDoor
set_option linter.unusedSimpArgs false
set_option linter.unusedVariables false
open Go.RowKit Go.Maps
attribute [local go_sem] i64_bit toNat_eq_one toNat_ne_one toNat_eq_zero toNat_ne_zero i64_and i64_or i64_andNot i64_or_pow i64_andNot_pow

theorem graph_lt {n most : Nat} {z : Nat → Int} (hg : graphB n most z = true) : ∀ i, i < n → natG z i < 2 ^ n := fun i hi => by
  have := (graphB_le hg).2.2 i hi
  rw [pow_cast n] at this
  show (z i).toNat < 2 ^ n
  omega
/-- One node is a minor of any graph. -/
theorem one_found {n : Nat} {z : Nat → Int} (hg : graphB n 8 z = true) : (modG n 1 z (kz 1)).isSome = true := by
  obtain ⟨h1, h8, _⟩ := graphB_le hg
  rw [mod_ref hg (kz_graph 1 (by omega) (by omega))]
  have h := refM_found (q := 1) (pr := natG (kz 1)) (B := fun _ => 1) ⟨fun i hi => Nat.one_lt_two_pow (by omega), fun i hi => ⟨0, by decide⟩, fun i j x hi hj _ _ => by omega, fun i x y hi hx hy => by
    have : x = y := by
      have h0 : ∀ x, (1 : Nat).testBit x = true → x = 0 := fun x hx => by
        have := Nat.testBit_two_pow (n := 0) (m := x)
        rw [Nat.pow_zero, hx] at this
        exact (of_decide_eq_true this.symm).symm
      rw [h0 x hx, h0 y hy]
    subst this
    exact Rch.refl, fun i j hi hj hp => by
    rw [show i = 0 by omega, show j = 0 by omega] at hp
    exact absurd hp (by decide)⟩ h8 (graph_lt hg)
  cases hr : refM n 1 (natG z) (natG (kz 1)) with
  | none => exact absurd hr h
  | some L => rfl
theorem grt_all {n : Nat} {z : Nat → Int} (hg : graphB n 8 z = true) : ∀ k, k ≤ 6 → 1 ≤ k → 1 ≤ grt n z k ∧ grt n z k ≤ k ∧ (modG n (grt n z k) z (kz (grt n z k))).isSome = true ∧ (grt n z k < k → (modG n (grt n z k + 1) z (kz (grt n z k + 1))).isSome = false) := by
  intro k
  induction k with
  | zero => intro _ h; omega
  | succ k ih =>
    intro h6 _
    by_cases h0 : k = 0
    · subst h0
      have e : grt n z 1 = 1 := by show (if 0 = 0 then 1 else _) = _; rw [if_pos rfl]
      rw [e]
      exact ⟨by omega, by omega, one_found hg, fun h => by omega⟩
    · have e : grt n z (k + 1) = if (modG n (k + 1) z (kz (k + 1))).isSome then k + 1 else grt n z k := by show (if k = 0 then 1 else _) = _; rw [if_neg h0]
      cases hm : (modG n (k + 1) z (kz (k + 1))).isSome
      · rw [hm] at e
        rw [e, if_neg (by simp)]
        obtain ⟨i1, i2, i3, i4⟩ := ih (by omega) (by omega)
        refine ⟨i1, by omega, i3, fun h => ?_⟩
        by_cases h2 : grt n z k < k
        · exact i4 h2
        · have : grt n z k = k := by omega
          rw [this]; exact hm
      · rw [hm, if_pos rfl] at e
        rw [e]
        exact ⟨by omega, by omega, hm, fun h => by omega⟩
theorem grt_is {n : Nat} {z : Nat → Int} (hg : graphB n 8 z = true) : ∃ g : Nat, grt n z (min n 6) = g ∧ 1 ≤ g ∧ g ≤ 6 ∧ g ≤ Wd.widthG n z + 1 ∧ (modG n g z (kz g)).isSome = true ∧ (g < 6 → (modG n (g + 1) z (kz (g + 1))).isSome = false) := by
  obtain ⟨h1, h8, _⟩ := graphB_le hg
  obtain ⟨i1, i2, i3, i4⟩ := grt_all hg (min n 6) (by omega) (by omega)
  refine ⟨_, rfl, i1, by omega, ?_, i3, fun h => ?_⟩
  · have hw := kz_width (grt n z (min n 6)) (by omega) i1
    unfold modG modL at i3
    rw [hw] at i3
    split at i3
    · cases i3
    · omega
  · by_cases h2 : grt n z (min n 6) < min n 6
    · exact i4 h2
    · unfold modG modL
      rw [if_pos (Or.inl (by omega))]
      rfl

set_option maxRecDepth 200000 in
set_option maxHeartbeats 4000000 in
theorem MinorWidths_walk (n : Nat) (z : Nat → Int) (v : Value) (w : World) (hA : SliceArg w v n z) (hz : InI64 z) (hTab : HasTab w) :
    Calls Tryd.prog 10 #[v] w (LawTrue w) := by
  obtain ⟨a, cap, rfl, hI⟩ := hA.ints
  have HA := Lib.hid hA
  have HZ := Lib.hid hz
  have HT := Lib.hid (Tab.of hTab)
  clear hA hI hz hTab
  cases hg : graphB n 8 z
  · have HGM : Hid (graphB (min n 12) 8 z = false) := Lib.hid (by rw [graphB_few]; exact hg)
    clear hg
    go_enter Tryd.func10, Tryd.ntmps10
    go_wp2_with fail
    go_at_call 12
    refine (Few_any n z _ _ HA.out).mono ?_
    rintro e w1 ⟨a1, c1, rfl, hi1, hb1⟩
    have HI1 := Lib.hid hi1
    have HB1 := Lib.hid hb1
    clear hi1 hb1
    go_wp2_with fail
    go_at_call 39
    refine (Greatest_no _ HI1.out HZ.out (HT.out.below HB1.out) HGM.out).mono ?_
    rintro e w2 ⟨rfl, hb2⟩
    have HB2 := Lib.hid (HB1.out.trans (hb2.mono HB1.out.size))
    clear hb2
    go_wp2_with fail
    go_at_call 17
    refine (awake_any _ (HT.out.below HB2.out)).mono ?_
    rintro e w3 ⟨rfl, hb3⟩
    have HB3 := Lib.hid (HB2.out.trans (hb3.mono HB2.out.size))
    clear hb3
    go_wp2_with fail
    go_ret
    exact ⟨rfl, HB3.out⟩
  · have hn8 := graphB_le hg
    have HMN : Hid (min n 12 = n) := Lib.hid (by omega)
    have HG := Lib.hid hg
    obtain ⟨g, hgr, hg1, hg6, hgw, hgy, hgn⟩ := grt_is hg
    have HGR := Lib.hid hgr
    have HGY := Lib.hid hgy
    have HGN := Lib.hid hgn
    have HNI : Hid (∀ i, i < 7 → InI64 (kz i)) := Lib.hid fun i hi => kz_i64 i hi
    have hkk := k_same g (by omega)
    have HKK := Lib.hid hkk
    clear hg hn8 hgr hgy hgn hkk
    obtain ⟨W, hW⟩ : ∃ W, W = Wd.widthG n z := ⟨_, rfl⟩
    have HW := Lib.hid hW
    rw [← hW] at hgw
    clear hW
    have d1 : decide ((g : Int) > (W : Int) + 1) = false := decide_eq_false (by omega)
    have d2 : decide ((W : Int) + 1 < (g : Int)) = false := decide_eq_false (by omega)
    have d3 : decide ((g : Int) < 1) = false := decide_eq_false (by omega)
    have d4 : decide (g < 1) = false := decide_eq_false (by omega)
    have d5 : decide ((g : Int) > 6) = false := decide_eq_false (by omega)
    have d6 : decide ((6 : Int) < (g : Int)) = false := decide_eq_false (by omega)
    have d7 : decide (6 < g) = false := decide_eq_false (by omega)
    have d8 : decide (W + 1 < g) = false := decide_eq_false (by omega)
    have hWb : W ≤ 8 := by rw [HW.out]; exact Nat.le_trans (rst_le (Nat.two_pow_pos _)) (graphB_le HG.out).2.1
    go_enter Tryd.func10, Tryd.ntmps10
    go_wp2_with fail
    go_at_call 12
    refine (Few_any n z _ _ HA.out).mono ?_
    rintro e w1 ⟨a1, c1, rfl, hi1, hb1⟩
    rw [HMN.out] at hi1
    rw [HMN.out]
    have HI1 := Lib.hid hi1
    have HB1 := Lib.hid hb1
    clear hi1 hb1
    go_wp2_with fail
    go_at_call 39
    refine (Greatest_yes _ HI1.out HZ.out (HT.out.below HB1.out) HG.out).mono ?_
    rintro e w2 ⟨rfl, hb2⟩
    rw [HGR.out]
    have HB2 := Lib.hid (HB1.out.trans (hb2.mono HB1.out.size))
    clear hb2
    go_wp2_with fail
    go_at_call 12
    refine (Few_any n z _ _ (HA.out.below HB2.out)).mono ?_
    rintro e w3 ⟨a3, c3, rfl, hi3, hb3⟩
    rw [HMN.out] at hi3
    rw [HMN.out]
    have HI3 := Lib.hid hi3
    clear hi3
    have HB3 := Lib.hid (HB2.out.trans (hb3.mono HB2.out.size))
    clear hb3
    go_wp2_with fail
    go_at_call 49
    refine (Wd.Width_yes _ HI3.out HZ.out (graph_nine HG.out)).mono ?_
    rintro e w4 ⟨rfl, hb4⟩
    rw [← HW.out]
    have HB4 := Lib.hid (HB3.out.trans (hb4.mono HB3.out.size))
    clear hb4
    go_wp2_with fail
    go_at_call 26
    refine (KR_any hg1 hg6 _).mono ?_
    rintro e w5 ⟨g5, rfl, hr5, _, hb5⟩
    rw [HKK.out] at hr5
    have HK5 := Lib.hid (row_ints hr5 (show (cmpL g g).length = g by simp [cmpL]) (by omega))
    clear hr5
    have HB5 := Lib.hid (HB4.out.trans (hb5.mono HB4.out.size))
    clear hb5
    go_wp2_with fail
    go_at_call 48
    refine (hasL_any g (HA.out.below HB5.out) HK5.out HZ.out (HNI.out g (by omega)) (HT.out.below HB5.out) HG.out (kz_graph g (by omega) hg1)).mono ?_
    rintro e w6 ⟨rfl, hb6⟩
    rw [show (modG n g z (natL (cmpL g g))).isSome = true from HGY.out]
    have HB6 := Lib.hid (HB5.out.trans (hb6.mono HB5.out.size))
    clear hb6
    by_cases h6 : g = 6
    · have e6 : ((g : Int) == 6) = true := by rw [h6]; rfl
      go_wp2_with fail
      go_at_call 17
      refine (awake_any _ (HT.out.below HB6.out)).mono ?_
      rintro e w7 ⟨rfl, hb7⟩
      have HB7 := Lib.hid (HB6.out.trans (hb7.mono HB6.out.size))
      clear hb7
      go_wp2_with fail
      go_ret
      exact ⟨rfl, HB7.out⟩
    · have e6 : ((g : Int) == 6) = false := by rw [beq_eq_false_iff_ne]; omega
      have HKR : Hid (∀ w', Calls Tryd.prog 26 #[.int .i64 ((g : Int) + 1)] w' (MadePost w' (g + 1) (kAll (g + 1) (g + 1)))) := Lib.hid fun w' => KR_any (n := g + 1) (by omega) (by omega) w'
      go_wp2_with fail
      go_at_call 26
      refine (HKR.out _).mono ?_
      rintro e w7 ⟨g7, rfl, hr7, _, hb7⟩
      rw [k_same (g + 1) (by omega)] at hr7
      have HK7 := Lib.hid (row_ints hr7 (show (cmpL (g + 1) (g + 1)).length = g + 1 by simp [cmpL]) (by omega))
      clear hr7
      have HB7 := Lib.hid (HB6.out.trans (hb7.mono HB6.out.size))
      clear hb7
      go_wp2_with fail
      go_at_call 48
      refine (hasL_any (g + 1) (HA.out.below HB7.out) HK7.out HZ.out (HNI.out (g + 1) (by omega)) (HT.out.below HB7.out) HG.out (kz_graph (g + 1) (by omega) (by omega))).mono ?_
      rintro e w8 ⟨rfl, hb8⟩
      rw [show (modG n (g + 1) z (natL (cmpL (g + 1) (g + 1)))).isSome = false from HGN.out (by omega)]
      have HB8 := Lib.hid (HB7.out.trans (hb8.mono HB7.out.size))
      clear hb8
      go_wp2_with fail
      go_at_call 17
      refine (awake_any _ (HT.out.below HB8.out)).mono ?_
      rintro e w9 ⟨rfl, hb9⟩
      have HB9 := Lib.hid (HB8.out.trans (hb9.mono HB8.out.size))
      clear hb9
      go_wp2_with fail
      go_ret
      exact ⟨rfl, HB9.out⟩

end Go.Proofs.YtjhodfabomhdaaaDoor
