/- Package minor: the walk of MinorWheels. -/
import Derived.Test.YtdmicllfappllaaDoorNs
import Derived.Test.YtdmicllfappllaaDoorMz
namespace Go.Proofs.YtdmicllfappllaaDoor
set_option linter.unusedSimpArgs false
set_option linter.unusedVariables false
open Go.RowKit Go.Maps
attribute [local go_sem] i64_bit toNat_eq_one toNat_ne_one toNat_eq_zero toNat_ne_zero i64_and i64_or i64_andNot i64_or_pow i64_andNot_pow

theorem cz_nat {n s : Nat} {r : Nat → Nat} (h : s < 2 ^ n) : cz n r (s : Int) = conB n r s := by
  unfold cz
  rw [Int.toNat_natCast, decide_eq_true (show (s : Int) < 2 ^ n by rw [pow_cast n]; omega), Bool.and_true]
  by_cases h0 : 0 < s
  · rw [decide_eq_true (show (0 : Int) < s by omega), Bool.true_and]
  · have : s = 0 := by omega
    subst this; rfl
theorem wheel_four : whl 3 3 = cmpL 4 4 := by decide +kernel

set_option maxRecDepth 200000 in
set_option maxHeartbeats 4000000 in
theorem MinorWheels_walk (n : Nat) (z : Nat → Int) (v : Value) (w : World) (hA : SliceArg w v n z) (hz : InI64 z) (hTab : HasTab w) :
    Calls Tryd.prog 12 #[v] w (LawTrue w) := by
  obtain ⟨a, cap, rfl, hI⟩ := hA.ints
  have hml := hI.1
  unfold maxLen at hml
  have HA := Lib.hid hA
  have HI0 := Lib.hid hI
  have HZ := Lib.hid hz
  have HT := Lib.hid (Tab.of hTab)
  clear hA hI hz hTab
  cases hg : graphB n 8 z
  · have HG := Lib.hid hg
    clear hg
    go_enter Tryd.func12, Tryd.ntmps12
    go_wp2_with fail
    go_at_call 17
    refine (ValidR_any n z _ _ _ HI0.out HZ.out).mono ?_
    rintro e w1 ⟨rfl, hb1⟩
    rw [HG.out]
    have HB1 := Lib.hid hb1
    clear hb1
    go_wp2_with fail
    go_at_call 19
    refine (awake_any _ (HT.out.below HB1.out)).mono ?_
    rintro e w2 ⟨rfl, hb2⟩
    have HB2 := Lib.hid (HB1.out.trans (hb2.mono HB1.out.size))
    clear hb2
    go_wp2_with fail
    go_ret
    exact ⟨rfl, HB2.out⟩
  · have HG := Lib.hid hg
    obtain ⟨hn1, hn8, _⟩ := graphB_le hg
    by_cases h4 : 4 ≤ n
    · have d4 : decide ((n : Int) < 4) = false := decide_eq_false (by omega)
      have d5 : decide (n < 4) = false := decide_eq_false (by omega)
      have HTN := Lib.hid (Tn.of_graph HI0.out hg)
      have h8 := pow_le8 hn8
      have hpp := pow_pred n
      have HPN := Lib.hid (Nat.two_pow_pos n)
      obtain ⟨A, hA⟩ : ∃ A, A = 2 ^ n - 1 := ⟨_, rfl⟩
      have HAE := Lib.hid hA
      rw [← hA] at hpp
      have hA16 : A < 65536 := by omega
      have hpb := pow_bd n (by omega)
      clear hg hA
      go_enter Tryd.func12, Tryd.ntmps12
      go_wp2_with fail
      go_at_call 17
      refine (ValidR_any n z _ _ _ HI0.out HZ.out).mono ?_
      rintro e w1 ⟨rfl, hb1⟩
      rw [HG.out]
      have HB1 := Lib.hid hb1
      clear hb1
      go_wp2_with fail
      go_loopw [21] (fun ix wr => ∃ x : Nat, x ≤ n ∧ ix = .int .i64 x ∧ (∀ a b, a < x → b < n → conB n (natG z) (butN n a b) = true) ∧ Below w.heap.size w wr) (fun ix _ => n - (intOf ix).toNat)
      case atStart => exact ⟨0, Nat.zero_le _, rfl, fun a b ha => by omega, HB1.out⟩
      case round =>
        obtain ⟨x, hx, rfl, hall, hbr⟩ := hrel
        have HALL := Lib.hid hall
        have HBR := Lib.hid hbr
        clear hall hbr HB1
        by_cases hlt : x < n
        · have dx : decide ((x : Int) < (n : Int)) = true := decide_eq_true (by omega)
          have dx2 : decide (x < n) = true := decide_eq_true hlt
          go_wp2_with fail
          go_loopw [26] (fun ix wr => ∃ y : Nat, y ≤ n ∧ ix = .int .i64 y ∧ (∀ b, b < y → conB n (natG z) (butN n x b) = true) ∧ Below w.heap.size w wr) (fun ix _ => n - (intOf ix).toNat)
          case atStart => exact ⟨0, Nat.zero_le _, rfl, fun b hb => by omega, HBR.out⟩
          case round =>
            obtain ⟨y, hy, rfl, hall2, hbr2⟩ := hrel
            obtain ⟨wy, rfl⟩ : ∃ x, x = wr := ⟨_, rfl⟩
            have HALL2 := Lib.hid hall2
            have HBR2 := Lib.hid hbr2
            clear hall2 hbr2 HBR
            by_cases hly : y < n
            · have dy : decide ((y : Int) < (n : Int)) = true := decide_eq_true (by omega)
              have dy2 : decide (y < n) = true := decide_eq_true hly
              have hx16 : x < 16 := by omega
              have hy16 : y < 16 := by omega
              have hpx := pow_bd x hx16
              have hpy := pow_bd y hy16
              have ha1 : bits .andNot .i64 (A : Int) (2 ^ x) = (diff A (2 ^ x) : Nat) := i64_andNot_pow A x hA16 hx16
              have hd16 : diff A (2 ^ x) < 65536 := diff_lt hA16
              have ha2 : bits .andNot .i64 (diff A (2 ^ x) : Nat) (2 ^ y) = (diff (diff A (2 ^ x)) (2 ^ y) : Nat) := i64_andNot_pow (diff A (2 ^ x)) y hd16 hy16
              have HBE : Hid (diff (diff A (2 ^ x)) (2 ^ y) = butN n x y) := Lib.hid (by rw [HAE.out]; rfl)
              have HUB : Hid (∀ u : BelowW wy.heap.size wy, Below w.heap.size w u.w) := Lib.hid fun u => HBR2.out.trans (u.h.mono HBR2.out.size)
              have HCN : Hid (∀ w', Below w.heap.size w w' → Calls Tryd.prog 53 #[.slice a n cap, .int .i64 (diff (diff A (2 ^ x)) (2 ^ y) : Nat)] w' fun e w'' => e = .returned (.bool (conB n (natG z) (butN n x y))) ∧ Below w'.heap.size w' w'') := Lib.hid fun w' hw => by
                have := ConnectedR_z (HTN.out.below hw).at_ hn8 cap ((butN n x y : Nat) : Int)
                rw [cz_nat butN_lt] at this
                rw [HBE.out]
                exact this
              generalize diff (diff A (2 ^ x)) (2 ^ y) = D2 at *
              generalize diff A (2 ^ x) = D1 at *
              cases hc : conB n (natG z) (butN n x y)
              · rw [hc] at HCN
                clear hc
                go_wp2_with fail
                refine wp_region_below wy.heap.size wy (Below.refl _ _) (by kernel_rfl) (by kernel_rfl) ?_
                repeat (go_big_quiet_step (fail))
                refine wpQuiet_nil ?_
                rintro _ ⟨u, rfl⟩
                have HU := Lib.hid (HUB.out u)
                go_wp2_with fail
                go_at_call 53
                refine (HCN.out _ HU.out).mono ?_
                rintro e w2 ⟨rfl, hb2⟩
                have HB2 := Lib.hid (HU.out.trans (hb2.mono HU.out.size))
                clear hb2
                go_wp2_with fail
                go_at_call 19
                refine (awake_any _ (HT.out.below HB2.out)).mono ?_
                rintro e w3 ⟨rfl, hb3⟩
                have HB3 := Lib.hid (HB2.out.trans (hb3.mono HB2.out.size))
                clear hb3
                go_wp2_with fail
                go_ret
                exact ⟨rfl, HB3.out⟩
              · rw [hc] at HCN
                have HNX := Lib.hid (show ∀ b, b < y + 1 → conB n (natG z) (butN n x b) = true from fun b hb => by
                  by_cases e : b = y
                  · subst e; exact hc
                  · exact HALL2.out b (by omega))
                clear hc
                go_wp2_with fail
                refine wp_region_below wy.heap.size wy (Below.refl _ _) (by kernel_rfl) (by kernel_rfl) ?_
                repeat (go_big_quiet_step (fail))
                refine wpQuiet_nil ?_
                rintro _ ⟨u, rfl⟩
                have HU := Lib.hid (HUB.out u)
                go_wp2_with fail
                go_at_call 53
                refine (HCN.out _ HU.out).mono ?_
                rintro e w2 ⟨rfl, hb2⟩
                have HB2 := Lib.hid (HU.out.trans (hb2.mono HU.out.size))
                clear hb2
                go_wp2_with fail
                go_roundw
                case rel => exact ⟨y + 1, by omega, by go_num, HNX.out, HB2.out⟩
                case measure => simp [intOf]; omega
            · have HNX := Lib.hid (show ∀ a b, a < x + 1 → b < n → conB n (natG z) (butN n a b) = true from fun a b ha hb => by
                by_cases e : a = x
                · subst e; exact HALL2.out b (by omega)
                · exact HALL.out a b (by omega) hb)
              have dy : decide ((y : Int) < (n : Int)) = false := decide_eq_false (by omega)
              have dy2 : decide (y < n) = false := decide_eq_false hly
              go_wp2_with fail
              go_roundw
              case rel => exact ⟨x + 1, by omega, by go_num, HNX.out, HBR2.out⟩
              case measure => simp [intOf]; omega
        · have hxe : x = n := by omega
          have HF := Lib.hid (parts_found HG.out h4 fun a b ha hb => HALL.out a b (by omega) hb)
          have dx : decide ((x : Int) < (n : Int)) = false := decide_eq_false (by omega)
          have dx2 : decide (x < n) = false := decide_eq_false hlt
          have HCN : Hid (∀ w', Below w.heap.size w w' → Calls Tryd.prog 53 #[.slice a n cap, .int .i64 (A : Nat)] w' fun e w'' => e = .returned (.bool (conB n (natG z) A)) ∧ Below w'.heap.size w' w'') := Lib.hid fun w' hw => by
            have := ConnectedR_z (HTN.out.below hw).at_ hn8 cap ((A : Nat) : Int)
            rw [cz_nat (by have := HAE.out; have := HPN.out; omega)] at this
            exact this
          clear hxe
          cases hc : conB n (natG z) A
          · rw [hc] at HCN
            clear hc
            go_wp2_with fail
            go_at_call 53
            refine (HCN.out _ HBR.out).mono ?_
            rintro e w2 ⟨rfl, hb2⟩
            have HB2 := Lib.hid (HBR.out.trans (hb2.mono HBR.out.size))
            clear hb2
            go_wp2_with fail
            go_at_call 19
            refine (awake_any _ (HT.out.below HB2.out)).mono ?_
            rintro e w3 ⟨rfl, hb3⟩
            have HB3 := Lib.hid (HB2.out.trans (hb3.mono HB2.out.size))
            clear hb3
            go_wp2_with fail
            go_ret
            exact ⟨rfl, HB3.out⟩
          · rw [hc] at HCN
            clear hc
            go_wp2_with fail
            go_at_call 53
            refine (HCN.out _ HBR.out).mono ?_
            rintro e w2 ⟨rfl, hb2⟩
            have HB2 := Lib.hid (HBR.out.trans (hb2.mono HBR.out.size))
            clear hb2
            have HWY : Hid (∀ w', Calls Tryd.prog 24 #[.int .i64 3] w' fun e w'' => ∃ g, e = .returned (.tuple #[.slice (some ⟨g, 0, none⟩) (3 + 1) (3 + 1), .int .i64 0]) ∧ Row w'' g 3 (natC (whl 3 3)) ∧ Below w'.heap.size w' w'') := Lib.hid fun w' => W_yes (n := 3) (by omega) (by omega) w'
            go_wp2_with fail
            go_at_call 24
            refine (HWY.out _).mono ?_
            rintro e w3 ⟨g, rfl, hr, hb3⟩
            rw [wheel_four] at hr
            have HK := Lib.hid (row_ints hr (show (cmpL 4 4).length = 4 by simp [cmpL]) (by omega))
            clear hr
            have HB3 := Lib.hid (HB2.out.trans (hb3.mono HB2.out.size))
            clear hb3
            go_wp2_with fail
            go_at_call 50
            refine (hasL_any (3 + 1) (HA.out.below HB3.out) HK.out HZ.out (kz_i64 4 (by omega)) (HT.out.below HB3.out) HG.out (kz_graph 4 (by omega) (by omega))).mono ?_
            rintro e w4 ⟨rfl, hb4⟩
            rw [show (modG n 4 z (natL (cmpL 4 4))).isSome = true from HF.out]
            have HB4 := Lib.hid (HB3.out.trans (hb4.mono HB3.out.size))
            clear hb4
            go_wp2_with fail
            go_at_call 19
            refine (awake_any _ (HT.out.below HB4.out)).mono ?_
            rintro e w5 ⟨rfl, hb5⟩
            have HB5 := Lib.hid (HB4.out.trans (hb5.mono HB4.out.size))
            clear hb5
            go_wp2_with fail
            go_ret
            exact ⟨rfl, HB5.out⟩
    · have d4 : decide ((n : Int) < 4) = true := decide_eq_true (by omega)
      have d5 : decide (n < 4) = true := decide_eq_true (by omega)
      clear hg
      go_enter Tryd.func12, Tryd.ntmps12
      go_wp2_with fail
      go_at_call 17
      refine (ValidR_any n z _ _ _ HI0.out HZ.out).mono ?_
      rintro e w1 ⟨rfl, hb1⟩
      rw [HG.out]
      have HB1 := Lib.hid hb1
      clear hb1
      go_wp2_with fail
      go_at_call 19
      refine (awake_any _ (HT.out.below HB1.out)).mono ?_
      rintro e w2 ⟨rfl, hb2⟩
      have HB2 := Lib.hid (HB1.out.trans (hb2.mono HB1.out.size))
      clear hb2
      go_wp2_with fail
      go_ret
      exact ⟨rfl, HB2.out⟩

end Go.Proofs.YtdmicllfappllaaDoor
