/- The walk of the law WidthDivided. -/
import Derived.Test.YtbkbliieappkdaaDoorL3e
import Derived.Test.YtbkbliieappkdaaDoorW27
namespace Go.Proofs.YtbkbliieappkdaaDoor
set_option linter.unusedSimpArgs false
set_option linter.unusedVariables false
open Go.RowKit Go.Maps
section
attribute [local go_sem] i64_bit toNat_eq_one toNat_ne_one toNat_eq_zero toNat_ne_zero i64_and i64_or i64_andNot i64_or_pow i64_andNot_pow

set_option maxRecDepth 20000 in
set_option maxHeartbeats 2000000 in
theorem LSize_any {n : Nat} (hn : n ≤ 9) (T : Nat) (hT : T < 2 ^ n) (w : World) :
    Calls Tryd.prog 30 #[.int .i64 T] w fun e w' => e = .returned (.int .i64 (szS n T : Nat)) ∧ w = w' := by
  have h9 : szS 9 T ≤ 9 := szS_le 9 T
  have HS := Lib.hid (szS_nine hn hT)
  have hT9 : T < 512 := by have := pow_le9 hn; omega
  clear hT
  go_enter Tryd.func30, Tryd.ntmps30
  go_wp2_with fail
  go_loopw [0, 3] (fun s c wr => ∃ S k, s = .int .i64 (S : Nat) ∧ c = .int .i64 (k : Nat) ∧ S < 512 ∧ k + szS 9 S = szS 9 T ∧ w = wr) (fun s _ _ => (intOf s).toNat)
  case atStart => exact ⟨T, 0, rfl, rfl, hT9, by omega, rfl⟩
  case round =>
    obtain ⟨S, k, rfl, rfl, hS, hk, rfl⟩ := hrel
    by_cases h0 : 0 < S
    · obtain ⟨l1, l2⟩ := szS_low S hS h0
      have hc : wrap64 ((S : Int) - 1) = ((S - 1 : Nat) : Int) := by
        rw [show ((S : Int) - 1) = ((S - 1 : Nat) : Int) by omega]
        exact IntWalk.wrap64_in _ ⟨by omega, by omega⟩
      have hb : bits .and .i64 (S : Int) ((S : Int) - 1) = ((S &&& (S - 1) : Nat) : Int) := by
        rw [show ((S : Int) - 1) = ((S - 1 : Nat) : Int) by omega, i64_and S (S - 1) (by omega) (by omega)]
      go_wp2_with fail
      go_roundw
      case rel => exact ⟨S &&& (S - 1), k + 1, by first | rfl | exact congrArg (Value.int .i64) hb, by go_num, by omega, by omega, by first | trivial | rfl⟩
      case measure => simpa [intOf, hb] using l2
    · have : S = 0 := by omega
      subst this
      go_wp2_with fail
      go_ret
      have h00 : szS 9 0 = 0 := by decide
      rw [h00] at hk
      have hk2 : k = szS n T := by rw [← HS.out]; omega
      subst hk2
      exact ⟨rfl, rfl⟩

end

section
attribute [local go_sem] i64_bit toNat_eq_one toNat_ne_one toNat_eq_zero toNat_ne_zero
/-- What the program's dividing set is. -/
theorem divide_small {n : Nat} {z : Nat → Int} (hg : graphB n 9 z = true) {X : Nat} (hX : LeastFit n (fun s => dvTo n (natG z) s n) X) : szS n X ≤ widthG n z + 1 ∧ dvTo n (natG z) X n = true := by
  have hb := graphB_le hg
  have hr : ∀ i, i < n → natG z i < 2 ^ n := fun i hi => nat_pow_cast (hb.2.2 i hi).2 (hb.2.2 i hi).1
  have ht : ∀ g v, v < n → tn n (natG z) g v ≤ n := fun _ _ _ => tn_le _ _ _ _
  have hf := (first_going (n := n) (t := tn n (natG z)) (W := widthG n z) ht (Nat.le_refl _) n (Nat.le_refl _)).2.2
  obtain ⟨S, hS, hsz, hdv⟩ := some_divides (W := widthG n z) hr (graph_sym hg) (fun k hk => (hf k hk).ok) (fun k hk => (hf k hk).le)
  constructor
  · by_cases hall : S = 2 ^ n - 1
    · have := szS_le n X
      rw [hall, sz_all] at hsz
      omega
    · have := hX.least S (by omega) hdv
      omega
  · rcases hX.fit with h | h
    · rw [h, dvTo_iff]
      intro v hv hs
      rw [Nat.testBit_two_pow_sub_one, decide_eq_true hv] at hs
      cases hs
    · exact h

set_option maxRecDepth 200000 in
set_option maxHeartbeats 4000000 in
theorem WidthDivided_walk (n : Nat) (z : Nat → Int) (v : Value) (w : World) (hA : SliceArg w v n z) (hz : InI64 z) (hT : HasTab w) :
    Calls Tryd.prog 8 #[v] w (LawTrue w) := by
  obtain ⟨a, cap, rfl, hI⟩ := hA.ints
  have HA := Lib.hid hA
  have HI0 := Lib.hid hI
  have HZ := Lib.hid hz
  have HT := Lib.hid hT
  clear hA hI hz hT
  cases hg : graphB n 9 z
  · have HG : Hid (graphB (min n 13) 9 z = false) := Lib.hid (by rw [graphB_few]; exact hg)
    clear hg
    go_enter Tryd.func8, Tryd.ntmps8
    go_wp2_with fail
    go_at_call 11
    refine (Few_any n z _ _ HA.out).mono ?_
    rintro e w1 ⟨a1, c1, rfl, hi1, hb1⟩
    have HB1 := Lib.hid hb1
    clear hb1
    have HI1 := Lib.hid hi1
    clear hi1
    go_wp2_with fail
    go_at_call 24
    refine (Divide_no _ HI1.out HZ.out HG.out).mono ?_
    rintro e w2 ⟨rfl, hb2⟩
    have HB2 := Lib.hid (HB1.out.trans (hb2.mono HB1.out.size))
    clear hb2
    go_wp2_with fail
    go_at_call 11
    refine (Few_any n z _ _ (SliceArg.below HA.out HB2.out)).mono ?_
    rintro e w3 ⟨a3, c3, rfl, hi3, hb3⟩
    have HI3 := Lib.hid hi3
    clear hi3
    have HB3 := Lib.hid (HB2.out.trans (hb3.mono HB2.out.size))
    clear hb3
    go_wp2_with fail
    go_at_call 26
    refine (Width_no _ HI3.out HZ.out HG.out).mono ?_
    rintro e w4 ⟨rfl, hb4⟩
    have HB4 := Lib.hid (HB3.out.trans (hb4.mono HB3.out.size))
    clear hb4
    go_wp2_with fail
    go_at_call 13
    refine (awake_any _).mono ?_
    rintro e w5 ⟨rfl, hb5⟩
    have HB5 := Lib.hid (HB4.out.trans (hb5.mono HB4.out.size))
    clear hb5
    go_wp2_with fail
    go_ret
    exact ⟨rfl, HB5.out⟩
  · have hn9 := (graphB_le hg).2.1
    have hn16 : n < 16 := by omega
    have HM : Hid (min n 13 = n) := Lib.hid (by omega)
    have HG := Lib.hid hg
    have HGR := Lib.hid (Gr.of_graph HI0.out hg)
    obtain ⟨W, hW⟩ : ∃ W, W = widthG n z := ⟨_, rfl⟩
    have HW := Lib.hid hW
    have hW9 : W ≤ 9 := by
      rw [hW]
      exact Nat.le_trans (rst_le (Nat.two_pow_pos n)) hn9
    have hpn := pow_bd n hn16
    have h9 := pow_le9 hn9
    have h1 := Nat.one_le_two_pow (n := n)
    obtain ⟨N, hN⟩ : ∃ N : Nat, N = 2 ^ n := ⟨_, rfl⟩
    have hcast : (2 : Int) ^ n = (N : Int) := by rw [pow_cast, hN]
    have HN := Lib.hid hN
    have hN9 : N ≤ 512 := by omega
    have hN1 : 1 ≤ N := by omega
    have hml := HI0.out.1
    unfold maxLen at hml
    clear hg hW hN h9
    go_enter Tryd.func8, Tryd.ntmps8
    go_wp2_with fail
    go_at_call 11
    refine (Few_any n z _ _ HA.out).mono ?_
    rintro e w1 ⟨a1, c1, rfl, hi1, hb1⟩
    rw [HM.out] at hi1
    rw [HM.out]
    have HB1 := Lib.hid hb1
    have HT1 := Lib.hid (HT.out.below hb1)
    clear hb1
    have HI1 := Lib.hid hi1
    clear hi1
    go_wp2_with fail
    go_at_call 24
    refine (Divide_yes _ HI1.out HZ.out HT1.out HG.out).mono ?_
    rintro e w2 ⟨⟨X, rfl, hX⟩, hb2⟩
    obtain ⟨hsz, hdv⟩ := divide_small HG.out hX
    rw [← HW.out] at hsz
    have hXl := hX.lt
    have hXN : X < N := by rw [HN.out]; exact hXl
    have HXL := Lib.hid hXl
    have HDV : Hid (∀ v, v < n → X.testBit v = false → 2 * szS n (partS n (fun i => (z i).toNat) (diff (2 ^ n - 1) X) v) ≤ n) := Lib.hid ((dvTo_iff n).1 hdv)
    clear hX hdv hXl
    have HB2 := Lib.hid (HB1.out.trans (hb2.mono HB1.out.size))
    clear hb2
    go_wp2_with fail
    go_at_call 11
    refine (Few_any n z _ _ (SliceArg.below HA.out HB2.out)).mono ?_
    rintro e w3 ⟨a3, c3, rfl, hi3, hb3⟩
    rw [HM.out] at hi3
    rw [HM.out]
    have HI3 := Lib.hid hi3
    clear hi3
    have HB3 := Lib.hid (HB2.out.trans (hb3.mono HB2.out.size))
    clear hb3
    go_wp2_with fail
    go_at_call 26
    refine (Width_yes _ HI3.out HZ.out HG.out).mono ?_
    rintro e w4 ⟨rfl, hb4⟩
    rw [← HW.out]
    have HB4 := Lib.hid (HB3.out.trans (hb4.mono HB3.out.size))
    clear hb4
    go_wp2_with fail
    go_loopw [33] (fun i wr => ∃ j : Nat, j ≤ n ∧ i = .int .i64 j ∧ Below w.heap.size w wr) (fun i _ => n - (intOf i).toNat)
    case atStart => exact ⟨0, Nat.zero_le _, rfl, HB4.out⟩
    case round =>
      clear HB4
      obtain ⟨j, hj, rfl, hbel⟩ := hrel
      have HB := Lib.hid hbel
      clear hbel
      by_cases hlj : j < n
      · have hj16 : j < 16 := by omega
        have hX16 : X < 65536 := by omega
        cases hq : X.testBit j
        · have hm16 : N - 1 < 65536 := by omega
          have HAN : Hid (bits .andNot .i64 ((N : Int) - 1) (X : Int) = ((diff (N - 1) X : Nat) : Int)) := Lib.hid (by
            rw [show ((N : Int) - 1) = ((N - 1 : Nat) : Int) by omega]; exact i64_andNot (N - 1) X hm16 hX16)
          have hR2 : diff (N - 1) X < 2 ^ n := Nat.lt_of_le_of_lt (diff_le _ _) (by have := HN.out; omega)
          have hR16 := lt16 hn9 hR2
          have hRN : diff (2 ^ n - 1) X = diff (N - 1) X := by rw [← HN.out]
          have hP2 : partS n (fun i => (z i).toNat) (diff (N - 1) X) j < 2 ^ n := partS_lt hlj HGR.out.bd
          have hle := HDV.out j hlj hq
          rw [hRN] at hle
          obtain ⟨S, hS⟩ : ∃ S, S = szS n (partS n (fun i => (z i).toNat) (diff (N - 1) X) j) := ⟨_, rfl⟩
          rw [← hS] at hle
          have HSS : Hid (szS n (metIn n (fun i => (z i).toNat) (diff (N - 1) X) (2 ^ j) n) = S) := Lib.hid hS.symm
          have HP2 : Hid (metIn n (fun i => (z i).toNat) (diff (N - 1) X) (2 ^ j) n < 2 ^ n) := Lib.hid hP2
          have HGW := Lib.hid (HGR.out.below HB.out)
          have hgt' : ¬ (n : Int) < 2 * (S : Int) := by omega
          clear hRN hR2 hP2 hS
          go_wp2_with (first
            | (go_at_call 31; refine (Reached_any HGW.out.at_ cap (diff (N - 1) X) j _ _ HAN.out rfl hR16 hlj).mono ?_; rintro e w5 ⟨rfl, hb5⟩; have HB5 := Lib.hid (HB.out.trans (hb5.mono HB.out.size)); clear hb5)
            | (go_at_call 30; refine (LSize_any hn9 _ HP2.out _).mono ?_; rintro e w6 ⟨rfl, rfl⟩; rw [HSS.out]))
          go_roundw
          case rel => exact ⟨j + 1, by omega, by go_num, HB5.out⟩
          case measure => simp [intOf]; omega
        · go_wp2_with fail
          go_roundw
          case rel => exact ⟨j + 1, by omega, by go_num, HB.out⟩
          case measure => simp [intOf]; omega
      · have hje : j = n := by omega
        subst hje
        have hXi : (X : Int) < 2 ^ j := by rw [hcast]; omega
        have hsl := szS_le j X
        go_wp2_with (first
          | (go_at_call 30; refine (LSize_any hn9 X HXL.out _).mono ?_; rintro e w6 ⟨rfl, rfl⟩)
          | (go_at_call 13; refine (awake_any _).mono ?_; rintro e w7 ⟨rfl, hb7⟩; have HB7 := Lib.hid (HB.out.trans (hb7.mono HB.out.size)); clear hb7))
        go_ret
        exact ⟨rfl, HB7.out⟩

end
end Go.Proofs.YtbkbliieappkdaaDoor
