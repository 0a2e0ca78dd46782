/- The walk of the law ChaseCorner. -/
import Derived.Test.YtmkcnpphdghbaaaL2a
import Derived.Test.YtmkcnpphdghbaaaS12
namespace Go.Proofs.Ytmkcnpphdghbaaa
set_option linter.unusedSimpArgs false
set_option linter.unusedVariables false
open Go.RowKit Go.Maps

/-- Any number picks a place of a list that is not empty. -/
theorem idx_any (kI : Int) {l : Nat} (h0 : 0 < l) (h1 : l ≤ 65536) : ∃ i : Nat, i < l ∧ wrap64 ((IntKind.u64.wrap kI).tmod (l : Int)) = (i : Int) := by
  have hU : 0 ≤ IntKind.u64.wrap kI := by rw [IntKind.wrap_u64]; omega
  generalize IntKind.u64.wrap kI = U at *
  rw [Int.tmod_eq_emod_of_nonneg hU]
  have a := Int.emod_nonneg U (show (l : Int) ≠ 0 by omega)
  have b := Int.emod_lt_of_pos U (show (0 : Int) < l by omega)
  generalize U % (l : Int) = r at *
  exact ⟨r.toNat, by omega, by rw [IntWalk.wrap64_in _ (by omega)]; omega⟩

set_option maxRecDepth 200000 in
set_option maxHeartbeats 4000000 in
theorem ChaseCorner_walk (n : Nat) (z : Nat → Int) (v : Value) (kI : Int) (w : World) (hA : SliceArg w v n z) (hz : ∀ i, -9223372036854775808 ≤ z i ∧ z i ≤ 9223372036854775807) :
    Calls Try.prog 10 #[v, .int .i64 kI] w (LawTrue w) := by
  obtain ⟨a, cap, rfl, hI⟩ := hA.ints
  have HA := Lib.hid hA
  have HI := Lib.hid hI
  have HZ := Lib.hid hz
  have hml := hI.1
  unfold maxLen at hml
  clear hA hI hz
  cases hv : validB n z
  · have HV := Lib.hid hv
    clear hv
    go_enter Try.func10, Try.ntmps10
    go_wp2_with fail
    go_at_call 23
    refine (Valid_any n z _ _ _ HI.out HZ.out).mono ?_
    rintro e w1 ⟨rfl, hb1⟩
    rw [HV.out]
    have HB1 := Lib.hid hb1
    clear hb1
    go_wp2_with fail
    go_at_call 17
    refine (awake_any _).mono ?_
    rintro e w10 ⟨rfl, hb10⟩
    have HB10 := Lib.hid (HB1.out.trans (hb10.mono HB1.out.size))
    clear hb10
    go_wp2_with fail
    go_ret
    exact ⟨rfl, HB10.out⟩
  · obtain ⟨hn1, hn8, hcell⟩ := graphB_le (validB_graph hv)
    have HM : Hid (min n 13 = n) := Lib.hid (by omega)
    have HT : Hid (townB n z = true) := Lib.hid (by rw [townB_valid]; exact hv)
    have HV := Lib.hid hv
    have HCE := Lib.hid hcell
    obtain ⟨p1, p2⟩ := pow_bd n (by omega)
    have w1' : IntKind.i64.wrap ((2 : Int) ^ n) = 2 ^ n := IntWalk.i64_in _ (by omega)
    have w2' : IntKind.i64.wrap ((2 : Int) ^ n - 1) = 2 ^ n - 1 := IntWalk.i64_in _ (by omega)
    have HIN : Hid (inB ((2 : Int) ^ n - 1) (2 ^ n) = true) := Lib.hid (inB_true (by omega) (by omega))
    have HTN : Hid (((2 : Int) ^ n - 1).toNat = 2 ^ n - 1) := Lib.hid (by rw [mask_val, Int.toNat_natCast])
    clear hv hcell
    go_enter Try.func10, Try.ntmps10
    go_wp2_with fail
    go_at_call 23
    refine (Valid_any n z _ _ _ HI.out HZ.out).mono ?_
    rintro e w1 ⟨rfl, hb1⟩
    rw [HV.out]
    have HB1 := Lib.hid hb1
    clear hb1
    go_wp2_with fail
    have HBD := Lib.hid (HB1.out.drew)
    go_region_law (first
      | (go_simp; go_at_call 13; refine (Few_any n z _ _ (SliceArg.below HA.out HBD.out)).mono ?_; rintro e w2 ⟨a2, c2, rfl, hi2, hb2⟩; rw [HM.out] at hi2; rw [HM.out]; have HI2 := Lib.hid hi2; clear hi2; have HB2 := Lib.hid (HBD.out.trans (hb2.mono HBD.out.size)); clear hb2)
      | (go_simp; go_at_call 31; refine (Corners_any n z _ _ _ _ HI2.out).mono ?_; rintro e w3 ⟨hb3, hyes, -⟩; obtain ⟨v3, rfl, ho3⟩ := hyes HT.out HIN.out; clear hyes; have HO3 := Lib.hid ho3; clear ho3; have HB3 := Lib.hid (HB2.out.trans (hb3.mono HB2.out.size)); clear hb3))
    have ho3 := HO3.out
    rw [HTN.out] at ho3
    have HPA : Hid (∀ p ∈ cornTo (covP (reachOf z) (2 ^ n - 1)) n n, p.1 < n ∧ p.2 < n ∧ p.2 ≠ p.1 ∧ ∀ d, (reachOf z p.1).testBit d = true → (reachOf z p.2).testBit d = true) := Lib.hid (fun p hp => corner_pair HCE.out hp)
    have hll := cornTo_len (covP (reachOf z) (2 ^ n - 1)) n (by omega) n
    clear HO3 HI2 HB2 HBD HB1
    generalize cornTo (covP (reachOf z) (2 ^ n - 1)) n n = L at *
    obtain ⟨a3, c3, rfl⟩ := own_form ho3
    have HO3 := Lib.hid ho3
    clear ho3
    by_cases hl : L.length = 0
    · obtain rfl : L = [] := List.length_eq_zero_iff.1 hl
      clear hl hll
      go_wp2_with fail
      go_wp2_with fail
      go_at_call 17
      refine (awake_any _).mono ?_
      rintro e w10 ⟨rfl, hb10⟩
      have HB10 := Lib.hid (HB3.out.trans (hb10.mono HB3.out.size))
      clear hb10
      go_wp2_with fail
      go_ret
      exact ⟨rfl, HB10.out⟩
    · have hl0 : 0 < L.length := by omega
      have d1 : ((L.length : Int) == 0) = false := beq_eq_false_iff_ne.2 (by omega)
      obtain ⟨i, hi, hR⟩ := idx_any kI hl0 (by omega)
      obtain ⟨⟨x, u⟩, hp⟩ : ∃ p, L[i]? = some p := ⟨L[i], by simp [hi]⟩
      obtain ⟨g, rfl, e0, -⟩ := HO3.out.cells w3 (Below.refl _ _) i _ hp
      obtain ⟨hx, hu, hxu, hcv⟩ := HPA.out _ (List.mem_of_getElem? hp)
      dsimp only at e0 hx hu hxu hcv
      have d0 : decide ((x : Int) < 0) = false := decide_eq_false (by omega)
      have hn2 : 2 ≤ n := by omega
      have HBW : Hid (∀ k, k = 1 ∨ k = 2 → ((bestG n z k).2 = -1 ↔ (bestG (n - 1) (woZ z x) k).2 = -1)) := Lib.hid (by
        have h' : ∀ m, n = m + 1 → ∀ k, k = 1 ∨ k = 2 → ((bestG n z k).2 = -1 ↔ (bestG (n - 1) (woZ z x) k).2 = -1) := by
          rintro m rfl k hk
          rw [Nat.add_sub_cancel]
          exact best_wo hk HT.out hx hu hxu hcv
        exact h' (n - 1) (by omega))
      have HTW : Hid (townB (n - 1) (woZ z x) = true) := Lib.hid (by
        have h' : ∀ m, n = m + 1 → townB (n - 1) (woZ z x) = true := by
          rintro m rfl
          rw [Nat.add_sub_cancel]
          exact town_wo HT.out hx hu hxu hcv
        exact h' (n - 1) (by omega))
      clear hcv hxu hu hp
      go_wp2_with fail
      go_at_call 32
      refine (without_any (HI.out.below HB3.out) hx hn8 HCE.out).mono ?_
      rintro e w4 ⟨⟨v4, rfl, ho4⟩, hb4⟩
      have HB4 := Lib.hid (HB3.out.trans (hb4.mono HB3.out.size))
      clear hb4
      have HH := Lib.hid (WoOwn.arg ho4 (by omega))
      clear ho4 e0 d0 hR
      go_wp2_with fail
      go_loopw [9] (fun kk wr => ∃ k : Nat, 1 ≤ k ∧ k ≤ 3 ∧ kk = .int .i64 k ∧ Below w4.heap.size w4 wr) (fun kk _ => 3 - (intOf kk).toNat)
      case atStart => exact ⟨1, by omega, by omega, rfl, Below.refl _ _⟩
      case round =>
        obtain ⟨k, hk1, hk3, rfl, hbel⟩ := hrel
        have HBL := Lib.hid hbel
        have HBR := Lib.hid (HB4.out.trans (hbel.mono HB4.out.size))
        clear hbel
        by_cases hle : k ≤ 2
        · have HKI : Hid ((k : Int) = 1 ∨ (k : Int) = 2) := Lib.hid (by omega)
          have HKN : Hid ((k : Int).toNat = 1 ∨ (k : Int).toNat = 2) := Lib.hid (by omega)
          by_cases hbb : (bestG n z (k : Int).toNat).2 = -1
          · have HX := Lib.hid hbb
            have HY := Lib.hid ((HBW.out _ HKN.out).1 hbb)
            clear hbb
            go_wp2_with fail
            go_at_call 13
            refine (Few_any n z _ _ (SliceArg.below HA.out HBR.out)).mono ?_
            rintro e w5 ⟨a5, c5, rfl, hi5, hb5⟩
            rw [HM.out] at hi5
            rw [HM.out]
            have HI5 := Lib.hid hi5
            clear hi5
            have HL5 := Lib.hid (HBL.out.trans (hb5.mono HBL.out.size))
            clear hb5
            go_wp2_with fail
            go_at_call 21
            refine (Rounds_any n z k _ _ _ HI5.out).mono ?_
            rintro e w6 ⟨hb6, hr, -⟩
            obtain rfl := hr ⟨HT.out, HKI.out⟩ HX.out
            clear hr
            have HL6 := Lib.hid (HL5.out.trans (hb6.mono HL5.out.size))
            clear hb6
            go_wp2_with fail
            go_at_call 33
            refine (Clone_any (n - 1) (woZ z x) _ _ (by omega) (SliceArg.below HH.out HL6.out)).mono ?_
            rintro e w7 ⟨a7, c7, rfl, hi7, hb7⟩
            have HI7 := Lib.hid hi7
            clear hi7
            have HL7 := Lib.hid (HL6.out.trans (hb7.mono HL6.out.size))
            clear hb7
            go_wp2_with fail
            go_at_call 21
            refine (Rounds_any (n - 1) (woZ z x) k _ _ _ HI7.out).mono ?_
            rintro e w8 ⟨hb8, hr, -⟩
            obtain rfl := hr ⟨HTW.out, HKI.out⟩ HY.out
            clear hr
            have HL8 := Lib.hid (HL7.out.trans (hb8.mono HL7.out.size))
            clear hb8
            go_wp2_with fail
            go_roundw
            case rel => exact ⟨k + 1, by omega, by omega, by go_num, HL8.out⟩
            case measure => simp [intOf]; omega
          · have HX := Lib.hid hbb
            have HY : Hid (¬ (bestG (n - 1) (woZ z x) (k : Int).toNat).2 = -1) := Lib.hid (fun h => hbb ((HBW.out _ HKN.out).2 h))
            clear hbb
            go_wp2_with fail
            go_at_call 13
            refine (Few_any n z _ _ (SliceArg.below HA.out HBR.out)).mono ?_
            rintro e w5 ⟨a5, c5, rfl, hi5, hb5⟩
            rw [HM.out] at hi5
            rw [HM.out]
            have HI5 := Lib.hid hi5
            clear hi5
            have HL5 := Lib.hid (HBL.out.trans (hb5.mono HBL.out.size))
            clear hb5
            go_wp2_with fail
            go_at_call 21
            refine (Rounds_any n z k _ _ _ HI5.out).mono ?_
            rintro e w6 ⟨hb6, -, hr, -⟩
            obtain rfl := hr ⟨HT.out, HKI.out⟩ HX.out
            clear hr
            have HL6 := Lib.hid (HL5.out.trans (hb6.mono HL5.out.size))
            clear hb6
            go_wp2_with fail
            go_at_call 33
            refine (Clone_any (n - 1) (woZ z x) _ _ (by omega) (SliceArg.below HH.out HL6.out)).mono ?_
            rintro e w7 ⟨a7, c7, rfl, hi7, hb7⟩
            have HI7 := Lib.hid hi7
            clear hi7
            have HL7 := Lib.hid (HL6.out.trans (hb7.mono HL6.out.size))
            clear hb7
            go_wp2_with fail
            go_at_call 21
            refine (Rounds_any (n - 1) (woZ z x) k _ _ _ HI7.out).mono ?_
            rintro e w8 ⟨hb8, -, hr, -⟩
            obtain rfl := hr ⟨HTW.out, HKI.out⟩ HY.out
            clear hr
            have HL8 := Lib.hid (HL7.out.trans (hb8.mono HL7.out.size))
            clear hb8
            go_wp2_with fail
            go_roundw
            case rel => exact ⟨k + 1, by omega, by omega, by go_num, HL8.out⟩
            case measure => simp [intOf]; omega
        · have hke : k = 3 := by omega
          subst hke
          go_wp2_with fail
          go_at_call 17
          refine (awake_any _).mono ?_
          rintro e w10 ⟨rfl, hb10⟩
          have HB10 := Lib.hid (HBR.out.trans (hb10.mono HBR.out.size))
          clear hb10
          go_wp2_with fail
          go_ret
          exact ⟨rfl, HB10.out⟩

end Go.Proofs.Ytmkcnpphdghbaaa
