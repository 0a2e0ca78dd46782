/- The walk of the law ChaseSafe. -/
import Derived.Test.YtmkcnpphdghbaaaL2a
import Derived.Test.YtmkcnpphdghbaaaS4
namespace Go.Proofs.Ytmkcnpphdghbaaa
set_option linter.unusedSimpArgs false
set_option linter.unusedVariables false
open Go.RowKit Go.Maps

set_option maxRecDepth 200000 in
set_option maxHeartbeats 2000000 in
theorem ChaseSafe_yes (n : Nat) (z : Nat → Int) (v : Value) (kI : Int) (w : World) (hA : SliceArg w v n z) (hz : ∀ i, -9223372036854775808 ≤ z i ∧ z i ≤ 9223372036854775807) (hv : validB n z = true) (hk : kI = 1 ∨ kI = 2) :
    Calls Try.prog 5 #[v, .int .i64 kI] w (LawTrue w) := by
  obtain ⟨a, cap, rfl, hI⟩ := hA.ints
  have HA := Lib.hid hA
  have HI := Lib.hid hI
  have HZ := Lib.hid hz
  obtain ⟨hn1, hn8, hcell⟩ := graphB_le (validB_graph hv)
  have HM : Hid (min n 13 = n) := Lib.hid (by omega)
  have HT : Hid (okGame n z kI) := Lib.hid ⟨by rw [townB_valid]; exact hv, hk⟩
  have HG := Lib.hid (GrAt.of_graph hI (validB_graph hv) (by omega))
  have HBD : Hid (∀ v, v < n → (fun i => (z i).toNat) v < 2 ^ n) := Lib.hid (fun v h => nat_pow_cast (hcell v h).2 (hcell v h).1)
  have HV := Lib.hid hv
  have HKK : Hid (kI = 1 ∧ kI.toNat = 1 ∨ kI = 2 ∧ kI.toNat = 2) := Lib.hid (by omega)
  have hk0 : 1 ≤ kI ∧ kI ≤ 2 := by omega
  have HBG : Hid (bestG n z kI.toNat = bestOf n (ranksF n (rch (fun i => (z i).toNat)) (chs n kI.toNat)) (chs n kI.toNat)) := Lib.hid rfl
  have hml := hI.1
  unfold maxLen at hml
  clear hA hI hz hcell hv hk
  by_cases hb : (bestG n z kI.toNat).2 = -1
  · have HBB := Lib.hid hb
    clear hb
    go_enter Try.func5, Try.ntmps5
    go_wp2_with fail
    go_at_call 13
    refine (Few_any n z _ _ HA.out).mono ?_
    rintro e w1 ⟨a1, c1, rfl, hi1, hb1⟩
    rw [HM.out] at hi1
    rw [HM.out]
    have HB1 := Lib.hid hb1
    clear hb1
    have HI1 := Lib.hid hi1
    clear hi1
    go_wp2_with fail
    go_at_call 25
    refine (Safe_any n z kI _ _ _ HI1.out).mono ?_
    rintro e w2 ⟨hb2, -, hr, -⟩
    obtain ⟨vs, rfl, ho⟩ := hr HT.out HBB.out
    have hlen : (escL n (ranksF n (reachOf z) (chs n kI.toNat)) (chs n kI.toNat)).length ≤ 65536 := by
      have h1 := escL_len n (ranksF n (reachOf z) (chs n kI.toNat)) (chs n kI.toNat)
      have h2 := chs_le n kI.toNat (by omega)
      have h3 := Nat.mul_le_mul h2 hn8
      omega
    have HSF : Hid (safeB n kI.toNat kI (fun i => (z i).toNat) ((escL n (ranksF n (reachOf z) (chs n kI.toNat)) (chs n kI.toNat)).map castP) = true) := Lib.hid (safe_esc HKK.out hn1 (by omega) HBD.out (by rw [← HBG.out]; exact HBB.out))
    generalize escL n (ranksF n (reachOf z) (chs n kI.toNat)) (chs n kI.toNat) = L at *
    obtain ⟨va, vc, rfl⟩ := own_form ho
    have HO := Lib.hid ho
    clear ho hr
    have HB2 := Lib.hid (HB1.out.trans (hb2.mono HB1.out.size))
    clear hb2
    go_wp2_with fail
    go_at_call 23
    refine (Valid_any n z _ _ _ (HI.out.below HB2.out) HZ.out).mono ?_
    rintro e w3 ⟨rfl, hb3⟩
    rw [HV.out]
    have HO3 := Lib.hid (ownsRow_below HO.out hb3 (Nat.le_refl _))
    have HB3 := Lib.hid (HB2.out.trans (hb3.mono HB2.out.size))
    clear hb3
    go_wp2_with fail
    go_at_call 24
    refine (RoundsR_any (HG.out.below HB3.out) _ kI.toNat kI HKK.out hn8 HBD.out).mono ?_
    rintro e w4 ⟨hb4, hr1, -⟩
    obtain rfl := hr1 (by rw [← HBG.out]; exact HBB.out)
    have HO4 := Lib.hid (ownsRow_below HO3.out hb4 (Nat.le_refl _))
    clear hr1
    have HB4 := Lib.hid (HB3.out.trans (hb4.mono HB3.out.size))
    clear hb4
    go_wp2_with fail
    go_at_call 27
    refine (own_any (World.ownsRow.alloc HO4.out _) hlen).mono ?_
    rintro e w5 ⟨⟨v5, rfl, ho5⟩, hb5⟩
    obtain ⟨va5, vc5, rfl⟩ := own_form ho5
    have HP5 := Lib.hid (PlsOwn.plsAt ho5 hlen)
    have HLM : Hid (L.length = (L.map castP).length) := Lib.hid (by rw [List.length_map])
    have HB5 := Lib.hid ((HB4.out.alloc HB4.out.size _).trans (hb5.mono (by simp; have := HB4.out.size; omega)))
    clear hb5 ho5
    go_wp2_with fail
    go_at_call 26
    rw [HLM.out]
    refine (IsSafe_any (HG.out.below HB5.out) HP5.out _ _ kI.toNat kI HKK.out hn8).mono ?_
    rintro e w6 ⟨rfl, hb6⟩
    rw [HSF.out]
    have HB6 := Lib.hid (HB5.out.trans (hb6.mono HB5.out.size))
    clear hb6
    go_wp2_with fail
    go_at_call 17
    refine (awake_any _).mono ?_
    rintro e w7 ⟨rfl, hb7⟩
    have HB7 := Lib.hid (HB6.out.trans (hb7.mono HB6.out.size))
    clear hb7
    go_wp2_with fail
    go_ret
    exact ⟨rfl, HB7.out⟩
  · have HBB := Lib.hid hb
    clear hb
    go_enter Try.func5, Try.ntmps5
    go_wp2_with fail
    go_at_call 13
    refine (Few_any n z _ _ HA.out).mono ?_
    rintro e w1 ⟨a1, c1, rfl, hi1, hb1⟩
    rw [HM.out] at hi1
    rw [HM.out]
    have HB1 := Lib.hid hb1
    clear hb1
    have HI1 := Lib.hid hi1
    clear hi1
    go_wp2_with fail
    go_at_call 25
    refine (Safe_any n z kI _ _ _ HI1.out).mono ?_
    rintro e w2 ⟨hb2, hr, -, -⟩
    obtain rfl := hr HT.out HBB.out
    clear hr
    have HB2 := Lib.hid (HB1.out.trans (hb2.mono HB1.out.size))
    clear hb2
    go_wp2_with fail
    go_at_call 23
    refine (Valid_any n z _ _ _ (HI.out.below HB2.out) HZ.out).mono ?_
    rintro e w3 ⟨rfl, hb3⟩
    rw [HV.out]
    have HB3 := Lib.hid (HB2.out.trans (hb3.mono HB2.out.size))
    clear hb3
    go_wp2_with fail
    go_at_call 24
    refine (RoundsR_any (HG.out.below HB3.out) _ kI.toNat kI HKK.out hn8 HBD.out).mono ?_
    rintro e w4 ⟨hb4, -, hr1⟩
    obtain rfl := hr1 (by rw [← HBG.out]; exact HBB.out)
    clear hr1
    have HB4 := Lib.hid (HB3.out.trans (hb4.mono HB3.out.size))
    clear hb4
    go_wp2_with fail
    go_at_call 17
    refine (awake_any _).mono ?_
    rintro e w7 ⟨rfl, hb7⟩
    have HB7 := Lib.hid ((HB4.out.alloc HB4.out.size _).trans (hb7.mono (by simp; have := HB4.out.size; omega)))
    clear hb7
    go_wp2_with fail
    go_ret
    exact ⟨rfl, HB7.out⟩

set_option maxRecDepth 200000 in
set_option maxHeartbeats 2000000 in
theorem ChaseSafe_no (n : Nat) (z : Nat → Int) (v : Value) (kI : Int) (w : World) (hA : SliceArg w v n z) (hz : ∀ i, -9223372036854775808 ≤ z i ∧ z i ≤ 9223372036854775807) (hv : ¬ (validB n z = true ∧ (kI = 1 ∨ kI = 2))) :
    Calls Try.prog 5 #[v, .int .i64 kI] w (LawTrue w) := by
  obtain ⟨a, cap, rfl, hI⟩ := hA.ints
  have HA := Lib.hid hA
  have HI := Lib.hid hI
  have HZ := Lib.hid hz
  have HNO : Hid (¬ okGame (min n 13) z kI) := Lib.hid (fun h => by
    obtain ⟨h1, h2⟩ := h
    rw [townB_few] at h1
    exact hv ⟨h1, h2⟩)
  have hml := hI.1
  unfold maxLen at hml
  clear hA hI hz
  cases hvb : validB n z
  · have HVB := Lib.hid hvb
    clear hvb hv
    go_enter Try.func5, Try.ntmps5
    go_wp2_with fail
    go_at_call 13
    refine (Few_any n z _ _ HA.out).mono ?_
    rintro e w1 ⟨a1, c1, rfl, hi1, hb1⟩
    have HB1 := Lib.hid hb1
    clear hb1
    have HI1 := Lib.hid hi1
    clear hi1
    go_wp2_with fail
    go_at_call 25
    refine (Safe_any (min n 13) z kI _ _ _ HI1.out).mono ?_
    rintro e w2 ⟨hb2, -, -, hr1⟩
    obtain rfl := hr1 HNO.out
    clear hr1
    have HB2 := Lib.hid (HB1.out.trans (hb2.mono HB1.out.size))
    clear hb2
    go_wp2_with fail
    go_at_call 23
    refine (Valid_any n z _ _ _ (HI.out.below HB2.out) HZ.out).mono ?_
    rintro e w3 ⟨rfl, hb3⟩
    rw [HVB.out]
    have HB3 := Lib.hid (HB2.out.trans (hb3.mono HB2.out.size))
    clear hb3
    go_wp2_with fail
    go_at_call 17
    refine (awake_any _).mono ?_
    rintro e w4 ⟨rfl, hb4⟩
    have HB4 := Lib.hid (HB3.out.trans (hb4.mono HB3.out.size))
    clear hb4
    go_wp2_with fail
    go_ret
    exact ⟨rfl, HB4.out⟩
  · have HVB := Lib.hid hvb
    by_cases hk1 : kI < 1
    · clear hvb hv
      go_enter Try.func5, Try.ntmps5
      go_wp2_with fail
      go_at_call 13
      refine (Few_any n z _ _ HA.out).mono ?_
      rintro e w1 ⟨a1, c1, rfl, hi1, hb1⟩
      have HB1 := Lib.hid hb1
      clear hb1
      have HI1 := Lib.hid hi1
      clear hi1
      go_wp2_with fail
      go_at_call 25
      refine (Safe_any (min n 13) z kI _ _ _ HI1.out).mono ?_
      rintro e w2 ⟨hb2, -, -, hr1⟩
      obtain rfl := hr1 HNO.out
      clear hr1
      have HB2 := Lib.hid (HB1.out.trans (hb2.mono HB1.out.size))
      clear hb2
      go_wp2_with fail
      go_at_call 23
      refine (Valid_any n z _ _ _ (HI.out.below HB2.out) HZ.out).mono ?_
      rintro e w3 ⟨rfl, hb3⟩
      rw [HVB.out]
      have HB3 := Lib.hid (HB2.out.trans (hb3.mono HB2.out.size))
      clear hb3
      go_wp2_with fail
      go_at_call 17
      refine (awake_any _).mono ?_
      rintro e w4 ⟨rfl, hb4⟩
      have HB4 := Lib.hid (HB3.out.trans (hb4.mono HB3.out.size))
      clear hb4
      go_wp2_with fail
      go_ret
      exact ⟨rfl, HB4.out⟩
    · have hk2 : 2 < kI := by
        have := hv
        simp only [hvb, true_and] at this
        omega
      clear hvb hv
      go_enter Try.func5, Try.ntmps5
      go_wp2_with fail
      go_at_call 13
      refine (Few_any n z _ _ HA.out).mono ?_
      rintro e w1 ⟨a1, c1, rfl, hi1, hb1⟩
      have HB1 := Lib.hid hb1
      clear hb1
      have HI1 := Lib.hid hi1
      clear hi1
      go_wp2_with fail
      go_at_call 25
      refine (Safe_any (min n 13) z kI _ _ _ HI1.out).mono ?_
      rintro e w2 ⟨hb2, -, -, hr1⟩
      obtain rfl := hr1 HNO.out
      clear hr1
      have HB2 := Lib.hid (HB1.out.trans (hb2.mono HB1.out.size))
      clear hb2
      go_wp2_with fail
      go_at_call 23
      refine (Valid_any n z _ _ _ (HI.out.below HB2.out) HZ.out).mono ?_
      rintro e w3 ⟨rfl, hb3⟩
      rw [HVB.out]
      have HB3 := Lib.hid (HB2.out.trans (hb3.mono HB2.out.size))
      clear hb3
      go_wp2_with fail
      go_at_call 17
      refine (awake_any _).mono ?_
      rintro e w4 ⟨rfl, hb4⟩
      have HB4 := Lib.hid (HB3.out.trans (hb4.mono HB3.out.size))
      clear hb4
      go_wp2_with fail
      go_ret
      exact ⟨rfl, HB4.out⟩

theorem ChaseSafe_walk (n : Nat) (z : Nat → Int) (v : Value) (kI : Int) (w : World) (hA : SliceArg w v n z) (hz : ∀ i, -9223372036854775808 ≤ z i ∧ z i ≤ 9223372036854775807) :
    Calls Try.prog 5 #[v, .int .i64 kI] w (LawTrue w) := by
  by_cases h : validB n z = true ∧ (kI = 1 ∨ kI = 2)
  · exact ChaseSafe_yes n z v kI w hA hz h.1 h.2
  · exact ChaseSafe_no n z v kI w hA hz h

end Go.Proofs.Ytmkcnpphdghbaaa
