/- The walk of the law ChaseChecks. -/
import Derived.Test.YtmkcnpphdghbaaaL2a
import Derived.Test.YtmkcnpphdghbaaaS5
namespace Go.Proofs.Ytmkcnpphdghbaaa
set_option linter.unusedSimpArgs false
set_option linter.unusedVariables false
open Go.RowKit Go.Maps

theorem PlArg.plsAt {w : World} {a : Option Addr} {m cap : Nat} {P : List PI} (h : PlArg w (.slice a m cap) P) (hl : (P.take 700).length = P.length ∨ 700 < P.length) : PlsAt w a (P.take 700) := by
  refine ⟨by rw [List.length_take]; omega, fun hne => ?_⟩
  rcases h with ⟨hv, rfl⟩ | ⟨x, cap', hv, h1, h2, h3⟩
  · simp at hne
  · obtain ⟨b, off, rfl, hb, hc⟩ := h3 (fun e => hne (by rw [e]; rfl))
    simp only [Value.slice.injEq] at hv
    obtain ⟨rfl, -, -⟩ := hv
    refine ⟨b, off, rfl, hb, fun i p hi => ?_⟩
    have hil := (List.getElem?_eq_some_iff.1 hi).1
    rw [List.length_take] at hil
    rw [List.getElem?_take_of_lt (by omega)] at hi
    exact hc i p hi

set_option maxRecDepth 200000 in
set_option maxHeartbeats 2000000 in
theorem ChaseChecks_nil (n : Nat) (z : Nat → Int) (v : Value) (kI : Int) (P : List PI) (w : World) (hA : SliceArg w v n z) (hz : ∀ i, -9223372036854775808 ≤ z i ∧ z i ≤ 9223372036854775807) (hlv : PlArg w (.slice none 0 0) P) (hP0 : P = []) (hv : validB n z = true) (hk : kI = 1 ∨ kI = 2) :
    Calls Try.prog 6 #[v, .int .i64 kI, .slice none 0 0] w (LawTrue w) := by
  obtain ⟨a, cap, rfl, hI⟩ := hA.ints
  have HA := Lib.hid hA
  have HI := Lib.hid hI
  have HZ := Lib.hid hz
  have HLV := Lib.hid hlv
  obtain ⟨hn1, hn8, hcell⟩ := graphB_le (validB_graph hv)
  have HM : Hid (min n 13 = n) := Lib.hid (by omega)
  have HT : Hid (okGame n z kI) := Lib.hid ⟨by rw [townB_valid]; exact hv, hk⟩
  have HG := Lib.hid (GrAt.of_graph hI (validB_graph hv) (by omega))
  have HV := Lib.hid hv
  have HKK : Hid (kI = 1 ∧ kI.toNat = 1 ∨ kI = 2 ∧ kI.toNat = 2) := Lib.hid (by omega)
  have hk0 : 1 ≤ kI ∧ kI ≤ 2 := by omega
  have HAS := Lib.hid (fun P => are_safe (n := n) (kI := kI) (g := fun i => (z i).toNat) (P := P) hk hn1)
  have hml := hI.1
  unfold maxLen at hml
  clear hA hI hz hcell hv hk hlv
  subst hP0
  have HQL : Hid (([] : List PI).take 700 = []) := Lib.hid rfl
  go_enter Try.func6, Try.ntmps6
  go_wp2_with fail
  go_at_call 13
  refine (Few_any n z _ _ HA.out).mono ?_
  rintro e w1 ⟨a1, c1, rfl, hi1, hb1⟩
  rw [HM.out] at hi1
  rw [HM.out]
  have HB1 := Lib.hid hb1
  clear hb1
  have HI1 := Lib.hid hi1
  clear hi1
  go_wp2_with fail
  go_at_call 29
  refine (placesL_any (HLV.out.below HB1.out)).mono ?_
  rintro e w2 ⟨⟨v2, rfl, ho2⟩, hb2⟩
  rw [HQL.out] at ho2
  have hql : ([] : List PI).length ≤ 1000000 := by first | (simp; done) | omega | (rw [List.length_take]; omega)
  obtain ⟨av2, cv2, rfl⟩ := own_form ho2
  have HP2 := Lib.hid (PiOwn.plsAt ho2 hql)
  have HI2 := Lib.hid (HI1.out.below hb2)
  clear ho2 hql
  have HB2 := Lib.hid (HB1.out.trans (hb2.mono HB1.out.size))
  clear hb2
  go_wp2_with fail
  go_at_call 28
  refine (CheckSafe_any n z kI _ _ _ _ ([] : List PI) _ HI2.out HP2.out).mono ?_
  rintro e w3 ⟨hb3, hr, -⟩
  obtain rfl := hr HT.out
  clear hr
  have HB3 := Lib.hid (HB2.out.trans (hb3.mono HB2.out.size))
  clear hb3
  go_wp2_with fail
  go_at_call 23
  refine (Valid_any n z _ _ _ (HI.out.below HB3.out) HZ.out).mono ?_
  rintro e w5 ⟨rfl, hb5⟩
  rw [HV.out]
  have HB5 := Lib.hid (HB3.out.trans (hb5.mono HB3.out.size))
  clear hb5
  go_wp2_with fail
  go_at_call 26
  rw [show (0 : Nat) = ([] : List PI).length from rfl]
  refine (IsSafe_any (P := []) (HG.out.below HB5.out) ⟨by decide, fun h => absurd rfl h⟩ _ _ kI.toNat kI HKK.out hn8).mono ?_
  rintro e w6 ⟨rfl, hb6⟩
  rw [show safeB n kI.toNat kI (fun i => (z i).toNat) ([] : List PI) = areB n (reachOf z) (chs n kI.toNat) ([] : List PI) from (HAS.out ([] : List PI)).symm]
  have HB6 := Lib.hid (HB5.out.trans (hb6.mono HB5.out.size))
  clear hb6
  go_wp2_with fail
  go_at_call 17
  refine (awake_any _).mono ?_
  rintro e w7 ⟨rfl, hb7⟩
  have HB7 := Lib.hid (HB6.out.trans (hb7.mono HB6.out.size))
  clear hb7
  go_wp2_with fail
  go_ret
  exact ⟨rfl, HB7.out⟩

set_option maxRecDepth 200000 in
set_option maxHeartbeats 2000000 in
theorem ChaseChecks_few (n : Nat) (z : Nat → Int) (v : Value) (kI : Int) (P : List PI) (w : World) (hA : SliceArg w v n z) (hz : ∀ i, -9223372036854775808 ≤ z i ∧ z i ≤ 9223372036854775807) (x : Addr) (lc : Nat) (hlv : PlArg w (.slice (some x) P.length lc) P) (hlc : P.length ≤ lc) (hlm : lc ≤ maxLen) (h7 : P.length ≤ 700) (hv : validB n z = true) (hk : kI = 1 ∨ kI = 2) :
    Calls Try.prog 6 #[v, .int .i64 kI, .slice (some x) P.length lc] w (LawTrue w) := by
  obtain ⟨a, cap, rfl, hI⟩ := hA.ints
  have HA := Lib.hid hA
  have HI := Lib.hid hI
  have HZ := Lib.hid hz
  have HLV := Lib.hid hlv
  obtain ⟨hn1, hn8, hcell⟩ := graphB_le (validB_graph hv)
  have HM : Hid (min n 13 = n) := Lib.hid (by omega)
  have HT : Hid (okGame n z kI) := Lib.hid ⟨by rw [townB_valid]; exact hv, hk⟩
  have HG := Lib.hid (GrAt.of_graph hI (validB_graph hv) (by omega))
  have HV := Lib.hid hv
  have HKK : Hid (kI = 1 ∧ kI.toNat = 1 ∨ kI = 2 ∧ kI.toNat = 2) := Lib.hid (by omega)
  have hk0 : 1 ≤ kI ∧ kI ≤ 2 := by omega
  have HAS := Lib.hid (fun P => are_safe (n := n) (kI := kI) (g := fun i => (z i).toNat) (P := P) hk hn1)
  have hml := hI.1
  unfold maxLen at hml
  clear hA hI hz hcell hv hk hlv
  unfold maxLen at hlm
  have HQ : Hid (P.take 700 = P) := Lib.hid (List.take_of_length_le h7)
  have hps5 := fun wx (hb : Below w.heap.size w wx) => PlArg.plsAt (HLV.out.below hb) (Or.inl (by rw [HQ.out]))
  have HPX := Lib.hid hps5
  clear hps5
  go_enter Try.func6, Try.ntmps6
  go_wp2_with fail
  go_at_call 13
  refine (Few_any n z _ _ HA.out).mono ?_
  rintro e w1 ⟨a1, c1, rfl, hi1, hb1⟩
  rw [HM.out] at hi1
  rw [HM.out]
  have HB1 := Lib.hid hb1
  clear hb1
  have HI1 := Lib.hid hi1
  clear hi1
  go_wp2_with fail
  go_at_call 29
  refine (placesL_any (HLV.out.below HB1.out)).mono ?_
  rintro e w2 ⟨⟨v2, rfl, ho2⟩, hb2⟩
  rw [HQ.out] at ho2
  have hql : P.length ≤ 1000000 := by first | (simp; done) | omega | (rw [List.length_take]; omega)
  obtain ⟨av2, cv2, rfl⟩ := own_form ho2
  have HP2 := Lib.hid (PiOwn.plsAt ho2 hql)
  have HI2 := Lib.hid (HI1.out.below hb2)
  clear ho2 hql
  have HB2 := Lib.hid (HB1.out.trans (hb2.mono HB1.out.size))
  clear hb2
  go_wp2_with fail
  go_at_call 28
  refine (CheckSafe_any n z kI _ _ _ _ P _ HI2.out HP2.out).mono ?_
  rintro e w3 ⟨hb3, hr, -⟩
  obtain rfl := hr HT.out
  clear hr
  have HB3 := Lib.hid (HB2.out.trans (hb3.mono HB2.out.size))
  clear hb3
  go_wp2_with fail
  go_at_call 23
  refine (Valid_any n z _ _ _ (HI.out.below HB3.out) HZ.out).mono ?_
  rintro e w5 ⟨rfl, hb5⟩
  rw [HV.out]
  have HB5 := Lib.hid (HB3.out.trans (hb5.mono HB3.out.size))
  clear hb5
  have HPS : Hid (PlsAt w5 (some x) P) := Lib.hid (by have := HPX.out w5 HB5.out; rw [HQ.out] at this; exact this)
  go_wp2_with fail
  go_at_call 26
  refine (IsSafe_any (P := P) (HG.out.below HB5.out) HPS.out _ _ kI.toNat kI HKK.out hn8).mono ?_
  rintro e w6 ⟨rfl, hb6⟩
  rw [show safeB n kI.toNat kI (fun i => (z i).toNat) P = areB n (reachOf z) (chs n kI.toNat) P from (HAS.out P).symm]
  have HB6 := Lib.hid (HB5.out.trans (hb6.mono HB5.out.size))
  clear hb6
  go_wp2_with fail
  go_at_call 17
  refine (awake_any _).mono ?_
  rintro e w7 ⟨rfl, hb7⟩
  have HB7 := Lib.hid (HB6.out.trans (hb7.mono HB6.out.size))
  clear hb7
  go_wp2_with fail
  go_ret
  exact ⟨rfl, HB7.out⟩

set_option maxRecDepth 200000 in
set_option maxHeartbeats 2000000 in
theorem ChaseChecks_many (n : Nat) (z : Nat → Int) (v : Value) (kI : Int) (P : List PI) (w : World) (hA : SliceArg w v n z) (hz : ∀ i, -9223372036854775808 ≤ z i ∧ z i ≤ 9223372036854775807) (x : Addr) (lc : Nat) (hlv : PlArg w (.slice (some x) P.length lc) P) (hlc : P.length ≤ lc) (hlm : lc ≤ maxLen) (h7 : 700 < P.length) (hv : validB n z = true) (hk : kI = 1 ∨ kI = 2) :
    Calls Try.prog 6 #[v, .int .i64 kI, .slice (some x) P.length lc] w (LawTrue w) := by
  obtain ⟨a, cap, rfl, hI⟩ := hA.ints
  have HA := Lib.hid hA
  have HI := Lib.hid hI
  have HZ := Lib.hid hz
  have HLV := Lib.hid hlv
  obtain ⟨hn1, hn8, hcell⟩ := graphB_le (validB_graph hv)
  have HM : Hid (min n 13 = n) := Lib.hid (by omega)
  have HT : Hid (okGame n z kI) := Lib.hid ⟨by rw [townB_valid]; exact hv, hk⟩
  have HG := Lib.hid (GrAt.of_graph hI (validB_graph hv) (by omega))
  have HV := Lib.hid hv
  have HKK : Hid (kI = 1 ∧ kI.toNat = 1 ∨ kI = 2 ∧ kI.toNat = 2) := Lib.hid (by omega)
  have hk0 : 1 ≤ kI ∧ kI ≤ 2 := by omega
  have HAS := Lib.hid (fun P => are_safe (n := n) (kI := kI) (g := fun i => (z i).toNat) (P := P) hk hn1)
  have hml := hI.1
  unfold maxLen at hml
  clear hA hI hz hcell hv hk hlv
  unfold maxLen at hlm
  obtain ⟨Q, hQ⟩ : ∃ Q, Q = P.take 700 := ⟨_, rfl⟩
  have HQ : Hid (Q.length = 700) := Lib.hid (by rw [hQ, List.length_take]; omega)
  have HQE := Lib.hid hQ
  clear hQ
  have hps5 := fun wx (hb : Below w.heap.size w wx) => PlArg.plsAt (HLV.out.below hb) (Or.inr h7)
  have HPX := Lib.hid hps5
  clear hps5
  go_enter Try.func6, Try.ntmps6
  go_wp2_with fail
  go_at_call 13
  refine (Few_any n z _ _ HA.out).mono ?_
  rintro e w1 ⟨a1, c1, rfl, hi1, hb1⟩
  rw [HM.out] at hi1
  rw [HM.out]
  have HB1 := Lib.hid hb1
  clear hb1
  have HI1 := Lib.hid hi1
  clear hi1
  go_wp2_with fail
  go_at_call 29
  refine (placesL_any (HLV.out.below HB1.out)).mono ?_
  rintro e w2 ⟨⟨v2, rfl, ho2⟩, hb2⟩
  rw [← HQE.out] at ho2
  have hql : Q.length ≤ 1000000 := by have := HQ.out; omega
  obtain ⟨av2, cv2, rfl⟩ := own_form ho2
  have HP2 := Lib.hid (PiOwn.plsAt ho2 hql)
  have HI2 := Lib.hid (HI1.out.below hb2)
  clear ho2 hql
  have HB2 := Lib.hid (HB1.out.trans (hb2.mono HB1.out.size))
  clear hb2
  go_wp2_with fail
  go_at_call 28
  refine (CheckSafe_any n z kI _ _ _ _ Q _ HI2.out HP2.out).mono ?_
  rintro e w3 ⟨hb3, hr, -⟩
  obtain rfl := hr HT.out
  clear hr
  have HB3 := Lib.hid (HB2.out.trans (hb3.mono HB2.out.size))
  clear hb3
  go_wp2_with fail
  go_at_call 23
  refine (Valid_any n z _ _ _ (HI.out.below HB3.out) HZ.out).mono ?_
  rintro e w5 ⟨rfl, hb5⟩
  rw [HV.out]
  have HB5 := Lib.hid (HB3.out.trans (hb5.mono HB3.out.size))
  clear hb5
  have HPS : Hid (PlsAt w5 (some x) Q) := Lib.hid (by rw [HQE.out]; exact HPX.out w5 HB5.out)
  go_wp2_with fail
  go_at_call 26
  rw [show (700 : Nat) = Q.length from HQ.out.symm]
  refine (IsSafe_any (P := Q) (HG.out.below HB5.out) HPS.out _ _ kI.toNat kI HKK.out hn8).mono ?_
  rintro e w6 ⟨rfl, hb6⟩
  rw [show safeB n kI.toNat kI (fun i => (z i).toNat) Q = areB n (reachOf z) (chs n kI.toNat) Q from (HAS.out Q).symm]
  have HB6 := Lib.hid (HB5.out.trans (hb6.mono HB5.out.size))
  clear hb6
  go_wp2_with fail
  go_at_call 17
  refine (awake_any _).mono ?_
  rintro e w7 ⟨rfl, hb7⟩
  have HB7 := Lib.hid (HB6.out.trans (hb7.mono HB6.out.size))
  clear hb7
  go_wp2_with fail
  go_ret
  exact ⟨rfl, HB7.out⟩

set_option maxRecDepth 200000 in
set_option maxHeartbeats 2000000 in
theorem ChaseChecks_no (n : Nat) (z : Nat → Int) (v lv : Value) (kI : Int) (P : List PI) (w : World) (hA : SliceArg w v n z) (hz : ∀ i, -9223372036854775808 ≤ z i ∧ z i ≤ 9223372036854775807) (hlv : PlArg w lv P) (hv : ¬ (validB n z = true ∧ (kI = 1 ∨ kI = 2))) :
    Calls Try.prog 6 #[v, .int .i64 kI, lv] w (LawTrue w) := by
  obtain ⟨a, cap, rfl, hI⟩ := hA.ints
  have HA := Lib.hid hA
  have HI := Lib.hid hI
  have HZ := Lib.hid hz
  have HLV := Lib.hid hlv
  obtain ⟨Q, hQ⟩ : ∃ Q, Q = P.take 700 := ⟨_, rfl⟩
  have hql : Q.length ≤ 1000000 := by rw [hQ, List.length_take]; omega
  have HQE := Lib.hid hQ
  clear hQ
  have HNO : Hid (¬ okGame (min n 13) z kI) := Lib.hid (fun h => by
    obtain ⟨h1, h2⟩ := h
    rw [townB_few] at h1
    exact hv ⟨h1, h2⟩)
  have hml := hI.1
  unfold maxLen at hml
  clear hA hI hz hlv
  cases hvb : validB n z
  · have HVB := Lib.hid hvb
    clear hvb hv
    go_enter Try.func6, Try.ntmps6
    go_wp2_with fail
    go_at_call 13
    refine (Few_any n z _ _ HA.out).mono ?_
    rintro e w1 ⟨a1, c1, rfl, hi1, hb1⟩
    have HB1 := Lib.hid hb1
    clear hb1
    have HI1 := Lib.hid hi1
    clear hi1
    go_wp2_with fail
    go_at_call 29
    refine (placesL_any (HLV.out.below HB1.out)).mono ?_
    rintro e w2 ⟨⟨v2, rfl, ho2⟩, hb2⟩
    rw [← HQE.out] at ho2
    obtain ⟨av2, cv2, rfl⟩ := own_form ho2
    have HP2 := Lib.hid (PiOwn.plsAt ho2 hql)
    have HI2 := Lib.hid (HI1.out.below hb2)
    clear ho2
    have HB2 := Lib.hid (HB1.out.trans (hb2.mono HB1.out.size))
    clear hb2
    go_wp2_with fail
    go_at_call 28
    refine (CheckSafe_any (min n 13) z kI _ _ _ _ Q _ HI2.out HP2.out).mono ?_
    rintro e w3 ⟨hb3, -, hr⟩
    obtain rfl := hr HNO.out
    clear hr
    have HB3 := Lib.hid (HB2.out.trans (hb3.mono HB2.out.size))
    clear hb3
    go_wp2_with fail
    go_at_call 23
    refine (Valid_any n z _ _ _ (HI.out.below HB3.out) HZ.out).mono ?_
    rintro e w5 ⟨rfl, hb5⟩
    rw [HVB.out]
    have HB5 := Lib.hid (HB3.out.trans (hb5.mono HB3.out.size))
    clear hb5
    go_wp2_with fail
    go_at_call 17
    refine (awake_any _).mono ?_
    rintro e w6 ⟨rfl, hb6⟩
    have HB6 := Lib.hid (HB5.out.trans (hb6.mono HB5.out.size))
    clear hb6
    go_wp2_with fail
    go_ret
    exact ⟨rfl, HB6.out⟩
  · have HVB := Lib.hid hvb
    by_cases hk1 : kI < 1
    · clear hvb hv
      go_enter Try.func6, Try.ntmps6
      go_wp2_with fail
      go_at_call 13
      refine (Few_any n z _ _ HA.out).mono ?_
      rintro e w1 ⟨a1, c1, rfl, hi1, hb1⟩
      have HB1 := Lib.hid hb1
      clear hb1
      have HI1 := Lib.hid hi1
      clear hi1
      go_wp2_with fail
      go_at_call 29
      refine (placesL_any (HLV.out.below HB1.out)).mono ?_
      rintro e w2 ⟨⟨v2, rfl, ho2⟩, hb2⟩
      rw [← HQE.out] at ho2
      obtain ⟨av2, cv2, rfl⟩ := own_form ho2
      have HP2 := Lib.hid (PiOwn.plsAt ho2 hql)
      have HI2 := Lib.hid (HI1.out.below hb2)
      clear ho2
      have HB2 := Lib.hid (HB1.out.trans (hb2.mono HB1.out.size))
      clear hb2
      go_wp2_with fail
      go_at_call 28
      refine (CheckSafe_any (min n 13) z kI _ _ _ _ Q _ HI2.out HP2.out).mono ?_
      rintro e w3 ⟨hb3, -, hr⟩
      obtain rfl := hr HNO.out
      clear hr
      have HB3 := Lib.hid (HB2.out.trans (hb3.mono HB2.out.size))
      clear hb3
      go_wp2_with fail
      go_at_call 23
      refine (Valid_any n z _ _ _ (HI.out.below HB3.out) HZ.out).mono ?_
      rintro e w5 ⟨rfl, hb5⟩
      rw [HVB.out]
      have HB5 := Lib.hid (HB3.out.trans (hb5.mono HB3.out.size))
      clear hb5
      go_wp2_with fail
      go_at_call 17
      refine (awake_any _).mono ?_
      rintro e w6 ⟨rfl, hb6⟩
      have HB6 := Lib.hid (HB5.out.trans (hb6.mono HB5.out.size))
      clear hb6
      go_wp2_with fail
      go_ret
      exact ⟨rfl, HB6.out⟩
    · have hk2 : 2 < kI := by
        have := hv
        simp only [hvb, true_and] at this
        omega
      clear hvb hv
      go_enter Try.func6, Try.ntmps6
      go_wp2_with fail
      go_at_call 13
      refine (Few_any n z _ _ HA.out).mono ?_
      rintro e w1 ⟨a1, c1, rfl, hi1, hb1⟩
      have HB1 := Lib.hid hb1
      clear hb1
      have HI1 := Lib.hid hi1
      clear hi1
      go_wp2_with fail
      go_at_call 29
      refine (placesL_any (HLV.out.below HB1.out)).mono ?_
      rintro e w2 ⟨⟨v2, rfl, ho2⟩, hb2⟩
      rw [← HQE.out] at ho2
      obtain ⟨av2, cv2, rfl⟩ := own_form ho2
      have HP2 := Lib.hid (PiOwn.plsAt ho2 hql)
      have HI2 := Lib.hid (HI1.out.below hb2)
      clear ho2
      have HB2 := Lib.hid (HB1.out.trans (hb2.mono HB1.out.size))
      clear hb2
      go_wp2_with fail
      go_at_call 28
      refine (CheckSafe_any (min n 13) z kI _ _ _ _ Q _ HI2.out HP2.out).mono ?_
      rintro e w3 ⟨hb3, -, hr⟩
      obtain rfl := hr HNO.out
      clear hr
      have HB3 := Lib.hid (HB2.out.trans (hb3.mono HB2.out.size))
      clear hb3
      go_wp2_with fail
      go_at_call 23
      refine (Valid_any n z _ _ _ (HI.out.below HB3.out) HZ.out).mono ?_
      rintro e w5 ⟨rfl, hb5⟩
      rw [HVB.out]
      have HB5 := Lib.hid (HB3.out.trans (hb5.mono HB3.out.size))
      clear hb5
      go_wp2_with fail
      go_at_call 17
      refine (awake_any _).mono ?_
      rintro e w6 ⟨rfl, hb6⟩
      have HB6 := Lib.hid (HB5.out.trans (hb6.mono HB5.out.size))
      clear hb6
      go_wp2_with fail
      go_ret
      exact ⟨rfl, HB6.out⟩

theorem ChaseChecks_walk (n : Nat) (z : Nat → Int) (v lv : Value) (kI : Int) (P : List PI) (w : World) (hA : SliceArg w v n z) (hz : ∀ i, -9223372036854775808 ≤ z i ∧ z i ≤ 9223372036854775807) (hlv : PlArg w lv P) :
    Calls Try.prog 6 #[v, .int .i64 kI, lv] w (LawTrue w) := by
  by_cases h : validB n z = true ∧ (kI = 1 ∨ kI = 2)
  · have h' := hlv
    rcases hlv with ⟨rfl, hP⟩ | ⟨x, cap, rfl, h1, h2, -⟩
    · exact ChaseChecks_nil n z v kI P w hA hz h' hP h.1 h.2
    · by_cases h7 : P.length ≤ 700
      · exact ChaseChecks_few n z v kI P w hA hz x cap h' h1 h2 h7 h.1 h.2
      · exact ChaseChecks_many n z v kI P w hA hz x cap h' h1 h2 (by omega) h.1 h.2
  · exact ChaseChecks_no n z v lv kI P w hA hz hlv h

end Go.Proofs.Ytmkcnpphdghbaaa
