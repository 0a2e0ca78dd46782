/- The walk of the law ChaseEither. -/
import Derived.Test.YtmkcnpphdghbaaaL2a
import Derived.Test.YtmkcnpphdghbaaaS6
namespace Go.Proofs.Ytmkcnpphdghbaaa
set_option linter.unusedSimpArgs false
set_option linter.unusedVariables false
open Go.RowKit Go.Maps

theorem PlacesOwn.plsAt {w : World} {base cap : Nat} {a : Option Addr} {L : List Pl} (h : PlacesOwn w base (.slice a L.length cap) L) (hL : L.length ≤ 65536) : PlsAt w a (L.map castP) := by
  refine ⟨by rw [List.length_map]; omega, fun hne => ?_⟩
  have hl : L ≠ [] := fun e => hne (by rw [e]; rfl)
  obtain ⟨p, hp⟩ := List.exists_mem_of_ne_nil _ hl
  obtain ⟨i, hi⟩ := List.mem_iff_getElem?.1 hp
  obtain ⟨b, rfl, -, hb, -⟩ := PlacesOwn.read h hi
  refine ⟨b, 0, rfl, hb, fun j q hj => ?_⟩
  rw [List.getElem?_map] at hj
  obtain ⟨q', hq', rfl⟩ := Option.map_eq_some_iff.1 hj
  rw [Nat.zero_add]
  obtain ⟨b', hb', -, -, h1, h2, h3⟩ := PlacesOwn.read h hq'
  cases hb'
  exact ⟨h1, h2, h3⟩

set_option maxRecDepth 200000 in
set_option maxHeartbeats 4000000 in
theorem ChaseEither_yes (n : Nat) (z : Nat → Int) (v lv : Value) (kI : Int) (P : List PI) (w : World) (hA : SliceArg w v n z) (hlv : PlArg w lv P) (hv : validB n z = true) (hk : kI = 1 ∨ kI = 2) :
    Calls Try.prog 7 #[v, .int .i64 kI, lv] w (LawTrue w) := by
  obtain ⟨a, cap, rfl, hI⟩ := hA.ints
  have HA := Lib.hid hA
  have HI := Lib.hid hI
  have HLV := Lib.hid hlv
  obtain ⟨hn1, hn8, hcell⟩ := graphB_le (validB_graph hv)
  have HM : Hid (min n 13 = n) := Lib.hid (by omega)
  have HT : Hid (okGame n z kI) := Lib.hid ⟨by rw [townB_valid]; exact hv, hk⟩
  have HBD : Hid (∀ v, v < n → (fun i => (z i).toNat) v < 2 ^ n) := Lib.hid (fun v h => nat_pow_cast (hcell v h).2 (hcell v h).1)
  have HK := Lib.hid hk
  have HKK : Hid (kI = 1 ∧ kI.toNat = 1 ∨ kI = 2 ∧ kI.toNat = 2) := Lib.hid (by omega)
  have HBG : Hid (bestG n z kI.toNat = bestOf n (ranksF n (rch (fun i => (z i).toNat)) (chs n kI.toNat)) (chs n kI.toNat)) := Lib.hid rfl
  have hml := hI.1
  unfold maxLen at hml
  obtain ⟨Q, hQ⟩ : ∃ Q, Q = P.take 700 := ⟨_, rfl⟩
  have hql : Q.length ≤ 1000000 := by rw [hQ, List.length_take]; omega
  have HQE := Lib.hid hQ
  clear hQ
  clear hA hI hlv hcell hv hk
  by_cases hb : (bestG n z kI.toNat).2 = -1
  · have HBB := Lib.hid hb
    clear hb
    cases hok : areB n (reachOf z) (chs n kI.toNat) Q
    all_goals
      have HOKV := Lib.hid hok
      clear hok
      go_enter Try.func7, Try.ntmps7
      go_wp2_with fail
      go_at_call 13
      refine (Few_any n z _ _ HA.out).mono ?_
      rintro e w1 ⟨a1, c1, rfl, hi1, hb1⟩
      rw [HM.out] at hi1
      rw [HM.out]
      have HI1 := Lib.hid hi1
      clear hi1
      have HB1 := Lib.hid hb1
      clear hb1
      go_wp2_with fail
      go_at_call 21
      refine (Rounds_any n z kI _ _ _ HI1.out).mono ?_
      rintro e w2 ⟨hb2, hr, -⟩
      obtain rfl := hr HT.out HBB.out
      clear hr
      have HB2 := Lib.hid (HB1.out.trans (hb2.mono HB1.out.size))
      clear hb2
      go_wp2_with fail
      go_at_call 13
      refine (Few_any n z _ _ (SliceArg.below HA.out HB2.out)).mono ?_
      rintro e w3 ⟨a3, c3, rfl, hi3, hb3⟩
      rw [HM.out] at hi3
      rw [HM.out]
      have HI3 := Lib.hid hi3
      clear hi3
      have HB3 := Lib.hid (HB2.out.trans (hb3.mono HB2.out.size))
      clear hb3
      go_wp2_with fail
      go_at_call 25
      refine (Safe_any n z kI _ _ _ HI3.out).mono ?_
      rintro e w4 ⟨hb4, -, hr, -⟩
      obtain ⟨vs, rfl, ho⟩ := hr HT.out HBB.out
      have hlen : (escL n (ranksF n (reachOf z) (chs n kI.toNat)) (chs n kI.toNat)).length ≤ 65536 := by
        have h1 := escL_len n (ranksF n (reachOf z) (chs n kI.toNat)) (chs n kI.toNat)
        have h2 := chs_le n kI.toNat (by omega)
        have h3 := Nat.mul_le_mul h2 hn8
        omega
      have HSF : Hid (areB n (reachOf z) (chs n kI.toNat) ((escL n (ranksF n (reachOf z) (chs n kI.toNat)) (chs n kI.toNat)).map castP) = true) := Lib.hid (by
        have h1 := are_safe (n := n) (kI := kI) (g := fun i => (z i).toNat) (P := (escL n (ranksF n (reachOf z) (chs n kI.toNat)) (chs n kI.toNat)).map castP) HK.out hn1
        have h2 := safe_esc HKK.out hn1 (by omega) HBD.out (by rw [← HBG.out]; exact HBB.out)
        exact h1.trans h2)
      generalize escL n (ranksF n (reachOf z) (chs n kI.toNat)) (chs n kI.toNat) = L at *
      obtain ⟨va, vc, rfl⟩ := own_form ho
      have HPL := Lib.hid (PlacesOwn.plsAt ho hlen)
      have HLM : Hid (L.length = (L.map castP).length) := Lib.hid (by rw [List.length_map])
      clear ho hr
      have HB4 := Lib.hid (HB3.out.trans (hb4.mono HB3.out.size))
      clear hb4
      go_wp2_with fail
      go_at_call 13
      refine (Few_any n z _ _ (SliceArg.below HA.out HB4.out)).mono ?_
      rintro e w5 ⟨a5, c5, rfl, hi5, hb5⟩
      rw [HM.out] at hi5
      rw [HM.out]
      have HI5 := Lib.hid hi5
      clear hi5
      have HPL5 := Lib.hid (HPL.out.below hb5)
      have HB5 := Lib.hid (HB4.out.trans (hb5.mono HB4.out.size))
      clear hb5
      go_wp2_with fail
      go_at_call 29
      refine (placesL_any (PlArg.below HLV.out HB5.out)).mono ?_
      rintro e w6 ⟨⟨v6, rfl, ho6⟩, hb6⟩
      rw [← HQE.out] at ho6
      obtain ⟨av6, cv6, rfl⟩ := own_form ho6
      have HP6 := Lib.hid (PiOwn.plsAt ho6 hql)
      have HI6 := Lib.hid (HI5.out.below hb6)
      clear ho6
      have HPL6 := Lib.hid (HPL5.out.below hb6)
      have HB6 := Lib.hid (HB5.out.trans (hb6.mono HB5.out.size))
      clear hb6
      go_wp2_with fail
      go_at_call 28
      refine (CheckSafe_any n z kI _ _ _ _ Q _ HI6.out HP6.out).mono ?_
      rintro e w7 ⟨hb7, hr, -⟩
      obtain rfl := hr HT.out
      rw [HOKV.out]
      clear hr
      have HPL7 := Lib.hid (HPL6.out.below hb7)
      have HB7 := Lib.hid (HB6.out.trans (hb7.mono HB6.out.size))
      clear hb7
      go_wp2_with fail
      go_at_call 13
      refine (Few_any n z _ _ (SliceArg.below HA.out HB7.out)).mono ?_
      rintro e w8 ⟨a8, c8, rfl, hi8, hb8⟩
      rw [HM.out] at hi8
      rw [HM.out]
      have HI8 := Lib.hid hi8
      clear hi8
      have HPL8 := Lib.hid (HPL7.out.below hb8)
      have HB8 := Lib.hid (HB7.out.trans (hb8.mono HB7.out.size))
      clear hb8
      go_wp2_with fail
      go_at_call 28
      rw [HLM.out]
      refine (CheckSafe_any n z kI _ _ _ _ (L.map castP) _ HI8.out HPL8.out).mono ?_
      rintro e w9 ⟨hb9, hr, -⟩
      obtain rfl := hr HT.out
      rw [HSF.out]
      clear hr
      have HB9 := Lib.hid (HB8.out.trans (hb9.mono HB8.out.size))
      clear hb9
      go_wp2_with fail
      go_at_call 17
      refine (awake_any _).mono ?_
      rintro e w10 ⟨rfl, hb10⟩
      have HB10 := Lib.hid (HB9.out.trans (hb10.mono HB9.out.size))
      clear hb10
      go_wp2_with fail
      go_ret
      exact ⟨rfl, HB10.out⟩
  · have HBB := Lib.hid hb
    have HOKV : Hid (areB n (reachOf z) (chs n kI.toNat) Q = false) := Lib.hid (are_not (g := fun i => (z i).toNat) HK.out hn1 (by rw [← HBG.out]; exact hb))
    clear hb
    go_enter Try.func7, Try.ntmps7
    go_wp2_with fail
    go_at_call 13
    refine (Few_any n z _ _ HA.out).mono ?_
    rintro e w1 ⟨a1, c1, rfl, hi1, hb1⟩
    rw [HM.out] at hi1
    rw [HM.out]
    have HI1 := Lib.hid hi1
    clear hi1
    have HB1 := Lib.hid hb1
    clear hb1
    go_wp2_with fail
    go_at_call 21
    refine (Rounds_any n z kI _ _ _ HI1.out).mono ?_
    rintro e w2 ⟨hb2, -, hr, -⟩
    obtain rfl := hr HT.out HBB.out
    clear hr
    have HB2 := Lib.hid (HB1.out.trans (hb2.mono HB1.out.size))
    clear hb2
    go_wp2_with fail
    go_at_call 13
    refine (Few_any n z _ _ (SliceArg.below HA.out HB2.out)).mono ?_
    rintro e w3 ⟨a3, c3, rfl, hi3, hb3⟩
    rw [HM.out] at hi3
    rw [HM.out]
    have HI3 := Lib.hid hi3
    clear hi3
    have HB3 := Lib.hid (HB2.out.trans (hb3.mono HB2.out.size))
    clear hb3
    go_wp2_with fail
    go_at_call 25
    refine (Safe_any n z kI _ _ _ HI3.out).mono ?_
    rintro e w4 ⟨hb4, hr, -, -⟩
    obtain rfl := hr HT.out HBB.out
    clear hr
    have HB4 := Lib.hid (HB3.out.trans (hb4.mono HB3.out.size))
    clear hb4
    go_wp2_with fail
    go_at_call 13
    refine (Few_any n z _ _ (SliceArg.below HA.out HB4.out)).mono ?_
    rintro e w5 ⟨a5, c5, rfl, hi5, hb5⟩
    rw [HM.out] at hi5
    rw [HM.out]
    have HI5 := Lib.hid hi5
    clear hi5
    have HB5 := Lib.hid (HB4.out.trans (hb5.mono HB4.out.size))
    clear hb5
    go_wp2_with fail
    go_at_call 29
    refine (placesL_any (PlArg.below HLV.out HB5.out)).mono ?_
    rintro e w6 ⟨⟨v6, rfl, ho6⟩, hb6⟩
    rw [← HQE.out] at ho6
    obtain ⟨av6, cv6, rfl⟩ := own_form ho6
    have HP6 := Lib.hid (PiOwn.plsAt ho6 hql)
    have HI6 := Lib.hid (HI5.out.below hb6)
    clear ho6
    have HB6 := Lib.hid (HB5.out.trans (hb6.mono HB5.out.size))
    clear hb6
    go_wp2_with fail
    go_at_call 28
    refine (CheckSafe_any n z kI _ _ _ _ Q _ HI6.out HP6.out).mono ?_
    rintro e w7 ⟨hb7, hr, -⟩
    obtain rfl := hr HT.out
    rw [HOKV.out]
    clear hr
    have HB7 := Lib.hid (HB6.out.trans (hb7.mono HB6.out.size))
    clear hb7
    go_wp2_with fail
    go_at_call 17
    refine (awake_any _).mono ?_
    rintro e w10 ⟨rfl, hb10⟩
    have HB10 := Lib.hid (HB7.out.trans (hb10.mono HB7.out.size))
    clear hb10
    go_wp2_with fail
    go_ret
    exact ⟨rfl, HB10.out⟩

set_option maxRecDepth 200000 in
set_option maxHeartbeats 4000000 in
theorem ChaseEither_no (n : Nat) (z : Nat → Int) (v lv : Value) (kI : Int) (P : List PI) (w : World) (hA : SliceArg w v n z) (hlv : PlArg w lv P) (hv : ¬ (validB n z = true ∧ (kI = 1 ∨ kI = 2))) :
    Calls Try.prog 7 #[v, .int .i64 kI, lv] w (LawTrue w) := by
  obtain ⟨a, cap, rfl, hI⟩ := hA.ints
  have HA := Lib.hid hA
  have HI := Lib.hid hI
  have HLV := Lib.hid hlv
  obtain ⟨Q, hQ⟩ : ∃ Q, Q = P.take 700 := ⟨_, rfl⟩
  have hql : Q.length ≤ 1000000 := by rw [hQ, List.length_take]; omega
  have HQE := Lib.hid hQ
  clear hQ
  have HNO : Hid (¬ okGame (min n 13) z kI) := Lib.hid (fun h => by
    obtain ⟨h1, h2⟩ := h
    rw [townB_few] at h1
    exact hv ⟨h1, h2⟩)
  have hml := hI.1
  unfold maxLen at hml
  clear hA hI hlv hv
  go_enter Try.func7, Try.ntmps7
  go_wp2_with fail
  go_at_call 13
  refine (Few_any n z _ _ HA.out).mono ?_
  rintro e w1 ⟨a1, c1, rfl, hi1, hb1⟩
  have HI1 := Lib.hid hi1
  clear hi1
  have HB1 := Lib.hid hb1
  clear hb1
  go_wp2_with fail
  go_at_call 21
  refine (Rounds_any (min n 13) z kI _ _ _ HI1.out).mono ?_
  rintro e w2 ⟨hb2, -, -, hr⟩
  obtain rfl := hr HNO.out
  clear hr
  have HB2 := Lib.hid (HB1.out.trans (hb2.mono HB1.out.size))
  clear hb2
  go_wp2_with fail
  go_at_call 13
  refine (Few_any n z _ _ (SliceArg.below HA.out HB2.out)).mono ?_
  rintro e w3 ⟨a3, c3, rfl, hi3, hb3⟩
  have HI3 := Lib.hid hi3
  clear hi3
  have HB3 := Lib.hid (HB2.out.trans (hb3.mono HB2.out.size))
  clear hb3
  go_wp2_with fail
  go_at_call 25
  refine (Safe_any (min n 13) z kI _ _ _ HI3.out).mono ?_
  rintro e w4 ⟨hb4, -, -, hr⟩
  obtain rfl := hr HNO.out
  clear hr
  have HB4 := Lib.hid (HB3.out.trans (hb4.mono HB3.out.size))
  clear hb4
  go_wp2_with fail
  go_at_call 13
  refine (Few_any n z _ _ (SliceArg.below HA.out HB4.out)).mono ?_
  rintro e w5 ⟨a5, c5, rfl, hi5, hb5⟩
  have HI5 := Lib.hid hi5
  clear hi5
  have HB5 := Lib.hid (HB4.out.trans (hb5.mono HB4.out.size))
  clear hb5
  go_wp2_with fail
  go_at_call 29
  refine (placesL_any (PlArg.below HLV.out HB5.out)).mono ?_
  rintro e w6 ⟨⟨v6, rfl, ho6⟩, hb6⟩
  rw [← HQE.out] at ho6
  obtain ⟨av6, cv6, rfl⟩ := own_form ho6
  have HP6 := Lib.hid (PiOwn.plsAt ho6 hql)
  have HI6 := Lib.hid (HI5.out.below hb6)
  clear ho6
  have HB6 := Lib.hid (HB5.out.trans (hb6.mono HB5.out.size))
  clear hb6
  go_wp2_with fail
  go_at_call 28
  refine (CheckSafe_any (min n 13) z kI _ _ _ _ Q _ HI6.out HP6.out).mono ?_
  rintro e w7 ⟨hb7, -, hr⟩
  obtain rfl := hr HNO.out
  clear hr
  have HB7 := Lib.hid (HB6.out.trans (hb7.mono HB6.out.size))
  clear hb7
  go_wp2_with fail
  go_at_call 17
  refine (awake_any _).mono ?_
  rintro e w10 ⟨rfl, hb10⟩
  have HB10 := Lib.hid (HB7.out.trans (hb10.mono HB7.out.size))
  clear hb10
  go_wp2_with fail
  go_ret
  exact ⟨rfl, HB10.out⟩

theorem ChaseEither_walk (n : Nat) (z : Nat → Int) (v lv : Value) (kI : Int) (P : List PI) (w : World) (hA : SliceArg w v n z) (hlv : PlArg w lv P) :
    Calls Try.prog 7 #[v, .int .i64 kI, lv] w (LawTrue w) := by
  by_cases h : validB n z = true ∧ (kI = 1 ∨ kI = 2)
  · exact ChaseEither_yes n z v lv kI P w hA hlv h.1 h.2
  · exact ChaseEither_no n z v lv kI P w hA hlv h

end Go.Proofs.Ytmkcnpphdghbaaa
