/- The walk of the law ChaseCorners. -/
import Derived.Test.YtfjpbceddnnnaaaS1b
namespace Go.Proofs.Ytfjpbceddnnnaaa
open Go.RowKit Go.Maps

/-- What a law returns: true, and nothing that was there has turned. -/
def LawTrue (w : World) (e : Ending) (w' : World) : Prop := e = .returned (.bool true) ∧ Below w.heap.size w w'

set_option maxRecDepth 200000 in
set_option maxHeartbeats 2000000 in
theorem ChaseCorners_walk (n : Nat) (z : Nat → Int) (v : Value) (setI : Int) (w : World) (hA : SliceArg w v n z) (hz : ∀ i, -9223372036854775808 ≤ z i ∧ z i ≤ 9223372036854775807) :
    Calls Try.prog 3 #[v, .int .i64 setI] w (LawTrue w) := by
  obtain ⟨a, cap, rfl, hI⟩ := hA.ints
  have hml := hI.1
  unfold maxLen at hml
  have HA := Lib.hid hA
  have HI := Lib.hid hI
  have HZ := Lib.hid hz
  clear hA hI hz
  by_cases hok : validB n z = true ∧ 0 ≤ setI ∧ setI < 2 ^ n
  · obtain ⟨hv, hs0, hs1⟩ := hok
    obtain ⟨hn1, hn8, hcell⟩ := graphB_le (validB_graph hv)
    have hmin : min n 13 = n := by omega
    have htb : townB n z = true := by rw [townB_valid]; exact hv
    have hin : inB setI (2 ^ n) = true := inB_true hs0 hs1
    have hgr := GrAt.of_graph HI.out (validB_graph hv) (by omega)
    have hp := pow_bd n (by omega)
    have hps : setI < 65536 := by have := pow_le16 hn8; rw [pow_cast] at hs1; omega
    obtain ⟨m, rfl⟩ : ∃ m : Nat, setI = (m : Int) := ⟨setI.toNat, by omega⟩
    have HV := Lib.hid hv
    have HM := Lib.hid hmin
    have HT := Lib.hid htb
    have HIN := Lib.hid hin
    have HG := Lib.hid hgr
    have d1 : decide ((2 : Int) ^ n ≤ (m : Int)) = false := decide_eq_false (by omega)
    have d0 : decide ((m : Int) < 0) = false := decide_eq_false (by omega)
    clear hv hmin htb hin hgr hcell
    go_enter Try.func3, Try.ntmps3
    go_wp2_with fail
    go_at_call 14
    refine (Few_any n z _ _ HA.out).mono ?_
    rintro e w1 ⟨a1, c1, rfl, hi1, hb1⟩
    rw [HM.out] at hi1
    rw [HM.out]
    have HI1 := Lib.hid hi1
    have HB1 := Lib.hid hb1
    clear hi1 hb1
    go_wp2_with fail
    go_at_call 13
    refine (Corners_any n z _ _ _ _ HI1.out).mono ?_
    rintro e w2 ⟨hb2, hyes, -⟩
    obtain ⟨v2, rfl, ho2⟩ := hyes HT.out HIN.out
    have HB2 := Lib.hid (HB1.out.trans (hb2.mono HB1.out.size))
    have HO2 := Lib.hid ho2
    clear hb2 ho2 hyes
    go_wp2_with fail
    go_at_call 15
    refine (Valid_any n z _ _ _ (HI.out.below HB2.out) HZ.out).mono ?_
    rintro e w3 ⟨rfl, hb3⟩
    rw [HV.out]
    have HB3 := Lib.hid (HB2.out.trans (hb3.mono HB2.out.size))
    have HO3 := Lib.hid (ownsRow_below HO2.out hb3 (Nat.le_refl _))
    clear hb3
    go_wp2_with fail
    go_at_call 18
    refine (CornersR_any (HG.out.below HB3.out) _ m (by omega)).mono ?_
    rintro e w4 ⟨⟨v4, rfl, ho4⟩, hb4⟩
    have HB4 := Lib.hid (HB3.out.trans (hb4.mono HB3.out.size))
    have HO4 := Lib.hid ho4
    have HO5 := Lib.hid (ownsRow_below HO3.out hb4 (Nat.le_refl _))
    clear hb4 ho4
    go_wp2_with fail
    go_at_call 17
    have hsame : cornTo (covP (reachOf z) (m : Int).toNat) n n = cornTo (covR (fun i => (z i).toNat) m) n n := cornTo_congr (Nat.le_refl _) fun v _ u _ => covP_covR z m v u
    refine (EqualPairs_any HO5.out HO4.out (by have := cornTo_len (covP (reachOf z) (m : Int).toNat) n (by omega) n; omega)).mono ?_
    rintro e w5 ⟨rfl, hb5⟩
    rw [decide_eq_true hsame]
    have HB5 := Lib.hid (HB4.out.trans (hb5.mono HB4.out.size))
    clear hb5 hsame
    go_wp2_with fail
    go_at_call 16
    refine (awake_any _).mono ?_
    rintro e w6 ⟨rfl, hb6⟩
    have HB6 := Lib.hid (HB5.out.trans (hb6.mono HB5.out.size))
    clear hb6
    go_wp2_with fail
    go_ret
    exact ⟨rfl, HB6.out⟩
  · have HNO : Hid (¬ (townB (min n 13) z = true ∧ inB setI (2 ^ (min n 13)) = true)) := Lib.hid (fun h => by
      rw [townB_few] at h
      obtain ⟨h1, h2⟩ := h
      have h3 := graphB_le (validB_graph h1)
      rw [show min n 13 = n by omega] at h2
      exact hok ⟨h1, inB_iff.1 h2⟩)
    cases hv : validB n z
    · have HV := Lib.hid hv
      clear hv hok
      go_enter Try.func3, Try.ntmps3
      go_wp2_with fail
      go_at_call 14
      refine (Few_any n z _ _ HA.out).mono ?_
      rintro e w1 ⟨a1, c1, rfl, hi1, hb1⟩
      have HI1 := Lib.hid hi1
      have HB1 := Lib.hid hb1
      clear hi1 hb1
      go_wp2_with fail
      go_at_call 13
      refine (Corners_any (min n 13) z _ _ _ _ HI1.out).mono ?_
      rintro e w2 ⟨hb2, -, hno⟩
      obtain rfl := hno HNO.out
      have HB2 := Lib.hid (HB1.out.trans (hb2.mono HB1.out.size))
      clear hb2 hno
      go_wp2_with fail
      go_at_call 15
      refine (Valid_any n z _ _ _ (HI.out.below HB2.out) HZ.out).mono ?_
      rintro e w3 ⟨rfl, hb3⟩
      rw [HV.out]
      have HB3 := Lib.hid (HB2.out.trans (hb3.mono HB2.out.size))
      clear hb3
      go_wp2_with fail
      go_at_call 16
      refine (awake_any _).mono ?_
      rintro e w6 ⟨rfl, hb6⟩
      have HB6 := Lib.hid (HB3.out.trans (hb6.mono HB3.out.size))
      clear hb6
      go_wp2_with fail
      go_ret
      exact ⟨rfl, HB6.out⟩
    · have hn8 := (graphB_le (validB_graph hv)).2.1
      have hp := pow_bd n (by omega)
      have HV := Lib.hid hv
      by_cases hs : setI < 0
      · have d0 : decide (setI < 0) = true := decide_eq_true hs
        clear hv hok
        go_enter Try.func3, Try.ntmps3
        go_wp2_with fail
        go_at_call 14
        refine (Few_any n z _ _ HA.out).mono ?_
        rintro e w1 ⟨a1, c1, rfl, hi1, hb1⟩
        have HI1 := Lib.hid hi1
        have HB1 := Lib.hid hb1
        clear hi1 hb1
        go_wp2_with fail
        go_at_call 13
        refine (Corners_any (min n 13) z _ _ _ _ HI1.out).mono ?_
        rintro e w2 ⟨hb2, -, hno⟩
        obtain rfl := hno HNO.out
        have HB2 := Lib.hid (HB1.out.trans (hb2.mono HB1.out.size))
        clear hb2 hno
        go_wp2_with fail
        go_at_call 15
        refine (Valid_any n z _ _ _ (HI.out.below HB2.out) HZ.out).mono ?_
        rintro e w3 ⟨rfl, hb3⟩
        rw [HV.out]
        have HB3 := Lib.hid (HB2.out.trans (hb3.mono HB2.out.size))
        clear hb3
        go_wp2_with fail
        go_at_call 16
        refine (awake_any _).mono ?_
        rintro e w6 ⟨rfl, hb6⟩
        have HB6 := Lib.hid (HB3.out.trans (hb6.mono HB3.out.size))
        clear hb6
        go_wp2_with fail
        go_ret
        exact ⟨rfl, HB6.out⟩
      · have d0 : decide (setI < 0) = false := decide_eq_false hs
        have d1 : decide ((2 : Int) ^ n ≤ setI) = true := decide_eq_true (by
          have := hok
          simp only [hv, true_and] at this
          omega)
        clear hv hok
        go_enter Try.func3, Try.ntmps3
        go_wp2_with fail
        go_at_call 14
        refine (Few_any n z _ _ HA.out).mono ?_
        rintro e w1 ⟨a1, c1, rfl, hi1, hb1⟩
        have HI1 := Lib.hid hi1
        have HB1 := Lib.hid hb1
        clear hi1 hb1
        go_wp2_with fail
        go_at_call 13
        refine (Corners_any (min n 13) z _ _ _ _ HI1.out).mono ?_
        rintro e w2 ⟨hb2, -, hno⟩
        obtain rfl := hno HNO.out
        have HB2 := Lib.hid (HB1.out.trans (hb2.mono HB1.out.size))
        clear hb2 hno
        go_wp2_with fail
        go_at_call 15
        refine (Valid_any n z _ _ _ (HI.out.below HB2.out) HZ.out).mono ?_
        rintro e w3 ⟨rfl, hb3⟩
        rw [HV.out]
        have HB3 := Lib.hid (HB2.out.trans (hb3.mono HB2.out.size))
        clear hb3
        go_wp2_with fail
        go_at_call 16
        refine (awake_any _).mono ?_
        rintro e w6 ⟨rfl, hb6⟩
        have HB6 := Lib.hid (HB3.out.trans (hb6.mono HB3.out.size))
        clear hb6
        go_wp2_with fail
        go_ret
        exact ⟨rfl, HB6.out⟩

end Go.Proofs.Ytfjpbceddnnnaaa
