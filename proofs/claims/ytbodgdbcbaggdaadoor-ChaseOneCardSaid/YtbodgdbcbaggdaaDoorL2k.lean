/- The walk of the law ChaseOne. -/
import Derived.Test.YtbodgdbcbaggdaaDoorS17
import Derived.Test.YtbodgdbcbaggdaaDoorC3d
namespace Go.Proofs.YtbodgdbcbaggdaaDoor
set_option linter.unusedSimpArgs false
set_option linter.unusedVariables false
open Go.RowKit Go.Maps

/-- What a law returns: true, and nothing that was there has turned. -/
def LawTrue1 (w : World) (e : Ending) (w' : World) : Prop := e = .returned (.bool true) ∧ Below w.heap.size w w'

set_option maxRecDepth 200000 in
set_option maxHeartbeats 4000000 in
theorem ChaseOne_walk (n : Nat) (z : Nat → Int) (v : Value) (w : World) (hA : SliceArg w v n z) (hTab : HasTab w) :
    Calls Tryd.prog 4 #[v] w (LawTrue1 w) := by
  obtain ⟨a, cap, rfl, hI⟩ := hA.ints
  have HA := Lib.hid hA
  have HTab := Lib.hid hTab
  clear hA hTab hI
  by_cases ht : townB (min n 13) z = true
  · have HTB := Lib.hid ht
    have HK1 : Hid (okGame (min n 13) z 1) := Lib.hid ⟨ht, .inl rfl⟩
    obtain ⟨hn1, hn8⟩ := townB_le ht
    have h256 : 2 ^ (min n 13) ≤ 256 := pow_le16 hn8
    have hall : 2 ^ (min n 13) - 1 < 2 ^ (min n 13) := by have := Nat.one_le_two_pow (n := min n 13); omega
    have HN := Lib.hid (net_town ht)
    have hcore := fun L T => core_one (net_town ht) (L := L) (T := T)
    have hs0 : bestG (min n 13) z (1 : Int).toNat = bestOf (min n 13) (ranksF (min n 13) (reachOf z) (chs (min n 13) 1)) (chs (min n 13) 1) := rfl
    rw [← hs0] at hcore
    clear ht hs0
    generalize hs1 : bestG (min n 13) z (1 : Int).toNat = s1 at *
    obtain ⟨p1, m1⟩ := s1
    dsimp only at hcore
    have HS1 := Lib.hid hs1
    have HCORE := Lib.hid hcore
    clear hs1 hcore
    go_enter Tryd.func4, Tryd.ntmps4
    go_wp2_with fail
    go_at_call 6
    refine (Few_any n z _ _ HA.out).mono ?_
    rintro e w1 ⟨a1, c1, rfl, hi1, hb1⟩
    have HB1 := Lib.hid hb1
    clear hb1
    have HI1 := Lib.hid hi1
    clear hi1
    go_wp2_with fail
    go_at_call 5
    refine (Apart_any (min n 13) z _ _ _ HI1.out (HTab.out.below HB1.out)).mono ?_
    rintro e w2 ⟨hb2, hr1, -⟩
    obtain ⟨L, T, hst, hno, hyes, hnot⟩ := hr1 HTB.out
    clear hr1
    have hTlt := hst.pow hall
    have hT256 : T < 256 := by omega
    have h88 := szS_eight hn8 hTlt
    have HST := Lib.hid hst
    have HNO := Lib.hid hno
    have HIN : Hid (inB (T : Int) (2 ^ (min n 13)) = true) := Lib.hid (inB_iff.2 ⟨by omega, by rw [pow_cast]; omega⟩)
    have HC : Hid (cornTo (covP (reachOf z) T) (min n 13) (min n 13) = []) := Lib.hid (corn_nil hno)
    have hlen := hst.full
    rw [szS_all] at hlen
    clear hst hno
    rcases HCORE.out L T HST.out HNO.out with ⟨hz1, hbb⟩ | ⟨hz4, hbb⟩
    · obtain ⟨lv, t, hTt, rfl, hown⟩ := hyes hz1
      obtain ⟨al, cl, rfl, hil⟩ := hown.ints (by simp; omega)
      have HIL := Lib.hid hil
      have HTK : Hid (takesB (reachOf z) (min n 13) (L ++ [t]).length (zL (L ++ [t])) = true) := Lib.hid (HST.out.takes hTt hz1)
      have HBB := Lib.hid hbb
      have hz8 : szS 8 T = 1 := by omega
      have hL1 : ((L ++ [t]).length : Int) = (L ++ [t]).length := rfl
      clear hyes hnot hown hil hTt hbb
      generalize (L ++ [t]).length = ll at *
      have HB2 := Lib.hid (HB1.out.trans (hb2.mono HB1.out.size))
      clear hb2
      go_wp2_with fail
      go_at_call 6
      refine (Few_any n z _ _ (SliceArg.below HA.out HB2.out)).mono ?_
      rintro e w3 ⟨a3, c3, rfl, hi3, hb3⟩
      have HI3 := Lib.hid hi3
      have HIL3 := Lib.hid (HIL.out.below hb3)
      clear hi3
      have HB3 := Lib.hid (HB2.out.trans (hb3.mono HB2.out.size))
      clear hb3
      go_wp2_with fail
      go_at_call 16
      refine (Rounds_any (min n 13) z 1 _ _ _ HI3.out).mono ?_
      rintro e w4 ⟨hb4, -, hr1, -⟩
      obtain rfl := hr1 HK1.out (by rw [HS1.out]; exact HBB.out)
      rw [HS1.out]
      have HIL4 := Lib.hid (HIL3.out.below hb4)
      clear hr1
      have HB4 := Lib.hid (HB3.out.trans (hb4.mono HB3.out.size))
      clear hb4
      go_wp2_with fail
      go_at_call 6
      refine (Few_any n z _ _ (SliceArg.below HA.out HB4.out)).mono ?_
      rintro e w5 ⟨a5, c5, rfl, hi5, hb5⟩
      have HI5 := Lib.hid hi5
      have HIL5 := Lib.hid (HIL4.out.below hb5)
      clear hi5
      have HB5 := Lib.hid (HB4.out.trans (hb5.mono HB4.out.size))
      clear hb5
      go_wp2_with fail
      go_at_call 9
      refine (Core_any (min n 13) z _ _ _ HI5.out).mono ?_
      rintro e w6 ⟨hb6, hr1, -⟩
      obtain ⟨L', T', rfl, hst', hno'⟩ := hr1 HTB.out
      obtain rfl := HST.out.same hst' HNO.out hno'
      have HIL6 := Lib.hid (HIL5.out.below hb6)
      clear hr1 hst' hno'
      have HB6 := Lib.hid (HB5.out.trans (hb6.mono HB5.out.size))
      clear hb6
      go_wp2_with fail
      go_at_call 6
      refine (Few_any n z _ _ (SliceArg.below HA.out HB6.out)).mono ?_
      rintro e w7 ⟨a7, c7, rfl, hi7, hb7⟩
      have HI7 := Lib.hid hi7
      have HIL7 := Lib.hid (HIL6.out.below hb7)
      clear hi7
      have HB7 := Lib.hid (HB6.out.trans (hb7.mono HB6.out.size))
      clear hb7
      go_wp2_with fail
      go_at_call 17
      refine (Corners_any (min n 13) z T _ _ _ HI7.out).mono ?_
      rintro e w8 ⟨hb8, hr1, -⟩
      obtain ⟨cv, rfl, hpo⟩ := hr1 HTB.out HIN.out
      rw [Int.toNat_natCast, HC.out] at hpo
      unfold PairsOwn at hpo
      obtain ⟨ca, cc, rfl⟩ := own_form hpo
      have HIL8 := Lib.hid (HIL7.out.below hb8)
      clear hr1 hpo
      have HB8 := Lib.hid (HB7.out.trans (hb8.mono HB7.out.size))
      clear hb8
      go_wp2_with fail
      go_at_call 6
      refine (Few_any n z _ _ (SliceArg.below HA.out HB8.out)).mono ?_
      rintro e w9 ⟨a9, c9, rfl, hi9, hb9⟩
      have HI9 := Lib.hid hi9
      have HIL9 := Lib.hid (HIL8.out.below hb9)
      clear hi9
      have HB9 := Lib.hid (HB8.out.trans (hb9.mono HB8.out.size))
      clear hb9
      go_wp2_with fail
      go_at_call 7
      refine (CheckApart_any (min n 13) z _ _ ll (zL (L ++ [t])) _ _ _ HI9.out HIL9.out).mono ?_
      rintro e w10 ⟨hb10, hr1, -⟩
      obtain rfl := hr1 HTB.out
      rw [HTK.out]
      clear hr1
      have HB10 := Lib.hid (HB9.out.trans (hb10.mono HB9.out.size))
      clear hb10
      go_wp2_with fail
      go_at_call 18
      refine (size_any T hT256 _).mono ?_
      rintro e w11 ⟨rfl, rfl⟩
      rw [hz8]
      go_wp2_with fail
      go_at_call 11
      refine (awake_any _).mono ?_
      rintro e w12 ⟨rfl, hb12⟩
      have HB12 := Lib.hid (HB10.out.trans (hb12.mono HB10.out.size))
      clear hb12
      go_wp2_with fail
      go_ret
      exact ⟨rfl, HB12.out⟩
    · obtain rfl := hnot (by omega)
      have HBB := Lib.hid hbb
      have hz8 : 4 ≤ szS 8 T := by omega
      have hz9 : szS 8 T ≤ 8 := szS_le 8 T
      clear hyes hnot hbb
      have HB2 := Lib.hid (HB1.out.trans (hb2.mono HB1.out.size))
      clear hb2
      go_wp2_with fail
      go_at_call 6
      refine (Few_any n z _ _ (SliceArg.below HA.out HB2.out)).mono ?_
      rintro e w3 ⟨a3, c3, rfl, hi3, hb3⟩
      have HI3 := Lib.hid hi3
      clear hi3
      have HB3 := Lib.hid (HB2.out.trans (hb3.mono HB2.out.size))
      clear hb3
      go_wp2_with fail
      go_at_call 16
      refine (Rounds_any (min n 13) z 1 _ _ _ HI3.out).mono ?_
      rintro e w4 ⟨hb4, hr1, -⟩
      obtain rfl := hr1 HK1.out (by rw [HS1.out]; exact HBB.out)
      clear hr1
      have HB4 := Lib.hid (HB3.out.trans (hb4.mono HB3.out.size))
      clear hb4
      go_wp2_with fail
      go_at_call 6
      refine (Few_any n z _ _ (SliceArg.below HA.out HB4.out)).mono ?_
      rintro e w5 ⟨a5, c5, rfl, hi5, hb5⟩
      have HI5 := Lib.hid hi5
      clear hi5
      have HB5 := Lib.hid (HB4.out.trans (hb5.mono HB4.out.size))
      clear hb5
      go_wp2_with fail
      go_at_call 9
      refine (Core_any (min n 13) z _ _ _ HI5.out).mono ?_
      rintro e w6 ⟨hb6, hr1, -⟩
      obtain ⟨L', T', rfl, hst', hno'⟩ := hr1 HTB.out
      obtain rfl := HST.out.same hst' HNO.out hno'
      clear hr1 hst' hno'
      have HB6 := Lib.hid (HB5.out.trans (hb6.mono HB5.out.size))
      clear hb6
      go_wp2_with fail
      go_at_call 6
      refine (Few_any n z _ _ (SliceArg.below HA.out HB6.out)).mono ?_
      rintro e w7 ⟨a7, c7, rfl, hi7, hb7⟩
      have HI7 := Lib.hid hi7
      clear hi7
      have HB7 := Lib.hid (HB6.out.trans (hb7.mono HB6.out.size))
      clear hb7
      go_wp2_with fail
      go_at_call 17
      refine (Corners_any (min n 13) z T _ _ _ HI7.out).mono ?_
      rintro e w8 ⟨hb8, hr1, -⟩
      obtain ⟨cv, rfl, hpo⟩ := hr1 HTB.out HIN.out
      rw [Int.toNat_natCast, HC.out] at hpo
      unfold PairsOwn at hpo
      obtain ⟨ca, cc, rfl⟩ := own_form hpo
      clear hr1 hpo
      have HB8 := Lib.hid (HB7.out.trans (hb8.mono HB7.out.size))
      clear hb8
      go_wp2_with fail
      go_at_call 18
      refine (size_any T hT256 _).mono ?_
      rintro e w11 ⟨rfl, rfl⟩
      generalize szS 8 T = q at *
      go_wp2_with fail
      go_at_call 11
      refine (awake_any _).mono ?_
      rintro e w12 ⟨rfl, hb12⟩
      have HB12 := Lib.hid (HB8.out.trans (hb12.mono HB8.out.size))
      clear hb12
      go_wp2_with fail
      go_ret
      exact ⟨rfl, HB12.out⟩
  · have HTB := Lib.hid ht
    have HK1 : Hid (¬ okGame (min n 13) z 1) := Lib.hid fun h => ht h.1
    clear ht
    go_enter Tryd.func4, Tryd.ntmps4
    go_wp2_with fail
    go_at_call 6
    refine (Few_any n z _ _ HA.out).mono ?_
    rintro e w1 ⟨a1, c1, rfl, hi1, hb1⟩
    have HB1 := Lib.hid hb1
    clear hb1
    have HI1 := Lib.hid hi1
    clear hi1
    go_wp2_with fail
    go_at_call 5
    refine (Apart_any (min n 13) z _ _ _ HI1.out (HTab.out.below HB1.out)).mono ?_
    rintro e w2 ⟨hb2, -, hr1⟩
    obtain rfl := hr1 HTB.out
    clear hr1
    have HB2 := Lib.hid (HB1.out.trans (hb2.mono HB1.out.size))
    clear hb2
    go_wp2_with fail
    go_at_call 6
    refine (Few_any n z _ _ (SliceArg.below HA.out HB2.out)).mono ?_
    rintro e w3 ⟨a3, c3, rfl, hi3, hb3⟩
    have HI3 := Lib.hid hi3
    clear hi3
    have HB3 := Lib.hid (HB2.out.trans (hb3.mono HB2.out.size))
    clear hb3
    go_wp2_with fail
    go_at_call 16
    refine (Rounds_any (min n 13) z 1 _ _ _ HI3.out).mono ?_
    rintro e w4 ⟨hb4, -, -, hr1⟩
    obtain rfl := hr1 HK1.out
    clear hr1
    have HB4 := Lib.hid (HB3.out.trans (hb4.mono HB3.out.size))
    clear hb4
    go_wp2_with fail
    go_at_call 6
    refine (Few_any n z _ _ (SliceArg.below HA.out HB4.out)).mono ?_
    rintro e w5 ⟨a5, c5, rfl, hi5, hb5⟩
    have HI5 := Lib.hid hi5
    clear hi5
    have HB5 := Lib.hid (HB4.out.trans (hb5.mono HB4.out.size))
    clear hb5
    go_wp2_with fail
    go_at_call 9
    refine (Core_any (min n 13) z _ _ _ HI5.out).mono ?_
    rintro e w6 ⟨hb6, -, hr1⟩
    obtain rfl := hr1 HTB.out
    clear hr1
    have HB6 := Lib.hid (HB5.out.trans (hb6.mono HB5.out.size))
    clear hb6
    go_wp2_with fail
    go_at_call 11
    refine (awake_any _).mono ?_
    rintro e w7 ⟨rfl, hb7⟩
    have HB7 := Lib.hid (HB6.out.trans (hb7.mono HB6.out.size))
    clear hb7
    go_wp2_with fail
    go_ret
    exact ⟨rfl, HB7.out⟩

end Go.Proofs.YtbodgdbcbaggdaaDoor
