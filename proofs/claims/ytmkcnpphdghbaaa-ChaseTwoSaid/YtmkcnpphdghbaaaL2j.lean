/- The walk of the law ChaseTwo. -/
import Derived.Test.YtmkcnpphdghbaaaL2a
import Derived.Test.YtmkcnpphdghbaaaS14
namespace Go.Proofs.Ytmkcnpphdghbaaa
set_option linter.unusedSimpArgs false
set_option linter.unusedVariables false
open Go.RowKit Go.Maps

set_option maxRecDepth 200000 in
set_option maxHeartbeats 2000000 in
theorem ChaseTwo_walk (n : Nat) (z : Nat → Int) (v : Value) (w : World) (hA : SliceArg w v n z) (hz : ∀ i, -9223372036854775808 ≤ z i ∧ z i ≤ 9223372036854775807) :
    Calls Try.prog 9 #[v] w (LawTrue w) := by
  obtain ⟨a, cap, rfl, hI⟩ := hA.ints
  have HA := Lib.hid hA
  clear hA hz hI
  by_cases ht : townB (min n 13) z = true
  · have HK1 : Hid (okGame (min n 13) z 1) := Lib.hid ⟨ht, .inl rfl⟩
    have HK2 : Hid (okGame (min n 13) z 2) := Lib.hid ⟨ht, .inr rfl⟩
    have H2 : Hid ((bestG (min n 13) z (2 : Int).toNat).2 ≠ -1) := Lib.hid (net_town ht).best
    by_cases hb : (bestG (min n 13) z (1 : Int).toNat).2 = -1
    · have HBB := Lib.hid hb
      clear hb ht
      go_enter Try.func9, Try.ntmps9
      go_wp2_with fail
      go_at_call 13
      refine (Few_any n z _ _ HA.out).mono ?_
      rintro e w1 ⟨a1, c1, rfl, hi1, hb1⟩
      have HB1 := Lib.hid hb1
      clear hb1
      have HI1 := Lib.hid hi1
      clear hi1
      go_wp2_with fail
      go_at_call 21
      refine (Rounds_any (min n 13) z 1 _ _ _ HI1.out).mono ?_
      rintro e w2 ⟨hb2, hr1, -⟩
      obtain rfl := hr1 HK1.out HBB.out
      clear hr1
      have HB2 := Lib.hid (HB1.out.trans (hb2.mono HB1.out.size))
      clear hb2
      go_wp2_with fail
      go_at_call 13
      refine (Few_any n z _ _ (SliceArg.below HA.out HB2.out)).mono ?_
      rintro e w3 ⟨a3, c3, rfl, hi3, hb3⟩
      have HI3 := Lib.hid hi3
      clear hi3
      have HB3 := Lib.hid (HB2.out.trans (hb3.mono HB2.out.size))
      clear hb3
      go_wp2_with fail
      go_at_call 21
      refine (Rounds_any (min n 13) z 2 _ _ _ HI3.out).mono ?_
      rintro e w4 ⟨hb4, -, hr1, -⟩
      obtain rfl := hr1 HK2.out H2.out
      clear hr1
      have HB4 := Lib.hid (HB3.out.trans (hb4.mono HB3.out.size))
      clear hb4
      go_wp2_with fail
      go_at_call 17
      refine (awake_any _).mono ?_
      rintro e w8 ⟨rfl, hb8⟩
      have HB8 := Lib.hid (HB4.out.trans (hb8.mono HB4.out.size))
      clear hb8
      go_wp2_with fail
      go_ret
      exact ⟨rfl, HB8.out⟩
    · have hle : (bestG (min n 13) z (2 : Int).toNat).2 ≤ (bestG (min n 13) z (1 : Int).toNat).2 := (two_one hb).2
      have hg1 : -1 ≤ (bestG (min n 13) z (2 : Int).toNat).2 := best_ge
      have hg2 : (bestG (min n 13) z (1 : Int).toNat).2 ≤ 4096 := best_big
      have hb2 := H2.out
      clear H2
      generalize hs1 : bestG (min n 13) z (1 : Int).toNat = s1 at *
      generalize hs2 : bestG (min n 13) z (2 : Int).toNat = s2 at *
      obtain ⟨p1, m1⟩ := s1
      obtain ⟨p2, m2⟩ := s2
      dsimp only at hle hg1 hg2 hb hb2
      have HS1 := Lib.hid hs1
      have HS2 := Lib.hid hs2
      have HBB : Hid (m1 ≠ -1) := Lib.hid hb
      have H2 : Hid (m2 ≠ -1) := Lib.hid hb2
      clear hb ht hb2 hs1 hs2
      go_enter Try.func9, Try.ntmps9
      go_wp2_with fail
      go_at_call 13
      refine (Few_any n z _ _ HA.out).mono ?_
      rintro e w1 ⟨a1, c1, rfl, hi1, hb1⟩
      have HB1 := Lib.hid hb1
      clear hb1
      have HI1 := Lib.hid hi1
      clear hi1
      go_wp2_with fail
      go_at_call 21
      refine (Rounds_any (min n 13) z 1 _ _ _ HI1.out).mono ?_
      rintro e w2 ⟨hb2, -, hr1, -⟩
      obtain rfl := hr1 HK1.out (by rw [HS1.out]; exact HBB.out)
      rw [HS1.out]
      clear hr1
      have HB2 := Lib.hid (HB1.out.trans (hb2.mono HB1.out.size))
      clear hb2
      go_wp2_with fail
      go_at_call 13
      refine (Few_any n z _ _ (SliceArg.below HA.out HB2.out)).mono ?_
      rintro e w3 ⟨a3, c3, rfl, hi3, hb3⟩
      have HI3 := Lib.hid hi3
      clear hi3
      have HB3 := Lib.hid (HB2.out.trans (hb3.mono HB2.out.size))
      clear hb3
      go_wp2_with fail
      go_at_call 21
      refine (Rounds_any (min n 13) z 2 _ _ _ HI3.out).mono ?_
      rintro e w4 ⟨hb4, -, hr1, -⟩
      obtain rfl := hr1 HK2.out (by rw [HS2.out]; exact H2.out)
      rw [HS2.out]
      clear hr1
      have HB4 := Lib.hid (HB3.out.trans (hb4.mono HB3.out.size))
      clear hb4
      go_wp2_with fail
      go_at_call 17
      refine (awake_any _).mono ?_
      rintro e w8 ⟨rfl, hb8⟩
      have HB8 := Lib.hid (HB4.out.trans (hb8.mono HB4.out.size))
      clear hb8
      go_wp2_with fail
      go_ret
      exact ⟨rfl, HB8.out⟩
  · have HK1 : Hid (¬ okGame (min n 13) z 1) := Lib.hid fun h => ht h.1
    have HK2 : Hid (¬ okGame (min n 13) z 2) := Lib.hid fun h => ht h.1
    clear ht
    go_enter Try.func9, Try.ntmps9
    go_wp2_with fail
    go_at_call 13
    refine (Few_any n z _ _ HA.out).mono ?_
    rintro e w1 ⟨a1, c1, rfl, hi1, hb1⟩
    have HB1 := Lib.hid hb1
    clear hb1
    have HI1 := Lib.hid hi1
    clear hi1
    go_wp2_with fail
    go_at_call 21
    refine (Rounds_any (min n 13) z 1 _ _ _ HI1.out).mono ?_
    rintro e w2 ⟨hb2, -, -, hr1⟩
    obtain rfl := hr1 HK1.out
    clear hr1
    have HB2 := Lib.hid (HB1.out.trans (hb2.mono HB1.out.size))
    clear hb2
    go_wp2_with fail
    go_at_call 13
    refine (Few_any n z _ _ (SliceArg.below HA.out HB2.out)).mono ?_
    rintro e w3 ⟨a3, c3, rfl, hi3, hb3⟩
    have HI3 := Lib.hid hi3
    clear hi3
    have HB3 := Lib.hid (HB2.out.trans (hb3.mono HB2.out.size))
    clear hb3
    go_wp2_with fail
    go_at_call 21
    refine (Rounds_any (min n 13) z 2 _ _ _ HI3.out).mono ?_
    rintro e w4 ⟨hb4, -, -, hr1⟩
    obtain rfl := hr1 HK2.out
    clear hr1
    have HB4 := Lib.hid (HB3.out.trans (hb4.mono HB3.out.size))
    clear hb4
    go_wp2_with fail
    go_at_call 17
    refine (awake_any _).mono ?_
    rintro e w8 ⟨rfl, hb8⟩
    have HB8 := Lib.hid (HB4.out.trans (hb8.mono HB4.out.size))
    clear hb8
    go_wp2_with fail
    go_ret
    exact ⟨rfl, HB8.out⟩

end Go.Proofs.Ytmkcnpphdghbaaa
