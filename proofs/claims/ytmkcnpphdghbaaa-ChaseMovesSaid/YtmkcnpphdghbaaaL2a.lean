/- The walk of the law ChaseRounds. -/
import Derived.Test.YtmkcnpphdghbaaaC2f
import Derived.Test.YtmkcnpphdghbaaaS1v
import Derived.Test.YtmkcnpphdghbaaaEq
namespace Go.Proofs.Ytmkcnpphdghbaaa
set_option linter.unusedSimpArgs false
set_option linter.unusedVariables false
open Go.RowKit Go.Maps

/-- What a law returns: true, and nothing that was there has turned. -/
def LawTrue (w : World) (e : Ending) (w' : World) : Prop := e = .returned (.bool true) ∧ Below w.heap.size w w'

theorem rch_reachOf (z : Nat → Int) : rch (fun i => (z i).toNat) = reachOf z := rfl

set_option maxRecDepth 200000 in
set_option maxHeartbeats 2000000 in
theorem ChaseRounds_yes (n : Nat) (z : Nat → Int) (v : Value) (kI : Int) (w : World) (hA : SliceArg w v n z) (hz : ∀ i, -9223372036854775808 ≤ z i ∧ z i ≤ 9223372036854775807) (hv : validB n z = true) (hk : kI = 1 ∨ kI = 2) :
    Calls Try.prog 4 #[v, .int .i64 kI] w (LawTrue w) := by
  obtain ⟨a, cap, rfl, hI⟩ := hA.ints
  have HA := Lib.hid hA
  have HI := Lib.hid hI
  have HZ := Lib.hid hz
  obtain ⟨hn1, hn8, hcell⟩ := graphB_le (validB_graph hv)
  have HM : Hid (min n 13 = n) := Lib.hid (by omega)
  have HT : Hid (okGame n z kI) := Lib.hid ⟨by rw [townB_valid]; exact hv, hk⟩
  have HG := Lib.hid (GrAt.of_graph hI (validB_graph hv) (by omega))
  have HBD : Hid (∀ v, v < n → (fun i => (z i).toNat) v < 2 ^ n) := Lib.hid (fun v h => nat_pow_cast (hcell v h).2 (hcell v h).1)
  have HV := Lib.hid hv
  have hkk : kI = 1 ∧ kI.toNat = 1 ∨ kI = 2 ∧ kI.toNat = 2 := by omega
  have hk0 : 1 ≤ kI ∧ kI ≤ 2 := by omega
  have HKK := Lib.hid hkk
  have HBG : Hid (bestG n z kI.toNat = bestOf n (ranksF n (rch (fun i => (z i).toNat)) (chs n kI.toNat)) (chs n kI.toNat)) := Lib.hid rfl
  have hml := hI.1
  unfold maxLen at hml
  clear hA hI hz hcell hkk hv hk
  have hE := fun (w : World) (a b c e : Int) => run_eql_pair w a b c e
  by_cases hb : (bestG n z kI.toNat).2 = -1
  · have HBB := Lib.hid hb
    clear hb
    go_enter Try.func4, Try.ntmps4
    go_wp2_with fail
    go_at_call 13
    refine (Few_any n z _ _ HA.out).mono ?_
    rintro e w1 ⟨a1, c1, rfl, hi1, hb1⟩
    rw [HM.out] at hi1
    rw [HM.out]
    have HB1 := Lib.hid hb1
    clear hb1
    have HI1 := Lib.hid hi1
    clear hi1
    go_wp2_with fail
    go_at_call 21
    refine (Rounds_any n z kI _ _ _ HI1.out).mono ?_
    rintro e w2 ⟨hb2, hr1, -⟩
    obtain rfl := hr1 HT.out HBB.out
    clear hr1
    have HB2 := Lib.hid (HB1.out.trans (hb2.mono HB1.out.size))
    clear hb2
    go_wp2_with fail
    go_at_call 13
    refine (Few_any n z _ _ (SliceArg.below HA.out HB2.out)).mono ?_
    rintro e w3 ⟨a3, c3, rfl, hi3, hb3⟩
    rw [HM.out] at hi3
    rw [HM.out]
    have HI3 := Lib.hid hi3
    clear hi3
    have HB3 := Lib.hid (HB2.out.trans (hb3.mono HB2.out.size))
    clear hb3
    go_wp2_with fail
    go_at_call 22
    refine (Start_any n z kI _ _ _ HI3.out).mono ?_
    rintro e w4 ⟨hb4, hr1, -⟩
    obtain rfl := hr1 HT.out HBB.out
    clear hr1
    have HB4 := Lib.hid (HB3.out.trans (hb4.mono HB3.out.size))
    clear hb4
    obtain ⟨w5, hw5, R5, hb5, hsz5⟩ := new1 w4 32 [.int .i64 0, .int .i64 0]
    have HW5 := Lib.hid hw5
    have HR5 := Lib.hid R5
    clear hw5 R5
    have HB5 := Lib.hid (HB4.out.trans (hb5.mono HB4.out.size))
    clear hb5
    go_wp2_with fail
    rw [← HW5.out]
    clear HW5
    go_wp2_with fail
    go_at_call 23
    refine (Valid_any n z _ _ _ (HI.out.below HB5.out) HZ.out).mono ?_
    rintro e w6 ⟨rfl, hb6⟩
    rw [HV.out]
    have HR6 := Lib.hid (HR5.out.below hb6 HR5.out.lt)
    have HB6 := Lib.hid (HB5.out.trans (hb6.mono HB5.out.size))
    clear hb6
    go_wp2_with fail
    go_at_call 24
    refine (RoundsR_any (HG.out.below HB6.out) _ kI.toNat kI HKK.out hn8 HBD.out).mono ?_
    rintro e w7 ⟨hb7, hr1, -⟩
    obtain rfl := hr1 (by rw [← HBG.out]; exact HBB.out)
    have r7 := HR6.out.below hb7 HR6.out.lt
    have q0 := r7.cell (i := 0) rfl
    have q1 := r7.cell (i := 1) rfl
    have q2 := r7.lt
    clear hr1 r7
    have HB7 := Lib.hid (HB6.out.trans (hb7.mono HB6.out.size))
    clear hb7
    go_wp2_with fail
    go_at_call 17
    refine (awake_any _).mono ?_
    rintro e w8 ⟨rfl, hb8⟩
    have HB8 := Lib.hid (HB7.out.trans (((Below.refl w7.heap.size w7).alloc (Nat.le_refl _) _).trans (hb8.mono (by simp)) |>.mono HB7.out.size))
    clear hb8
    go_wp2_with fail
    go_ret
    exact ⟨rfl, HB8.out⟩
  · generalize hbs : bestG n z kI.toNat = s at *
    obtain ⟨⟨s1, s2⟩, sv⟩ := s
    have HBS := Lib.hid hbs
    clear hbs
    dsimp only at hb
    have HBB := Lib.hid hb
    clear hb
    go_enter Try.func4, Try.ntmps4
    go_wp2_with fail
    go_at_call 13
    refine (Few_any n z _ _ HA.out).mono ?_
    rintro e w1 ⟨a1, c1, rfl, hi1, hb1⟩
    rw [HM.out] at hi1
    rw [HM.out]
    have HB1 := Lib.hid hb1
    clear hb1
    have HI1 := Lib.hid hi1
    clear hi1
    go_wp2_with fail
    go_at_call 21
    refine (Rounds_any n z kI _ _ _ HI1.out).mono ?_
    rintro e w2 ⟨hb2, -, hr1, -⟩
    obtain rfl := hr1 HT.out (by rw [HBS.out]; exact HBB.out)
    rw [HBS.out]
    clear hr1
    have HB2 := Lib.hid (HB1.out.trans (hb2.mono HB1.out.size))
    clear hb2
    go_wp2_with fail
    go_at_call 13
    refine (Few_any n z _ _ (SliceArg.below HA.out HB2.out)).mono ?_
    rintro e w3 ⟨a3, c3, rfl, hi3, hb3⟩
    rw [HM.out] at hi3
    rw [HM.out]
    have HI3 := Lib.hid hi3
    clear hi3
    have HB3 := Lib.hid (HB2.out.trans (hb3.mono HB2.out.size))
    clear hb3
    go_wp2_with fail
    go_at_call 22
    refine (Start_any n z kI _ _ _ HI3.out).mono ?_
    rintro e w4 ⟨hb4, -, hr1, -⟩
    obtain rfl := hr1 HT.out (by rw [HBS.out]; exact HBB.out)
    rw [HBS.out]
    clear hr1
    have HB4 := Lib.hid (HB3.out.trans (hb4.mono HB3.out.size))
    clear hb4
    obtain ⟨w5, hw5, R5, hb5, hsz5⟩ := new1 w4 32 [.int .i64 s1, .int .i64 s2]
    have HW5 := Lib.hid hw5
    have HR5 := Lib.hid R5
    clear hw5 R5
    have HB5 := Lib.hid (HB4.out.trans (hb5.mono HB4.out.size))
    clear hb5
    go_wp2_with fail
    rw [← HW5.out]
    clear HW5
    go_wp2_with fail
    go_at_call 23
    refine (Valid_any n z _ _ _ (HI.out.below HB5.out) HZ.out).mono ?_
    rintro e w6 ⟨rfl, hb6⟩
    rw [HV.out]
    have HR6 := Lib.hid (HR5.out.below hb6 HR5.out.lt)
    have HB6 := Lib.hid (HB5.out.trans (hb6.mono HB5.out.size))
    clear hb6
    go_wp2_with fail
    go_at_call 24
    refine (RoundsR_any (HG.out.below HB6.out) _ kI.toNat kI HKK.out hn8 HBD.out).mono ?_
    rintro e w7 ⟨hb7, -, hr1⟩
    obtain rfl := hr1 (by rw [← HBG.out]; exact HBB.out)
    rw [← HBG.out]
    have r7 := HR6.out.below hb7 HR6.out.lt
    have q0 := r7.cell (i := 0) rfl
    have q1 := r7.cell (i := 1) rfl
    have q2 := r7.lt
    clear hr1 r7
    have HB7 := Lib.hid (HB6.out.trans (hb7.mono HB6.out.size))
    clear hb7
    go_wp2_with fail
    go_at_call 17
    refine (awake_any _).mono ?_
    rintro e w8 ⟨rfl, hb8⟩
    have HB8 := Lib.hid (HB7.out.trans (((Below.refl w7.heap.size w7).alloc (Nat.le_refl _) _).trans (hb8.mono (by simp)) |>.mono HB7.out.size))
    clear hb8
    go_wp2_with fail
    go_ret
    exact ⟨rfl, HB8.out⟩

set_option maxRecDepth 200000 in
set_option maxHeartbeats 2000000 in
theorem ChaseRounds_no (n : Nat) (z : Nat → Int) (v : Value) (kI : Int) (w : World) (hA : SliceArg w v n z) (hz : ∀ i, -9223372036854775808 ≤ z i ∧ z i ≤ 9223372036854775807) (hv : ¬ (validB n z = true ∧ (kI = 1 ∨ kI = 2))) :
    Calls Try.prog 4 #[v, .int .i64 kI] w (LawTrue w) := by
  obtain ⟨a, cap, rfl, hI⟩ := hA.ints
  have HA := Lib.hid hA
  have HI := Lib.hid hI
  have HZ := Lib.hid hz
  have HNO : Hid (¬ okGame (min n 13) z kI) := Lib.hid (fun h => by
    obtain ⟨h1, h2⟩ := h
    rw [townB_few] at h1
    exact hv ⟨h1, h2⟩)
  have hml := hI.1
  unfold maxLen at hml
  have hE := fun (w : World) (a b c e : Int) => run_eql_pair w a b c e
  clear hA hI hz
  cases hvb : validB n z
  · have HVB := Lib.hid hvb
    clear hvb hv
    go_enter Try.func4, Try.ntmps4
    go_wp2_with fail
    go_at_call 13
    refine (Few_any n z _ _ HA.out).mono ?_
    rintro e w1 ⟨a1, c1, rfl, hi1, hb1⟩
    have HB1 := Lib.hid hb1
    clear hb1
    have HI1 := Lib.hid hi1
    clear hi1
    go_wp2_with fail
    go_at_call 21
    refine (Rounds_any (min n 13) z kI _ _ _ HI1.out).mono ?_
    rintro e w2 ⟨hb2, -, -, hr1⟩
    obtain rfl := hr1 HNO.out
    clear hr1
    have HB2 := Lib.hid (HB1.out.trans (hb2.mono HB1.out.size))
    clear hb2
    go_wp2_with fail
    go_at_call 13
    refine (Few_any n z _ _ (SliceArg.below HA.out HB2.out)).mono ?_
    rintro e w3 ⟨a3, c3, rfl, hi3, hb3⟩
    have HI3 := Lib.hid hi3
    clear hi3
    have HB3 := Lib.hid (HB2.out.trans (hb3.mono HB2.out.size))
    clear hb3
    go_wp2_with fail
    go_at_call 22
    refine (Start_any (min n 13) z kI _ _ _ HI3.out).mono ?_
    rintro e w4 ⟨hb4, -, -, hr1⟩
    obtain rfl := hr1 HNO.out
    clear hr1
    have HB4 := Lib.hid (HB3.out.trans (hb4.mono HB3.out.size))
    clear hb4
    obtain ⟨w5, hw5, R5, hb5, hsz5⟩ := new1 w4 32 [.int .i64 0, .int .i64 0]
    have HW5 := Lib.hid hw5
    have HR5 := Lib.hid R5
    clear hw5 R5
    have HB5 := Lib.hid (HB4.out.trans (hb5.mono HB4.out.size))
    clear hb5
    go_wp2_with fail
    rw [← HW5.out]
    clear HW5
    go_wp2_with fail
    go_at_call 23
    refine (Valid_any n z _ _ _ (HI.out.below HB5.out) HZ.out).mono ?_
    rintro e w6 ⟨rfl, hb6⟩
    rw [HVB.out]
    have r6 := HR5.out.below hb6 HR5.out.lt
    have q0 := r6.cell (i := 0) rfl
    have q1 := r6.cell (i := 1) rfl
    have q2 := r6.lt
    clear r6
    have HB6 := Lib.hid (HB5.out.trans (hb6.mono HB5.out.size))
    clear hb6
    go_wp2_with fail
    go_at_call 17
    refine (awake_any _).mono ?_
    rintro e w8 ⟨rfl, hb8⟩
    have HB8 := Lib.hid (HB6.out.trans (hb8.mono HB6.out.size))
    clear hb8
    go_wp2_with fail
    go_ret
    exact ⟨rfl, HB8.out⟩
  · have HVB := Lib.hid hvb
    by_cases hk1 : kI < 1
    · clear hvb hv
      go_enter Try.func4, Try.ntmps4
      go_wp2_with fail
      go_at_call 13
      refine (Few_any n z _ _ HA.out).mono ?_
      rintro e w1 ⟨a1, c1, rfl, hi1, hb1⟩
      have HB1 := Lib.hid hb1
      clear hb1
      have HI1 := Lib.hid hi1
      clear hi1
      go_wp2_with fail
      go_at_call 21
      refine (Rounds_any (min n 13) z kI _ _ _ HI1.out).mono ?_
      rintro e w2 ⟨hb2, -, -, hr1⟩
      obtain rfl := hr1 HNO.out
      clear hr1
      have HB2 := Lib.hid (HB1.out.trans (hb2.mono HB1.out.size))
      clear hb2
      go_wp2_with fail
      go_at_call 13
      refine (Few_any n z _ _ (SliceArg.below HA.out HB2.out)).mono ?_
      rintro e w3 ⟨a3, c3, rfl, hi3, hb3⟩
      have HI3 := Lib.hid hi3
      clear hi3
      have HB3 := Lib.hid (HB2.out.trans (hb3.mono HB2.out.size))
      clear hb3
      go_wp2_with fail
      go_at_call 22
      refine (Start_any (min n 13) z kI _ _ _ HI3.out).mono ?_
      rintro e w4 ⟨hb4, -, -, hr1⟩
      obtain rfl := hr1 HNO.out
      clear hr1
      have HB4 := Lib.hid (HB3.out.trans (hb4.mono HB3.out.size))
      clear hb4
      obtain ⟨w5, hw5, R5, hb5, hsz5⟩ := new1 w4 32 [.int .i64 0, .int .i64 0]
      have HW5 := Lib.hid hw5
      have HR5 := Lib.hid R5
      clear hw5 R5
      have HB5 := Lib.hid (HB4.out.trans (hb5.mono HB4.out.size))
      clear hb5
      go_wp2_with fail
      rw [← HW5.out]
      clear HW5
      go_wp2_with fail
      go_at_call 23
      refine (Valid_any n z _ _ _ (HI.out.below HB5.out) HZ.out).mono ?_
      rintro e w6 ⟨rfl, hb6⟩
      rw [HVB.out]
      have r6 := HR5.out.below hb6 HR5.out.lt
      have q0 := r6.cell (i := 0) rfl
      have q1 := r6.cell (i := 1) rfl
      have q2 := r6.lt
      clear r6
      have HB6 := Lib.hid (HB5.out.trans (hb6.mono HB5.out.size))
      clear hb6
      go_wp2_with fail
      go_at_call 17
      refine (awake_any _).mono ?_
      rintro e w8 ⟨rfl, hb8⟩
      have HB8 := Lib.hid (HB6.out.trans (hb8.mono HB6.out.size))
      clear hb8
      go_wp2_with fail
      go_ret
      exact ⟨rfl, HB8.out⟩
    · have hk2 : 2 < kI := by
        have := hv
        simp only [hvb, true_and] at this
        omega
      clear hvb hv
      go_enter Try.func4, Try.ntmps4
      go_wp2_with fail
      go_at_call 13
      refine (Few_any n z _ _ HA.out).mono ?_
      rintro e w1 ⟨a1, c1, rfl, hi1, hb1⟩
      have HB1 := Lib.hid hb1
      clear hb1
      have HI1 := Lib.hid hi1
      clear hi1
      go_wp2_with fail
      go_at_call 21
      refine (Rounds_any (min n 13) z kI _ _ _ HI1.out).mono ?_
      rintro e w2 ⟨hb2, -, -, hr1⟩
      obtain rfl := hr1 HNO.out
      clear hr1
      have HB2 := Lib.hid (HB1.out.trans (hb2.mono HB1.out.size))
      clear hb2
      go_wp2_with fail
      go_at_call 13
      refine (Few_any n z _ _ (SliceArg.below HA.out HB2.out)).mono ?_
      rintro e w3 ⟨a3, c3, rfl, hi3, hb3⟩
      have HI3 := Lib.hid hi3
      clear hi3
      have HB3 := Lib.hid (HB2.out.trans (hb3.mono HB2.out.size))
      clear hb3
      go_wp2_with fail
      go_at_call 22
      refine (Start_any (min n 13) z kI _ _ _ HI3.out).mono ?_
      rintro e w4 ⟨hb4, -, -, hr1⟩
      obtain rfl := hr1 HNO.out
      clear hr1
      have HB4 := Lib.hid (HB3.out.trans (hb4.mono HB3.out.size))
      clear hb4
      obtain ⟨w5, hw5, R5, hb5, hsz5⟩ := new1 w4 32 [.int .i64 0, .int .i64 0]
      have HW5 := Lib.hid hw5
      have HR5 := Lib.hid R5
      clear hw5 R5
      have HB5 := Lib.hid (HB4.out.trans (hb5.mono HB4.out.size))
      clear hb5
      go_wp2_with fail
      rw [← HW5.out]
      clear HW5
      go_wp2_with fail
      go_at_call 23
      refine (Valid_any n z _ _ _ (HI.out.below HB5.out) HZ.out).mono ?_
      rintro e w6 ⟨rfl, hb6⟩
      rw [HVB.out]
      have r6 := HR5.out.below hb6 HR5.out.lt
      have q0 := r6.cell (i := 0) rfl
      have q1 := r6.cell (i := 1) rfl
      have q2 := r6.lt
      clear r6
      have HB6 := Lib.hid (HB5.out.trans (hb6.mono HB5.out.size))
      clear hb6
      go_wp2_with fail
      go_at_call 17
      refine (awake_any _).mono ?_
      rintro e w8 ⟨rfl, hb8⟩
      have HB8 := Lib.hid (HB6.out.trans (hb8.mono HB6.out.size))
      clear hb8
      go_wp2_with fail
      go_ret
      exact ⟨rfl, HB8.out⟩

theorem ChaseRounds_walk (n : Nat) (z : Nat → Int) (v : Value) (kI : Int) (w : World) (hA : SliceArg w v n z) (hz : ∀ i, -9223372036854775808 ≤ z i ∧ z i ≤ 9223372036854775807) :
    Calls Try.prog 4 #[v, .int .i64 kI] w (LawTrue w) := by
  by_cases h : validB n z = true ∧ (kI = 1 ∨ kI = 2)
  · exact ChaseRounds_yes n z v kI w hA hz h.1 h.2
  · exact ChaseRounds_no n z v kI w hA hz h

end Go.Proofs.Ytmkcnpphdghbaaa
