/- The walk of the law ChaseRanks. -/
import Derived.Test.YtmkcnpphdghbaaaL2a
import Derived.Test.YtmkcnpphdghbaaaS3
import Derived.Deep.DeepCutAuto
namespace Go.Proofs.Ytmkcnpphdghbaaa
set_option linter.unusedSimpArgs false
set_option linter.unusedVariables false
open Go.RowKit Go.Maps

set_option maxHeartbeats 400000 in
theorem place_any (x y d : Int) (w : World) :
    Calls Try.prog 14 #[.agg #[.int .i64 x, .int .i64 y, .int .i64 d]] w fun e w' => e = .returned (.agg #[.int .i64 x, .int .i64 y, .int .i64 d]) ∧ Below w.heap.size w w' := by
  go_enter Try.func14, Try.ntmps14
  go_wp2
  exact bodyPost_ret (v := .agg #[.int .i64 x, .int .i64 y, .int .i64 d]) (by simp [results, Try.results14, go_sem]) rfl ⟨rfl, ((Below.refl _ _).alloc (Nat.le_refl _) _).alloc (by simp) _⟩

def fineB (n : Nat) (z : Nat → Int) (kI a b c : Int) : Bool := validB n z && (kI == 1 || kI == 2) && isPlR n kI a b c

set_option maxRecDepth 20000 in
set_option maxHeartbeats 1000000 in
theorem fine_any (n : Nat) (z : Nat → Int) (kI x y d : Int) (a : Option Addr) (cap : Nat) (w : World) (hI : IntsAt w a n z) (hz : ∀ i, -9223372036854775808 ≤ z i ∧ z i ≤ 9223372036854775807) :
    Calls Try.prog 16 #[.slice a n cap, .int .i64 kI, .agg #[.int .i64 x, .int .i64 y, .int .i64 d]] w fun e w' => e = .returned (.bool (fineB n z kI x y d)) ∧ Below w.heap.size w w' := by
  obtain ⟨w0, hw0, R0, HB, hsz⟩ := new1 w 25 [.int .i64 x, .int .i64 y, .int .i64 d]
  have HW := Lib.hid hw0
  have HR0 := Lib.hid R0
  have HB0 := Lib.hid HB
  have HI := Lib.hid (hI.below HB)
  have HZ := Lib.hid hz
  have HFB : Hid (fineB n z kI x y d = (validB n z && (kI == 1 || kI == 2) && isPlR n kI x y d)) := Lib.hid rfl
  clear hw0 R0 HB hI hz
  cases hv : validB n z
  · have HV := Lib.hid hv
    clear hv
    go_enter Try.func16, Try.ntmps16
    go_wp2_with fail
    rw [← HW.out]
    clear HW
    go_wp2_with fail
    go_at_call 23
    refine (Valid_any n z _ _ _ HI.out HZ.out).mono ?_
    rintro e w1 ⟨rfl, hb1⟩
    rw [HV.out]
    have HB1 := Lib.hid (HB0.out.trans (hb1.mono (Nat.le_of_lt hsz)))
    clear hb1
    go_wp2_with fail
    go_ret
    exact ⟨by rw [HFB.out, HV.out]; rfl, HB1.out⟩
  · have HV := Lib.hid hv
    clear hv
    cases k1 : (kI == 1) <;> cases k2 : (kI == 2)
    case false.false =>
      have HK1 := Lib.hid k1
      have HK2 := Lib.hid k2
      go_enter Try.func16, Try.ntmps16
      go_wp2_with fail
      rw [← HW.out]
      clear HW
      go_wp2_with fail
      go_at_call 23
      refine (Valid_any n z _ _ _ HI.out HZ.out).mono ?_
      rintro e w1 ⟨rfl, hb1⟩
      rw [HV.out]
      have HB1 := Lib.hid (HB0.out.trans (hb1.mono (Nat.le_of_lt hsz)))
      clear hb1
      go_wp2_with fail
      go_ret
      exact ⟨by rw [HFB.out, HV.out, HK1.out, HK2.out]; rfl, HB1.out⟩
    all_goals
      have HK1 := Lib.hid k1
      have HK2 := Lib.hid k2
      go_enter Try.func16, Try.ntmps16
      go_wp2_with fail
      rw [← HW.out]
      clear HW
      go_wp2_with fail
      go_at_call 23
      refine (Valid_any n z _ _ _ HI.out HZ.out).mono ?_
      rintro e w1 ⟨rfl, hb1⟩
      rw [HV.out]
      have r1 := HR0.out.below hb1 HR0.out.lt
      have d0 := r1.cell (i := 0) rfl
      have d1 := r1.cell (i := 1) rfl
      have d2 := r1.cell (i := 2) rfl
      have HB1 := Lib.hid (HB0.out.trans (hb1.mono (Nat.le_of_lt hsz)))
      clear hb1 r1
      go_wp2_with fail
      go_at_call 41
      refine (IsPlaceR_any n kI x y d _ _ _).mono ?_
      rintro e w2 ⟨rfl, hb2⟩
      have HB2 := Lib.hid (HB1.out.trans (hb2.mono HB1.out.size))
      clear hb2
      go_wp2_with fail
      go_ret
      exact ⟨by rw [HFB.out, HV.out, HK1.out, HK2.out]; simp, HB2.out⟩

theorem fine_ok {n : Nat} {z : Nat → Int} {kI a b c : Int} : fineB n z kI a b c = true ↔ okPl n z kI a b c := by
  unfold fineB okPl okGame
  rw [Bool.and_eq_true, Bool.and_eq_true, Bool.or_eq_true, beq_iff_eq, beq_iff_eq, townB_valid]
  constructor
  · rintro ⟨⟨h1, h2⟩, h3⟩
    exact ⟨⟨h1, h2⟩, by rw [← place_eq h2]; exact h3⟩
  · rintro ⟨⟨h1, h2⟩, h3⟩
    exact ⟨⟨h1, h2⟩, by rw [place_eq h2]; exact h3⟩
theorem fine_few {n : Nat} {z : Nat → Int} {kI a b c : Int} (h : fineB n z kI a b c = false) : ¬ okPl (min n 13) z kI a b c := by
  rintro ⟨⟨h1, h2⟩, h3⟩
  rw [townB_few] at h1
  have h4 := (graphB_le (validB_graph h1)).2.1
  rw [show min n 13 = n by omega] at h3
  have := fine_ok.2 ⟨⟨by rw [townB_valid]; exact h1, h2⟩, h3⟩
  rw [h] at this
  cases this

/-- What a call leaves of a pair that was made just ahead of it. -/
theorem rowNew {W w1 : World} {x y : Value} {T : TypeId} (h : Below (W.alloc (.cells #[x, y] T)).heap.size (W.alloc (.cells #[x, y] T)) w1) : Row w1 W.heap.size T [x, y] := (Row.new W T [x, y]).below h (by simp)
theorem rowNewD {W w1 : World} {x y : Value} {T : TypeId} (h : Below (W.alloc (.cells #[x, y] T)).drew.heap.size (W.alloc (.cells #[x, y] T)).drew w1) : Row w1 W.heap.size T [x, y] := ((Row.new W T [x, y]).drewN 1).below h (by show W.heap.size < (W.alloc (.cells #[x, y] T)).heap.size; simp)
theorem newBoundD {W w0 w1 : World} {x y : Value} {T : TypeId} (h : Below w0.heap.size w0 W) (_ : Below (W.alloc (.cells #[x, y] T)).drew.heap.size (W.alloc (.cells #[x, y] T)).drew w1) : w0.heap.size ≤ W.heap.size := h.size
theorem newBound {W w0 w1 : World} {x y : Value} {T : TypeId} (_ : Below (W.alloc (.cells #[x, y] T)).heap.size (W.alloc (.cells #[x, y] T)) w1) (h : Below w0.heap.size w0 W) : w0.heap.size ≤ W.heap.size := h.size

set_option maxRecDepth 200000 in
set_option maxHeartbeats 4000000 in
theorem ChaseRanks_no (n : Nat) (z : Nat → Int) (v : Value) (kI x y d : Int) (w : World) (hA : SliceArg w v n z) (hz : ∀ i, -9223372036854775808 ≤ z i ∧ z i ≤ 9223372036854775807) (hf : fineB n z kI x y d = false) :
    Calls Try.prog 3 #[v, .int .i64 kI, .agg #[.int .i64 x, .int .i64 y, .int .i64 d]] w (LawTrue w) := by
  obtain ⟨a, cap, rfl, hI⟩ := hA.ints
  obtain ⟨w0, hw0, R0, HB, hsz⟩ := new1 w 25 [.int .i64 x, .int .i64 y, .int .i64 d]
  have HA := Lib.hid (SliceArg.below hA HB)
  have HI := Lib.hid (hI.below HB)
  have HZ := Lib.hid hz
  have HF := Lib.hid hf
  have HNO := Lib.hid (fine_few hf)
  clear hf
  have HW := Lib.hid hw0
  have HR0 := Lib.hid R0
  have HB0 := Lib.hid HB
  have hml := hI.1
  unfold maxLen at hml
  have hE := fun (w : World) (a b c e : Int) => run_eql_pair w a b c e
  clear hw0 R0 HB hA hI hz
  go_enter Try.func3, Try.ntmps3
  go_wp2_with fail
  rw [← HW.out]
  clear HW
  go_upto_region 1 with fail
  go_cut [7, 8] (fun s7 s8 wx => s7 = .int .i64 0 ∧ s8 = .int .i64 2 ∧ Below w0.heap.size w0 wx)
  case first =>
    have B0 : Below w0.heap.size w0 w0.drew := (Below.refl _ _).drew
    have r0 := HR0.out.below B0 HR0.out.lt
    have c0 := r0.cell (i := 0) rfl
    have c1 := r0.cell (i := 1) rfl
    have c2 := r0.cell (i := 2) rfl
    clear r0
    go_region_held3 (fun w' => Below w0.heap.size w0 w' ∧ w'.cell? ⟨w.heap.size, 0, none⟩ = some (.int .i64 x) ∧ w'.cell? ⟨w.heap.size, 1, none⟩ = some (.int .i64 y) ∧ w'.cell? ⟨w.heap.size, 2, none⟩ = some (.int .i64 d)) (first | (refine ⟨?_, ?_, ?_, ?_⟩ <;> assumption) | (refine ⟨?_, ?_, ?_, ?_⟩ <;> first | assumption | exact Below.alloc (by assumption) (Below.size (by assumption)) _ | exact Below.setCell (Below.setCell (by assumption) hNB _) hNB _ | go_keep))
      (first
        | (go_at_call 13; refine (Few_any n z _ _ (SliceArg.below HA.out (And.left (by assumption)))).mono ?_; rintro e w1 ⟨a1, k1, rfl, hi1, hb1⟩; have HI1 := Lib.hid hi1; have hb2 := Below.trans (And.left (by assumption)) (hb1.mono (Below.size (And.left (by assumption)))); have r1 := HR0.out.below hb2 HR0.out.lt; have c0 := r1.cell (i := 0) rfl; have c1 := r1.cell (i := 1) rfl; have c2 := r1.cell (i := 2) rfl; clear r1 hi1; clear hb1)
        | (go_at_call 14; refine (place_any x y d _).mono ?_; rintro e w1 ⟨rfl, hb1⟩; (try (have HI1 := Lib.hid (IntsAt.below HI1.out hb1))); have hb2 := Below.trans (And.left (by assumption)) (hb1.mono (Below.size (And.left (by assumption)))); have r1 := HR0.out.below hb2 HR0.out.lt; have c0 := r1.cell (i := 0) rfl; have c1 := r1.cell (i := 1) rfl; have c2 := r1.cell (i := 2) rfl; clear r1; clear hb1)
        | (go_at_call 12; refine (RankP_any (min n 13) z kI x y d _ _ _ (by first | exact HI1.out | exact IntsAt.alloc HI1.out _)).mono ?_; rintro e w1 ⟨hb1, -, hno⟩; obtain rfl := hno HNO.out; clear hno; have hb2 := Below.trans (And.left (by assumption)) (hb1.mono (Below.size (And.left (by assumption)))); have r1 := HR0.out.below hb2 HR0.out.lt; have c0 := r1.cell (i := 0) rfl; have c1 := r1.cell (i := 1) rfl; have c2 := r1.cell (i := 2) rfl; clear r1; clear hb1))
    all_goals
      go_wp2_with fail
      go_meet
      exact ⟨rfl, rfl, by assumption⟩
  case rest =>
    obtain ⟨rfl, rfl, hba⟩ := hcut
    obtain ⟨wa, rfl⟩ : ∃ wa : World, wa = wc := ⟨_, rfl⟩
    have HBA := Lib.hid hba
    clear hba
    go_upto_region 2 with fail
    go_cut [9, 10] (fun s9 s10 wx => ∃ B, s9 = .pointer (some ⟨B, 0, none⟩) ∧ s10 = .int .i64 2 ∧ Row wx B 32 [.int .i64 0, .int .i64 0] ∧ Below w0.heap.size w0 wx ∧ w0.heap.size ≤ B)
    case first =>
      have HR0A := Lib.hid (HR0.out.below HBA.out HR0.out.lt)
      have B0 : Below w0.heap.size w0 wa.drew := (HBA.out).drew
      have r0 := HR0.out.below B0 HR0.out.lt
      have c0 := r0.cell (i := 0) rfl
      have c1 := r0.cell (i := 1) rfl
      have c2 := r0.cell (i := 2) rfl
      clear r0
      go_region_held3 (fun w' => Below w0.heap.size w0 w' ∧ w'.cell? ⟨w.heap.size, 0, none⟩ = some (.int .i64 x) ∧ w'.cell? ⟨w.heap.size, 1, none⟩ = some (.int .i64 y) ∧ w'.cell? ⟨w.heap.size, 2, none⟩ = some (.int .i64 d)) (first | (refine ⟨?_, ?_, ?_, ?_⟩ <;> assumption) | (refine ⟨?_, ?_, ?_, ?_⟩ <;> first | assumption | exact Below.alloc (by assumption) (Below.size (by assumption)) _ | exact Below.setCell (Below.setCell (by assumption) hNB _) hNB _ | exact Below.drew (Below.alloc HBA.out (Below.size HBA.out) _) | exact ((HR0A.out.alloc _).drewN 1).cell (i := 0) rfl | exact ((HR0A.out.alloc _).drewN 1).cell (i := 1) rfl | exact ((HR0A.out.alloc _).drewN 1).cell (i := 2) rfl | exact ((HRW.out.other hNl _).other hNl _).cell (i := 0) rfl | exact ((HRW.out.other hNl _).other hNl _).cell (i := 1) rfl | exact ((HRW.out.other hNl _).other hNl _).cell (i := 2) rfl | go_keep))
        (first
          | (go_at_call 13; refine (Few_any n z _ _ (SliceArg.below HA.out (And.left (by assumption)))).mono ?_; rintro e w1 ⟨a1, k1, rfl, hi1, hb1⟩; have HI1 := Lib.hid hi1; have hb2 := Below.trans (And.left (by assumption)) (hb1.mono (Below.size (And.left (by assumption)))); have r1 := HR0.out.below hb2 HR0.out.lt; have c0 := r1.cell (i := 0) rfl; have c1 := r1.cell (i := 1) rfl; have c2 := r1.cell (i := 2) rfl; have HRW := Lib.hid r1; clear r1 hi1; (try have hN := Row.below hN hb1 (Row.lt hN)); (try have hNB := newBound (w0 := w0) hb1 (by first | assumption | exact And.left (by assumption))); (try have hNl := Nat.ne_of_lt (Nat.lt_of_lt_of_le hsz hNB)); (try have hNB := newBoundD HBA.out hb1); (try have hNl := Nat.ne_of_lt (Nat.lt_of_lt_of_le hsz hNB)); (try have hN := rowNew hb1); (try have hN := rowNewD hb1); (try have n0 := Row.cell hN (i := 0) rfl); (try have n1 := Row.cell hN (i := 1) rfl); (try have f0 := Row.free hN 0); (try have f1 := Row.free hN 1); (try have nl := Row.lt hN); clear hb1)
          | (go_at_call 14; refine (place_any x y d _).mono ?_; rintro e w1 ⟨rfl, hb1⟩; (try (have HI1 := Lib.hid (by first | exact IntsAt.below HI1.out hb1 | exact IntsAt.below (IntsAt.alloc HI1.out _) hb1 : IntsAt w1 _ _ _))); have hb2 := Below.trans (And.left (by assumption)) (hb1.mono (Below.size (And.left (by assumption)))); have r1 := HR0.out.below hb2 HR0.out.lt; have c0 := r1.cell (i := 0) rfl; have c1 := r1.cell (i := 1) rfl; have c2 := r1.cell (i := 2) rfl; have HRW := Lib.hid r1; clear r1; (try have hN := Row.below hN hb1 (Row.lt hN)); (try have hNB := newBound (w0 := w0) hb1 (by first | assumption | exact And.left (by assumption))); (try have hNl := Nat.ne_of_lt (Nat.lt_of_lt_of_le hsz hNB)); (try have hNB := newBoundD HBA.out hb1); (try have hNl := Nat.ne_of_lt (Nat.lt_of_lt_of_le hsz hNB)); (try have hN := rowNew hb1); (try have hN := rowNewD hb1); (try have n0 := Row.cell hN (i := 0) rfl); (try have n1 := Row.cell hN (i := 1) rfl); (try have f0 := Row.free hN 0); (try have f1 := Row.free hN 1); (try have nl := Row.lt hN); clear hb1)
          | (go_at_call 15; refine (MoveP_any (min n 13) z kI x y d _ _ _ (by first | exact HI1.out | exact IntsAt.alloc HI1.out _)).mono ?_; rintro e w1 ⟨hb1, -, -, hno⟩; obtain rfl := hno HNO.out; clear hno; have hb2 := Below.trans (And.left (by assumption)) (hb1.mono (Below.size (And.left (by assumption)))); have r1 := HR0.out.below hb2 HR0.out.lt; have c0 := r1.cell (i := 0) rfl; have c1 := r1.cell (i := 1) rfl; have c2 := r1.cell (i := 2) rfl; have HRW := Lib.hid r1; clear r1; (try have hN := Row.below hN hb1 (Row.lt hN)); (try have hNB := newBound (w0 := w0) hb1 (by first | assumption | exact And.left (by assumption))); (try have hNl := Nat.ne_of_lt (Nat.lt_of_lt_of_le hsz hNB)); (try have hNB := newBoundD HBA.out hb1); (try have hNl := Nat.ne_of_lt (Nat.lt_of_lt_of_le hsz hNB)); (try have hN := rowNew hb1); (try have hN := rowNewD hb1); (try have n0 := Row.cell hN (i := 0) rfl); (try have n1 := Row.cell hN (i := 1) rfl); (try have f0 := Row.free hN 0); (try have f1 := Row.free hN 1); (try have nl := Row.lt hN); clear hb1))
      all_goals
        have hbz : Below w0.heap.size w0 w1 := by assumption
        have hsz1 := hbz.size
        go_wp2_with fail
        go_meet
        first | exact ⟨w1.heap.size, rfl, rfl, Row.new _ _ _, hbz.alloc hsz1 _, hsz1⟩ | exact ⟨_, rfl, rfl, (hN.set 0 _).set 1 _, (hbz.setCell hNB _).setCell hNB _, hNB⟩
    case rest =>
      obtain ⟨B, rfl, rfl, rb, hbb, hB⟩ := hcut
      obtain ⟨wd, rfl⟩ : ∃ wd : World, wd = wc := ⟨_, rfl⟩
      have HBD := Lib.hid hbb
      have HRB := Lib.hid rb
      have r0 := HR0.out.below hbb HR0.out.lt
      have HR0D := Lib.hid r0
      have d0 := r0.cell (i := 0) rfl
      have d1 := r0.cell (i := 1) rfl
      have d2 := r0.cell (i := 2) rfl
      clear rb hbb r0
      go_wp2_with fail
      go_at_call 16
      refine (fine_any n z kI x y d _ _ _ (HI.out.below HBD.out) HZ.out).mono ?_
      rintro e w5 ⟨rfl, hb5⟩
      rw [HF.out]
      have HB5 := Lib.hid (HBD.out.trans (hb5.mono HBD.out.size))
      have rb := HRB.out.below hb5 HRB.out.lt
      have q0 := rb.cell (i := 0) rfl
      have q1 := rb.cell (i := 1) rfl
      have q2 := rb.lt
      clear hb5 rb d0 d1 d2
      go_wp2_with fail
      go_at_call 17
      refine (awake_any _).mono ?_
      rintro e w6 ⟨rfl, hb6⟩
      have HB6 := Lib.hid (HB5.out.trans (hb6.mono HB5.out.size))
      clear hb6
      go_wp2_with fail
      go_ret
      exact ⟨rfl, HB0.out.trans (HB6.out.mono (Nat.le_of_lt hsz))⟩


end Go.Proofs.Ytmkcnpphdghbaaa
