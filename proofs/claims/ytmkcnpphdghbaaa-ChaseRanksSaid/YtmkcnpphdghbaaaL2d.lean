/- The walk of the law ChaseRanks, where the arguments are valid and there is a move. -/
import Derived.Test.YtmkcnpphdghbaaaL2b
namespace Go.Proofs.Ytmkcnpphdghbaaa
set_option linter.unusedSimpArgs false
set_option linter.unusedVariables false
open Go.RowKit Go.Maps

set_option maxRecDepth 200000 in
set_option maxHeartbeats 4000000 in
theorem ChaseRanks_some (n : Nat) (z : Nat → Int) (v : Value) (kI : Int) (x y d : Nat) (w : World) (hA : SliceArg w v n z) (hz : ∀ i, -9223372036854775808 ≤ z i ∧ z i ≤ 9223372036854775807) (hok : okPl n z kI x y d) (q : Pl) (hm : mvRef n kI.toNat (fun i => (z i).toNat) (ranksF n (reachOf z) (chs n kI.toNat)) (x, y, d) = some q) :
    Calls Try.prog 3 #[v, .int .i64 kI, .agg #[.int .i64 x, .int .i64 y, .int .i64 d]] w (LawTrue w) := by
  obtain ⟨a, cap, rfl, hI⟩ := hA.ints
  obtain ⟨w0, hw0, R0, HB, hsz⟩ := new1 w 25 [.int .i64 x, .int .i64 y, .int .i64 d]
  have HA := Lib.hid (SliceArg.below hA HB)
  have HI := Lib.hid (hI.below HB)
  have HZ := Lib.hid hz
  have hv : validB n z = true := by rw [← townB_valid]; exact hok.1.1
  obtain ⟨hn1, hn8, hcell⟩ := graphB_le (validB_graph hv)
  have HM : Hid (min n 13 = n) := Lib.hid (by omega)
  have HOK := Lib.hid hok
  have HF : Hid (fineB n z kI x y d = true) := Lib.hid (fine_ok.2 hok)
  have HG := Lib.hid (GrAt.of_graph (hI.below HB) (validB_graph hv) (by omega))
  have HBD : Hid (∀ v, v < n → (fun i => (z i).toNat) v < 2 ^ n) := Lib.hid (fun v h => nat_pow_cast (hcell v h).2 (hcell v h).1)
  have hk12 : kI = 1 ∨ kI = 2 := hok.1.2
  have HKK : Hid (kI = 1 ∧ kI.toNat = 1 ∨ kI = 2 ∧ kI.toNat = 2) := Lib.hid (by omega)
  have hkt : kI.toNat = 1 ∨ kI.toNat = 2 := by omega
  have hpl : (x, y, d) ∈ allPl n (chs n kI.toNat) := by
    obtain ⟨x', y', d', h1, h2, h3, h4, h5⟩ := isPlB_nat hok.2
    obtain rfl : x = x' := by omega
    obtain rfl : y = y' := by omega
    obtain rfl : d = d' := by omega
    exact mem_allPl.2 ⟨h4, h5⟩
  have HPL := Lib.hid hpl
  have HPT : Hid ((x, y, d) ∈ plTo n kI.toNat n) := Lib.hid (by rw [places_chs hkt]; exact hpl)
  have hxy := chs_lt n kI.toNat _ (mem_allPl.1 hpl).1
  have hd := (mem_allPl.1 hpl).2
  dsimp only at hxy hd
  have x8 : x < 8 := by omega
  have y8 : y < 8 := by omega
  have d8 : d < 8 := by omega
  have HBM : Hid (bestMv n (reachOf z) (ranksF n (reachOf z) (chs n kI.toNat)) (chs n kI.toNat) (x, y, d) = some (q.1, q.2.1)) := Lib.hid (by
    have h := best_ref (n := n) (k := kI.toNat) (g := fun i => (z i).toNat) hkt (by omega) hpl
    rw [rch_reachOf, hm] at h
    exact h)
  have HMV := Lib.hid hm
  clear hok hm hv hcell hpl hxy hk12 hkt
  have HW := Lib.hid hw0
  have HR0 := Lib.hid R0
  have HB0 := Lib.hid HB
  have hml := hI.1
  unfold maxLen at hml
  have hE := fun (w : World) (a b c e : Int) => run_eql_pair w a b c e
  clear hw0 R0 HB hA hI hz
  go_enter Try.func3, Try.ntmps3
  go_wp2_with fail
  rw [← HW.out]
  clear HW
  go_upto_region 1 with fail
  go_cut [7, 8] (fun s7 s8 wx => s7 = .int .i64 (rankV (ranksF n (reachOf z) (chs n kI.toNat)) (x, y, d)) ∧ s8 = .int .i64 0 ∧ Below w0.heap.size w0 wx)
  case first =>
    have B0 : Below w0.heap.size w0 w0.drew := (Below.refl _ _).drew
    have r0 := HR0.out.below B0 HR0.out.lt
    have c0 := r0.cell (i := 0) rfl
    have c1 := r0.cell (i := 1) rfl
    have c2 := r0.cell (i := 2) rfl
    clear r0
    go_region_held3 (fun w' => Below w0.heap.size w0 w' ∧ w'.cell? ⟨w.heap.size, 0, none⟩ = some (.int .i64 x) ∧ w'.cell? ⟨w.heap.size, 1, none⟩ = some (.int .i64 y) ∧ w'.cell? ⟨w.heap.size, 2, none⟩ = some (.int .i64 d)) (first | (refine ⟨?_, ?_, ?_, ?_⟩ <;> assumption) | (refine ⟨?_, ?_, ?_, ?_⟩ <;> first | assumption | exact Below.alloc (by assumption) (Below.size (by assumption)) _ | exact Below.setCell (Below.setCell (by assumption) hNB _) hNB _ | go_keep))
      (first
        | (go_at_call 13; refine (Few_any n z _ _ (SliceArg.below HA.out (And.left (by assumption)))).mono ?_; rintro e w1 ⟨a1, k1, rfl, hi1, hb1⟩; rw [HM.out] at hi1; rw [HM.out]; have HI1 := Lib.hid hi1; have hb2 := Below.trans (And.left (by assumption)) (hb1.mono (Below.size (And.left (by assumption)))); have r1 := HR0.out.below hb2 HR0.out.lt; have c0 := r1.cell (i := 0) rfl; have c1 := r1.cell (i := 1) rfl; have c2 := r1.cell (i := 2) rfl; clear r1 hi1; clear hb1)
        | (go_at_call 14; refine (place_any x y d _).mono ?_; rintro e w1 ⟨rfl, hb1⟩; (try (have HI1 := Lib.hid (IntsAt.below HI1.out hb1))); have hb2 := Below.trans (And.left (by assumption)) (hb1.mono (Below.size (And.left (by assumption)))); have r1 := HR0.out.below hb2 HR0.out.lt; have c0 := r1.cell (i := 0) rfl; have c1 := r1.cell (i := 1) rfl; have c2 := r1.cell (i := 2) rfl; clear r1; clear hb1)
        | (go_at_call 12; refine (RankP_any (n) z kI x y d _ _ _ (by first | exact HI1.out | exact IntsAt.alloc HI1.out _)).mono ?_; rintro e w1 ⟨hb1, hyes, -⟩; simp only [Int.toNat_natCast] at hyes; obtain rfl := hyes HOK.out; clear hyes; have hb2 := Below.trans (And.left (by assumption)) (hb1.mono (Below.size (And.left (by assumption)))); have r1 := HR0.out.below hb2 HR0.out.lt; have c0 := r1.cell (i := 0) rfl; have c1 := r1.cell (i := 1) rfl; have c2 := r1.cell (i := 2) rfl; clear r1; clear hb1))
    all_goals
      go_wp2_with fail
      go_meet
      exact ⟨rfl, rfl, by assumption⟩
  case rest =>
    obtain ⟨rfl, rfl, hba⟩ := hcut
    obtain ⟨wa, rfl⟩ : ∃ wa : World, wa = wc := ⟨_, rfl⟩
    have HBA := Lib.hid hba
    clear hba
    go_upto_region 2 with fail
    go_cut [9, 10] (fun s9 s10 wx => ∃ B, s9 = .pointer (some ⟨B, 0, none⟩) ∧ s10 = .int .i64 0 ∧ Row wx B 32 [.int .i64 q.1, .int .i64 q.2.1] ∧ Below w0.heap.size w0 wx ∧ w0.heap.size ≤ B)
    case first =>
      have HR0A := Lib.hid (HR0.out.below HBA.out HR0.out.lt)
      have B0 : Below w0.heap.size w0 wa.drew := (HBA.out).drew
      have r0 := HR0.out.below B0 HR0.out.lt
      have c0 := r0.cell (i := 0) rfl
      have c1 := r0.cell (i := 1) rfl
      have c2 := r0.cell (i := 2) rfl
      clear r0
      go_region_held3 (fun w' => Below w0.heap.size w0 w' ∧ w'.cell? ⟨w.heap.size, 0, none⟩ = some (.int .i64 x) ∧ w'.cell? ⟨w.heap.size, 1, none⟩ = some (.int .i64 y) ∧ w'.cell? ⟨w.heap.size, 2, none⟩ = some (.int .i64 d)) (first | (refine ⟨?_, ?_, ?_, ?_⟩ <;> assumption) | (refine ⟨?_, ?_, ?_, ?_⟩ <;> first | assumption | exact Below.alloc (by assumption) (Below.size (by assumption)) _ | exact Below.setCell (Below.setCell (by assumption) hNB _) hNB _ | exact Below.drew (Below.alloc HBA.out (Below.size HBA.out) _) | exact ((HR0A.out.alloc _).drewN 1).cell (i := 0) rfl | exact ((HR0A.out.alloc _).drewN 1).cell (i := 1) rfl | exact ((HR0A.out.alloc _).drewN 1).cell (i := 2) rfl | exact ((HRW.out.other hNl _).other hNl _).cell (i := 0) rfl | exact ((HRW.out.other hNl _).other hNl _).cell (i := 1) rfl | exact ((HRW.out.other hNl _).other hNl _).cell (i := 2) rfl | go_keep))
        (first
          | (go_at_call 13; refine (Few_any n z _ _ (SliceArg.below HA.out (And.left (by assumption)))).mono ?_; rintro e w1 ⟨a1, k1, rfl, hi1, hb1⟩; rw [HM.out] at hi1; rw [HM.out]; have HI1 := Lib.hid hi1; have hb2 := Below.trans (And.left (by assumption)) (hb1.mono (Below.size (And.left (by assumption)))); have r1 := HR0.out.below hb2 HR0.out.lt; have c0 := r1.cell (i := 0) rfl; have c1 := r1.cell (i := 1) rfl; have c2 := r1.cell (i := 2) rfl; have HRW := Lib.hid r1; clear r1 hi1; (try have hN := Row.below hN hb1 (Row.lt hN)); (try have hNB := newBound (w0 := w0) hb1 (by first | assumption | exact And.left (by assumption))); (try have hNl := Nat.ne_of_lt (Nat.lt_of_lt_of_le hsz hNB)); (try have hNB := newBoundD HBA.out hb1); (try have hNl := Nat.ne_of_lt (Nat.lt_of_lt_of_le hsz hNB)); (try have hN := rowNew hb1); (try have hN := rowNewD hb1); (try have n0 := Row.cell hN (i := 0) rfl); (try have n1 := Row.cell hN (i := 1) rfl); (try have f0 := Row.free hN 0); (try have f1 := Row.free hN 1); (try have nl := Row.lt hN); clear hb1)
          | (go_at_call 14; refine (place_any x y d _).mono ?_; rintro e w1 ⟨rfl, hb1⟩; (try (have HI1 := Lib.hid (by first | exact IntsAt.below HI1.out hb1 | exact IntsAt.below (IntsAt.alloc HI1.out _) hb1 : IntsAt w1 _ _ _))); have hb2 := Below.trans (And.left (by assumption)) (hb1.mono (Below.size (And.left (by assumption)))); have r1 := HR0.out.below hb2 HR0.out.lt; have c0 := r1.cell (i := 0) rfl; have c1 := r1.cell (i := 1) rfl; have c2 := r1.cell (i := 2) rfl; have HRW := Lib.hid r1; clear r1; (try have hN := Row.below hN hb1 (Row.lt hN)); (try have hNB := newBound (w0 := w0) hb1 (by first | assumption | exact And.left (by assumption))); (try have hNl := Nat.ne_of_lt (Nat.lt_of_lt_of_le hsz hNB)); (try have hNB := newBoundD HBA.out hb1); (try have hNl := Nat.ne_of_lt (Nat.lt_of_lt_of_le hsz hNB)); (try have hN := rowNew hb1); (try have hN := rowNewD hb1); (try have n0 := Row.cell hN (i := 0) rfl); (try have n1 := Row.cell hN (i := 1) rfl); (try have f0 := Row.free hN 0); (try have f1 := Row.free hN 1); (try have nl := Row.lt hN); clear hb1)
          | (go_at_call 15; refine (MoveP_any (n) z kI x y d _ _ _ (by first | exact HI1.out | exact IntsAt.alloc HI1.out _)).mono ?_; rintro e w1 ⟨hb1, -, hyes, -⟩; simp only [Int.toNat_natCast] at hyes; obtain rfl := hyes (q.1, q.2.1) HOK.out HBM.out; clear hyes; have hb2 := Below.trans (And.left (by assumption)) (hb1.mono (Below.size (And.left (by assumption)))); have r1 := HR0.out.below hb2 HR0.out.lt; have c0 := r1.cell (i := 0) rfl; have c1 := r1.cell (i := 1) rfl; have c2 := r1.cell (i := 2) rfl; have HRW := Lib.hid r1; clear r1; (try have hN := Row.below hN hb1 (Row.lt hN)); (try have hNB := newBound (w0 := w0) hb1 (by first | assumption | exact And.left (by assumption))); (try have hNl := Nat.ne_of_lt (Nat.lt_of_lt_of_le hsz hNB)); (try have hNB := newBoundD HBA.out hb1); (try have hNl := Nat.ne_of_lt (Nat.lt_of_lt_of_le hsz hNB)); (try have hN := rowNew hb1); (try have hN := rowNewD hb1); (try have n0 := Row.cell hN (i := 0) rfl); (try have n1 := Row.cell hN (i := 1) rfl); (try have f0 := Row.free hN 0); (try have f1 := Row.free hN 1); (try have nl := Row.lt hN); clear hb1))
      all_goals
        have hbz : Below w0.heap.size w0 w1 := by assumption
        have hsz1 := hbz.size
        go_wp2_with fail
        go_meet
        first | exact ⟨w1.heap.size, rfl, rfl, Row.new _ _ _, hbz.alloc hsz1 _, hsz1⟩ | exact ⟨_, rfl, rfl, (hN.set 0 _).set 1 _, (hbz.setCell hNB _).setCell hNB _, hNB⟩
    case rest =>
      obtain ⟨B, rfl, rfl, rb, hbb, hB⟩ := hcut
      obtain ⟨wd, rfl⟩ : ∃ wd : World, wd = wc := ⟨_, rfl⟩
      have HBD4 := Lib.hid hbb
      have HRB := Lib.hid rb
      have r0 := HR0.out.below hbb HR0.out.lt
      have HR0D := Lib.hid r0
      have d0 := r0.cell (i := 0) rfl
      have d1 := r0.cell (i := 1) rfl
      have d2 := r0.cell (i := 2) rfl
      clear rb hbb r0
      go_wp2_with fail
      go_at_call 16
      refine (fine_any n z kI x y d _ _ _ (HI.out.below HBD4.out) HZ.out).mono ?_
      rintro e w5 ⟨rfl, hb5⟩
      rw [HF.out]
      have HB5 := Lib.hid (HBD4.out.trans (hb5.mono HBD4.out.size))
      have HRB5 := Lib.hid (HRB.out.below hb5 HRB.out.lt)
      have r0 := HR0D.out.below hb5 HR0D.out.lt
      have HR05 := Lib.hid r0
      clear d0 d1 d2
      have d0 := r0.cell (i := 0) rfl
      have d1 := r0.cell (i := 1) rfl
      have d2 := r0.cell (i := 2) rfl
      clear hb5 r0
      go_wp2_with fail
      go_at_call 18
      refine (MoveR_any (HG.out.below HB5.out) _ kI.toNat kI HKK.out hn8 HBD.out (x, y, d) HPL.out).mono ?_
      rintro e w6 ⟨hb6, -, hsm⟩
      obtain rfl := hsm q HMV.out
      have HRB6 := Lib.hid (HRB5.out.below hb6 HRB5.out.lt)
      have HR06 := Lib.hid (HR05.out.below hb6 HR05.out.lt)
      have HB6 := Lib.hid (HB5.out.trans (hb6.mono HB5.out.size))
      clear hb6
      obtain ⟨w7, hw7, R7, hb7, hsz7⟩ := new1 w6 32 [.int .i64 q.1, .int .i64 q.2.1]
      have HW7 := Lib.hid hw7
      have HR7 := Lib.hid R7
      have HRB7 := Lib.hid (HRB6.out.below hb7 HRB6.out.lt)
      have HR07 := Lib.hid (HR06.out.below hb7 HR06.out.lt)
      have HB7 := Lib.hid (HB6.out.trans (hb7.mono HB6.out.size))
      clear hb7
      clear hw7 R7 d0 d1 d2
      go_wp2_with fail
      rw [← HW7.out]
      clear HW7
      have B0 : Below w7.heap.size w7 w7.drew := (Below.refl _ _).drew
      have c0 := (HR07.out.drewN 1).cell (i := 0) rfl
      have c1 := (HR07.out.drewN 1).cell (i := 1) rfl
      have c2 := (HR07.out.drewN 1).cell (i := 2) rfl
      have b0 := (HRB7.out.drewN 1).cell (i := 0) rfl
      have b1 := (HRB7.out.drewN 1).cell (i := 1) rfl
      have m0 := (HR7.out.drewN 1).cell (i := 0) rfl
      have m1 := (HR7.out.drewN 1).cell (i := 1) rfl
      go_region_held3 (fun w' => Below w7.heap.size w7 w' ∧ w'.cell? ⟨w.heap.size, 0, none⟩ = some (.int .i64 x) ∧ w'.cell? ⟨w.heap.size, 1, none⟩ = some (.int .i64 y) ∧ w'.cell? ⟨w.heap.size, 2, none⟩ = some (.int .i64 d) ∧ w'.cell? ⟨B, 0, none⟩ = some (.int .i64 q.1) ∧ w'.cell? ⟨B, 1, none⟩ = some (.int .i64 q.2.1) ∧ w'.cell? ⟨w6.heap.size, 0, none⟩ = some (.int .i64 q.1) ∧ w'.cell? ⟨w6.heap.size, 1, none⟩ = some (.int .i64 q.2.1)) (refine ⟨?_, ?_, ?_, ?_, ?_, ?_, ?_, ?_⟩ <;> assumption)
        (first
          | (go_at_call 19; refine (RankR_any (GrAt.below HG.out (HB7.out.trans (Below.mono (And.left (by assumption)) HB7.out.size))) _ kI.toNat kI HKK.out hn8 HBD.out).mono ?_; rintro e w1 ⟨rb, T, rfl, hrk, hT, hb1⟩; have HT1 : Hid (T (rkIx (x, y, d)) = rankV (ranksF n (reachOf z) (chs n kI.toNat)) (x, y, d)) := Lib.hid (hT (x, y, d) HPT.out); have HRK := Lib.hid hrk; have hb2 := Below.trans (And.left (by assumption)) (hb1.mono (Below.size (And.left (by assumption)))); have r1 := HR07.out.below hb2 HR07.out.lt; have c0 := r1.cell (i := 0) rfl; have c1 := r1.cell (i := 1) rfl; have c2 := r1.cell (i := 2) rfl; have r2 := HRB7.out.below hb2 HRB7.out.lt; have b0 := r2.cell (i := 0) rfl; have b1 := r2.cell (i := 1) rfl; have r3 := HR7.out.below hb2 HR7.out.lt; have m0 := r3.cell (i := 0) rfl; have m1 := r3.cell (i := 1) rfl; clear r1 r2 r3; clear hrk hT hb1)
          | (go_at_call 20; refine (Of_any HRK.out x y d x8 y8 d8).mono ?_; rintro e w1 ⟨rfl, hb1⟩; rw [HT1.out]; have hb2 := Below.trans (And.left (by assumption)) (hb1.mono (Below.size (And.left (by assumption)))); have r1 := HR07.out.below hb2 HR07.out.lt; have c0 := r1.cell (i := 0) rfl; have c1 := r1.cell (i := 1) rfl; have c2 := r1.cell (i := 2) rfl; have r2 := HRB7.out.below hb2 HRB7.out.lt; have b0 := r2.cell (i := 0) rfl; have b1 := r2.cell (i := 1) rfl; have r3 := HR7.out.below hb2 HR7.out.lt; have m0 := r3.cell (i := 0) rfl; have m1 := r3.cell (i := 1) rfl; clear r1 r2 r3; clear hb1)
          | (go_at_call 17; refine (awake_any _).mono ?_; rintro e w1 ⟨rfl, hb1⟩; have hb2 := Below.trans (And.left (by assumption)) (hb1.mono (Below.size (And.left (by assumption)))); have r1 := HR07.out.below hb2 HR07.out.lt; have c0 := r1.cell (i := 0) rfl; have c1 := r1.cell (i := 1) rfl; have c2 := r1.cell (i := 2) rfl; have r2 := HRB7.out.below hb2 HRB7.out.lt; have b0 := r2.cell (i := 0) rfl; have b1 := r2.cell (i := 1) rfl; have r3 := HR7.out.below hb2 HR7.out.lt; have m0 := r3.cell (i := 0) rfl; have m1 := r3.cell (i := 1) rfl; clear r1 r2 r3; clear hb1))
      all_goals
        have hbz : Below w7.heap.size w7 w1 := by assumption
        go_wp2_with fail
        go_ret
        exact ⟨rfl, HB0.out.trans ((HB7.out.trans (hbz.mono HB7.out.size)).mono (Nat.le_of_lt hsz))⟩

end Go.Proofs.Ytmkcnpphdghbaaa
