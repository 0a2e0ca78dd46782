/- The contracts of the program's Rank and Move. -/
import Derived.Test.YtmkcnpphdghbaaaC2i
namespace Go.Proofs.Ytmkcnpphdghbaaa
set_option linter.unusedSimpArgs false
set_option linter.unusedVariables false
open Go.RowKit Go.Maps
attribute [local go_sem] i64_bit toNat_eq_one toNat_ne_one toNat_eq_zero toNat_ne_zero i64_and i64_or i64_andNot i64_or_pow i64_andNot_pow

theorem isPlB_nat {n : Nat} {C : List (Nat × Nat)} {a b c : Int} (h : isPlB n C a b c = true) : ∃ x y d : Nat, a = x ∧ b = y ∧ c = d ∧ (x, y) ∈ C ∧ d < n := by
  unfold isPlB at h
  rw [Bool.and_eq_true] at h
  obtain ⟨h1, h2⟩ := h
  have h3 := inB_iff.1 h1
  unfold hasP at h2
  obtain ⟨⟨x, y⟩, hx, hq⟩ := List.any_eq_true.1 h2
  rw [Bool.and_eq_true, beq_iff_eq, beq_iff_eq] at hq
  exact ⟨x, y, c.toNat, hq.1, hq.2, by omega, hx, by omega⟩

/-- Valid arguments of Rank and Move. -/
def okPl (n : Nat) (z : Nat → Int) (kI a b c : Int) : Prop := okGame n z kI ∧ isPlB n (chs n kI.toNat) a b c = true
def RankPPost (n : Nat) (z : Nat → Int) (kI a b c : Int) (w : World) (e : Ending) (w' : World) : Prop :=
  Below w.heap.size w w' ∧ (okPl n z kI a b c → e = .returned (.tuple #[.int .i64 (rankV (ranksF n (reachOf z) (chs n kI.toNat)) (a.toNat, b.toNat, c.toNat)), .int .i64 0])) ∧
    (¬ okPl n z kI a b c → e = .returned (.tuple #[.int .i64 0, .int .i64 2]))

set_option maxRecDepth 20000 in
set_option maxHeartbeats 1000000 in
theorem RankP_any (n : Nat) (z : Nat → Int) (kI x y d : Int) (a : Option Addr) (cap : Nat) (w : World) (hT : IntsAt w a n z) :
    Calls Try.prog 12 #[.slice a n cap, .int .i64 kI, .agg #[.int .i64 x, .int .i64 y, .int .i64 d]] w (RankPPost n z kI x y d w) := by
  obtain ⟨w0, hw0, R0, HB, hsz⟩ := new1 w 30 [.int .i64 x, .int .i64 y, .int .i64 d]
  have HT := Lib.hid (IntsAt.below hT HB)
  have HW := Lib.hid hw0
  have HR0 := Lib.hid R0
  have HBW := Lib.hid HB
  have HS : w.heap.size ≤ w0.heap.size := by omega
  clear hw0 R0 HB hT
  by_cases h : okGame n z kI
  · have H := Lib.hid h
    have hn : 1 ≤ n ∧ n ≤ 8 := townB_le h.1
    clear h
    cases hp : isPlB n (chs n kI.toNat) x y d
    · have HP := Lib.hid hp
      clear hp
      go_enter Try.func12, Try.ntmps12
      go_wp2_with fail
      rw [← HW.out]
      clear HW
      go_wp2_with fail
      go_at_call 37
      refine (rankedGame_any n z kI a cap _ HT.out).mono ?_
      rintro e w1 ⟨hb1, hyes, _⟩
      obtain ⟨gp, b, cb, cc, mb, hmb, rfl, m1, m2, m3, G⟩ := hyes H.out
      have HB1 := Lib.hid hb1
      have HG := Lib.hid G
      have r1 := HR0.out.below hb1 HR0.out.lt
      have d0 := r1.cell (i := 0) rfl
      have d1 := r1.cell (i := 1) rfl
      have d2 := r1.cell (i := 2) rfl
      clear hb1 hyes G r1
      go_wp2_with fail
      go_at_call 38
      refine (isPlace_any HG.out x y d).mono ?_
      rintro e w2 ⟨rfl, hb2⟩
      rw [HP.out]
      have HB2 := Lib.hid (HB1.out.trans (hb2.mono HB1.out.size))
      clear hb2
      go_wp2_with fail
      go_ret2
      exact ⟨HBW.out.trans (HB2.out.mono HS), fun h => by (have := h.2; rw [HP.out] at this; cases this), fun _ => rfl⟩
    · have HP := Lib.hid hp
      obtain ⟨x, y, d, rfl, rfl, rfl, hxy, hd⟩ := isPlB_nat hp
      obtain ⟨hx, hy, -⟩ := chs_lt n _ _ hxy
      dsimp only at hx hy
      clear hp hxy
      go_enter Try.func12, Try.ntmps12
      go_wp2_with fail
      rw [← HW.out]
      clear HW
      go_wp2_with fail
      go_at_call 37
      refine (rankedGame_any n z kI a cap _ HT.out).mono ?_
      rintro e w1 ⟨hb1, hyes, _⟩
      obtain ⟨gp, b, cb, cc, mb, hmb, rfl, m1, m2, m3, G⟩ := hyes H.out
      have HB1 := Lib.hid hb1
      have HG := Lib.hid G
      have r1 := HR0.out.below hb1 HR0.out.lt
      have HR1 := Lib.hid r1
      have d0 := r1.cell (i := 0) rfl
      have d1 := r1.cell (i := 1) rfl
      have d2 := r1.cell (i := 2) rfl
      clear hb1 hyes G r1
      go_wp2_with fail
      go_at_call 38
      refine (isPlace_any HG.out x y d).mono ?_
      rintro e w2 ⟨rfl, hb2⟩
      rw [HP.out]
      have r1 := HR1.out.below hb2 HR1.out.lt
      have HG2 := Lib.hid (HG.out.below hb2)
      have HB2 := Lib.hid (HB1.out.trans (hb2.mono HB1.out.size))
      clear hb2
      clear d0 d1 d2
      have d0 := r1.cell (i := 0) rfl
      have d1 := r1.cell (i := 1) rfl
      have d2 := r1.cell (i := 2) rfl
      clear r1
      go_wp2_with fail
      go_at_call 39
      refine (rank_any HG2.out (x, y, d) (by dsimp only; omega)).mono ?_
      rintro e w3 ⟨rfl, hb3⟩
      have HB3 := Lib.hid (HB2.out.trans (hb3.mono HB2.out.size))
      clear hb3
      go_wp2_with fail
      go_ret2
      exact ⟨HBW.out.trans (HB3.out.mono HS), fun _ => rfl, fun h => absurd ⟨H.out, HP.out⟩ h⟩
  · have H := Lib.hid h
    clear h
    go_enter Try.func12, Try.ntmps12
    go_wp2_with fail
    rw [← HW.out]
    clear HW
    go_wp2_with fail
    go_at_call 37
    refine (rankedGame_any n z kI a cap _ HT.out).mono ?_
    rintro e w1 ⟨hb1, _, hno⟩
    obtain rfl := hno H.out
    have HB1 := Lib.hid hb1
    clear hb1 hno
    go_wp2_with fail
    go_ret2
    exact ⟨HBW.out.trans (HB1.out.mono HS), fun h => absurd h.1 H.out, fun _ => rfl⟩

/-- What Move returns. -/
def MovePPost (n : Nat) (z : Nat → Int) (kI a b c : Int) (w : World) (e : Ending) (w' : World) : Prop :=
  Below w.heap.size w w' ∧ (okPl n z kI a b c → bestMv n (reachOf z) (ranksF n (reachOf z) (chs n kI.toNat)) (chs n kI.toNat) (a.toNat, b.toNat, c.toNat) = none → e = .returned (.tuple #[.agg #[.int .i64 0, .int .i64 0], .int .i64 4])) ∧
    (∀ t, okPl n z kI a b c → bestMv n (reachOf z) (ranksF n (reachOf z) (chs n kI.toNat)) (chs n kI.toNat) (a.toNat, b.toNat, c.toNat) = some t → e = .returned (.tuple #[pairV t, .int .i64 0])) ∧
    (¬ okPl n z kI a b c → e = .returned (.tuple #[.agg #[.int .i64 0, .int .i64 0], .int .i64 2]))

set_option maxRecDepth 20000 in
set_option maxHeartbeats 1000000 in
theorem MoveP_any (n : Nat) (z : Nat → Int) (kI x y d : Int) (a : Option Addr) (cap : Nat) (w : World) (hT : IntsAt w a n z) :
    Calls Try.prog 15 #[.slice a n cap, .int .i64 kI, .agg #[.int .i64 x, .int .i64 y, .int .i64 d]] w (MovePPost n z kI x y d w) := by
  obtain ⟨w0, hw0, R0, RZ, HB, hsz⟩ := new2 w 30 32 [.int .i64 x, .int .i64 y, .int .i64 d] [.int .i64 0, .int .i64 0]
  have HT := Lib.hid (IntsAt.below hT HB)
  have HW := Lib.hid hw0
  have HR0 := Lib.hid R0
  have HRZ := Lib.hid RZ
  have HBW := Lib.hid HB
  have HS : w.heap.size ≤ w0.heap.size := by omega
  clear hw0 R0 RZ HB hT
  by_cases h : okGame n z kI
  · have H := Lib.hid h
    have hn : 1 ≤ n ∧ n ≤ 8 := townB_le h.1
    clear h
    cases hp : isPlB n (chs n kI.toNat) x y d
    · have HP := Lib.hid hp
      clear hp
      go_enter Try.func15, Try.ntmps15
      go_wp2_with fail
      rw [← HW.out]
      clear HW
      go_wp2_with fail
      go_at_call 37
      refine (rankedGame_any n z kI a cap _ HT.out).mono ?_
      rintro e w1 ⟨hb1, hyes, _⟩
      obtain ⟨gp, b, cb, cc, mb, hmb, rfl, m1, m2, m3, G⟩ := hyes H.out
      have HB1 := Lib.hid hb1
      have HG := Lib.hid G
      have r1 := HR0.out.below hb1 HR0.out.lt
      have d0 := r1.cell (i := 0) rfl
      have d1 := r1.cell (i := 1) rfl
      have d2 := r1.cell (i := 2) rfl
      clear hb1 hyes G r1
      go_wp2_with fail
      go_at_call 38
      refine (isPlace_any HG.out x y d).mono ?_
      rintro e w2 ⟨rfl, hb2⟩
      rw [HP.out]
      have HB2 := Lib.hid (HB1.out.trans (hb2.mono HB1.out.size))
      clear hb2
      have rz := HRZ.out.below HB2.out HRZ.out.lt
      have q0 := rz.cell (i := 0) rfl
      have q1 := rz.cell (i := 1) rfl
      have f0 := rz.free 0
      have f1 := rz.free 1
      have l2 := rz.lt
      clear rz d0 d1 d2
      go_wp2_with fail
      refine bodyPost_ret (v := .tuple #[.agg #[.int .i64 0, .int .i64 0], .int .i64 2]) (by simp [results, Try.results15, go_sem, q0, q1, l2]) rfl ?_
      exact ⟨((HBW.out.trans (HB2.out.mono HS)).setCell (by simp) _).setCell (by simp) _, fun h => by (have := h.2; rw [HP.out] at this; cases this), fun t h => by (have := h.2; rw [HP.out] at this; cases this), fun _ => rfl⟩
    · have HP := Lib.hid hp
      obtain ⟨x, y, d, rfl, rfl, rfl, hxy, hd⟩ := isPlB_nat hp
      obtain ⟨hx, hy, -⟩ := chs_lt n _ _ hxy
      dsimp only at hx hy
      clear hp hxy
      cases hbm : bestMv n (reachOf z) (ranksF n (reachOf z) (chs n kI.toNat)) (chs n kI.toNat) (x, y, d) with
      | none =>
        have HBM := Lib.hid hbm
        clear hbm
        go_enter Try.func15, Try.ntmps15
        go_wp2_with fail
        rw [← HW.out]
        clear HW
        go_wp2_with fail
        go_at_call 37
        refine (rankedGame_any n z kI a cap _ HT.out).mono ?_
        rintro e w1 ⟨hb1, hyes, _⟩
        obtain ⟨gp, b, cb, cc, mb, hmb, rfl, m1, m2, m3, G⟩ := hyes H.out
        have HB1 := Lib.hid hb1
        have HG := Lib.hid G
        have r1 := HR0.out.below hb1 HR0.out.lt
        have HR1 := Lib.hid r1
        have d0 := r1.cell (i := 0) rfl
        have d1 := r1.cell (i := 1) rfl
        have d2 := r1.cell (i := 2) rfl
        clear hb1 hyes G r1
        go_wp2_with fail
        go_at_call 38
        refine (isPlace_any HG.out x y d).mono ?_
        rintro e w2 ⟨rfl, hb2⟩
        rw [HP.out]
        have r1 := HR1.out.below hb2 HR1.out.lt
        have HG2 := Lib.hid (HG.out.below hb2)
        have HB2 := Lib.hid (HB1.out.trans (hb2.mono HB1.out.size))
        clear hb2
        clear d0 d1 d2
        have d0 := r1.cell (i := 0) rfl
        have d1 := r1.cell (i := 1) rfl
        have d2 := r1.cell (i := 2) rfl
        clear r1
        go_wp2_with fail
        go_at_call 40
        refine (bestMove_any HG2.out (x, y, d) hx hy hd).mono ?_
        rintro e w3 ⟨hb3, hno, hyes⟩
        obtain rfl := hno HBM.out
        have HB3 := Lib.hid (HB2.out.trans (hb3.mono HB2.out.size))
        clear hb3
        have rz := HRZ.out.below HB3.out HRZ.out.lt
        have q0 := rz.cell (i := 0) rfl
        have q1 := rz.cell (i := 1) rfl
        have f0 := rz.free 0
        have f1 := rz.free 1
        have l2 := rz.lt
        have l3 : w.heap.size + 1 ≠ w3.heap.size := by omega
        clear rz d0 d1 d2 hno hyes
        go_wp2_with fail
        refine bodyPost_ret (v := .tuple #[.agg #[.int .i64 0, .int .i64 0], .int .i64 4]) (by simp [results, Try.results15, go_sem, q0, q1, l2]) rfl ?_
        exact ⟨(((HBW.out.trans (HB3.out.mono HS)).setCell (by simp) _).setCell (by simp) _).alloc (by simp [World.setCell]; omega) _, fun _ _ => rfl, fun t _ h => by (have h2 := HBM.out; simp only [Int.toNat_natCast] at h; rw [h2] at h; cases h), fun h => absurd ⟨H.out, HP.out⟩ h⟩
      | some t =>
        have HBM := Lib.hid hbm
        clear hbm
        go_enter Try.func15, Try.ntmps15
        go_wp2_with fail
        rw [← HW.out]
        clear HW
        go_wp2_with fail
        go_at_call 37
        refine (rankedGame_any n z kI a cap _ HT.out).mono ?_
        rintro e w1 ⟨hb1, hyes, _⟩
        obtain ⟨gp, b, cb, cc, mb, hmb, rfl, m1, m2, m3, G⟩ := hyes H.out
        have HB1 := Lib.hid hb1
        have HG := Lib.hid G
        have r1 := HR0.out.below hb1 HR0.out.lt
        have HR1 := Lib.hid r1
        have d0 := r1.cell (i := 0) rfl
        have d1 := r1.cell (i := 1) rfl
        have d2 := r1.cell (i := 2) rfl
        clear hb1 hyes G r1
        go_wp2_with fail
        go_at_call 38
        refine (isPlace_any HG.out x y d).mono ?_
        rintro e w2 ⟨rfl, hb2⟩
        rw [HP.out]
        have r1 := HR1.out.below hb2 HR1.out.lt
        have HG2 := Lib.hid (HG.out.below hb2)
        have HB2 := Lib.hid (HB1.out.trans (hb2.mono HB1.out.size))
        clear hb2
        clear d0 d1 d2
        have d0 := r1.cell (i := 0) rfl
        have d1 := r1.cell (i := 1) rfl
        have d2 := r1.cell (i := 2) rfl
        clear r1
        go_wp2_with fail
        go_at_call 40
        refine (bestMove_any HG2.out (x, y, d) hx hy hd).mono ?_
        rintro e w3 ⟨hb3, hno, hyes⟩
        obtain rfl := hyes _ HBM.out
        have HB3 := Lib.hid (HB2.out.trans (hb3.mono HB2.out.size))
        clear hb3
        have rz := HRZ.out.below HB3.out HRZ.out.lt
        have q0 := rz.cell (i := 0) rfl
        have q1 := rz.cell (i := 1) rfl
        have f0 := rz.free 0
        have f1 := rz.free 1
        have l2 := rz.lt
        have l3 : w.heap.size + 1 ≠ w3.heap.size := by omega
        clear rz d0 d1 d2 hno hyes
        go_wp2_with fail
        refine bodyPost_ret (v := .tuple #[pairV t, .int .i64 0]) (by simp [results, Try.results15, go_sem, q0, q1, l2]) rfl ?_
        exact ⟨(((HBW.out.trans (HB3.out.mono HS)).setCell (by simp) _).setCell (by simp) _).alloc (by simp [World.setCell]; omega) _, fun _ h => by (have h2 := HBM.out; simp only [Int.toNat_natCast] at h; rw [h2] at h; cases h), fun t _ h => by (have h2 := HBM.out; simp only [Int.toNat_natCast] at h; rw [h2] at h; cases h; rfl), fun h => absurd ⟨H.out, HP.out⟩ h⟩
  · have H := Lib.hid h
    clear h
    go_enter Try.func15, Try.ntmps15
    go_wp2_with fail
    rw [← HW.out]
    clear HW
    go_wp2_with fail
    go_at_call 37
    refine (rankedGame_any n z kI a cap _ HT.out).mono ?_
    rintro e w1 ⟨hb1, _, hno⟩
    obtain rfl := hno H.out
    have HB1 := Lib.hid hb1
    have rz := HRZ.out.below hb1 HRZ.out.lt
    have q0 := rz.cell (i := 0) rfl
    have q1 := rz.cell (i := 1) rfl
    have f0 := rz.free 0
    have f1 := rz.free 1
    have l2 := rz.lt
    clear hb1 hno rz
    go_wp2_with fail
    refine bodyPost_ret (v := .tuple #[.agg #[.int .i64 0, .int .i64 0], .int .i64 2]) (by simp [results, Try.results15, go_sem, q0, q1, l2]) rfl ?_
    exact ⟨((HBW.out.trans (HB1.out.mono HS)).setCell (by simp) _).setCell (by simp) _, fun h => absurd h.1 H.out, fun t h => absurd h.1 H.out, fun _ => rfl⟩

end Go.Proofs.Ytmkcnpphdghbaaa
