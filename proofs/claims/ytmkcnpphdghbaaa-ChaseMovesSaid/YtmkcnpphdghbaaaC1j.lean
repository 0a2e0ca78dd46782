/- The contracts of package chase's rankedGame, Rounds, Start. -/
import Derived.Test.YtmkcnpphdghbaaaC1i
namespace Go.Proofs.Ytmkcnpphdghbaaa
set_option linter.unusedSimpArgs false
set_option linter.unusedVariables false
open Go.RowKit Go.Maps
attribute [local go_sem] i64_bit toNat_eq_one toNat_ne_one toNat_eq_zero toNat_ne_zero i64_and i64_or i64_andNot i64_or_pow i64_andNot_pow

/-- A valid graph and number of sweeps. -/
def okGame (n : Nat) (z : Nat → Int) (kI : Int) : Prop := townB n z = true ∧ (kI = 1 ∨ kI = 2)

set_option maxRecDepth 20000 in
set_option maxHeartbeats 1000000 in
theorem rankedGame_any (n : Nat) (z : Nat → Int) (kI : Int) (a : Option Addr) (cap : Nat) (w : World) (hT : IntsAt w a n z) :
    Calls Try.prog 37 #[.slice a n cap, .int .i64 kI] w (GamePost n z kI (fun k => ranksF n (reachOf z) (chs n k)) w) := by
  have HT := Lib.hid hT
  clear hT
  by_cases h : townB n z = true ∧ (kI = 1 ∨ kI = 2)
  · have H := Lib.hid h
    clear h
    go_enter Try.func37, Try.ntmps37
    go_wp2_with (first | (go_at_call 52; refine (newGame_yes n z kI a cap _ HT.out H.out.1 H.out.2).mono ?_; rintro e w1 ⟨hb1, hyes, _⟩; obtain ⟨gp, b, cb, cc, mb, hmb, rfl, m1, m2, m3, G⟩ := hyes H.out; have HB1 := Lib.hid hb1; have HG := Lib.hid G; clear hb1 hyes G) | (go_at_call 59; refine (rankAll_any HG.out (chs_le _ _ (by have := townB_le H.out.1; omega)) m1 m2 m3).mono ?_; rintro e w2 ⟨rfl, hg2, hgr2⟩; have HG2 := Lib.hid hg2; have HGR2 := Lib.hid hgr2; clear hg2 hgr2))
    go_ret2
    refine ⟨?_, fun _ => ⟨gp, b, cb, cc, mb, hmb, rfl, m1, m2, m3, HG2.out⟩, fun h => absurd H.out h⟩
    exact HB1.out.grown HGR2.out HB1.out.size (fun k hk => by cases hk; exact hmb)
  · have H := Lib.hid h
    clear h
    go_enter Try.func37, Try.ntmps37
    go_wp2_with (go_at_call 52; refine (newGame_no n z kI a cap _ HT.out H.out (fun k => ranksF n (reachOf z) (chs n k))).mono ?_; rintro e w1 ⟨hb1, _, hno⟩; obtain rfl := hno H.out; have HB1 := Lib.hid hb1; clear hb1 hno)
    go_ret2
    exact GamePost.no HB1.out H.out

/-- The best choice of the sweeps and its rank, -1 if the cat escapes. -/
def bestG (n : Nat) (z : Nat → Int) (k : Nat) : (Nat × Nat) × Int := bestOf n (ranksF n (reachOf z) (chs n k)) (chs n k)

/-- What Rounds returns: a number and an error. -/
def RoundsPost (n : Nat) (z : Nat → Int) (kI : Int) (w : World) (e : Ending) (w' : World) : Prop :=
  Below w.heap.size w w' ∧ (okGame n z kI → (bestG n z kI.toNat).2 = -1 → e = .returned (.tuple #[.int .i64 0, .int .i64 4])) ∧
    (okGame n z kI → (bestG n z kI.toNat).2 ≠ -1 → e = .returned (.tuple #[.int .i64 (bestG n z kI.toNat).2, .int .i64 0])) ∧ (¬ okGame n z kI → e = .returned (.tuple #[.int .i64 0, .int .i64 2]))

set_option maxRecDepth 20000 in
set_option maxHeartbeats 1000000 in
theorem Rounds_any (n : Nat) (z : Nat → Int) (kI : Int) (a : Option Addr) (cap : Nat) (w : World) (hT : IntsAt w a n z) :
    Calls Try.prog 21 #[.slice a n cap, .int .i64 kI] w (RoundsPost n z kI w) := by
  have HT := Lib.hid hT
  clear hT
  by_cases h : okGame n z kI
  · by_cases hb : (bestG n z kI.toNat).2 = -1
    · have p1 : ((bestOf n (ranksF n (reachOf z) (chs n kI.toNat)) (chs n kI.toNat)).2 == -1) = true := by unfold bestG at hb; simp [hb]
      have H := Lib.hid h
      have HBB := Lib.hid hb
      clear h hb
      go_enter Try.func21, Try.ntmps21
      go_wp2_with (first | (go_at_call 37; refine (rankedGame_any n z kI a cap _ HT.out).mono ?_; rintro e w1 ⟨hb1, hyes, _⟩; obtain ⟨gp, b, cb, cc, mb, hmb, rfl, m1, m2, m3, G⟩ := hyes H.out; have HB1 := Lib.hid hb1; have HG := Lib.hid G; clear hb1 hyes G) | (go_at_call 48; refine (best_any HG.out).mono ?_; rintro e w2 ⟨rfl, hb2⟩; have HB2 := Lib.hid hb2; clear hb2))
      go_ret2
      exact ⟨(HB1.out.trans (HB2.out.mono HB1.out.size)).alloc (Nat.le_trans HB1.out.size HB2.out.size) _, fun _ _ => rfl, fun _ h => absurd HBB.out h, fun h => absurd H.out h⟩
    · have p1 : ((bestOf n (ranksF n (reachOf z) (chs n kI.toNat)) (chs n kI.toNat)).2 == -1) = false := by unfold bestG at hb; simp [hb]
      have H := Lib.hid h
      have HBB := Lib.hid hb
      clear h hb
      go_enter Try.func21, Try.ntmps21
      go_wp2_with (first | (go_at_call 37; refine (rankedGame_any n z kI a cap _ HT.out).mono ?_; rintro e w1 ⟨hb1, hyes, _⟩; obtain ⟨gp, b, cb, cc, mb, hmb, rfl, m1, m2, m3, G⟩ := hyes H.out; have HB1 := Lib.hid hb1; have HG := Lib.hid G; clear hb1 hyes G) | (go_at_call 48; refine (best_any HG.out).mono ?_; rintro e w2 ⟨rfl, hb2⟩; have HB2 := Lib.hid hb2; clear hb2))
      go_ret2
      exact ⟨(HB1.out.trans (HB2.out.mono HB1.out.size)).alloc (Nat.le_trans HB1.out.size HB2.out.size) _, fun _ h => absurd h HBB.out, fun _ _ => rfl, fun h => absurd H.out h⟩
  · have H := Lib.hid h
    clear h
    go_enter Try.func21, Try.ntmps21
    go_wp2_with (go_at_call 37; refine (rankedGame_any n z kI a cap _ HT.out).mono ?_; rintro e w1 ⟨hb1, _, hno⟩; obtain rfl := hno H.out; have HB1 := Lib.hid hb1; clear hb1 hno)
    go_ret2
    exact ⟨HB1.out, fun h => absurd h H.out, fun h => absurd h H.out, fun _ => rfl⟩

/-- What Start returns: a pair of nodes and an error. -/
def StartPost (n : Nat) (z : Nat → Int) (kI : Int) (w : World) (e : Ending) (w' : World) : Prop :=
  Below w.heap.size w w' ∧ (okGame n z kI → (bestG n z kI.toNat).2 = -1 → e = .returned (.tuple #[.agg #[.int .i64 0, .int .i64 0], .int .i64 4])) ∧
    (okGame n z kI → (bestG n z kI.toNat).2 ≠ -1 → e = .returned (.tuple #[pairV (bestG n z kI.toNat).1, .int .i64 0])) ∧ (¬ okGame n z kI → e = .returned (.tuple #[.agg #[.int .i64 0, .int .i64 0], .int .i64 2]))

set_option maxRecDepth 20000 in
set_option maxHeartbeats 1000000 in
theorem Start_any (n : Nat) (z : Nat → Int) (kI : Int) (a : Option Addr) (cap : Nat) (w : World) (hT : IntsAt w a n z) :
    Calls Try.prog 22 #[.slice a n cap, .int .i64 kI] w (StartPost n z kI w) := by
  have HT := Lib.hid hT
  clear hT
  by_cases h : okGame n z kI
  · by_cases hb : (bestG n z kI.toNat).2 = -1
    · have p1 : ((bestOf n (ranksF n (reachOf z) (chs n kI.toNat)) (chs n kI.toNat)).2 == -1) = true := by unfold bestG at hb; simp [hb]
      have H := Lib.hid h
      have HBB := Lib.hid hb
      clear h hb
      go_enter Try.func22, Try.ntmps22
      go_wp2_with (first | (go_at_call 37; refine (rankedGame_any n z kI a cap _ (HT.out.alloc _)).mono ?_; rintro e w1 ⟨hb1, hyes, _⟩; obtain ⟨gp, b, cb, cc, mb, hmb, rfl, m1, m2, m3, G⟩ := hyes H.out; have HB1 := Lib.hid hb1; have HG := Lib.hid G; clear hb1 hyes G) | (go_at_call 48; refine (best_any HG.out).mono ?_; rintro e w2 ⟨rfl, hb2⟩; have HB2 := Lib.hid hb2; have r1 := (Row.new w 32 [.int .i64 0, .int .i64 0]).below HB1.out (by simp); have r2 := r1.below hb2 r1.lt; have q0 := r2.cell (i := 0) rfl; have q1 := r2.cell (i := 1) rfl; have f0 := r2.free 0; have f1 := r2.free 1; have l2 := r2.lt; clear hb2 r1 r2))
      refine bodyPost_ret (v := .tuple #[.agg #[.int .i64 0, .int .i64 0], .int .i64 4]) (by simp [results, Try.results22, go_sem, q0, q1, l2]) rfl ?_
      exact ⟨(((((((Below.refl w.heap.size w).alloc (Nat.le_refl _) _).trans (HB1.out.mono (by simp))).trans (HB2.out.mono (by have := HB1.out.size; simp at this; omega))).setCell (by simp) _).setCell (by simp) _).alloc (by simp [World.setCell]; omega) _), fun _ _ => rfl, fun _ h => absurd HBB.out h, fun h => absurd H.out h⟩
    · have p1 : ((bestOf n (ranksF n (reachOf z) (chs n kI.toNat)) (chs n kI.toNat)).2 == -1) = false := by unfold bestG at hb; simp [hb]
      have H := Lib.hid h
      have HBB := Lib.hid hb
      clear h hb
      go_enter Try.func22, Try.ntmps22
      go_wp2_with (first | (go_at_call 37; refine (rankedGame_any n z kI a cap _ (HT.out.alloc _)).mono ?_; rintro e w1 ⟨hb1, hyes, _⟩; obtain ⟨gp, b, cb, cc, mb, hmb, rfl, m1, m2, m3, G⟩ := hyes H.out; have HB1 := Lib.hid hb1; have HG := Lib.hid G; clear hb1 hyes G) | (go_at_call 48; refine (best_any HG.out).mono ?_; rintro e w2 ⟨rfl, hb2⟩; have HB2 := Lib.hid hb2; have r1 := (Row.new w 32 [.int .i64 0, .int .i64 0]).below HB1.out (by simp); have r2 := r1.below hb2 r1.lt; have q0 := r2.cell (i := 0) rfl; have q1 := r2.cell (i := 1) rfl; have f0 := r2.free 0; have f1 := r2.free 1; have l2 := r2.lt; clear hb2 r1 r2))
      refine bodyPost_ret (v := .tuple #[pairV (bestOf n (ranksF n (reachOf z) (chs n kI.toNat)) (chs n kI.toNat)).1, .int .i64 0]) (by simp [results, Try.results22, go_sem, q0, q1, l2]) rfl ?_
      exact ⟨(((((((Below.refl w.heap.size w).alloc (Nat.le_refl _) _).trans (HB1.out.mono (by simp))).trans (HB2.out.mono (by have := HB1.out.size; simp at this; omega))).setCell (by simp) _).setCell (by simp) _).alloc (by simp [World.setCell]; omega) _), fun _ h => absurd h HBB.out, fun _ _ => rfl, fun h => absurd H.out h⟩
  · have H := Lib.hid h
    clear h
    go_enter Try.func22, Try.ntmps22
    go_wp2_with (go_at_call 37; refine (rankedGame_any n z kI a cap _ (HT.out.alloc _)).mono ?_; rintro e w1 ⟨hb1, _, hno⟩; obtain rfl := hno H.out; have HB1 := Lib.hid hb1; have r1 := (Row.new w 32 [.int .i64 0, .int .i64 0]).below hb1 (by simp); have q0 := r1.cell (i := 0) rfl; have q1 := r1.cell (i := 1) rfl; have f0 := r1.free 0; have f1 := r1.free 1; clear hb1 hno r1)
    refine bodyPost_ret (v := .tuple #[.agg #[.int .i64 0, .int .i64 0], .int .i64 2]) (by simp [results, Try.results22, go_sem, q0, q1]) rfl ?_
    exact ⟨((((Below.refl w.heap.size w).alloc (Nat.le_refl _) _).trans (HB1.out.mono (by simp))).setCell (by simp) _).setCell (by simp) _, fun h => absurd h H.out, fun h => absurd h H.out, fun _ => rfl⟩

end Go.Proofs.Ytmkcnpphdghbaaa
