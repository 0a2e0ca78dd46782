/- The contracts of package chase's rankedGame, Rounds, Start. -/
import Derived.Test.YtbkbliieappkdaaDoorChC1i
namespace Go.Proofs.YtbkbliieappkdaaDoor.Ch
set_option linter.unusedSimpArgs false
set_option linter.unusedVariables false
open Go.RowKit Go.Maps
attribute [local go_sem] i64_bit toNat_eq_one toNat_ne_one toNat_eq_zero toNat_ne_zero i64_and i64_or i64_andNot i64_or_pow i64_andNot_pow

/-- A valid graph and number of sweeps. -/
def okGame (n : Nat) (z : Nat → Int) (kI : Int) : Prop := townB n z = true ∧ (kI = 1 ∨ kI = 2)

set_option maxRecDepth 20000 in
set_option maxHeartbeats 1000000 in
theorem rankedGame_any (n : Nat) (z : Nat → Int) (kI : Int) (a : Option Addr) (cap : Nat) (w : World) (hT : IntsAt w a n z) :
    Calls Tryd.prog 57 #[.slice a n cap, .int .i64 kI] w (GamePost n z kI (fun k => ranksF n (reachOf z) (chs n k)) w) := by
  have HT := Lib.hid hT
  clear hT
  by_cases h : townB n z = true ∧ (kI = 1 ∨ kI = 2)
  · have H := Lib.hid h
    clear h
    go_enter Tryd.func57, Tryd.ntmps57
    go_wp2_with (first | (go_at_call 86; refine (newGame_yes n z kI a cap _ HT.out H.out.1 H.out.2).mono ?_; rintro e w1 ⟨hb1, hyes, _⟩; obtain ⟨gp, b, cb, cc, mb, hmb, rfl, m1, m2, m3, G⟩ := hyes H.out; have HB1 := Lib.hid hb1; have HG := Lib.hid G; clear hb1 hyes G) | (go_at_call 87; refine (rankAll_any HG.out (chs_le _ _ (by have := townB_le H.out.1; omega)) m1 m2 m3).mono ?_; rintro e w2 ⟨rfl, hg2, hgr2⟩; have HG2 := Lib.hid hg2; have HGR2 := Lib.hid hgr2; clear hg2 hgr2))
    go_ret2
    refine ⟨?_, fun _ => ⟨gp, b, cb, cc, mb, hmb, rfl, m1, m2, m3, HG2.out⟩, fun h => absurd H.out h⟩
    exact HB1.out.grown HGR2.out HB1.out.size (fun k hk => by cases hk; exact hmb)
  · have H := Lib.hid h
    clear h
    go_enter Tryd.func57, Tryd.ntmps57
    go_wp2_with (go_at_call 86; refine (newGame_no n z kI a cap _ HT.out H.out (fun k => ranksF n (reachOf z) (chs n k))).mono ?_; rintro e w1 ⟨hb1, _, hno⟩; obtain rfl := hno H.out; have HB1 := Lib.hid hb1; clear hb1 hno)
    go_ret2
    exact GamePost.no HB1.out H.out

/-- The best choice of the sweeps and its rank, -1 if the cat escapes. -/
def bestG (n : Nat) (z : Nat → Int) (k : Nat) : (Nat × Nat) × Int := bestOf n (ranksF n (reachOf z) (chs n k)) (chs n k)

/-- What Rounds returns: a number and an error. -/
def RoundsPost (n : Nat) (z : Nat → Int) (kI : Int) (w : World) (e : Ending) (w' : World) : Prop :=
  Below w.heap.size w w' ∧ (okGame n z kI → (bestG n z kI.toNat).2 = -1 → e = .returned (.tuple #[.int .i64 0, .int .i64 4])) ∧
    (okGame n z kI → (bestG n z kI.toNat).2 ≠ -1 → e = .returned (.tuple #[.int .i64 (bestG n z kI.toNat).2, .int .i64 0])) ∧ (¬ okGame n z kI → e = .returned (.tuple #[.int .i64 0, .int .i64 2]))

set_option maxRecDepth 20000 in
set_option maxHeartbeats 1000000 in
theorem Rounds_any (n : Nat) (z : Nat → Int) (kI : Int) (a : Option Addr) (cap : Nat) (w : World) (hT : IntsAt w a n z) :
    Calls Tryd.prog 35 #[.slice a n cap, .int .i64 kI] w (RoundsPost n z kI w) := by
  have HT := Lib.hid hT
  clear hT
  by_cases h : okGame n z kI
  · by_cases hb : (bestG n z kI.toNat).2 = -1
    · have p1 : ((bestOf n (ranksF n (reachOf z) (chs n kI.toNat)) (chs n kI.toNat)).2 == -1) = true := by unfold bestG at hb; simp [hb]
      have H := Lib.hid h
      have HBB := Lib.hid hb
      clear h hb
      go_enter Tryd.func35, Tryd.ntmps35
      go_wp2_with (first | (go_at_call 57; refine (rankedGame_any n z kI a cap _ HT.out).mono ?_; rintro e w1 ⟨hb1, hyes, _⟩; obtain ⟨gp, b, cb, cc, mb, hmb, rfl, m1, m2, m3, G⟩ := hyes H.out; have HB1 := Lib.hid hb1; have HG := Lib.hid G; clear hb1 hyes G) | (go_at_call 58; refine (best_any HG.out).mono ?_; rintro e w2 ⟨rfl, hb2⟩; have HB2 := Lib.hid hb2; clear hb2))
      go_ret2
      exact ⟨(HB1.out.trans (HB2.out.mono HB1.out.size)).alloc (Nat.le_trans HB1.out.size HB2.out.size) _, fun _ _ => rfl, fun _ h => absurd HBB.out h, fun h => absurd H.out h⟩
    · have p1 : ((bestOf n (ranksF n (reachOf z) (chs n kI.toNat)) (chs n kI.toNat)).2 == -1) = false := by unfold bestG at hb; simp [hb]
      have H := Lib.hid h
      have HBB := Lib.hid hb
      clear h hb
      go_enter Tryd.func35, Tryd.ntmps35
      go_wp2_with (first | (go_at_call 57; refine (rankedGame_any n z kI a cap _ HT.out).mono ?_; rintro e w1 ⟨hb1, hyes, _⟩; obtain ⟨gp, b, cb, cc, mb, hmb, rfl, m1, m2, m3, G⟩ := hyes H.out; have HB1 := Lib.hid hb1; have HG := Lib.hid G; clear hb1 hyes G) | (go_at_call 58; refine (best_any HG.out).mono ?_; rintro e w2 ⟨rfl, hb2⟩; have HB2 := Lib.hid hb2; clear hb2))
      go_ret2
      exact ⟨(HB1.out.trans (HB2.out.mono HB1.out.size)).alloc (Nat.le_trans HB1.out.size HB2.out.size) _, fun _ h => absurd h HBB.out, fun _ _ => rfl, fun h => absurd H.out h⟩
  · have H := Lib.hid h
    clear h
    go_enter Tryd.func35, Tryd.ntmps35
    go_wp2_with (go_at_call 57; refine (rankedGame_any n z kI a cap _ HT.out).mono ?_; rintro e w1 ⟨hb1, _, hno⟩; obtain rfl := hno H.out; have HB1 := Lib.hid hb1; clear hb1 hno)
    go_ret2
    exact ⟨HB1.out, fun h => absurd h H.out, fun h => absurd h H.out, fun _ => rfl⟩

end Go.Proofs.YtbkbliieappkdaaDoor.Ch
