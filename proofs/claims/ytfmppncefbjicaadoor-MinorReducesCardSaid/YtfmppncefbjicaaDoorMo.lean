/- Package minor: Delete and Contract; MinorLess. -/
import Derived.Test.YtfmppncefbjicaaDoorMn
namespace Go.Proofs.YtfmppncefbjicaaDoor
set_option linter.unusedSimpArgs false
set_option linter.unusedVariables false
open Go.RowKit Go.Maps
attribute [local go_sem] i64_bit toNat_eq_one toNat_ne_one toNat_eq_zero toNat_ne_zero i64_and i64_or i64_andNot i64_or_pow i64_andNot_pow

theorem WoOwn.ints' {w : World} {base g L c v : Nat} {z : Nat → Int} (h : WoOwn w base (.slice (some ⟨g, 0, none⟩) L c) z v L) (hn : L ≤ 1000) : IntsAt w (some ⟨g, 0, none⟩) L (woZ z v) :=
  ⟨by unfold maxLen; omega, fun h0 => ⟨g, 0, rfl, by
    rcases h.2 with ⟨h1, _⟩ | ⟨g', c', cur, hv, _, h3, _⟩
    · simp at h1
    · simp only [Value.slice.injEq, Option.some.injEq, Addr.mk.injEq] at hv
      rw [hv.1.1]; exact (Array.getElem?_eq_some_iff.1 h3).1, fun i hi => by
        rw [Nat.zero_add, World.ownsRow.cellAt h i (by omega)]
        exact map_range_get _ hi⟩⟩
/-- What Delete and Contract take. -/
def delOk (n : Nat) (z : Nat → Int) (v : Int) : Bool := graphB n 8 z && (decide (2 ≤ n) && inB v n)
def conOk (n : Nat) (z : Nat → Int) (a b : Int) : Bool := graphB n 8 z && (decide (a < b) && nbM n (natG z) a b)

set_option maxRecDepth 20000 in
set_option maxHeartbeats 1000000 in
theorem Delete_no {n : Nat} {z : Nat → Int} {a : Option Addr} (cap : Nat) {v : Int} {w : World} (hI : IntsAt w a n z) (hz : InI64 z) (hT : Tab w) (h : delOk n z v = false) :
    Calls Tryd.prog 47 #[.slice a n cap, .int .i64 v] w fun e w' => e = .returned (.tuple #[.slice none 0 0, .int .i64 2]) ∧ Below w.heap.size w w' := by
  have HI := Lib.hid hI
  have HZ := Lib.hid hz
  have HT := Lib.hid hT
  cases hg : graphB n 8 z
  · clear hI hz hT h
    go_enter Tryd.func47, Tryd.ntmps47
    go_wp2_with fail
    go_at_call 68
    refine (newTown_no _ HI.out HZ.out HT.out hg).mono ?_
    rintro e w1 ⟨rfl, hb1⟩
    go_wp2_with fail
    go_ret2
    exact ⟨rfl, hb1⟩
  · have hn1 := (graphB_le hg)
    have HG := Lib.hid hg
    have hn16 : n < 16 := by omega
    unfold delOk at h
    rw [hg, Bool.true_and] at h
    clear hI hz hT
    by_cases h2 : 2 ≤ n
    · rw [decide_eq_true h2, Bool.true_and] at h
      have H := Lib.hid h
      have d1 : decide ((n : Int) < 2) = false := by simp; omega
      have d2 : decide (n < 2) = false := by simp; omega
      clear h hg
      go_enter Tryd.func47, Tryd.ntmps47
      go_wp2_with fail
      go_at_call 68
      refine (newTown_yes _ HI.out HZ.out HT.out HG.out).mono ?_
      rintro e w1 ⟨rfl, hb1⟩
      have HB1 := Lib.hid hb1
      clear hb1
      go_wp2_with (go_at_call 78; refine (isNode_any _ _ _ _ _ hn16).mono ?_; rintro e w2 ⟨rfl, rfl⟩; rw [H.out])
      go_ret2
      exact ⟨rfl, HB1.out⟩
    · have d1 : decide ((n : Int) < 2) = true := by simp; omega
      have d2 : decide (n < 2) = true := by simp; omega
      clear h hg
      go_enter Tryd.func47, Tryd.ntmps47
      go_wp2_with fail
      go_at_call 68
      refine (newTown_yes _ HI.out HZ.out HT.out HG.out).mono ?_
      rintro e w1 ⟨rfl, hb1⟩
      have HB1 := Lib.hid hb1
      clear hb1
      go_wp2_with fail
      go_ret2
      exact ⟨rfl, HB1.out⟩

theorem graph_bd {n : Nat} {z : Nat → Int} (hg : graphB n 8 z = true) : ∀ i, i < n → 0 ≤ z i ∧ z i < 2 ^ n := (graphB_le hg).2.2

set_option maxRecDepth 20000 in
set_option maxHeartbeats 1000000 in
theorem Delete_yes {n v : Nat} {z : Nat → Int} {a : Option Addr} (cap : Nat) {w : World} (hI : IntsAt w a n z) (hz : InI64 z) (hT : Tab w) (hg : graphB n 8 z = true) (h2 : 2 ≤ n) (hv : v < n) :
    Calls Tryd.prog 47 #[.slice a n cap, .int .i64 v] w fun e w' => ∃ u, e = .returned (.tuple #[u, .int .i64 0]) ∧ WoOwn w' w.heap.size u z v (n - 1) ∧ Below w.heap.size w w' := by
  have HI := Lib.hid hI
  have HZ := Lib.hid hz
  have HT := Lib.hid hT
  have hn1 := (graphB_le hg)
  have HG := Lib.hid hg
  have hn16 : n < 16 := by omega
  have hn9 : n ≤ 9 := by omega
  have d1 : decide ((n : Int) < 2) = false := by simp; omega
  have d2 : decide (n < 2) = false := by simp; omega
  have H : Hid (inB (v : Int) n = true) := Lib.hid (by rw [inB_iff]; omega)
  clear hI hz hT hg
  go_enter Tryd.func47, Tryd.ntmps47
  go_wp2_with fail
  go_at_call 68
  refine (newTown_yes _ HI.out HZ.out HT.out HG.out).mono ?_
  rintro e w1 ⟨rfl, hb1⟩
  have HI1 := Lib.hid (HI.out.below hb1)
  have HB1 := Lib.hid hb1
  clear hb1
  go_wp2_with (first
    | (go_at_call 78; refine (isNode_any _ _ _ _ _ hn16).mono ?_; rintro e w2 ⟨rfl, rfl⟩; rw [H.out])
    | (go_at_call 79; refine (minorWithout_any HI1.out hv hn9 (graph_bd HG.out)).mono ?_; rintro e w3 ⟨⟨u, rfl, hu⟩, hb3⟩; have HU := Lib.hid hu; have HB3 := Lib.hid (HB1.out.trans (hb3.mono HB1.out.size)); clear hu hb3))
  go_ret2
  exact ⟨u, rfl, ownsRow_low HU.out HB1.out.size, HB3.out⟩

set_option maxRecDepth 20000 in
set_option maxHeartbeats 1000000 in
theorem Contract_no {n : Nat} {z : Nat → Int} {a : Option Addr} (cap : Nat) {x y : Int} {w : World} (hI : IntsAt w a n z) (hz : InI64 z) (hT : Tab w) (h : conOk n z x y = false) :
    Calls Tryd.prog 48 #[.slice a n cap, .int .i64 x, .int .i64 y] w fun e w' => e = .returned (.tuple #[.slice none 0 0, .int .i64 2]) ∧ Below w.heap.size w w' := by
  have HI := Lib.hid hI
  have HZ := Lib.hid hz
  have HT := Lib.hid hT
  cases hg : graphB n 8 z
  · clear hI hz hT h
    go_enter Tryd.func48, Tryd.ntmps48
    go_wp2_with fail
    go_at_call 68
    refine (newTown_no _ HI.out HZ.out HT.out hg).mono ?_
    rintro e w1 ⟨rfl, hb1⟩
    go_wp2_with fail
    go_ret2
    exact ⟨rfl, hb1⟩
  · have HG := Lib.hid hg
    unfold conOk at h
    rw [hg, Bool.true_and] at h
    clear hI hz hT
    by_cases h2 : x < y
    · rw [decide_eq_true h2, Bool.true_and] at h
      have H := Lib.hid h
      have d1 : decide (y ≤ x) = false := by simp; omega
      clear h hg
      go_enter Tryd.func48, Tryd.ntmps48
      go_wp2_with fail
      go_at_call 68
      refine (newTown_yes _ HI.out HZ.out HT.out HG.out).mono ?_
      rintro e w1 ⟨rfl, hb1⟩
      have HI1 := Lib.hid (HI.out.below hb1)
      have HB1 := Lib.hid hb1
      clear hb1
      go_wp2_with (go_at_call 80; refine (areNeighbours_any (Tn.of_graph HI1.out HG.out) _ _ _).mono ?_; rintro e w2 ⟨rfl, rfl⟩; rw [H.out])
      go_ret2
      exact ⟨rfl, HB1.out⟩
    · have d1 : decide (y ≤ x) = true := by simp; omega
      clear h hg
      go_enter Tryd.func48, Tryd.ntmps48
      go_wp2_with fail
      go_at_call 68
      refine (newTown_yes _ HI.out HZ.out HT.out HG.out).mono ?_
      rintro e w1 ⟨rfl, hb1⟩
      have HB1 := Lib.hid hb1
      clear hb1
      go_wp2_with fail
      go_ret2
      exact ⟨rfl, HB1.out⟩

set_option maxRecDepth 20000 in
set_option maxHeartbeats 1000000 in
theorem Contract_yes {n x y : Nat} {z : Nat → Int} {a : Option Addr} (cap : Nat) {w : World} (hI : IntsAt w a n z) (hz : InI64 z) (hT : Tab w) (hg : graphB n 8 z = true) (hxy : x < y) (hy : y < n) (hb : (natG z x).testBit y = true) :
    Calls Tryd.prog 48 #[.slice a n cap, .int .i64 x, .int .i64 y] w fun e w' => ∃ u, e = .returned (.tuple #[u, .int .i64 0]) ∧ WoOwn w' w.heap.size u (fun i => ((jnF (natG z) x (bitsOf (diff (natG z y) (2 ^ x))) i : Nat) : Int)) y (n - 1) ∧ Below w.heap.size w w' := by
  have HI := Lib.hid hI
  have HZ := Lib.hid hz
  have HT := Lib.hid hT
  have HG := Lib.hid hg
  have hx : x < n := by omega
  have d1 : decide ((y : Int) ≤ (x : Int)) = false := by simp; omega
  have d2 : decide (y ≤ x) = false := by simp; omega
  have H : Hid (nbM n (natG z) x y = true) := Lib.hid (by
    unfold nbM
    rw [Int.toNat_natCast, Int.toNat_natCast, hb, (inB_iff).2 (by omega), (inB_iff).2 (by omega)]; rfl)
  clear hI hz hT hg hb
  go_enter Tryd.func48, Tryd.ntmps48
  go_wp2_with fail
  go_at_call 68
  refine (newTown_yes _ HI.out HZ.out HT.out HG.out).mono ?_
  rintro e w1 ⟨rfl, hb1⟩
  have HI1 := Lib.hid (HI.out.below hb1)
  have HT1 := Lib.hid (HT.out.below hb1)
  have HB1 := Lib.hid hb1
  clear hb1
  go_wp2_with (first
    | (go_at_call 80; refine (areNeighbours_any (Tn.of_graph HI1.out HG.out) _ _ _).mono ?_; rintro e w2 ⟨rfl, rfl⟩; rw [H.out])
    | (go_at_call 81; refine (joined_any (Tn.of_graph HI1.out HG.out) _ hx hy HT1.out).mono ?_; rintro e w3 ⟨u, rfl, hu, hb3⟩; have HU := Lib.hid hu; have HB3 := Lib.hid (HB1.out.trans (hb3.mono HB1.out.size)); clear hu hb3))
  go_ret2
  exact ⟨u, rfl, ownsRow_low HU.out HB1.out.size, HB3.out⟩

end Go.Proofs.YtfmppncefbjicaaDoor
