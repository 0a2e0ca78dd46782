/- The contracts of package chase's towns: has, all, isSet, isNode, mutual, connected, covers. -/
import Derived.Test.YtbkbliieappkdaaDoorRows
import Derived.Test.YtbkbliieappkdaaDoorLib
namespace Go.Proofs.YtbkbliieappkdaaDoor.Ch
set_option linter.unusedSimpArgs false
set_option linter.unusedVariables false
open Go.RowKit
attribute [local go_sem] i64_bit toNat_eq_one toNat_ne_one toNat_eq_zero toNat_ne_zero i64_and i64_or i64_andNot i64_or_pow i64_andNot_pow

set_option maxHeartbeats 400000 in
theorem has_any (s v : Nat) (w : World) (hs : s < 65536) (hv : v < 64) :
    Calls Tryd.prog 90 #[.int .i64 s, .int .i64 v] w fun e w' => e = .returned (.bool (s.testBit v)) ∧ w = w' := by
  go_enter Tryd.func90, Tryd.ntmps90
  go_wp2
  go_ret
  exact ⟨rfl, rfl⟩

theorem has_quiet (s v : Nat) (w : World) (hs : s < 65536) (hv : v < 64) :
    Calls Tryd.prog 90 #[.int .i64 s, .int .i64 v] w fun e w' => e = .returned (.bool (s.testBit v)) ∧ w' = w :=
  (has_any s v w hs hv).mono fun _ _ ⟨a, b⟩ => ⟨a, b.symm⟩

/-- The value of a town. -/
abbrev townV (n b cap : Nat) : Value := .agg #[.int .i64 n, .slice (some ⟨b, 0, none⟩) n cap]

set_option maxHeartbeats 400000 in
theorem all_any (n b cap : Nat) (w : World) (hn : n < 16) :
    Calls Tryd.prog 111 #[townV n b cap] w fun e w' => e = .returned (.int .i64 (2^n - 1)) ∧ Below w.heap.size w w' := by
  obtain ⟨h1, h2⟩ := pow_bd n hn
  go_enter Tryd.func111, Tryd.ntmps111
  go_wp2
  go_ret
  exact ⟨rfl, (Below.refl _ _).alloc (Nat.le_refl _) _⟩

set_option maxHeartbeats 400000 in
theorem isSet_any (n b cap : Nat) (v : Int) (w : World) (hn : n < 16) :
    Calls Tryd.prog 89 #[townV n b cap, .int .i64 v] w fun e w' => e = .returned (.bool (inB v (2^n))) ∧ Below w.heap.size w w' := by
  obtain ⟨h1, h2⟩ := pow_bd n hn
  by_cases h0 : 0 ≤ v
  · go_enter Tryd.func89, Tryd.ntmps89
    go_wp2_with (go_at_call 111; refine (all_any _ _ _ _ hn).mono ?_; rintro e w' ⟨rfl, hb⟩)
    go_ret
    refine ⟨?_, ((Below.refl _ _).alloc (Nat.le_refl _) _).trans (hb.mono (by simp))⟩
    show Ending.returned (Value.bool (decide (v ≤ 2 ^ n - 1))) = _
    unfold inB; congr 2; apply decide_eq_decide.2; omega
  · go_enter Tryd.func89, Tryd.ntmps89
    go_wp2
    go_ret
    refine ⟨?_, (Below.refl _ _).alloc (Nat.le_refl _) _⟩
    show Ending.returned (Value.bool false) = _
    rw [inB_false (by omega)]

/-- Whether neighbours are so both ways. -/
def mutB (n : Nat) (r : Nat → Nat) : Bool := (List.range n).all fun v => (List.range n).all fun u => (r v).testBit u == (r u).testBit v

theorem mutB_true {n : Nat} {r : Nat → Nat} (h : ∀ v, v < n → ∀ u, u < n → (r v).testBit u = (r u).testBit v) : mutB n r = true := by
  unfold mutB; simp only [List.all_eq_true, List.mem_range, beq_iff_eq]; exact h
theorem mutB_false {n : Nat} {r : Nat → Nat} {v u : Nat} (hv : v < n) (hu : u < n) (h : ¬ (r v).testBit u = (r u).testBit v) : mutB n r = false := by
  rw [Bool.eq_false_iff]
  intro hm; unfold mutB at hm; simp only [List.all_eq_true, List.mem_range, beq_iff_eq] at hm
  exact h (hm v hv u hu)

/-- A town in memory: the reach of each node lies in a block. -/
structure TownAt (w : World) (n b : Nat) (r : Nat → Nat) : Prop where
  lt : b < w.heap.size
  small : n < 16
  cell : ∀ i, i < n → w.cell? ⟨b, i, none⟩ = some (.int .i64 (r i))
  bd : ∀ i, i < n → r i < 65536

theorem TownAt.below {w w' : World} {n b : Nat} {r : Nat → Nat} (h : TownAt w n b r) {B : Nat} (hb : Below B w w') (hB : b < B) : TownAt w' n b r :=
  ⟨Nat.lt_of_lt_of_le h.lt hb.size, h.small, fun i hi => by rw [hb.cell (p := ⟨b, i, none⟩) hB]; exact h.cell i hi, h.bd⟩

/-- A town and the box in which a method holds its receiver. -/
structure TownBox (w : World) (B n b cap : Nat) (r : Nat → Nat) : Prop where
  at_ : TownAt w n b r
  lt : B < w.heap.size
  c0 : w.cell? ⟨B, 0, none⟩ = some (.int .i64 n)
  c1 : w.cell? ⟨B, 1, none⟩ = some (.slice (some ⟨b, 0, none⟩) n cap)

theorem TownBox.below {w w' : World} {B n b cap : Nat} {r : Nat → Nat} (h : TownBox w B n b cap r) (hb : Below w.heap.size w w') : TownBox w' B n b cap r :=
  ⟨h.at_.below hb h.at_.lt, Nat.lt_of_lt_of_le h.lt hb.size, by rw [hb.cell (p := ⟨B, 0, none⟩) h.lt]; exact h.c0, by rw [hb.cell (p := ⟨B, 1, none⟩) h.lt]; exact h.c1⟩

theorem TownBox.grown {w w' : World} {B n b cap : Nat} {r : Nat → Nat} {row : Option Nat} (h : TownBox w B n b cap r) (hg : w.grownBy w' row) (h1 : some b ≠ row) (h2 : some B ≠ row) : TownBox w' B n b cap r :=
  ⟨⟨Nat.lt_of_lt_of_le h.at_.lt hg.size, h.at_.small, fun i hi => by rw [World.cell?_of_block (a := ⟨b, i, none⟩) (hg.block b h.at_.lt h1)]; exact h.at_.cell i hi, h.at_.bd⟩, Nat.lt_of_lt_of_le h.lt hg.size,
    by rw [World.cell?_of_block (a := ⟨B, 0, none⟩) (hg.block B h.lt h2)]; exact h.c0, by rw [World.cell?_of_block (a := ⟨B, 1, none⟩) (hg.block B h.lt h2)]; exact h.c1⟩
theorem TownBox.facts {w : World} {B n b cap : Nat} {r : Nat → Nat} (h : TownBox w B n b cap r) : w.cell? ⟨B, 0, none⟩ = some (.int .i64 n) ∧
    w.cell? ⟨B, 1, none⟩ = some (.slice (some ⟨b, 0, none⟩) n cap) ∧ (∀ i, i < n → w.cell? ⟨b, i, none⟩ = some (.int .i64 (r i))) ∧ B < w.heap.size ∧ b < w.heap.size :=
  ⟨h.c0, h.c1, h.at_.cell, h.lt, h.at_.lt⟩

/-- What holds behind the prologue of a method of a town. -/
theorem town_box {w : World} {n b : Nat} {r : Nat → Nat} (h : TownAt w n b r) (cap : Nat) : ∃ w0, w0 = w.alloc (.cells #[.int .i64 n, .slice (some ⟨b, 0, none⟩) n cap] 78) ∧ Below w.heap.size w w0 ∧ TownBox w0 w.heap.size n b cap r ∧ w.heap.size < w0.heap.size :=
  ⟨_, rfl, (Below.refl _ _).alloc (Nat.le_refl _) _, ⟨h.below ((Below.refl _ _).alloc (Nat.le_refl _) _) h.lt, by simp, by go_simp, by go_simp⟩, by simp⟩

set_option maxHeartbeats 1000000 in
theorem mutual_any {n b : Nat} {r : Nat → Nat} {w : World} (T : TownAt w n b r) (cap : Nat) :
    Calls Tryd.prog 91 #[townV n b cap] w fun e w' => e = .returned (.bool (mutB n r)) ∧ Below w.heap.size w w' := by
  obtain ⟨w0, hw0, HB, TB, hs⟩ := town_box T cap
  have hr := T.bd
  have hn := T.small
  obtain ⟨c0, c1, cr, hB0, hb0⟩ := TB.facts
  have HW := Lib.hid hw0
  clear hw0
  go_enter Tryd.func91, Tryd.ntmps91
  go_wp2_with fail
  rw [← HW.out]
  clear HW
  go_loopw [7] (fun i wr => ∃ k : Nat, k ≤ n ∧ i = .int .i64 k ∧ (∀ v, v < k → ∀ u, u < n → (r v).testBit u = (r u).testBit v) ∧ Below w0.heap.size w0 wr) (fun i _ => n - (intOf i).toNat)
  case atStart => exact ⟨0, Nat.zero_le _, rfl, by omega, Below.refl _ _⟩
  case round =>
    obtain ⟨k, hk, rfl, hdone, hbel⟩ := hrel
    obtain ⟨d0, d1, dr, dB0, db0⟩ := (TB.below hbel).facts
    have HD := Lib.hid hdone; clear hdone
    have HBE := Lib.hid hbel; clear hbel
    by_cases hlt : k < n
    · go_wp2_with fail
      go_loopw [12] (fun i wr => ∃ j : Nat, j ≤ n ∧ i = .int .i64 j ∧ (∀ u, u < j → (r k).testBit u = (r u).testBit k) ∧ Below w0.heap.size w0 wr) (fun i _ => n - (intOf i).toNat)
      case atStart => exact ⟨0, Nat.zero_le _, rfl, by omega, HBE.out⟩
      case round =>
        clear d0 d1 dr dB0 db0 HBE
        obtain ⟨j, hj, rfl, hdone, hbel⟩ := hrel
        obtain ⟨d0, d1, dr, dB0, db0⟩ := (TB.below hbel).facts
        have HDJ := Lib.hid hdone; clear hdone
        have HBJ := Lib.hid hbel; clear hbel
        by_cases hlj : j < n
        · have hrk := hr k hlt
          have hrj := hr j hlj
          by_cases hq : (r k).testBit j = (r j).testBit k
          · have hqb : (!((r k).testBit j == (r j).testBit k)) = false := by simp [hq]
            have HQ := Lib.hid hq; clear hq
            go_wp2_with fail
            go_quiet ((go_at_call 90; exact Calls.quiet_of_same (has_quiet _ _ _ (by omega) (by omega))))
            go_wp2_with fail
            go_roundw
            case rel => exact ⟨j + 1, by omega, by go_num, fun u hu => by rcases Nat.lt_succ_iff_lt_or_eq.1 hu with h | h; exact HDJ.out u h; rw [h]; exact HQ.out, below_drewN HBJ.out _⟩
            case measure => simp [intOf]; omega
          · have hqb : (!((r k).testBit j == (r j).testBit k)) = true := by simp [hq]
            have HQ := Lib.hid hq; clear hq
            go_wp2_with fail
            go_quiet ((go_at_call 90; exact Calls.quiet_of_same (has_quiet _ _ _ (by omega) (by omega))))
            go_wp2_with fail
            go_ret
            exact ⟨by rw [mutB_false hlt hlj HQ.out]; rfl, HB.trans (below_drewN (HBJ.out.mono (by omega)) _)⟩
        · go_wp2_with fail
          go_roundw
          case rel =>
            have : j = n := by omega
            subst this
            exact ⟨k + 1, by omega, by go_num, fun v hv => by rcases Nat.lt_succ_iff_lt_or_eq.1 hv with h | h; exact HD.out v h; rw [h]; exact HDJ.out, HBJ.out⟩
          case measure => simp [intOf]; omega
    · go_wp2_with fail
      have : k = n := by omega
      subst this
      go_ret
      exact ⟨by rw [mutB_true HD.out]; rfl, HB.trans (HBE.out.mono (by omega))⟩

/-- The set that is found from a set along the first nodes. -/
def sweepTo (r : Nat → Nat) (f : Nat) : Nat → Nat
  | 0 => f
  | j + 1 => if (sweepTo r f j).testBit j then sweepTo r f j ||| r j else sweepTo r f j
def foundIn (n : Nat) (r : Nat → Nat) : Nat → Nat
  | 0 => 1
  | k + 1 => sweepTo r (foundIn n r k) n
def connB (n : Nat) (r : Nat → Nat) : Bool := ((foundIn n r n : Nat) : Int) == 2 ^ n - 1

theorem sweepTo_lt {r : Nat → Nat} {f n : Nat} (hf : f < 65536) (hr : ∀ i, i < n → r i < 65536) : ∀ j, j ≤ n → sweepTo r f j < 65536 := by
  intro j
  induction j with
  | zero => intro _; exact hf
  | succ j ih =>
    intro hj
    have h1 := ih (by omega)
    unfold sweepTo
    split
    · exact or_lt h1 (hr j (by omega))
    · exact h1
theorem foundIn_lt {r : Nat → Nat} {n : Nat} (hr : ∀ i, i < n → r i < 65536) : ∀ k, foundIn n r k < 65536 := by
  intro k
  induction k with
  | zero => show 1 < 65536; decide
  | succ k ih => exact sweepTo_lt ih hr n (Nat.le_refl _)

set_option maxHeartbeats 1000000 in
theorem connected_any {n b : Nat} {r : Nat → Nat} {w : World} (T : TownAt w n b r) (cap : Nat) :
    Calls Tryd.prog 92 #[townV n b cap] w fun e w' => e = .returned (.bool (connB n r)) ∧ Below w.heap.size w w' := by
  obtain ⟨w0, hw0, HB, TB, hs⟩ := town_box T cap
  have hr := T.bd
  have hn := T.small
  obtain ⟨c0, c1, cr, hB0, hb0⟩ := TB.facts
  have HW := Lib.hid hw0
  clear hw0
  go_enter Tryd.func92, Tryd.ntmps92
  go_wp2_with fail
  rw [← HW.out]
  clear HW
  go_loopw [3, 7] (fun f i wr => ∃ k : Nat, k ≤ n ∧ i = .int .i64 k ∧ f = .int .i64 (foundIn n r k) ∧ wr = w0) (fun _ i _ => n - (intOf i).toNat)
  case atStart => exact ⟨0, Nat.zero_le _, rfl, rfl, rfl⟩
  case round =>
    obtain ⟨k, hk, rfl, rfl, rfl⟩ := hrel
    have hfk := foundIn_lt hr k
    by_cases hlt : k < n
    · go_wp2_with fail
      go_loopw [3, 11] (fun f i wx => ∃ j : Nat, j ≤ n ∧ i = .int .i64 j ∧ f = .int .i64 (sweepTo r (foundIn n r k) j) ∧ wx = wr) (fun _ i _ => n - (intOf i).toNat)
      case atStart => exact ⟨0, Nat.zero_le _, rfl, rfl, rfl⟩
      case round =>
        obtain ⟨j, hj, rfl, rfl, rfl⟩ := hrel
        have hsj := sweepTo_lt hfk hr j hj
        by_cases hlj : j < n
        · have hrj := hr j hlj
          have hstep : sweepTo r (foundIn n r k) (j + 1) = if (sweepTo r (foundIn n r k) j).testBit j then sweepTo r (foundIn n r k) j ||| r j else sweepTo r (foundIn n r k) j := rfl
          have HST := Lib.hid hstep; clear hstep
          generalize sweepTo r (foundIn n r k) j = g at *
          cases hq : g.testBit j
          all_goals
            go_wp2_with (go_at_call 90; refine (has_any _ _ _ hsj (by omega)).mono ?_; rintro e w' ⟨rfl, rfl⟩)
            go_roundw
            case rel => exact ⟨j + 1, by omega, by go_num, by rw [HST.out, hq]; rfl, by trivial⟩
            case measure => simp [intOf]; omega
        · go_wp2_with fail
          go_roundw
          case rel =>
            have : j = n := by omega
            subst this
            exact ⟨k + 1, by omega, by go_num, by trivial, by trivial⟩
          case measure => simp [intOf]; omega
    · have : k = n := by omega
      subst this
      go_wp2_with (go_at_call 111; refine (all_any _ _ _ _ hn).mono ?_; rintro e w' ⟨rfl, hb⟩)
      go_ret
      exact ⟨rfl, HB.trans (hb.mono (by omega))⟩

/-- u covers v in a set. -/
def covB (r : Nat → Nat) (u v set : Nat) : Bool := u != v && diff (r v &&& set) (r u) == 0

set_option maxHeartbeats 1000000 in
theorem covers_any {n b : Nat} {r : Nat → Nat} {w : World} (T : TownAt w n b r) (cap u v set : Nat) (hu : u < n) (hv : v < n) (hset : set < 65536) :
    Calls Tryd.prog 120 #[townV n b cap, .int .i64 u, .int .i64 v, .int .i64 set] w fun e w' => e = .returned (.bool (covB r u v set)) ∧ Below w.heap.size w w' := by
  obtain ⟨w0, hw0, HB, TB, hs⟩ := town_box T cap
  have hru := T.bd u hu
  have hrv := T.bd v hv
  have hn := T.small
  obtain ⟨c0, c1, cr, hB0, hb0⟩ := TB.facts
  have HW := Lib.hid hw0
  clear hw0
  have hd := and_lt (b := set) hrv
  by_cases huv : u = v
  · have h1 : ((u : Int) == (v : Int)) = true := by simp [huv]
    have h2 : ((u : Int) != (v : Int)) = false := by simp [huv]
    have HUV := Lib.hid huv; clear huv
    go_enter Tryd.func120, Tryd.ntmps120
    go_wp2_with fail
    rw [← HW.out]
    clear HW
    go_quiet (fail)
    go_wp2_with fail
    go_ret
    exact ⟨by simp [covB, HUV.out], below_drewN HB _⟩
  · have h1 : ((u : Int) == (v : Int)) = false := by simp; omega
    have h2 : ((u : Int) != (v : Int)) = true := by simp; omega
    have HUV := Lib.hid huv; clear huv
    go_enter Tryd.func120, Tryd.ntmps120
    go_wp2_with fail
    rw [← HW.out]
    clear HW
    go_quiet (fail)
    go_wp2_with fail
    go_ret
    exact ⟨by simp [covB, HUV.out, cast_beq0, bne], below_drewN HB _⟩

end Go.Proofs.YtbkbliieappkdaaDoor.Ch
