/- The contracts of the reference's Reached, Valid, reach, covers and Corners. -/
import Derived.Test.YtbkbliieappkdaaDoorChC1l
namespace Go.Proofs.YtbkbliieappkdaaDoor.Ch
set_option linter.unusedSimpArgs false
set_option linter.unusedVariables false
open Go.RowKit Go.Maps
attribute [local go_sem] i64_bit toNat_eq_one toNat_ne_one toNat_eq_zero toNat_ne_zero i64_and i64_or i64_andNot i64_or_pow i64_andNot_pow

/-- A valid graph as the reference reads it. -/
structure GrAt (w : World) (a : Option Addr) (n : Nat) (g : Nat → Nat) : Prop where
  ints : IntsAt w a n (fun i => ((g i : Nat) : Int))
  pos : 0 < n
  small : n < 16
  bd : ∀ i, i < n → g i < 65536
theorem GrAt.below {w w' : World} {a : Option Addr} {n : Nat} {g : Nat → Nat} (h : GrAt w a n g) (hb : Below w.heap.size w w') : GrAt w' a n g :=
  ⟨h.ints.below hb, h.pos, h.small, h.bd⟩

set_option maxRecDepth 20000 in
set_option maxHeartbeats 2000000 in
theorem Reached_any {n : Nat} {g : Nat → Nat} {a : Option Addr} {w : World} (G : GrAt w a n g) (cap set node : Nat) (sI nI : Int) (hs : sI = set) (hn0 : nI = node) (hset : set < 65536) (hnode : node < n) :
    Calls Tryd.prog 31 #[.slice a n cap, .int .i64 sI, .int .i64 nI] w fun e w' => e = .returned (.int .i64 (metIn n g set (2 ^ node) n)) ∧ Below w.heap.size w w' := by
  obtain ⟨hml, hI⟩ := G.ints
  obtain ⟨b, off, rfl, hlt, hc⟩ := hI G.pos
  have hn := G.small
  have hbd := G.bd
  have hpw := pow_bd node (by omega)
  have HPC := Lib.hid (pow_cast node)
  have hpl := pow_lt16 (v := node) (by omega)
  have HS := Lib.hid hs
  have hs0 : 0 ≤ sI ∧ sI < 65536 := by omega
  have hn1 : 0 ≤ nI ∧ nI < n := by omega
  subst hn0
  clear hs hI
  unfold maxLen at hml
  go_enter Tryd.func31, Tryd.ntmps31
  go_wp2_with fail
  rw [HPC.out]
  go_loopw [7, 13] (fun f i wr => ∃ k : Nat, k ≤ n ∧ i = .int .i64 k ∧ f = .int .i64 (metIn n g set (2 ^ node) k) ∧ wr = w) (fun _ i _ => n - (intOf i).toNat)
  case atStart => exact ⟨0, Nat.zero_le _, rfl, rfl, rfl⟩
  case round =>
    obtain ⟨k, hk, rfl, rfl, rfl⟩ := hrel
    have hfk := metIn_lt (set := set) (n := n) hpl hbd k
    by_cases hlt2 : k < n
    · go_wp2_with fail
      go_loopw [7, 17] (fun f i wx => ∃ j : Nat, j ≤ n ∧ i = .int .i64 j ∧ f = .int .i64 (metTo g set (metIn n g set (2 ^ node) k) j) ∧ wx = wr) (fun _ i _ => n - (intOf i).toNat)
      case atStart => exact ⟨0, Nat.zero_le _, rfl, rfl, rfl⟩
      case round =>
        obtain ⟨j, hj, rfl, rfl, rfl⟩ := hrel
        have hsj := metTo_lt (set := set) hfk hbd j hj
        by_cases hlj : j < n
        · have hrj := hbd j hlj
          have HST : Hid (metTo g set (metIn n g set (2 ^ node) k) (j + 1) = if (metTo g set (metIn n g set (2 ^ node) k) j).testBit j then metTo g set (metIn n g set (2 ^ node) k) j ||| (g j &&& set) else metTo g set (metIn n g set (2 ^ node) k) j) := Lib.hid rfl
          have cj := hc j hlj
          generalize metTo g set (metIn n g set (2 ^ node) k) j = f at *
          have ha := and_lt (b := set) hrj
          have e1 := HS.out
          subst e1
          cases hq : f.testBit j
          all_goals
            go_wp2_with fail
            go_roundw
            case rel => exact ⟨j + 1, by omega, by go_num, by rw [HST.out, hq]; rfl, by trivial⟩
            case measure => simp [intOf]; omega
        · go_wp2_with fail
          go_roundw
          case rel =>
            have : j = n := by omega
            subst this
            exact ⟨k + 1, by omega, by go_num, by trivial, by trivial⟩
          case measure => simp [intOf]; omega
    · have : k = n := by omega
      subst this
      go_wp2_with fail
      go_ret
      exact ⟨rfl, Below.refl _ _⟩

/-- Whether a graph is valid, as the reference reckons it. -/
def validB (n : Nat) (z : Nat → Int) : Bool := graphB n 8 z && ((metIn n (fun i => (z i).toNat) (2 ^ n - 1) 1 n : Nat) : Int) == 2 ^ n - 1

theorem graphB_le {n most : Nat} {z : Nat → Int} (h : graphB n most z = true) : 1 ≤ n ∧ n ≤ most ∧ ∀ i, i < n → 0 ≤ z i ∧ z i < 2 ^ n := by
  unfold graphB at h
  simp only [Bool.and_eq_true, decide_eq_true_eq, List.all_eq_true, List.mem_range] at h
  refine ⟨h.1.1, h.1.2, fun i hi => ?_⟩
  have := (h.2 i hi).1
  unfold okCellZ at this
  simp only [Bool.and_eq_true] at this
  exact inB_iff.1 this.1

theorem GrAt.of_graph {w : World} {a : Option Addr} {n most : Nat} {z : Nat → Int} (h : IntsAt w a n z) (hg : graphB n most z = true) (hm : most < 16) : GrAt w a n (fun i => (z i).toNat) := by
  obtain ⟨h1, h2, h3⟩ := graphB_le hg
  refine ⟨⟨h.1, fun hn => ?_⟩, by omega, by omega, fun i hi => ?_⟩
  · obtain ⟨b, off, ha, hlt, hc⟩ := h.2 hn
    refine ⟨b, off, ha, hlt, fun i hi => ?_⟩
    rw [hc i hi]
    show some (Value.int .i64 (z i)) = some (.int .i64 (((z i).toNat : Nat) : Int))
    rw [Int.toNat_of_nonneg (h3 i hi).1]
  · have h4 := nat_pow_cast (h3 i hi).2 (h3 i hi).1
    exact Nat.lt_trans h4 (pow_lt16 (by omega))

theorem IsGraph_is {n most : Nat} {z : Nat → Int} {bb : Bool} (hb : graphB n most z = bb) (mI : Int) (hmI : mI = most) (a : Option Addr) (cap : Nat) (w : World) (hI : IntsAt w a n z) (hz : ∀ i, -9223372036854775808 ≤ z i ∧ z i ≤ 9223372036854775807) (hm : most < 16) :
    Calls Tryd.prog 41 #[.slice a n cap, .int .i64 mI] w fun e w' => e = .returned (.bool bb) ∧ Below w.heap.size w w' := by
  rw [← hb]; exact IsGraph_any n most mI hmI z a cap w hI hz hm

set_option maxRecDepth 20000 in
set_option maxHeartbeats 1000000 in
theorem Valid_any (n : Nat) (z : Nat → Int) (a : Option Addr) (cap : Nat) (w : World) (hI : IntsAt w a n z) (hz : ∀ i, -9223372036854775808 ≤ z i ∧ z i ≤ 9223372036854775807) :
    Calls Tryd.prog 32 #[.slice a n cap] w fun e w' => e = .returned (.bool (validB n z)) ∧ Below w.heap.size w w' := by
  have HI := Lib.hid hI
  have HZ := Lib.hid hz
  have hml := hI.1
  unfold maxLen at hml
  clear hI hz
  cases hg : graphB n 8 z
  · have HG := Lib.hid hg
    clear hg
    go_enter Tryd.func32, Tryd.ntmps32
    go_wp2_with fail
    refine wp_region_below w.heap.size w (Below.refl _ _) (by kernel_rfl) (by kernel_rfl) ?_
    repeat (go_big_quiet_step ((go_at_call 41; exact calls_below (Nat.le_refl _) (IsGraph_is HG.out 8 rfl a cap _ (HI.out.below (BelowW.h _)) HZ.out (by omega)))))
    refine wpQuiet_nil ?_
    rintro _ ⟨x, rfl⟩
    go_wp2_with fail
    go_ret
    exact ⟨by unfold validB; rw [HG.out]; rfl, x.h⟩
  · have HG := Lib.hid hg
    obtain ⟨h1, h8, _⟩ := graphB_le hg
    have HGR := Lib.hid (GrAt.of_graph HI.out hg (by omega))
    have hp := pow_bd n (by omega)
    have hp8 := pow_le16 h8
    have hsI : ((2 : Int) ^ n - 1) = ((2 ^ n - 1 : Nat) : Int) := by rw [pow_cast]; have := Nat.one_le_two_pow (n := n); omega
    have HSI := Lib.hid hsI
    clear hg hsI
    go_enter Tryd.func32, Tryd.ntmps32
    go_wp2_with fail
    refine wp_region_below w.heap.size w (Below.refl _ _) (by kernel_rfl) (by kernel_rfl) ?_
    have w1 : IntKind.i64.wrap ((2 : Int) ^ n) = 2 ^ n := IntWalk.i64_in _ (by omega)
    have w2 : IntKind.i64.wrap ((2 : Int) ^ n - 1) = 2 ^ n - 1 := IntWalk.i64_in _ (by omega)
    repeat (go_big_quiet_step (first | (go_at_call 41; exact calls_below (Nat.le_refl _) (IsGraph_is HG.out 8 rfl a cap _ (HI.out.below (BelowW.h _)) HZ.out (by omega))) | (go_at_call 31; exact calls_below (Nat.le_refl _) (Reached_any (HGR.out.below (BelowW.h _)) cap (2 ^ n - 1) 0 (2 ^ n - 1) 0 HSI.out rfl (by omega) (by omega)))))
    refine wpQuiet_nil ?_
    rintro _ ⟨x, rfl⟩
    go_wp2_with fail
    go_ret
    exact ⟨by unfold validB; rw [HG.out]; rfl, x.h⟩

end Go.Proofs.YtbkbliieappkdaaDoor.Ch
