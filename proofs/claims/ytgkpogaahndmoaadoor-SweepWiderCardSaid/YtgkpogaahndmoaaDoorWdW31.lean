/- The contracts of package width's widthOf, tops, together, isDecomposition and Check. -/
import Derived.Test.YtgkpogaahndmoaaDoorWdW30
namespace Go.Proofs.YtgkpogaahndmoaaDoor.Wd
set_option linter.unusedSimpArgs false
set_option linter.unusedVariables false
open Go.RowKit Go.Maps
attribute [local go_sem] i64_bit toNat_eq_one toNat_ne_one toNat_eq_zero toNat_ne_zero i64_and i64_or i64_andNot i64_or_pow i64_andNot_pow

/-- The bags are sets of nodes. -/
def BagsOK (n m : Nat) (z : Nat → Int) : Prop := ∀ i, i < m → 0 ≤ z i ∧ (z i).toNat < 2 ^ n
theorem BagsOK.nat {n m : Nat} {z : Nat → Int} (h : BagsOK n m z) {i : Nat} (hi : i < m) : ∃ s : Nat, z i = s ∧ s < 2 ^ n := by
  obtain ⟨h0, h1⟩ := h i hi
  exact ⟨(z i).toNat, by omega, h1⟩

/-- The greatest number of nodes of the first bags. -/
def mxTo (n : Nat) (z : Nat → Int) : Nat → Nat
  | 0 => 0
  | k + 1 => max (mxTo n z k) (szS n (z k).toNat)
theorem mxTo_le (n : Nat) (z : Nat → Int) : ∀ k, mxTo n z k ≤ n := by
  intro k
  induction k with
  | zero => exact Nat.zero_le _
  | succ k ih => show max _ _ ≤ n; have := szS_le n (z k).toNat; omega

set_option maxRecDepth 20000 in
set_option maxHeartbeats 2000000 in
theorem widthOf_any {n m q : Nat} (hn : n ≤ 9) {z p : Nat → Int} {ba pa : Option Addr} (ca cb : Nat) {w : World} (T : TreeAt w ba pa m q z p) (hz : BagsOK n m z) :
    Calls Tryd.prog 71 #[treeV ba m ca pa q cb] w fun e w' => e = .returned (.int .i64 ((mxTo n z m : Nat) - 1)) ∧ Below w.heap.size w w' := by
  have hmb := T.bags.1
  unfold maxLen at hmb
  obtain ⟨w0, hw0, R0, HB0, hs0⟩ := new1 w 71 [.slice ba m ca, .slice pa q cb]
  have HT := Lib.hid (T.below HB0)
  have HW0 := Lib.hid hw0
  have HB := Lib.hid HB0
  have HZ := Lib.hid hz
  have c0 := R0.cell (i := 0) rfl
  have c1 := R0.cell (i := 1) rfl
  have hl := R0.lt
  clear T hw0 R0 HB0 hz
  go_enter Tryd.func71, Tryd.ntmps71
  go_wp2_with fail
  rw [← HW0.out]
  go_wp2_with fail
  go_loopw [3, 9] (fun c i wr => ∃ k : Nat, k ≤ m ∧ i = .int .i64 k ∧ c = .int .i64 (mxTo n z k : Nat) ∧ w0 = wr) (fun _ i _ => m - (intOf i).toNat)
  case atStart => exact ⟨0, Nat.zero_le _, rfl, rfl, rfl⟩
  case round =>
    obtain ⟨k, hk, rfl, rfl, rfl⟩ := hrel
    have hmx := mxTo_le n z k
    by_cases hlt : k < m
    · obtain ⟨b, off, rfl, hb, hc⟩ := HT.out.bags.2 (by omega)
      have ck := hc k hlt
      obtain ⟨s, hs, hs2⟩ := HZ.out.nat hlt
      have HST : Hid (mxTo n z (k + 1) = max (mxTo n z k) (szS n s)) := Lib.hid (by show max _ (szS n (z k).toNat) = _; rw [hs, Int.toNat_natCast])
      rw [hs] at ck
      have HS2 := Lib.hid hs2
      have hsz := szS_le n s
      clear hc hs hs2
      generalize mxTo n z k = A at *
      go_wp2_with (go_at_call 95; refine (count_any hn s HS2.out _).mono ?_; rintro e w4 ⟨rfl, rfl⟩)
      go_roundw
      case rel => exact ⟨k + 1, by omega, by go_num, by rw [HST.out]; first | rfl | (congr 1; omega), by trivial⟩
      case measure => simp [intOf]; omega
    · have hke : k = m := by omega
      subst hke
      go_wp2_with fail
      go_ret
      exact ⟨rfl, HB.out⟩

/-- Whether a bag with node v is the top one of its piece. -/
def topB (z p : Nat → Int) (v i : Nat) : Bool := (z i).toNat.testBit v && (decide (p i = -1) || !(z (p i).toNat).toNat.testBit v)
def topsTo (z p : Nat → Int) (v : Nat) : Nat → Nat
  | 0 => 0
  | k + 1 => if topB z p v k then topsTo z p v k + 1 else topsTo z p v k
theorem topsTo_le (z p : Nat → Int) (v : Nat) : ∀ k, topsTo z p v k ≤ k := by
  intro k
  induction k with
  | zero => exact Nat.le_refl _
  | succ k ih => unfold topsTo; split <;> omega
/-- The nodes that are in some bag with node v. -/
def togTo (z : Nat → Int) (v : Nat) : Nat → Nat
  | 0 => 0
  | k + 1 => if (z k).toNat.testBit v then togTo z v k ||| (z k).toNat else togTo z v k
theorem togTo_lt {n m : Nat} {z : Nat → Int} (hz : BagsOK n m z) (v : Nat) : ∀ k, k ≤ m → togTo z v k < 2 ^ n := by
  intro k
  induction k with
  | zero => intro _; exact Nat.two_pow_pos n
  | succ k ih =>
    intro hk
    unfold togTo
    split
    · exact Nat.or_lt_two_pow (ih (by omega)) (hz k (by omega)).2
    · exact ih (by omega)

set_option maxRecDepth 20000 in
set_option maxHeartbeats 4000000 in
theorem tops_any {n m : Nat} (hn : n ≤ 9) {z p : Nat → Int} {ba pa : Option Addr} (ca cb : Nat) {w : World} (T : TreeAt w ba pa m m z p) (hz : BagsOK n m z) (hp : ∀ i, i < m → -1 ≤ p i ∧ p i < m) (v : Nat) (hv : v < 64) :
    Calls Tryd.prog 92 #[treeV ba m ca pa m cb, .int .i64 v] w fun e w' => e = .returned (.int .i64 (topsTo z p v m : Nat)) ∧ Below w.heap.size w w' := by
  have hmb := T.bags.1
  unfold maxLen at hmb
  obtain ⟨w0, hw0, R0, HB0, hs0⟩ := new1 w 71 [.slice ba m ca, .slice pa m cb]
  have HT := Lib.hid (T.below HB0)
  have HW0 := Lib.hid hw0
  have HB := Lib.hid HB0
  have HZ := Lib.hid hz
  have HP := Lib.hid hp
  have c0 := R0.cell (i := 0) rfl
  have c1 := R0.cell (i := 1) rfl
  have hl := R0.lt
  clear T hw0 R0 HB0 hz hp
  go_enter Tryd.func92, Tryd.ntmps92
  go_wp2_with fail
  rw [← HW0.out]
  go_wp2_with fail
  go_loopw [5, 12] (fun c i wr => ∃ k : Nat, k ≤ m ∧ i = .int .i64 k ∧ c = .int .i64 (topsTo z p v k : Nat) ∧ w0 = wr) (fun _ i _ => m - (intOf i).toNat)
  case atStart => exact ⟨0, Nat.zero_le _, rfl, rfl, rfl⟩
  case round =>
    obtain ⟨k, hk, rfl, rfl, rfl⟩ := hrel
    have htp := topsTo_le z p v k
    by_cases hlt : k < m
    · obtain ⟨b, off, rfl, hb, hc⟩ := HT.out.bags.2 (by omega)
      obtain ⟨b', off', rfl, hb', hc'⟩ := HT.out.pars.2 (by omega)
      have ck := hc k hlt
      have pk := hc' k hlt
      obtain ⟨s, hs, hs2⟩ := HZ.out.nat hlt
      have hs16 := lt16 hn hs2
      obtain ⟨p0, p1⟩ := HP.out k hlt
      have HST : Hid (topsTo z p v (k + 1) = if topB z p v k then topsTo z p v k + 1 else topsTo z p v k) := Lib.hid rfl
      generalize topsTo z p v k = A at *
      rw [hs] at ck
      cases hq : s.testBit v
      · have HTB : Hid (topB z p v k = false) := Lib.hid (by unfold topB; rw [hs, Int.toNat_natCast, hq]; rfl)
        clear hc hc' hs hs2
        generalize p k = x at *
        go_wp2_with (go_at_call 89; refine (has_any _ _ _ hs16 hv).mono ?_; rintro e w2 ⟨rfl, rfl⟩; rw [hq])
        go_roundw
        case rel => exact ⟨k + 1, by omega, by go_num, by rw [HST.out, HTB.out]; rfl, by trivial⟩
        case measure => simp [intOf]; omega
      · by_cases hm : p k = -1
        · have HTB : Hid (topB z p v k = true) := Lib.hid (by unfold topB; rw [hs, Int.toNat_natCast, hq, decide_eq_true hm]; rfl)
          have hqm : (p k == -1) = true := by simp [hm]
          clear hc hc' hs hs2 hm
          generalize p k = x at *
          go_wp2_with (go_at_call 89; refine (has_any _ _ _ hs16 hv).mono ?_; rintro e w2 ⟨rfl, rfl⟩; rw [hq])
          go_roundw
          case rel => exact ⟨k + 1, by omega, by go_num, by rw [HST.out, HTB.out]; first | rfl | go_num, by trivial⟩
          case measure => simp [intOf]; omega
        · obtain ⟨x, hx⟩ : ∃ x : Nat, p k = x := ⟨(p k).toNat, by omega⟩
          have hxm : x < m := by omega
          have hqm : ((x : Int) == -1) = false := by simp
          obtain ⟨t, ht, ht2⟩ := HZ.out.nat hxm
          have ht16 := lt16 hn ht2
          have cx := hc x hxm
          rw [ht] at cx
          rw [hx] at pk
          have HTB : Hid (topB z p v k = !t.testBit v) := Lib.hid (by unfold topB; rw [hs, hx, Int.toNat_natCast, Int.toNat_natCast, ht, Int.toNat_natCast, hq]; simp)
          have HQ := Lib.hid hq
          clear hc hc' hs hs2 hm p0 p1 hx ht ht2 hq
          cases hr : t.testBit v
          all_goals
            have hq := HQ.out
            go_wp2_with (go_at_call 89; refine (has_any _ _ _ (by assumption) hv).mono ?_; rintro e w2 ⟨rfl, rfl⟩; first | rw [hq] | rw [hr])
            go_roundw
            case rel => exact ⟨k + 1, by omega, by go_num, by rw [HST.out, HTB.out, hr]; first | rfl | go_num, by trivial⟩
            case measure => simp [intOf]; omega
    · have hke : k = m := by omega
      subst hke
      go_wp2_with fail
      go_ret
      exact ⟨rfl, HB.out⟩

set_option maxRecDepth 20000 in
set_option maxHeartbeats 2000000 in
theorem together_any {n m q : Nat} (hn : n ≤ 9) {z p : Nat → Int} {ba pa : Option Addr} (ca cb : Nat) {w : World} (T : TreeAt w ba pa m q z p) (hz : BagsOK n m z) (v : Nat) (hv : v < 64) :
    Calls Tryd.prog 94 #[treeV ba m ca pa q cb, .int .i64 v] w fun e w' => e = .returned (.int .i64 (togTo z v m : Nat)) ∧ Below w.heap.size w w' := by
  have hmb := T.bags.1
  unfold maxLen at hmb
  obtain ⟨w0, hw0, R0, HB0, hs0⟩ := new1 w 71 [.slice ba m ca, .slice pa q cb]
  have HT := Lib.hid (T.below HB0)
  have HW0 := Lib.hid hw0
  have HB := Lib.hid HB0
  have HZ := Lib.hid hz
  have c0 := R0.cell (i := 0) rfl
  have c1 := R0.cell (i := 1) rfl
  have hl := R0.lt
  clear T hw0 R0 HB0 hz
  go_enter Tryd.func94, Tryd.ntmps94
  go_wp2_with fail
  rw [← HW0.out]
  go_wp2_with fail
  go_loopw [5, 11] (fun c i wr => ∃ k : Nat, k ≤ m ∧ i = .int .i64 k ∧ c = .int .i64 (togTo z v k : Nat) ∧ w0 = wr) (fun _ i _ => m - (intOf i).toNat)
  case atStart => exact ⟨0, Nat.zero_le _, rfl, rfl, rfl⟩
  case round =>
    obtain ⟨k, hk, rfl, rfl, rfl⟩ := hrel
    have htg := lt16 hn (togTo_lt HZ.out v k hk)
    by_cases hlt : k < m
    · obtain ⟨b, off, rfl, hb, hc⟩ := HT.out.bags.2 (by omega)
      have ck := hc k hlt
      obtain ⟨s, hs, hs2⟩ := HZ.out.nat hlt
      have hs16 := lt16 hn hs2
      have HST : Hid (togTo z v (k + 1) = if s.testBit v then togTo z v k ||| s else togTo z v k) := Lib.hid (by show (if (z k).toNat.testBit v then _ ||| (z k).toNat else _) = _; rw [hs, Int.toNat_natCast])
      rw [hs] at ck
      clear hc hs hs2
      generalize togTo z v k = A at *
      cases hq : s.testBit v
      all_goals
        go_wp2_with (go_at_call 89; refine (has_any _ _ _ hs16 hv).mono ?_; rintro e w2 ⟨rfl, rfl⟩; rw [hq])
        go_roundw
        case rel => exact ⟨k + 1, by omega, by go_num, by rw [HST.out, hq]; rfl, by trivial⟩
        case measure => simp [intOf]; omega
    · have hke : k = m := by omega
      subst hke
      go_wp2_with fail
      go_ret
      exact ⟨rfl, HB.out⟩

end Go.Proofs.YtgkpogaahndmoaaDoor.Wd
