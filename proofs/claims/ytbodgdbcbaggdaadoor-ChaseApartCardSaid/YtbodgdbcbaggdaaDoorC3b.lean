/- The contracts of the program's takesApart and CheckApart. -/
import Derived.Test.YtbodgdbcbaggdaaDoorC3a
namespace Go.Proofs.YtbodgdbcbaggdaaDoor
set_option linter.unusedSimpArgs false
set_option linter.unusedVariables false
open Go.RowKit Go.Maps
attribute [local go_sem] i64_bit toNat_eq_one toNat_ne_one toNat_eq_zero toNat_ne_zero i64_and i64_or i64_andNot i64_or_pow i64_andNot_pow

/-- What an order leaves of a set after its first nodes. -/
def leftAt (S : Nat) (z : Nat → Int) : Nat → Nat
  | 0 => S
  | i + 1 => diff (leftAt S z i) (2 ^ (z i).toNat)
/-- The order's node at a place may be taken: it is there, and a corner but for the last one. -/
def okTake (r : Nat → Nat) (n S : Nat) (z : Nat → Int) (i : Nat) : Bool :=
  inB (z i) n && ((leftAt S z i).testBit (z i).toNat && (decide (n ≤ i + 1) || crnTo r (leftAt S z i) (z i).toNat n))
def takesB (r : Nat → Nat) (n m : Nat) (z : Nat → Int) : Bool := m == n && (List.range n).all (okTake r n (2 ^ n - 1) z)
theorem leftAt_lt {S : Nat} {z : Nat → Int} (hS : S < 65536) : ∀ i, leftAt S z i < 65536
  | 0 => hS
  | i + 1 => diff_lt (leftAt_lt hS i)
theorem takesB_no {r : Nat → Nat} {n m : Nat} {z : Nat → Int} {i : Nat} (hi : i < n) (h : okTake r n (2 ^ n - 1) z i = false) : takesB r n m z = false := by
  unfold takesB
  rw [Bool.and_eq_false_iff]
  right
  rw [Bool.eq_false_iff]
  intro ha
  rw [List.all_eq_true] at ha
  rw [ha i (List.mem_range.2 hi)] at h
  cases h

set_option maxRecDepth 20000 in
set_option maxHeartbeats 4000000 in
theorem takesApart_any {n b : Nat} {r : Nat → Nat} {w : World} (T : TownAt w n b r) (cap : Nat) (hn1 : 1 ≤ n) {m : Nat} {z : Nat → Int} {a : Option Addr} (capo : Nat) (hI : IntsAt w a m z) :
    Calls Tryd.prog 22 #[townV n b cap, .slice a m capo] w fun e w' => e = .returned (.bool (takesB r n m z)) ∧ Below w.heap.size w w' := by
  obtain ⟨w0, hw0, HB0, TB, hs⟩ := town_box T cap
  have hn := T.small
  have hml := hI.1
  unfold maxLen at hml
  have hpow : ((2 : Int) ^ n - 1) = ((2 ^ n - 1 : Nat) : Int) := by rw [pow_cast]; have := Nat.one_le_two_pow (n := n); omega
  have hall : 2 ^ n - 1 < 65536 := by have := pow_lt16 hn; omega
  have HW := Lib.hid hw0
  have c0' := TB.c0
  rw [hw0] at c0'
  clear hw0
  have HT0 := Lib.hid TB
  have HB00 := Lib.hid HB0
  have HI0 := Lib.hid (hI.below HB0)
  clear TB HB0 hI
  by_cases hmn : m = n
  · subst hmn
    have hq : ((m : Int) != (m : Int)) = false := by simp
    go_enter Tryd.func22, Tryd.ntmps22
    go_wp2_with fail
    rw [← HW.out]
    clear HW c0'
    obtain ⟨d0, d1, dr, dB0, db0⟩ := HT0.out.facts
    go_wp2_with (go_at_call 38; refine (all_any _ _ _ _ hn).mono ?_; rintro e w1 ⟨rfl, hb⟩; rw [hpow]; have HB1 := Lib.hid hb; clear hb)
    have HT1 := Lib.hid (HT0.out.below HB1.out)
    have HBS1 := Lib.hid (HB00.out.trans (HB1.out.mono HB00.out.size))
    have HI1 := Lib.hid (HI0.out.below HB1.out)
    clear HB1 HB00 HT0 d0 d1 dr dB0 db0 HI0
    go_loopw [5, 17] (fun t i wr => ∃ k, k ≤ m ∧ i = .int .i64 (k : Nat) ∧ t = .int .i64 (leftAt (2 ^ m - 1) z k : Nat) ∧ (∀ j, j < k → okTake r m (2 ^ m - 1) z j = true) ∧ IntsAt wr a m z ∧ TownBox wr w.heap.size m b cap r ∧ Below w.heap.size w wr) (fun _ i _ => m - (intOf i).toNat)
    case atStart => exact ⟨0, Nat.zero_le _, rfl, rfl, fun j hj => by omega, HI1.out, HT1.out, HBS1.out⟩
    case round =>
      clear HT1 HBS1 HI1
      obtain ⟨k, hk, rfl, rfl, hok, hi, htb, hbel⟩ := hrel
      obtain ⟨d0, d1, dr, dB0, db0⟩ := htb.facts
      obtain ⟨ob, off, rfl, hol, hoc⟩ := hi.2 (by omega)
      have HI := Lib.hid hi
      have HB := Lib.hid hbel
      have HT := Lib.hid htb
      have HOK := Lib.hid hok
      clear hi hbel htb hok
      have hS := leftAt_lt (z := z) hall k
      have HNX : Hid (leftAt (2 ^ m - 1) z (k + 1) = diff (leftAt (2 ^ m - 1) z k) (2 ^ (z k).toNat)) := Lib.hid rfl
      have HKK : Hid (okTake r m (2 ^ m - 1) z k = (inB (z k) m && ((leftAt (2 ^ m - 1) z k).testBit (z k).toNat && (decide (m ≤ k + 1) || crnTo r (leftAt (2 ^ m - 1) z k) (z k).toNat m)))) := Lib.hid rfl
      generalize leftAt (2 ^ m - 1) z k = S at *
      by_cases hlt : k < m
      · have hcell := hoc k hlt
        clear hoc
        have hw1 : wrap64 ((m : Int) - 1) = m - 1 := IntWalk.wrap64_in _ ⟨by omega, by omega⟩
        cases hin : inB (z k) m
        · have HIN := Lib.hid hin
          clear hin
          go_wp2_with (go_at_call 39; refine (isNode_any _ _ _ _ _ hn).mono ?_; rintro e w1 ⟨rfl, hb⟩; rw [HIN.out]; have HB1 := Lib.hid hb; clear hb)
          go_ret
          exact ⟨by rw [takesB_no hlt (by rw [HKK.out, HIN.out]; rfl)]; rfl, HB.out.trans (HB1.out.mono HB.out.size)⟩
        · obtain ⟨x0, x1⟩ := inB_iff.1 hin
          obtain ⟨x, hx⟩ : ∃ x : Nat, z k = (x : Int) := ⟨(z k).toNat, by omega⟩
          have HIN := Lib.hid hin
          clear hin
          rw [hx] at hcell
          have hxm : x < m := by omega
          have HINX : Hid (inB (x : Int) m = true) := Lib.hid (by rw [← hx]; exact HIN.out)
          have HX : Hid ((z k).toNat = x) := Lib.hid (by omega)
          have HZX := Lib.hid hx
          clear hx x0 x1
          cases hbit : S.testBit x
          · have HBT := Lib.hid hbit
            clear hbit
            go_wp2_with (first | (go_at_call 39; refine (isNode_any _ _ _ _ _ hn).mono ?_; rintro e w1 ⟨rfl, hb⟩; rw [HINX.out]; have HB1 := Lib.hid hb; clear hb) | (go_at_call 33; refine (has_any _ _ _ hS (by omega)).mono ?_; rintro e w2 ⟨rfl, rfl⟩; rw [HBT.out]))
            go_ret
            exact ⟨by rw [takesB_no hlt (by rw [HKK.out, HX.out, HBT.out]; simp)]; rfl, HB.out.trans (HB1.out.mono HB.out.size)⟩
          · have HBT := Lib.hid hbit
            clear hbit
            have hpw : wrap64 ((2 : Int) ^ x) = 2 ^ x := by have := pow_bd x (by omega); exact IntWalk.wrap64_in _ ⟨by omega, by omega⟩
            have hx64 : x < 64 := by omega
            have hx16 : x < 16 := by omega
            by_cases hlast : k + 1 < m
            · have hq2 : (k : Int) < (m : Int) - 1 := by omega
              cases hcr : crnTo r S x m
              · have HCR := Lib.hid hcr
                clear hcr
                go_wp2_with (first | (go_at_call 39; refine (isNode_any _ _ _ _ _ hn).mono ?_; rintro e w1 ⟨rfl, hb⟩; rw [HINX.out]; have HB1 := Lib.hid hb; have ht1 := HT.out.below hb; have HT1 := Lib.hid ht1; obtain ⟨e0, e1, er, eB0, eb0⟩ := ht1.facts; clear hb ht1) | (go_at_call 33; refine (has_any _ _ _ hS (by omega)).mono ?_; rintro e w2 ⟨rfl, rfl⟩; rw [HBT.out]) | (go_at_call 40; refine (isCorner_any HT1.out.at_ cap x S hxm hS).mono ?_; rintro e w3 ⟨rfl, hb⟩; rw [HCR.out]; have HB3 := Lib.hid hb; clear hb))
                go_ret
                have B1 := HB.out.trans (HB1.out.mono HB.out.size)
                exact ⟨by rw [takesB_no hlt (by rw [HKK.out, HX.out, HCR.out, decide_eq_false (by omega)]; simp)]; rfl, B1.trans (HB3.out.mono B1.size)⟩
              · have HCR := Lib.hid hcr
                clear hcr
                go_wp2_with (first | (go_at_call 39; refine (isNode_any _ _ _ _ _ hn).mono ?_; rintro e w1 ⟨rfl, hb⟩; rw [HINX.out]; have HB1 := Lib.hid hb; have ht1 := HT.out.below hb; have HT1 := Lib.hid ht1; obtain ⟨e0, e1, er, eB0, eb0⟩ := ht1.facts; clear hb ht1) | (go_at_call 33; refine (has_any _ _ _ hS (by omega)).mono ?_; rintro e w2 ⟨rfl, rfl⟩; rw [HBT.out]) | (go_at_call 40; refine (isCorner_any HT1.out.at_ cap x S hxm hS).mono ?_; rintro e w3 ⟨rfl, hb⟩; rw [HCR.out]; have HB3 := Lib.hid hb; clear hb))
                go_roundw
                case rel =>
                  have B1 := HB.out.trans (HB1.out.mono HB.out.size)
                  refine ⟨k + 1, by omega, by go_num, by rw [HNX.out, HX.out], fun j hj => ?_, (HI.out.below HB1.out).below HB3.out, HT1.out.below HB3.out, B1.trans (HB3.out.mono B1.size)⟩
                  rcases Nat.lt_or_ge j k with h | h
                  · exact HOK.out j h
                  · rw [show j = k by omega, HKK.out, HX.out, HIN.out, HBT.out, HCR.out]; simp
                case measure => simp [intOf]; omega
            · have hq2 : ¬ (k : Int) < (m : Int) - 1 := by omega
              go_wp2_with (first | (go_at_call 39; refine (isNode_any _ _ _ _ _ hn).mono ?_; rintro e w1 ⟨rfl, hb⟩; rw [HINX.out]; have HB1 := Lib.hid hb; have ht1 := HT.out.below hb; have HT1 := Lib.hid ht1; obtain ⟨e0, e1, er, eB0, eb0⟩ := ht1.facts; clear hb ht1) | (go_at_call 33; refine (has_any _ _ _ hS (by omega)).mono ?_; rintro e w2 ⟨rfl, rfl⟩; rw [HBT.out]))
              go_roundw
              case rel =>
                have B1 := HB.out.trans (HB1.out.mono HB.out.size)
                refine ⟨k + 1, by omega, by go_num, by rw [HNX.out, HX.out], fun j hj => ?_, HI.out.below HB1.out, HT1.out, B1⟩
                rcases Nat.lt_or_ge j k with h | h
                · exact HOK.out j h
                · rw [show j = k by omega, HKK.out, HX.out, HIN.out, HBT.out, decide_eq_true (show m ≤ k + 1 by omega)]; simp
              case measure => simp [intOf]; omega
      · have hke : k = m := by omega
        subst hke
        go_wp2_with fail
        go_ret
        refine ⟨?_, HB.out⟩
        have : takesB r k k z = true := by
          unfold takesB
          rw [beq_self_eq_true, Bool.true_and, List.all_eq_true]
          exact fun j hj => HOK.out j (List.mem_range.1 hj)
        rw [this]; rfl
  · have hq : ((m : Int) != (n : Int)) = true := by simp; omega
    have HMN := Lib.hid hmn
    clear hmn
    go_enter Tryd.func22, Tryd.ntmps22
    go_wp2_with fail
    rw [← HW.out]
    clear HW c0'
    go_ret
    exact ⟨by unfold takesB; rw [beq_eq_false_iff_ne.2 HMN.out]; rfl, HB00.out⟩

def CheckPost (n : Nat) (z : Nat → Int) (m : Nat) (y : Nat → Int) (w : World) (e : Ending) (w' : World) : Prop :=
  Below w.heap.size w w' ∧ (townB n z = true → e = .returned (.tuple #[.bool (takesB (reachOf z) n m y), .int .i64 0])) ∧ (¬ townB n z = true → e = .returned (.tuple #[.bool false, .int .i64 2]))

set_option maxRecDepth 20000 in
set_option maxHeartbeats 1000000 in
theorem CheckApart_any (n : Nat) (z : Nat → Int) (a : Option Addr) (cap m : Nat) (y : Nat → Int) (ao : Option Addr) (capo : Nat) (w : World) (hT : IntsAt w a n z) (hO : IntsAt w ao m y) :
    Calls Tryd.prog 7 #[.slice a n cap, .slice ao m capo] w (CheckPost n z m y w) := by
  have HT := Lib.hid hT
  have HO := Lib.hid hO
  clear hT hO
  cases ht : townB n z
  · have HTB := Lib.hid ht
    clear ht
    go_enter Tryd.func7, Tryd.ntmps7
    go_wp2_with (go_at_call 19; refine (newTown_any HT.out _).mono ?_; rintro e w1 ⟨hb1, _, hno⟩; obtain rfl := hno HTB.out; have HB1 := Lib.hid hb1; clear hb1 hno)
    go_ret2
    exact ⟨HB1.out.alloc HB1.out.size _, fun h => by (rw [HTB.out] at h; cases h), fun _ => rfl⟩
  · obtain ⟨hn1, hn8⟩ := townB_le ht
    have HTB := Lib.hid ht
    clear ht
    go_enter Tryd.func7, Tryd.ntmps7
    go_wp2_with (first | (go_at_call 19; refine (newTown_any HT.out _).mono ?_; rintro e w1 ⟨hb1, hyes, _⟩; obtain ⟨b, hbb, hta, rfl⟩ := hyes HTB.out; have HB1 := Lib.hid hb1; have HTA := Lib.hid hta; clear hb1 hta hyes) | (go_at_call 22; (refine (takesApart_any (HTA.out.below (Below.alloc (Below.refl _ _) (Nat.le_refl _) _) HTA.out.lt) n hn1 capo ((HO.out.below HB1.out).alloc _)).mono ?_); rintro e w2 ⟨rfl, hb2⟩; have HB2 := Lib.hid hb2; clear hb2))
    go_ret2
    have B1 := HB1.out.alloc HB1.out.size (.cells #[.int .i64 n, .slice (some ⟨b, 0, none⟩) n n] 44)
    exact ⟨B1.trans (HB2.out.mono B1.size), fun _ => rfl, fun h => absurd HTB.out h⟩

end Go.Proofs.YtbodgdbcbaggdaaDoor
