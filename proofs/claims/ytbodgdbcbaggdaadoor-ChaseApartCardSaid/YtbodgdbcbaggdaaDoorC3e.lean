/- The contracts of the reference's corner, Takes and Core. -/
import Derived.Test.YtbodgdbcbaggdaaDoorC3b
import Derived.Test.YtbodgdbcbaggdaaDoorC1s
namespace Go.Proofs.YtbodgdbcbaggdaaDoor
set_option linter.unusedSimpArgs false
set_option linter.unusedVariables false
open Go.RowKit Go.Maps
attribute [local go_sem] i64_bit toNat_eq_one toNat_ne_one toNat_eq_zero toNat_ne_zero i64_and i64_or i64_andNot i64_or_pow i64_andNot_pow

/-- The reach of a node in the reference's words. -/
def rG (g : Nat → Nat) (i : Nat) : Nat := g i ||| 2 ^ i
theorem rG_reachOf (z : Nat → Int) : rG (fun i => (z i).toNat) = reachOf z := rfl
theorem covR_covP (g : Nat → Nat) (set v u : Nat) : covR g set v u = covP (rG g) set v u := by
  unfold covR covP covB rG
  cases (u != v) <;> cases set.testBit v <;> cases set.testBit u <;> rfl

set_option maxRecDepth 20000 in
set_option maxHeartbeats 4000000 in
theorem cornerR_any {n : Nat} {g : Nat → Nat} {a : Option Addr} {w : World} (G : GrAt w a n g) (cap set v : Nat) (hset : set < 65536) (hv : v < n) :
    Calls Tryd.prog 28 #[.slice a n cap, .int .i64 set, .int .i64 v] w fun e w' => e = .returned (.bool (crnTo (rG g) set v n)) ∧ Below w.heap.size w w' := by
  have HG := Lib.hid G
  have hn := G.small
  go_enter Tryd.func28, Tryd.ntmps28
  go_wp2_with fail
  go_loopw [10] (fun i wr => ∃ k : Nat, k ≤ n ∧ i = .int .i64 k ∧ crnTo (rG g) set v k = false ∧ Below w.heap.size w wr) (fun i _ => n - (intOf i).toNat)
  case atStart => exact ⟨0, Nat.zero_le _, rfl, by simp [crnTo], Below.refl _ _⟩
  case round =>
    obtain ⟨k, hk, rfl, hno, hbel⟩ := hrel
    have HB := Lib.hid hbel
    have HNO := Lib.hid hno
    clear hbel hno
    by_cases hlt : k < n
    · have HST := Lib.hid (crnTo_succ (rG g) set v k)
      have HCV := Lib.hid (covR_covP g set v k)
      cases hq : covR g set v k
      · have HQ := Lib.hid hq
        clear hq
        go_wp2_with (go_at_call 42; refine (coversR_any (HG.out.below (HB.out.mono (Nat.le_refl _))) cap set v k hset hv hlt).mono ?_; rintro e w1 ⟨rfl, hb⟩; rw [HQ.out]; have HB1 := Lib.hid hb; clear hb)
        go_roundw
        case rel => exact ⟨k + 1, by omega, by go_num, by rw [HST.out, HNO.out, ← HCV.out, HQ.out]; rfl, HB.out.trans (HB1.out.mono HB.out.size)⟩
        case measure => simp [intOf]; omega
      · have HQ := Lib.hid hq
        clear hq
        go_wp2_with (go_at_call 42; refine (coversR_any (HG.out.below (HB.out.mono (Nat.le_refl _))) cap set v k hset hv hlt).mono ?_; rintro e w1 ⟨rfl, hb⟩; rw [HQ.out]; have HB1 := Lib.hid hb; clear hb)
        go_ret
        refine ⟨?_, HB.out.trans (HB1.out.mono HB.out.size)⟩
        have hcp : covP (rG g) set v k = true := by rw [← HCV.out]; exact HQ.out
        have : crnTo (rG g) set v n = true := by
          unfold covP at hcp
          rw [Bool.and_eq_true, Bool.and_eq_true] at hcp
          unfold crnTo
          rw [hcp.1.1, Bool.true_and, List.any_eq_true]
          exact ⟨k, List.mem_range.2 hlt, by rw [hcp.1.2, hcp.2]; rfl⟩
        rw [this]; rfl
    · have hke : k = n := by omega
      subst hke
      go_wp2_with fail
      go_ret
      exact ⟨by rw [HNO.out]; rfl, HB.out⟩

set_option maxRecDepth 20000 in
set_option maxHeartbeats 4000000 in
theorem TakesR_any {n : Nat} {g : Nat → Nat} {a : Option Addr} {w : World} (G : GrAt w a n g) (cap : Nat) {m : Nat} {z : Nat → Int} {ao : Option Addr} (capo : Nat) (hI : IntsAt w ao m z) :
    Calls Tryd.prog 14 #[.slice a n cap, .slice ao m capo] w fun e w' => e = .returned (.bool (takesB (rG g) n m z)) ∧ Below w.heap.size w w' := by
  have hn := G.small
  have hn1 := G.pos
  have hml := hI.1
  unfold maxLen at hml
  have hpow : ((2 : Int) ^ n - 1) = ((2 ^ n - 1 : Nat) : Int) := by rw [pow_cast]; have := Nat.one_le_two_pow (n := n); omega
  have hall : 2 ^ n - 1 < 65536 := by have := pow_lt16 hn; omega
  have w1 : wrap64 ((2 : Int) ^ n) = 2 ^ n := by have := pow_bd n hn; exact IntWalk.wrap64_in _ ⟨by omega, by omega⟩
  have w2 : wrap64 ((2 : Int) ^ n - 1) = ((2 ^ n - 1 : Nat) : Int) := by rw [← hpow]; have := pow_bd n hn; exact IntWalk.wrap64_in _ ⟨by omega, by omega⟩
  have hg0 := G.ints.1
  unfold maxLen at hg0
  have HG := Lib.hid G
  have HI0 := Lib.hid hI
  clear hI G
  by_cases hmn : m = n
  · subst hmn
    have hq : ((m : Int) != (m : Int)) = false := by simp
    go_enter Tryd.func14, Tryd.ntmps14
    go_wp2_with fail
    go_loopw [5, 19] (fun t i wr => ∃ k, k ≤ m ∧ i = .int .i64 (k : Nat) ∧ t = .int .i64 (leftAt (2 ^ m - 1) z k : Nat) ∧ (∀ j, j < k → okTake (rG g) m (2 ^ m - 1) z j = true) ∧ IntsAt wr ao m z ∧ Below w.heap.size w wr) (fun _ i _ => m - (intOf i).toNat)
    case atStart => exact ⟨0, Nat.zero_le _, rfl, rfl, fun j hj => by omega, HI0.out, Below.refl _ _⟩
    case round =>
      clear HI0
      obtain ⟨k, hk, rfl, rfl, hok, hi, hbel⟩ := hrel
      obtain ⟨ob, off, rfl, hol, hoc⟩ := hi.2 (by omega)
      have HI := Lib.hid hi
      have HB := Lib.hid hbel
      have HOK := Lib.hid hok
      clear hi hbel hok
      have hS := leftAt_lt (z := z) hall k
      have HNX : Hid (leftAt (2 ^ m - 1) z (k + 1) = diff (leftAt (2 ^ m - 1) z k) (2 ^ (z k).toNat)) := Lib.hid rfl
      have HKK : Hid (okTake (rG g) m (2 ^ m - 1) z k = (inB (z k) m && ((leftAt (2 ^ m - 1) z k).testBit (z k).toNat && (decide (m ≤ k + 1) || crnTo (rG g) (leftAt (2 ^ m - 1) z k) (z k).toNat m)))) := Lib.hid rfl
      generalize leftAt (2 ^ m - 1) z k = S at *
      by_cases hlt : k < m
      · have hcell := hoc k hlt
        clear hoc
        have hw1 : wrap64 ((m : Int) - 1) = m - 1 := IntWalk.wrap64_in _ ⟨by omega, by omega⟩
        cases hin : inB (z k) m
        · have hno : z k < 0 ∨ (m : Int) ≤ z k := by
            rcases Int.lt_or_le (z k) 0 with h | h
            · exact .inl h
            · rcases Int.lt_or_le (z k) m with h1 | h1
              · rw [inB_iff.2 ⟨h, h1⟩] at hin; cases hin
              · exact .inr h1
          have HIN := Lib.hid hin
          clear hin
          generalize z k = zk at *
          rcases hno with hno | hno
          · go_wp2_with fail
            go_ret
            exact ⟨by rw [takesB_no hlt (by rw [HKK.out, HIN.out]; rfl)]; rfl, HB.out⟩
          · by_cases h0 : zk < 0
            · omega
            · go_wp2_with fail
              go_ret
              exact ⟨by rw [takesB_no hlt (by rw [HKK.out, HIN.out]; rfl)]; rfl, HB.out⟩
        · obtain ⟨x0, x1⟩ := inB_iff.1 hin
          obtain ⟨x, hx⟩ : ∃ x : Nat, z k = (x : Int) := ⟨(z k).toNat, by omega⟩
          have HIN := Lib.hid hin
          clear hin
          rw [hx] at hcell
          have hxm : x < m := by omega
          have HX : Hid ((z k).toNat = x) := Lib.hid (by omega)
          clear hx x0 x1
          have hx64 : x < 64 := by omega
          have hx16 : x < 16 := by omega
          have hpw : wrap64 ((2 : Int) ^ x) = 2 ^ x := by have := pow_bd x (by omega); exact IntWalk.wrap64_in _ ⟨by omega, by omega⟩
          cases hbit : S.testBit x
          · have HBT := Lib.hid hbit
            go_wp2_with fail
            go_ret
            exact ⟨by rw [takesB_no hlt (by rw [HKK.out, HX.out, HBT.out]; simp)]; rfl, HB.out⟩
          · have HBT := Lib.hid hbit
            by_cases hlast : k + 1 < m
            · have hq2 : (k : Int) < (m : Int) - 1 := by omega
              cases hcr : crnTo (rG g) S x m
              · have HCR := Lib.hid hcr
                clear hcr
                go_wp2_with (go_at_call 28; refine (cornerR_any (HG.out.below (HB.out.mono (Nat.le_refl _))) cap S x hS hxm).mono ?_; rintro e w3 ⟨rfl, hb⟩; rw [HCR.out]; have HB3 := Lib.hid hb; clear hb)
                go_ret
                exact ⟨by rw [takesB_no hlt (by rw [HKK.out, HX.out, HCR.out, decide_eq_false (by omega)]; simp)]; rfl, HB.out.trans (HB3.out.mono HB.out.size)⟩
              · have HCR := Lib.hid hcr
                clear hcr
                go_wp2_with (go_at_call 28; refine (cornerR_any (HG.out.below (HB.out.mono (Nat.le_refl _))) cap S x hS hxm).mono ?_; rintro e w3 ⟨rfl, hb⟩; rw [HCR.out]; have HB3 := Lib.hid hb; clear hb)
                go_roundw
                case rel =>
                  refine ⟨k + 1, by omega, by go_num, by rw [HNX.out, HX.out], fun j hj => ?_, HI.out.below HB3.out, HB.out.trans (HB3.out.mono HB.out.size)⟩
                  rcases Nat.lt_or_ge j k with h | h
                  · exact HOK.out j h
                  · rw [show j = k by omega, HKK.out, HX.out, HIN.out, HBT.out, HCR.out]; simp
                case measure => simp [intOf]; omega
            · have hq2 : ¬ (k : Int) < (m : Int) - 1 := by omega
              go_wp2_with fail
              go_roundw
              case rel =>
                refine ⟨k + 1, by omega, by go_num, by rw [HNX.out, HX.out], fun j hj => ?_, HI.out, HB.out⟩
                rcases Nat.lt_or_ge j k with h | h
                · exact HOK.out j h
                · rw [show j = k by omega, HKK.out, HX.out, HIN.out, HBT.out, decide_eq_true (show m ≤ k + 1 by omega)]; simp
              case measure => simp [intOf]; omega
      · have hke : k = m := by omega
        subst hke
        go_wp2_with fail
        go_ret
        refine ⟨?_, HB.out⟩
        have : takesB (rG g) k k z = true := by
          unfold takesB
          rw [beq_self_eq_true, Bool.true_and, List.all_eq_true]
          exact fun j hj => HOK.out j (List.mem_range.1 hj)
        rw [this]; rfl
  · have hq : ((m : Int) != (n : Int)) = true := by simp; omega
    have HMN := Lib.hid hmn
    clear hmn
    go_enter Tryd.func14, Tryd.ntmps14
    go_wp2_with fail
    go_ret
    exact ⟨by unfold takesB; rw [beq_eq_false_iff_ne.2 HMN.out]; rfl, Below.refl _ _⟩

def bitV : Value → Nat
  | .bool true => 1
  | _ => 0

theorem leastC_none {r : Nat → Nat} {n S : Nat} : leastC r n S = none ↔ ∀ j, j < n → crnTo r S j n = false := by
  unfold leastC
  rw [List.find?_range_eq_none]
  exact ⟨fun h j hj => by simpa using h j hj, fun h j hj => by simp [h j hj]⟩

set_option maxRecDepth 20000 in
set_option maxHeartbeats 4000000 in
theorem CoreR_any {n : Nat} {g : Nat → Nat} {a : Option Addr} {w : World} (G : GrAt w a n g) (cap : Nat) :
    Calls Tryd.prog 15 #[.slice a n cap] w fun e w' => (∃ L T, e = .returned (.int .i64 (T : Nat)) ∧ Strip (rG g) n (2 ^ n - 1) L T ∧ leastC (rG g) n T = none) ∧ Below w.heap.size w w' := by
  have hn := G.small
  have hn1 := G.pos
  have hpow : ((2 : Int) ^ n - 1) = ((2 ^ n - 1 : Nat) : Int) := by rw [pow_cast]; have := Nat.one_le_two_pow (n := n); omega
  have hall : 2 ^ n - 1 < 65536 := by have := pow_lt16 hn; omega
  have w1 : wrap64 ((2 : Int) ^ n) = 2 ^ n := by have := pow_bd n hn; exact IntWalk.wrap64_in _ ⟨by omega, by omega⟩
  have w2 : wrap64 ((2 : Int) ^ n - 1) = ((2 ^ n - 1 : Nat) : Int) := by rw [← hpow]; have := pow_bd n hn; exact IntWalk.wrap64_in _ ⟨by omega, by omega⟩
  have HG := Lib.hid G
  clear G
  go_enter Tryd.func15, Tryd.ntmps15
  go_wp2_with fail
  go_loopw [3, 4] (fun t b wr => ∃ L S bb, t = .int .i64 (S : Nat) ∧ b = .bool bb ∧ Strip (rG g) n (2 ^ n - 1) L S ∧ (bb = false → leastC (rG g) n S = none) ∧ Below w.heap.size w wr) (fun t b _ => 2 * szS n (intOf t).toNat + bitV b)
  case atStart => exact ⟨[], 2 ^ n - 1, true, rfl, rfl, .start, (fun h => by cases h), Below.refl _ _⟩
  case round =>
    obtain ⟨L, S, bb, rfl, rfl, hst, hno, hbel⟩ := hrel
    have HB := Lib.hid hbel
    have HST := Lib.hid hst
    have HNO := Lib.hid hno
    have hS := hst.lt hall
    clear hbel hst hno
    cases bb
    · go_wp2_with fail
      go_ret
      exact ⟨⟨L, S, rfl, HST.out, HNO.out (by first | rfl | trivial)⟩, HB.out⟩
    · go_wp2_with fail
      go_loopw [3, 4, 13] (fun t b i wr => ∃ k, k ≤ n ∧ i = .int .i64 (k : Nat) ∧ ((t = .int .i64 (S : Nat) ∧ b = .bool false ∧ ∀ j, j < k → crnTo (rG g) S j n = false) ∨ (∃ v, t = .int .i64 (diff S (2 ^ v) : Nat) ∧ b = .bool true ∧ leastC (rG g) n S = some v)) ∧ Below w.heap.size w wr) (fun _ _ i _ => n - (intOf i).toNat)
      case atStart => exact ⟨0, Nat.zero_le _, rfl, .inl ⟨rfl, rfl, fun j hj => by omega⟩, HB.out⟩
      case round =>
        clear HB
        obtain ⟨k, hk, rfl, hor, hbel⟩ := hrel
        have HB := Lib.hid hbel
        clear hbel
        rcases hor with ⟨rfl, rfl, hno⟩ | ⟨v, rfl, rfl, hsome⟩
        · have HN := Lib.hid hno
          clear hno
          by_cases hlt : k < n
          · have hk64 : k < 64 := by omega
            have hk16 : k < 16 := by omega
            have hpw : wrap64 ((2 : Int) ^ k) = 2 ^ k := by have := pow_bd k hk16; exact IntWalk.wrap64_in _ ⟨by omega, by omega⟩
            cases hbit : S.testBit k
            · have HBT := Lib.hid hbit
              go_wp2_with fail
              go_roundw
              case rel =>
                refine ⟨k + 1, by omega, by go_num, .inl ⟨rfl, rfl, fun j hj => ?_⟩, HB.out⟩
                rcases Nat.lt_or_ge j k with h | h
                · exact HN.out j h
                · rw [show j = k by omega]; unfold crnTo; rw [HBT.out]; rfl
              case measure => simp [intOf]; omega
            · cases hcr : crnTo (rG g) S k n
              · have HCR := Lib.hid hcr
                clear hcr
                go_wp2_with (go_at_call 28; refine (cornerR_any (HG.out.below (HB.out.mono (Nat.le_refl _))) cap S k hS hlt).mono ?_; rintro e w3 ⟨rfl, hb⟩; rw [HCR.out]; have HB3 := Lib.hid hb; clear hb)
                go_roundw
                case rel =>
                  refine ⟨k + 1, by omega, by go_num, .inl ⟨rfl, rfl, fun j hj => ?_⟩, HB.out.trans (HB3.out.mono HB.out.size)⟩
                  rcases Nat.lt_or_ge j k with h | h
                  · exact HN.out j h
                  · rw [show j = k by omega]; exact HCR.out
                case measure => simp [intOf]; omega
              · have HCR := Lib.hid hcr
                clear hcr
                go_wp2_with (go_at_call 28; refine (cornerR_any (HG.out.below (HB.out.mono (Nat.le_refl _))) cap S k hS hlt).mono ?_; rintro e w3 ⟨rfl, hb⟩; rw [HCR.out]; have HB3 := Lib.hid hb; clear hb)
                go_roundw
                case rel =>
                  refine ⟨k + 1, by omega, by go_num, .inr ⟨k, rfl, rfl, find_range hlt HCR.out HN.out⟩, HB.out.trans (HB3.out.mono HB.out.size)⟩
                case measure => simp [intOf]; omega
          · have hke : k = n := by omega
            subst hke
            go_wp2_with fail
            go_roundw
            case rel => exact ⟨L, S, false, rfl, rfl, HST.out, fun _ => leastC_none.2 HN.out, HB.out⟩
            case measure => simp [intOf, bitV]
        · have HSM := Lib.hid hsome
          clear hsome
          by_cases hlt : k < n
          · go_wp2_with fail
            go_roundw
            case rel => exact ⟨k + 1, by omega, by go_num, .inr ⟨v, rfl, rfl, HSM.out⟩, HB.out⟩
            case measure => simp [intOf]; omega
          · have hke : k = n := by omega
            subst hke
            go_wp2_with fail
            go_roundw
            case rel => exact ⟨L ++ [v], diff S (2 ^ v), true, rfl, rfl, HST.out.step HSM.out, (fun h => by cases h), HB.out⟩
            case measure =>
              obtain ⟨h1, h2⟩ := leastC_some HSM.out
              have := szS_lt h1 (crnTo_in h2)
              simp [intOf, bitV]; omega

end Go.Proofs.YtbodgdbcbaggdaaDoor
