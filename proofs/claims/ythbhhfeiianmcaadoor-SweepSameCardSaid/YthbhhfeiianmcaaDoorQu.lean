/- The contract of the reference's IsPath. -/
import Derived.Test.YthbhhfeiianmcaaDoorQt5
import Derived.Test.YthbhhfeiianmcaaDoorQi
namespace Go.Proofs.YthbhhfeiianmcaaDoor
set_option linter.unusedSimpArgs false
set_option linter.unusedVariables false
open Go.RowKit Go.Maps
attribute [local go_sem] i64_bit toNat_eq_one toNat_ne_one toNat_eq_zero toNat_ne_zero i64_and i64_or i64_andNot i64_or_pow i64_andNot_pow

/-- The width that the reference gives. -/
def pathI (n : Nat) (r : Nat → Nat) (m : Nat) (z : Nat → Int) : Int := if pathB n r m z then (mostB n z m : Int) - 1 else 0
theorem pathI_yes {n m : Nat} {r : Nat → Nat} {z : Nat → Int} (h : pathB n r m z = true) : pathI n r m z = (mostB n z m : Int) - 1 := by unfold pathI; rw [h]; rfl
theorem pathI_no {n m : Nat} {r : Nat → Nat} {z : Nat → Int} (h : pathB n r m z = false) : pathI n r m z = 0 := by unfold pathI; rw [h]; rfl
set_option maxRecDepth 20000 in
set_option maxHeartbeats 4000000 in
theorem IsPathR_any {n m : Nat} {r : Nat → Nat} {z : Nat → Int} {a o : Option Addr} {w : World} (G : GrAt w a n r) (hn7 : n ≤ 7) (hr : ∀ i, i < n → r i < 2 ^ n) (cap co : Nat) (hI : IntsAt w o m z) :
    Calls Tryd.prog 31 #[.slice a n cap, .slice o m co] w fun e w' => e = .returned (.tuple #[.int .i64 (pathI n r m z), .bool (pathB n r m z)]) ∧ w = w' := by
  have hml := hI.1
  unfold maxLen at hml
  have h7 := pow_le7 hn7
  obtain ⟨hml2, hI2⟩ := G.ints
  obtain ⟨b, off, rfl, hlt2, hc2⟩ := hI2 G.pos
  have HC2 := Lib.hid hc2
  have HR := Lib.hid hr
  have HI := Lib.hid hI
  have hpn := pow_bd n (by omega)
  clear hc2 hI2 hI hr G
  by_cases hm1 : 1 ≤ m
  rotate_left
  · have HF : Hid (pathB n r m z = false) := Lib.hid (Bool.eq_false_iff.2 fun h => by have := (path_iff.1 h).1; omega)
    have d1 : decide ((m : Int) < 1) = true := by simp; omega
    rw [pathI_no HF.out, HF.out]
    go_enter Tryd.func31, Tryd.ntmps31
    go_wp2_with fail
    go_ret2
    exact ⟨rfl, rfl⟩
  by_cases hm2 : m ≤ 30
  rotate_left
  · have HF : Hid (pathB n r m z = false) := Lib.hid (Bool.eq_false_iff.2 fun h => by have := (path_iff.1 h).2.1; omega)
    have d1 : decide ((m : Int) < 1) = false := by simp; omega
    have d2 : decide (30 < (m : Int)) = true := by simp; omega
    rw [pathI_no HF.out, HF.out]
    go_enter Tryd.func31, Tryd.ntmps31
    go_wp2_with fail
    go_ret2
    exact ⟨rfl, rfl⟩
  obtain ⟨ob, oo, rfl, hlt, hc⟩ := HI.out.2 (by omega)
  have HC := Lib.hid hc
  clear hc
  have HPC := Lib.hid (pow_cast n)
  go_enter Tryd.func31, Tryd.ntmps31
  go_wp2_with fail
  go_loopw [6, 24] (fun f i wr => ∃ k : Nat, k ≤ m ∧ i = .int .i64 k ∧ f = .int .i64 (mostB n z k : Nat) ∧ (∀ i, i < k → 0 ≤ z i ∧ z i < 2 ^ n) ∧ w = wr) (fun _ i _ => m - (intOf i).toNat)
  case atStart => exact ⟨0, Nat.zero_le _, rfl, rfl, by omega, rfl⟩
  case round =>
    obtain ⟨k, hk, rfl, rfl, hin, rfl⟩ := hrel
    have HIN := Lib.hid hin
    clear hin
    by_cases hltk : k < m
    · have ck := HC.out k hltk
      have hg := mostB_le9 (n := n) (m := k) (z := z)
      have HZK : Hid (∀ zk, z k = zk → True) := Lib.hid fun _ _ => trivial
      by_cases g0 : 0 ≤ z k
      · by_cases g1 : z k < 2 ^ n
        · obtain ⟨s, hs⟩ : ∃ s : Nat, z k = s := ⟨(z k).toNat, by omega⟩
          have HST : Hid (mostB n z (k + 1) = max (mostB n z k) (szS n s)) := Lib.hid (by show max _ (szS n (setZ z k)) = _; rw [show setZ z k = s by unfold setZ; omega])
          have hy := szS_le n s
          have hs2 : s < 2 ^ n := by rw [hs, pow_cast] at g1; omega
          have HGK : Hid (0 ≤ z k ∧ z k < 2 ^ n) := Lib.hid ⟨g0, g1⟩
          have d3 : decide ((2 : Int) ^ n ≤ (s : Int)) = false := decide_eq_false (by rw [hs] at g1; omega)
          rw [hs] at ck
          have HCO := Lib.hid (Size_any (n := n) (by omega) s hs2 w)
          generalize mostB n z k = g at *
          generalize szS n s = y at *
          clear g0 g1 hs
          go_wp2_with (go_at_call 56; refine HCO.out.mono ?_; rintro e w1 ⟨rfl, rfl⟩)
          all_goals
            go_roundw
            case rel =>
              refine ⟨k + 1, by omega, by go_num, ?_, fun i hi => by rcases Nat.lt_succ_iff_lt_or_eq.1 hi with h | h; exact HIN.out i h; rw [h]; exact HGK.out, by first | trivial | rfl⟩
              rw [HST.out]
              refine congrArg (Value.int .i64) ?_
              split <;> omega
            case measure => simp [intOf]; omega
        · have HF := Lib.hid (path_no_set (r := r) hltk (fun h : 0 ≤ z k ∧ z k < 2 ^ n => g1 h.2))
          generalize z k = x at ck g0 g1
          have d2 : decide (x < 0) = false := decide_eq_false (by omega)
          have d3 : decide ((2 : Int) ^ n ≤ x) = true := decide_eq_true (by omega)
          go_wp2_with fail
          go_ret2
          exact ⟨by rw [pathI_no HF.out, HF.out]; rfl, rfl⟩
      · have HF := Lib.hid (path_no_set (r := r) hltk (fun h : 0 ≤ z k ∧ z k < 2 ^ n => g0 h.1))
        generalize z k = x at ck g0
        have d2 : decide (x < 0) = true := decide_eq_true (by omega)
        go_wp2_with fail
        go_ret2
        exact ⟨by rw [pathI_no HF.out, HF.out]; rfl, rfl⟩
    · have hke : k = m := by omega
      subst hke
      go_wp2_with fail
      go_loopw [44] (fun i wr => ∃ v : Nat, v ≤ n ∧ i = .int .i64 v ∧ (∀ u, u < v → nodeOk r (setZ z) k u = true) ∧ w = wr) (fun i _ => n - (intOf i).toNat)
      case atStart => exact ⟨0, Nat.zero_le _, rfl, by omega, rfl⟩
      case round =>
        obtain ⟨v, hv, rfl, hno, rfl⟩ := hrel
        have HNO := Lib.hid hno
        clear hno
        by_cases hltv : v < n
        · have cv := HC2.out v hltv
          have hv64 : v < 64 := by omega
          have hv16 : v < 16 := by omega
          go_wp2_with fail
          go_loopw [10, 11, 49] (fun ru me i wr => ∃ q : Nat, q ≤ k ∧ i = .int .i64 q ∧ ru = .int .i64 (runTo (setZ z) v q : Nat) ∧ me = .int .i64 (togTo (setZ z) v q : Nat) ∧ w = wr) (fun _ _ i _ => k - (intOf i).toNat)
          case atStart => exact ⟨0, Nat.zero_le _, rfl, rfl, rfl, rfl⟩
          case round =>
            obtain ⟨q, hq, rfl, rfl, rfl, rfl⟩ := hrel
            have hB : ∀ i, i < q → setZ z i < 2 ^ n := fun i hi => by
              have := HIN.out i (by omega)
              rw [pow_cast] at this
              show (z i).toNat < _
              omega
            have hru := runTo_le (setZ z) v q
            have hme := togTo_lt (v := v) q hB
            by_cases hltq : q < k
            · have cq := HC.out q hltq
              have hzq := HIN.out q hltq
              obtain ⟨s, hs⟩ : ∃ s : Nat, z q = s := ⟨(z q).toNat, by omega⟩
              have hs2 : s < 2 ^ n := by rw [hs, pow_cast] at hzq; omega
              have hs16 : s < 65536 := by omega
              have HRU : Hid (runTo (setZ z) v (q + 1) = if s.testBit v && (q == 0 || !(setZ z (q - 1)).testBit v) then runTo (setZ z) v q + 1 else runTo (setZ z) v q) := Lib.hid (by
                show (if (setZ z q).testBit v && _ then _ else _) = _
                rw [show setZ z q = s by unfold setZ; omega])
              have HTO : Hid (togTo (setZ z) v (q + 1) = if s.testBit v then togTo (setZ z) v q ||| s else togTo (setZ z) v q) := Lib.hid (by
                show (if (setZ z q).testBit v then togTo (setZ z) v q ||| setZ z q else togTo (setZ z) v q) = _
                rw [show setZ z q = s by unfold setZ; omega])
              rw [hs] at cq
              by_cases hq0 : q = 0
              · subst hq0
                rw [Nat.add_zero] at cq
                generalize runTo (setZ z) v 0 = ru at *
                generalize togTo (setZ z) v 0 = me at *
                have hme16 : me < 65536 := by omega
                clear hs hzq hB
                cases hb : s.testBit v
                · have HR2 : Hid (runTo (setZ z) v (0 + 1) = ru) := Lib.hid (by rw [HRU.out, hb]; rfl)
                  have HT2 : Hid (togTo (setZ z) v (0 + 1) = me) := Lib.hid (by rw [HTO.out, hb]; rfl)
                  go_wp2_with fail
                  go_roundw
                  case rel => exact ⟨0 + 1, by omega, by go_num, by rw [HR2.out], by rw [HT2.out], by first | trivial | rfl⟩
                  case measure => simp [intOf]; omega
                · have HR2 : Hid (runTo (setZ z) v (0 + 1) = ru + 1) := Lib.hid (by rw [HRU.out, hb]; rfl)
                  have HT2 : Hid (togTo (setZ z) v (0 + 1) = me ||| s) := Lib.hid (by rw [HTO.out, hb]; rfl)
                  go_wp2_with fail
                  go_roundw
                  case rel => exact ⟨0 + 1, by omega, by go_num, by rw [HR2.out]; go_num, by rw [HT2.out], by first | trivial | rfl⟩
                  case measure => simp [intOf]; omega
              · obtain ⟨q', rfl⟩ : ∃ q', q = q' + 1 := ⟨q - 1, by omega⟩
                have cp := HC.out q' (by omega)
                have hzp := HIN.out q' (by omega)
                obtain ⟨p, hp⟩ : ∃ p : Nat, z q' = p := ⟨(z q').toNat, by omega⟩
                have hp2 : p < 2 ^ n := by rw [hp, pow_cast] at hzp; omega
                have hp16 : p < 65536 := by omega
                have hsp : setZ z (q' + 1 - 1) = p := by show (z q').toNat = p; rw [hp]; rfl
                rw [hsp] at HRU
                rw [hp] at cp
                generalize runTo (setZ z) v (q' + 1) = ru at *
                generalize togTo (setZ z) v (q' + 1) = me at *
                have hme16 : me < 65536 := by omega
                clear hs hzq hB hzp hp hsp
                cases hb : s.testBit v
                · have HR2 : Hid (runTo (setZ z) v (q' + 1 + 1) = ru) := Lib.hid (by rw [HRU.out, hb]; rfl)
                  have HT2 : Hid (togTo (setZ z) v (q' + 1 + 1) = me) := Lib.hid (by rw [HTO.out, hb]; rfl)
                  go_wp2_with fail
                  go_roundw
                  case rel => exact ⟨q' + 1 + 1, by omega, by go_num, by rw [HR2.out], by rw [HT2.out], by first | trivial | rfl⟩
                  case measure => simp [intOf]; omega
                · cases hpb : p.testBit v
                  · have HR2 : Hid (runTo (setZ z) v (q' + 1 + 1) = ru + 1) := Lib.hid (by rw [HRU.out, hb, hpb]; simp)
                    have HT2 : Hid (togTo (setZ z) v (q' + 1 + 1) = me ||| s) := Lib.hid (by rw [HTO.out, hb]; rfl)
                    go_wp2_with fail
                    go_roundw
                    case rel => exact ⟨q' + 1 + 1, by omega, by go_num, by rw [HR2.out]; go_num, by rw [HT2.out], by first | trivial | rfl⟩
                    case measure => simp [intOf]; omega
                  · have HR2 : Hid (runTo (setZ z) v (q' + 1 + 1) = ru) := Lib.hid (by rw [HRU.out, hb, hpb]; simp)
                    have HT2 : Hid (togTo (setZ z) v (q' + 1 + 1) = me ||| s) := Lib.hid (by rw [HTO.out, hb]; rfl)
                    go_wp2_with fail
                    go_roundw
                    case rel => exact ⟨q' + 1 + 1, by omega, by go_num, by rw [HR2.out], by rw [HT2.out], by first | trivial | rfl⟩
                    case measure => simp [intOf]; omega
            · have hqe : q = k := by omega
              subst hqe
              have hrv := HR.out v hltv
              have hrv16 : r v < 65536 := by omega
              have HOK : Hid (nodeOk r (setZ z) q v = (runTo (setZ z) v q == 1 && diff (r v) (togTo (setZ z) v q) == 0)) := Lib.hid rfl
              generalize runTo (setZ z) v q = ru at *
              generalize togTo (setZ z) v q = me at *
              have hme16 : me < 65536 := by omega
              clear hB
              by_cases hr1 : ru = 1
              · by_cases hd : diff (r v) me = 0
                · have HOK2 : Hid (nodeOk r (setZ z) q v = true) := Lib.hid (by rw [HOK.out, hr1, hd]; rfl)
                  go_wp2_with fail
                  go_roundw
                  case rel => exact ⟨v + 1, by omega, by go_num, fun u hu => by rcases Nat.lt_succ_iff_lt_or_eq.1 hu with h | h; exact HNO.out u h; rw [h]; exact HOK2.out, by first | trivial | rfl⟩
                  case measure => simp [intOf]; omega
                · have HF := Lib.hid (path_no_node (r := r) (z := z) hltv (show nodeOk r (setZ z) q v = false by rw [HOK.out, beq_eq_false_iff_ne.2 hd, Bool.and_false]))
                  have d4 : ((diff (r v) me : Nat) : Int) ≠ 0 := by omega
                  go_wp2_with fail
                  go_ret2
                  exact ⟨by rw [pathI_no HF.out, HF.out]; rfl, rfl⟩
              · have HF := Lib.hid (path_no_node (r := r) (z := z) hltv (show nodeOk r (setZ z) q v = false by rw [HOK.out, beq_eq_false_iff_ne.2 hr1, Bool.false_and]))
                have d4 : (ru : Int) ≠ 1 := by omega
                go_wp2_with fail
                go_ret2
                exact ⟨by rw [pathI_no HF.out, HF.out]; rfl, rfl⟩
        · have hve : v = n := by omega
          subst hve
          have HT : Hid (pathB v r k z = true) := Lib.hid ((path_runs hm1 hm2 HIN.out).2 HNO.out)
          have hg := mostB_le9 (n := v) (m := k) (z := z)
          obtain ⟨g, hgg⟩ : ∃ g, g = mostB v z k := ⟨_, rfl⟩
          rw [← hgg] at hg ⊢
          have HGG : Hid (mostB v z k = g) := Lib.hid hgg.symm
          clear hgg
          go_wp2_with fail
          go_ret2
          exact ⟨by rw [pathI_yes HT.out, HT.out, HGG.out]; rfl, rfl⟩
end Go.Proofs.YthbhhfeiianmcaaDoor
