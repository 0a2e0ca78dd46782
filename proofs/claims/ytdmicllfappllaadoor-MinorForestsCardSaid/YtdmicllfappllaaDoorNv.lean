/- Package minor: the walk of MinorForests. -/
import Derived.Test.YtdmicllfappllaaDoorNt
import Derived.Test.YtdmicllfappllaaDoorMx
namespace Go.Proofs.YtdmicllfappllaaDoor
set_option linter.unusedSimpArgs false
set_option linter.unusedVariables false
open Go.RowKit Go.Maps
attribute [local go_sem] i64_bit toNat_eq_one toNat_ne_one toNat_eq_zero toNat_ne_zero i64_and i64_or i64_andNot i64_or_pow i64_andNot_pow

theorem graphB_few9 {n : Nat} {z : Nat → Int} : graphB (min n 12) 9 z = graphB n 9 z := by
  by_cases h : n ≤ 12
  · rw [Nat.min_eq_left h]
  · rw [Nat.min_eq_right (by omega), graphB_no (Or.inr (by omega)), graphB_no (Or.inr (by omega))]
theorem graph_nine8 {n : Nat} {z : Nat → Int} (h : graphB n 9 z = true) (h8 : n ≤ 8) : graphB n 8 z = true := by
  unfold graphB at h ⊢
  simp only [Bool.and_eq_true, decide_eq_true_eq] at h ⊢
  exact ⟨⟨h.1.1, h8⟩, h.2⟩
theorem Ek_le {n : Nat} {r : Nat → Nat} {S : Nat} : ∀ k, Ek n r S k ≤ n * k := by
  intro k
  induction k with
  | zero => exact Nat.zero_le _
  | succ k ih =>
    show Ek n r S k + _ ≤ _
    have := szS_le n (r k &&& S)
    rw [Nat.mul_add, Nat.mul_one]
    split <;> omega
/-- The part of a node; twice its edges; whether it has fewer edges than nodes. -/
def prtN (n : Nat) (r : Nat → Nat) (v : Nat) : Nat := partS n r (2 ^ n - 1) v
def frB (n : Nat) (r : Nat → Nat) (v : Nat) : Bool := decide (Ek n r (prtN n r v) n < 2 * szS n (prtN n r v))
def frA (n : Nat) (r : Nat → Nat) (k : Nat) : Bool := (List.range k).all (frB n r)
theorem frA_step {n : Nat} {r : Nat → Nat} {k : Nat} : frA n r (k + 1) = (frA n r k && frB n r k) := by
  unfold frA
  rw [List.range_succ, List.all_append]; simp

set_option maxRecDepth 200000 in
set_option maxHeartbeats 4000000 in
theorem MinorForests_walk (n : Nat) (z : Nat → Int) (v : Value) (w : World) (hA : SliceArg w v n z) (hz : InI64 z) (hTab : HasTab w) :
    Calls Tryd.prog 10 #[v] w (LawTrue w) := by
  obtain ⟨a, cap, rfl, hI⟩ := hA.ints
  have hml := hI.1
  unfold maxLen at hml
  have HA := Lib.hid hA
  have HI0 := Lib.hid hI
  have HZ := Lib.hid hz
  have HT := Lib.hid (Tab.of hTab)
  clear hA hI hz hTab
  cases hg : graphB n 9 z
  · have HGM : Hid (graphB (min n 12) 9 z = false) := Lib.hid (by rw [graphB_few9]; exact hg)
    clear hg
    go_enter Tryd.func10, Tryd.ntmps10
    go_wp2_with fail
    go_at_call 14
    refine (Few_any n z _ _ HA.out).mono ?_
    rintro e w1 ⟨a1, c1, rfl, hi1, hb1⟩
    have HI1 := Lib.hid hi1
    have HB1 := Lib.hid hb1
    clear hi1 hb1
    go_wp2_with fail
    go_at_call 51
    refine (Wd.Width_no _ HI1.out HZ.out HGM.out).mono ?_
    rintro e w2 ⟨rfl, hb2⟩
    have HB2 := Lib.hid (HB1.out.trans (hb2.mono HB1.out.size))
    clear hb2
    go_wp2_with fail
    go_at_call 19
    refine (awake_any _ (HT.out.below HB2.out)).mono ?_
    rintro e w3 ⟨rfl, hb3⟩
    have HB3 := Lib.hid (HB2.out.trans (hb3.mono HB2.out.size))
    clear hb3
    go_wp2_with fail
    go_ret
    exact ⟨rfl, HB3.out⟩
  · have hn9 := graphB_le hg
    have HMN : Hid (min n 12 = n) := Lib.hid (by omega)
    have HG9 := Lib.hid hg
    by_cases h8 : n ≤ 8
    · have HG := Lib.hid (graph_nine8 hg h8)
      obtain ⟨hyes, hno⟩ := forest_is HG.out
      have HTN := Lib.hid (Tn.of_graph HI0.out HG.out)
      have hp8 := pow_le8 h8
      have d8 : decide ((n : Int) > 8) = false := decide_eq_false (by omega)
      have d9 : decide ((8 : Int) < (n : Int)) = false := decide_eq_false (by omega)
      have d10 : decide (8 < n) = false := decide_eq_false (by omega)
      have hpp := pow_pred n
      obtain ⟨W, hW⟩ : ∃ W, W = Wd.widthG n z := ⟨_, rfl⟩
      have HW := Lib.hid hW
      rw [← hW] at hyes hno
      have hWb : W ≤ 8 := by rw [hW]; exact Nat.le_trans (rst_le (Nat.two_pow_pos _)) h8
      obtain ⟨th, hth⟩ : ∃ th, (modG n 3 z (kz 3)).isSome = th := ⟨_, rfl⟩
      rw [hth] at hyes hno
      have HTH := Lib.hid hth
      have HYES := Lib.hid hyes
      have HNO := Lib.hid hno
      have hpb := pow_bd n (by omega)
      obtain ⟨A, hAe⟩ : ∃ A, A = 2 ^ n - 1 := ⟨_, rfl⟩
      have HAE := Lib.hid hAe
      rw [← hAe] at hpp
      clear hg hW hth hyes hno hAe
      have HKR : Hid (∀ w', Calls Tryd.prog 28 #[.int .i64 3] w' (MadePost w' 3 (kAll 3 3))) := Lib.hid fun w' => KR_any (n := 3) (by omega) (by omega) w'
      go_enter Tryd.func10, Tryd.ntmps10
      go_wp2_with fail
      go_at_call 14
      refine (Few_any n z _ _ HA.out).mono ?_
      rintro e w1 ⟨a1, c1, rfl, hi1, hb1⟩
      rw [HMN.out] at hi1
      rw [HMN.out]
      have HI1 := Lib.hid hi1
      have HB1 := Lib.hid hb1
      clear hi1 hb1
      go_wp2_with fail
      go_at_call 51
      refine (Wd.Width_yes _ HI1.out HZ.out HG9.out).mono ?_
      rintro e w2 ⟨rfl, hb2⟩
      rw [← HW.out]
      have HB2 := Lib.hid (HB1.out.trans (hb2.mono HB1.out.size))
      clear hb2
      go_wp2_with fail
      go_at_call 28
      refine (HKR.out _).mono ?_
      rintro e w3 ⟨g3, rfl, hr3, _, hb3⟩
      rw [k_same 3 (by omega)] at hr3
      have HK3 := Lib.hid (row_ints hr3 (show (cmpL 3 3).length = 3 by simp [cmpL]) (by omega))
      clear hr3
      have HB3 := Lib.hid (HB2.out.trans (hb3.mono HB2.out.size))
      clear hb3
      go_wp2_with fail
      go_at_call 50
      refine (hasL_any 3 (HA.out.below HB3.out) HK3.out HZ.out (kz_i64 3 (by omega)) (HT.out.below HB3.out) HG.out (kz_graph 3 (by omega) (by omega))).mono ?_
      rintro e w4 ⟨rfl, hb4⟩
      rw [show (modG n 3 z (natL (cmpL 3 3))).isSome = th from HTH.out]
      have HB4 := Lib.hid (HB3.out.trans (hb4.mono HB3.out.size))
      clear hb4
      go_wp2_with fail
      go_loopw [7, 43] (fun fo ix wr => ∃ x : Nat, x ≤ n ∧ ix = .int .i64 x ∧ fo = .bool (frA n (natG z) x) ∧ Below w.heap.size w wr) (fun _ ix _ => n - (intOf ix).toNat)
      case atStart => exact ⟨0, Nat.zero_le _, rfl, rfl, HB4.out⟩
      case round =>
        obtain ⟨x, hx, rfl, rfl, hbr⟩ := hrel
        have HBR := Lib.hid hbr
        clear hbr HB4
        by_cases hlt : x < n
        · have dx : decide ((x : Int) < (n : Int)) = true := decide_eq_true (by omega)
          have dx2 : decide (x < n) = true := decide_eq_true hlt
          have HRE : Hid (Calls Tryd.prog 52 #[.slice a n cap, .int .i64 (A : Nat), .int .i64 x] wr fun e w'' => e = .returned (.int .i64 (prtN n (natG z) x : Nat)) ∧ Below wr.heap.size wr w'') := Lib.hid (by
            have := Reached_any (HTN.out.below HBR.out).at_ cap A x (A : Int) (x : Int) rfl rfl (by have := HAE.out; omega) hlt
            rw [HAE.out] at this ⊢
            exact this)
          have HPL : Hid (prtN n (natG z) x < 2 ^ n) := Lib.hid (partS_lt hlt HTN.out.bd)
          have HCL : Hid (∀ u, u < n → (prtN n (natG z) x).testBit u = true → natG z u &&& prtN n (natG z) x = natG z u) := Lib.hid fun u hu hb => by
            apply Nat.eq_of_testBit_eq
            intro i
            rw [Nat.testBit_and]
            cases hi : (natG z u).testBit i
            · rfl
            · exact partS_closed hlt HTN.out.bd u hu hb i hi (all_bit (bit_lt (HTN.out.bd u hu) hi))
          have HST := Lib.hid (frA_step (n := n) (r := natG z) (k := x))
          have HFB : Hid (frB n (natG z) x = decide (Ek n (natG z) (prtN n (natG z) x) n < 2 * szS n (prtN n (natG z) x))) := Lib.hid rfl
          have HEK : Hid (∀ k, Ek n (natG z) (prtN n (natG z) x) (k + 1) = Ek n (natG z) (prtN n (natG z) x) k + if (prtN n (natG z) x).testBit k then szS n (natG z k &&& prtN n (natG z) x) else 0) := Lib.hid fun _ => rfl
          have HEL : Hid (∀ k, k ≤ n → Ek n (natG z) (prtN n (natG z) x) k ≤ 64) := Lib.hid fun k hk => Nat.le_trans (Ek_le k) (Nat.le_trans (Nat.mul_le_mul h8 (Nat.le_trans hk h8)) (by omega))
          have HE0 : Hid (Ek n (natG z) (prtN n (natG z) x) 0 = 0) := Lib.hid rfl
          obtain ⟨P, hP⟩ : ∃ P, P = prtN n (natG z) x := ⟨_, rfl⟩
          rw [← hP] at HRE HPL HCL HFB HEK HEL HE0
          have hP16 : P < 65536 := by have := HPL.out; omega
          clear hP
          generalize frA n (natG z) x = fx at *
          go_wp2_with fail
          go_at_call 52
          refine HRE.out.mono ?_
          rintro e w5 ⟨rfl, hb5⟩
          have HB5 := Lib.hid (HBR.out.trans (hb5.mono HBR.out.size))
          clear hb5
          go_wp2_with fail
          go_loopw [10, 55] (fun sm ix wy => ∃ y : Nat, y ≤ n ∧ ix = .int .i64 y ∧ sm = .int .i64 (Ek n (natG z) P y : Nat) ∧ w5 = wy) (fun _ ix _ => n - (intOf ix).toNat)
          case atStart => exact ⟨0, Nat.zero_le _, rfl, by rw [HE0.out]; rfl, rfl⟩
          case round =>
            obtain ⟨y, hy, rfl, rfl, rfl⟩ := hrel
            by_cases hly : y < n
            · have dy : decide ((y : Int) < (n : Int)) = true := decide_eq_true (by omega)
              have dy2 : decide (y < n) = true := decide_eq_true hly
              obtain ⟨bg, og, rfl, _, hcg⟩ := (HTN.out.below HB5.out).at_.ints.2 hn9.1
              have cg : w5.cell? ⟨bg, og + y, none⟩ = some (.int .i64 (natG z y : Nat)) := hcg y hly
              clear hcg
              have HS := Lib.hid (HEK.out y)
              have hEl := HEL.out y hy
              have hy64 : y < 64 := by omega
              have hy16 : y < 16 := by omega
              have hsz := szS_le n (natG z y)
              have HSZ := Lib.hid (fun w' => Size_any (n := n) (by omega) (natG z y) (HTN.out.bd y hly) w')
              cases hb : P.testBit y
              · have HS2 := Lib.hid (show Ek n (natG z) P (y + 1) = Ek n (natG z) P y by rw [HS.out, hb]; rfl)
                generalize Ek n (natG z) P y = E at *
                generalize natG z y = gy at *
                go_wp2_with fail
                go_roundw
                case rel => exact ⟨y + 1, by omega, by go_num, by rw [HS2.out], by first | trivial | rfl⟩
                case measure => simp [intOf]; omega
              · have HS2 := Lib.hid (show Ek n (natG z) P (y + 1) = Ek n (natG z) P y + szS n (natG z y) by rw [HS.out, hb, HCL.out y hly hb]; rfl)
                generalize Ek n (natG z) P y = E at *
                generalize szS n (natG z y) = sy at *
                generalize natG z y = gy at *
                go_wp2_with (go_at_call 49; refine (HSZ.out _).mono ?_; rintro e z1 ⟨rfl, rfl⟩)
                go_roundw
                case rel => exact ⟨y + 1, by omega, by go_num, by rw [HS2.out]; go_num, by first | trivial | rfl⟩
                case measure => simp [intOf]; omega
            · have dy : decide ((y : Int) < (n : Int)) = false := decide_eq_false (by omega)
              have dy2 : decide (y < n) = false := decide_eq_false hly
              have hye : y = n := by omega
              have HSZ := Lib.hid (fun w' => Size_any (n := n) (by omega) P HPL.out w')
              have hEl := HEL.out y hy
              have HEY := Lib.hid (show frB n (natG z) x = decide (Ek n (natG z) P y < 2 * szS n P) by rw [hye]; exact HFB.out)
              clear hye
              have hsz := szS_le n P
              generalize Ek n (natG z) P y = E at *
              generalize szS n P = sp at *
              have htd : Int.tdiv (E : Int) 2 = ((E / 2 : Nat) : Int) := rfl
              have hq : decide (Int.tdiv (E : Int) 2 < (sp : Int)) = decide (E < 2 * sp) := decide_eq_decide.2 (by rw [htd]; omega)
              clear htd
              have hq2 : decide ((E : Int) / 2 < (sp : Int)) = decide (E < 2 * sp) := decide_eq_decide.2 (by omega)
              have hq3 : decide (E / 2 < sp) = decide (E < 2 * sp) := decide_eq_decide.2 (by omega)
              generalize decide (E < 2 * sp) = db at *
              cases fx
              · go_wp2_with fail
                go_roundw
                case rel => exact ⟨x + 1, by omega, by go_num, by rw [HST.out]; rfl, HB5.out⟩
                case measure => simp [intOf]; omega
              · go_wp2_with (go_at_call 49; refine (HSZ.out _).mono ?_; rintro e z1 ⟨rfl, rfl⟩)
                go_roundw
                case rel => exact ⟨x + 1, by omega, by go_num, by rw [HST.out, HEY.out]; first | rfl | (rw [Bool.true_and, ← hq2]; rfl) | (rw [Bool.true_and, ← hq3]; rfl), HB5.out⟩
                case measure => simp [intOf]; omega
        · have dx : decide ((x : Int) < (n : Int)) = false := decide_eq_false (by omega)
          have dx2 : decide (x < n) = false := decide_eq_false hlt
          have hxe : x = n := by omega
          cases th
          · obtain ⟨hw1, hall⟩ := HNO.out rfl
            have HF := Lib.hid (show frA n (natG z) x = true by
              unfold frA
              rw [List.all_eq_true]
              intro y hy
              have := hall y (by have := List.mem_range.1 hy; omega)
              unfold frB
              exact decide_eq_true this)
            have dw : decide ((W : Int) > 1) = false := decide_eq_false (by omega)
            have dw1 : decide ((1 : Int) < (W : Int)) = false := decide_eq_false (by omega)
            have dw2 : decide (1 < W) = false := decide_eq_false (by omega)
            rw [HF.out]
            clear hxe hall
            go_wp2_with fail
            go_at_call 19
            refine (awake_any _ (HT.out.below HBR.out)).mono ?_
            rintro e w6 ⟨rfl, hb6⟩
            have HB6 := Lib.hid (HBR.out.trans (hb6.mono HBR.out.size))
            clear hb6
            go_wp2_with fail
            go_ret
            exact ⟨rfl, HB6.out⟩
          · obtain ⟨hw1, y, hy, hge⟩ := HYES.out rfl
            have HF := Lib.hid (show frA n (natG z) x = false by
              unfold frA
              rw [List.all_eq_false]
              refine ⟨y, List.mem_range.2 (by omega), ?_⟩
              unfold frB prtN
              rw [decide_eq_false (by omega)]; simp)
            have dw : decide ((W : Int) > 1) = true := decide_eq_true (by omega)
            have dw1 : decide ((1 : Int) < (W : Int)) = true := decide_eq_true (by omega)
            have dw2 : decide (1 < W) = true := decide_eq_true (by omega)
            rw [HF.out]
            clear hxe hge
            go_wp2_with fail
            go_at_call 19
            refine (awake_any _ (HT.out.below HBR.out)).mono ?_
            rintro e w6 ⟨rfl, hb6⟩
            have HB6 := Lib.hid (HBR.out.trans (hb6.mono HBR.out.size))
            clear hb6
            go_wp2_with fail
            go_ret
            exact ⟨rfl, HB6.out⟩
    · have d8 : decide ((n : Int) > 8) = true := decide_eq_true (by omega)
      have d9 : decide ((8 : Int) < (n : Int)) = true := decide_eq_true (by omega)
      have d10 : decide (8 < n) = true := decide_eq_true (by omega)
      clear hg
      go_enter Tryd.func10, Tryd.ntmps10
      go_wp2_with fail
      go_at_call 14
      refine (Few_any n z _ _ HA.out).mono ?_
      rintro e w1 ⟨a1, c1, rfl, hi1, hb1⟩
      rw [HMN.out] at hi1
      rw [HMN.out]
      have HI1 := Lib.hid hi1
      have HB1 := Lib.hid hb1
      clear hi1 hb1
      go_wp2_with fail
      go_at_call 51
      refine (Wd.Width_yes _ HI1.out HZ.out HG9.out).mono ?_
      rintro e w2 ⟨rfl, hb2⟩
      have HB2 := Lib.hid (HB1.out.trans (hb2.mono HB1.out.size))
      clear hb2
      go_wp2_with fail
      go_at_call 19
      refine (awake_any _ (HT.out.below HB2.out)).mono ?_
      rintro e w3 ⟨rfl, hb3⟩
      have HB3 := Lib.hid (HB2.out.trans (hb3.mono HB2.out.size))
      clear hb3
      go_wp2_with fail
      go_ret
      exact ⟨rfl, HB3.out⟩

end Go.Proofs.YtdmicllfappllaaDoor
