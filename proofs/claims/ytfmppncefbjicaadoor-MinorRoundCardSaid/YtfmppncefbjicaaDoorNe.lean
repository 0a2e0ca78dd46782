/- Package minor: the contract of Greatest; the law's has. Package minor: the walk of MinorWidths. -/
import Derived.Test.YtfmppncefbjicaaDoorNa
namespace Go.Proofs.YtfmppncefbjicaaDoor
set_option linter.unusedSimpArgs false
set_option linter.unusedVariables false
open Go.RowKit Go.Maps
attribute [local go_sem] i64_bit toNat_eq_one toNat_ne_one toNat_eq_zero toNat_ne_zero i64_and i64_or i64_andNot i64_or_pow i64_andNot_pow

/-- The graph of k nodes that are all neighbours of each other. -/
def kz (k : Nat) : Nat → Int := natL (cmpL k k)
theorem kz_graph : ∀ k, k < 7 → 1 ≤ k → graphB k 6 (kz k) = true := by decide +kernel
theorem kz_width : ∀ k, k < 7 → 1 ≤ k → Wd.widthG k (kz k) = k - 1 := by decide +kernel
theorem kz_i64 (k : Nat) (h : k < 7) : InI64 (kz k) := fun i => by
  have h1 : ∀ k, k < 7 → ∀ x ∈ cmpL k k, x < 128 := by decide +kernel
  unfold kz natL
  by_cases hi : i < (cmpL k k).length
  · have := h1 k h _ (List.getElem_mem hi)
    rw [List.getD_eq_getElem?_getD, List.getElem?_eq_getElem hi]
    simp only [Option.getD_some]
    omega
  · rw [List.getD_eq_getElem?_getD, List.getElem?_eq_none (by omega)]
    simp
/-- The greatest number, from k down, of such a graph that is a minor. -/
def grt (n : Nat) (z : Nat → Int) : Nat → Nat
  | 0 => 1
  | k + 1 => if k = 0 then 1 else if (modG n (k + 1) z (kz (k + 1))).isSome then k + 1 else grt n z k

set_option maxRecDepth 20000 in
set_option maxHeartbeats 2000000 in
theorem greatest_any {n : Nat} {z : Nat → Int} {a : Option Addr} (cap : Nat) {w : World} (hI : IntsAt w a n z) (hz : InI64 z) (hT : Tab w) (hg : graphB n 8 z = true) :
    Calls Tryd.prog 76 #[.slice a n cap] w fun e w' => e = .returned (.int .i64 (grt n z (min n 6) : Nat)) ∧ Below w.heap.size w w' := by
  have hn := graphB_le hg
  have HI := Lib.hid hI
  have HZ := Lib.hid hz
  have HT := Lib.hid hT
  have HG := Lib.hid hg
  have HS : Hid (∀ k, 1 < k → grt n z k = if (modG n k z (kz k)).isSome then k else grt n z (k - 1)) := Lib.hid fun k hk => by
    obtain ⟨j, rfl⟩ : ∃ j, k = j + 1 := ⟨k - 1, by omega⟩
    show (if j = 0 then 1 else _) = _
    rw [if_neg (by omega)]; rfl
  have H1 : Hid (∀ k, k ≤ 1 → grt n z k = 1) := Lib.hid fun k hk => by
    rcases (show k = 0 ∨ k = 1 by omega) with rfl | rfl
    · rfl
    · show (if 0 = 0 then 1 else _) = _
      rw [if_pos rfl]
  obtain ⟨X, hX⟩ : ∃ X, X = grt n z (min n 6) := ⟨_, rfl⟩
  rw [← hX]
  have HX := Lib.hid hX
  clear hI hz hT hg hX
  have hmin : min (n : Int) 6 = ((min n 6 : Nat) : Int) := by omega
  have hm1 : 1 ≤ min n 6 ∧ min n 6 ≤ 6 ∧ min n 6 ≤ n := by omega
  generalize min n 6 = M at *
  go_enter Tryd.func76, Tryd.ntmps76
  go_wp2_with fail
  case inl h =>
    have hM6 : (6 : Int) = ((M : Nat) : Int) := by omega
    rw [hM6]
    clear h hM6 hmin hn
    go_loopw [3, 4, 5] (fun k _ _ wr => ∃ j : Nat, k = .int .i64 j ∧ j ≤ M ∧ X = grt n z j ∧ Below w.heap.size w wr) (fun k _ _ _ => (intOf k).toNat)
    case atStart => exact ⟨M, rfl, Nat.le_refl _, HX.out, Below.refl _ _⟩
    case round =>
      obtain ⟨j, rfl, hj, hx, hb⟩ := hrel
      have HB := Lib.hid hb
      have HXJ := Lib.hid hx
      clear hb hx HX
      by_cases hlt : 1 < j
      · have hj6 : j ≤ 6 := by omega
        have d1 : decide ((j : Int) > 1) = true := decide_eq_true (by omega)
        have d2 : decide ((1 : Int) < (j : Int)) = true := decide_eq_true (by omega)
        have d3 : decide (1 < j) = true := decide_eq_true hlt
        have HST := Lib.hid (HS.out j hlt)
        have hj1 : (j : Int) - 1 = ((j - 1 : Nat) : Int) := by omega
        have HJ1 := Lib.hid hj1
        clear hj1
        go_wp2_with fail
        go_at_call 65
        refine (complete_any (by omega) hj6 _).mono ?_
        rintro e w1 ⟨g, rfl, hr, _, hb1⟩
        have HB1 := Lib.hid (HB.out.trans (hb1.mono HB.out.size))
        clear hb1
        have HK := Lib.hid (row_ints hr (show (cmpL j j).length = j by simp [cmpL]) (by omega))
        clear hr
        have hkg := kz_graph j (by omega) (by omega)
        have HI1 := Lib.hid (HI.out.below HB1.out)
        have HMO := Lib.hid (model_any (wt := Wd.widthG n z) (wp := Wd.widthG j (kz j)) (Tn.of_graph HI1.out HG.out) (Tn.of_graph HK.out (graph_eight hkg)) cap j (HT.out.below HB1.out) (by omega) (fun w' hw => minorWidth_any cap (HI1.out.below hw) HZ.out (graph_nine HG.out)) (fun w' hw => minorWidth_any j (HK.out.below hw) (kz_i64 j (by omega)) (graph_nine (graph_eight hkg))))
        rw [show modL n j (natG z) (natG (natL (cmpL j j))) (Wd.widthG n z) (Wd.widthG j (kz j)) = modG n j z (kz j) from rfl] at HMO
        clear hkg
        cases hres : (modG n j z (kz j)).isSome
        · rw [hres] at HST HMO
          have HXN := Lib.hid (HXJ.out.trans HST.out)
          clear hres HXJ
          go_wp2_with fail
          go_at_call 59
          refine (HMO.out).mono ?_
          rintro e w2 ⟨v, rfl, ho, hb2⟩
          clear ho
          have HB2 := Lib.hid (HB1.out.trans (hb2.mono HB1.out.size))
          clear hb2
          go_wp2_with fail
          rw [HJ1.out]
          go_roundw
          case rel => exact ⟨j - 1, rfl, by omega, HXN.out, HB2.out⟩
          case measure => simp [intOf]; omega
        · rw [hres] at HST HMO
          have HXN := Lib.hid (HXJ.out.trans HST.out)
          clear hres HXJ
          go_wp2_with fail
          go_at_call 59
          refine (HMO.out).mono ?_
          rintro e w2 ⟨v, rfl, ho, hb2⟩
          clear ho
          have HB2 := Lib.hid (HB1.out.trans (hb2.mono HB1.out.size))
          clear hb2
          go_wp2_with fail
          go_ret
          exact ⟨by rw [HXN.out]; rfl, HB2.out⟩
      · have d1 : decide ((j : Int) > 1) = false := decide_eq_false (by omega)
        have d2 : decide ((1 : Int) < (j : Int)) = false := decide_eq_false (by omega)
        have d3 : decide (1 < j) = false := decide_eq_false hlt
        have HXN := Lib.hid (HXJ.out.trans (H1.out j (by omega)))
        go_wp2_with fail
        go_ret
        exact ⟨by rw [HXN.out]; rfl, HB.out⟩
  case inr h =>
    have hMn : (n : Int) = ((M : Nat) : Int) := by omega
    rw [hMn]
    clear h hMn hmin hn
    go_loopw [3, 4, 5] (fun k _ _ wr => ∃ j : Nat, k = .int .i64 j ∧ j ≤ M ∧ X = grt n z j ∧ Below w.heap.size w wr) (fun k _ _ _ => (intOf k).toNat)
    case atStart => exact ⟨M, rfl, Nat.le_refl _, HX.out, Below.refl _ _⟩
    case round =>
      obtain ⟨j, rfl, hj, hx, hb⟩ := hrel
      have HB := Lib.hid hb
      have HXJ := Lib.hid hx
      clear hb hx HX
      by_cases hlt : 1 < j
      · have hj6 : j ≤ 6 := by omega
        have d1 : decide ((j : Int) > 1) = true := decide_eq_true (by omega)
        have d2 : decide ((1 : Int) < (j : Int)) = true := decide_eq_true (by omega)
        have d3 : decide (1 < j) = true := decide_eq_true hlt
        have HST := Lib.hid (HS.out j hlt)
        have hj1 : (j : Int) - 1 = ((j - 1 : Nat) : Int) := by omega
        have HJ1 := Lib.hid hj1
        clear hj1
        go_wp2_with fail
        go_at_call 65
        refine (complete_any (by omega) hj6 _).mono ?_
        rintro e w1 ⟨g, rfl, hr, _, hb1⟩
        have HB1 := Lib.hid (HB.out.trans (hb1.mono HB.out.size))
        clear hb1
        have HK := Lib.hid (row_ints hr (show (cmpL j j).length = j by simp [cmpL]) (by omega))
        clear hr
        have hkg := kz_graph j (by omega) (by omega)
        have HI1 := Lib.hid (HI.out.below HB1.out)
        have HMO := Lib.hid (model_any (wt := Wd.widthG n z) (wp := Wd.widthG j (kz j)) (Tn.of_graph HI1.out HG.out) (Tn.of_graph HK.out (graph_eight hkg)) cap j (HT.out.below HB1.out) (by omega) (fun w' hw => minorWidth_any cap (HI1.out.below hw) HZ.out (graph_nine HG.out)) (fun w' hw => minorWidth_any j (HK.out.below hw) (kz_i64 j (by omega)) (graph_nine (graph_eight hkg))))
        rw [show modL n j (natG z) (natG (natL (cmpL j j))) (Wd.widthG n z) (Wd.widthG j (kz j)) = modG n j z (kz j) from rfl] at HMO
        clear hkg
        cases hres : (modG n j z (kz j)).isSome
        · rw [hres] at HST HMO
          have HXN := Lib.hid (HXJ.out.trans HST.out)
          clear hres HXJ
          go_wp2_with fail
          go_at_call 59
          refine (HMO.out).mono ?_
          rintro e w2 ⟨v, rfl, ho, hb2⟩
          clear ho
          have HB2 := Lib.hid (HB1.out.trans (hb2.mono HB1.out.size))
          clear hb2
          go_wp2_with fail
          rw [HJ1.out]
          go_roundw
          case rel => exact ⟨j - 1, rfl, by omega, HXN.out, HB2.out⟩
          case measure => simp [intOf]; omega
        · rw [hres] at HST HMO
          have HXN := Lib.hid (HXJ.out.trans HST.out)
          clear hres HXJ
          go_wp2_with fail
          go_at_call 59
          refine (HMO.out).mono ?_
          rintro e w2 ⟨v, rfl, ho, hb2⟩
          clear ho
          have HB2 := Lib.hid (HB1.out.trans (hb2.mono HB1.out.size))
          clear hb2
          go_wp2_with fail
          go_ret
          exact ⟨by rw [HXN.out]; rfl, HB2.out⟩
      · have d1 : decide ((j : Int) > 1) = false := decide_eq_false (by omega)
        have d2 : decide ((1 : Int) < (j : Int)) = false := decide_eq_false (by omega)
        have d3 : decide (1 < j) = false := decide_eq_false hlt
        have HXN := Lib.hid (HXJ.out.trans (H1.out j (by omega)))
        go_wp2_with fail
        go_ret
        exact ⟨by rw [HXN.out]; rfl, HB.out⟩

set_option maxRecDepth 20000 in
set_option maxHeartbeats 1000000 in
theorem Greatest_yes {n : Nat} {z : Nat → Int} {a : Option Addr} (cap : Nat) {w : World} (hI : IntsAt w a n z) (hz : InI64 z) (hT : Tab w) (hg : graphB n 8 z = true) :
    Calls Tryd.prog 43 #[.slice a n cap] w fun e w' => e = .returned (.tuple #[.int .i64 (grt n z (min n 6) : Nat), .int .i64 0]) ∧ Below w.heap.size w w' := by
  have HN := Lib.hid (newTown_yes cap hI hz hT hg)
  have HI := Lib.hid hI
  have HT := Lib.hid hT
  generalize hX : grt n z (min n 6) = X
  have HX := Lib.hid hX
  clear hI hT hX
  go_enter Tryd.func43, Tryd.ntmps43
  go_wp2_with fail
  go_at_call 68
  refine (HN.out).mono ?_
  rintro e w1 ⟨rfl, hb1⟩
  have HB1 := Lib.hid hb1
  clear hb1
  go_wp2_with fail
  go_at_call 76
  refine (greatest_any cap (HI.out.below HB1.out) hz (HT.out.below HB1.out) hg).mono ?_
  rintro e w2 ⟨rfl, hb2⟩
  have HB2 := Lib.hid (HB1.out.trans (hb2.mono HB1.out.size))
  clear hb2
  rw [HX.out]
  go_wp2_with fail
  go_ret2
  exact ⟨rfl, HB2.out⟩
set_option maxRecDepth 20000 in
set_option maxHeartbeats 1000000 in
theorem Greatest_no {n : Nat} {z : Nat → Int} {a : Option Addr} (cap : Nat) {w : World} (hI : IntsAt w a n z) (hz : InI64 z) (hT : Tab w) (hg : graphB n 8 z = false) :
    Calls Tryd.prog 43 #[.slice a n cap] w fun e w' => e = .returned (.tuple #[.int .i64 0, .int .i64 2]) ∧ Below w.heap.size w w' := by
  have HN := Lib.hid (newTown_no cap hI hz hT hg)
  clear hI hT
  go_enter Tryd.func43, Tryd.ntmps43
  go_wp2_with fail
  go_at_call 68
  refine (HN.out).mono ?_
  rintro e w1 ⟨rfl, hb1⟩
  go_wp2_with fail
  go_ret2
  exact ⟨rfl, hb1⟩

set_option maxRecDepth 20000 in
set_option maxHeartbeats 1000000 in
theorem hasL_any {n q : Nat} {z y : Nat → Int} {v : Value} {b : Option Addr} (cb : Nat) {w : World} (hA : SliceArg w v n z) (hJ : IntsAt w b q y) (hz : InI64 z) (hy : InI64 y) (hT : Tab w) (hg : graphB n 8 z = true) (hp : graphB q 6 y = true) :
    Calls Tryd.prog 52 #[v, .slice b q cb] w fun e w' => e = .returned (.tuple #[.bool (modG n q z y).isSome, .bool true]) ∧ Below w.heap.size w w' := by
  obtain ⟨a, cap, rfl, _⟩ := hA.ints
  have hn8 := graphB_le hg
  have HMN : Hid (min n 12 = n) := Lib.hid (by omega)
  have HA := Lib.hid hA
  have HJ := Lib.hid hJ
  have HZ := Lib.hid hz
  have HY := Lib.hid hy
  have HT := Lib.hid hT
  have HG := Lib.hid hg
  have HP := Lib.hid hp
  clear hA hJ hz hy hT hg hp hn8
  go_enter Tryd.func52, Tryd.ntmps52
  go_wp2_with fail
  go_at_call 16
  refine (Few_any n z _ _ HA.out).mono ?_
  rintro e w1 ⟨a1, c1, rfl, hi1, hb1⟩
  rw [HMN.out] at hi1
  rw [HMN.out]
  have HI1 := Lib.hid hi1
  have HB1 := Lib.hid hb1
  clear hi1 hb1
  have HMY := Lib.hid (Model_yes c1 cb HI1.out (HJ.out.below HB1.out) HZ.out HY.out (HT.out.below HB1.out) HG.out HP.out)
  cases hres : modG n q z y with
  | none =>
    rw [hres] at HMY
    have HRES := Lib.hid hres
    clear hres
    go_wp2_with fail
    go_at_call 15
    refine (HMY.out).mono ?_
    rintro e w2 ⟨v2, rfl, ho, hb2⟩
    clear ho
    have HB2 := Lib.hid (HB1.out.trans (hb2.mono HB1.out.size))
    clear hb2
    go_wp2_with fail
    go_ret2
    exact ⟨by rw [HRES.out]; rfl, HB2.out⟩
  | some L =>
    rw [hres] at HMY
    have HRES := Lib.hid hres
    clear hres
    go_wp2_with fail
    go_at_call 15
    refine (HMY.out).mono ?_
    rintro e w2 ⟨v2, rfl, ho, hb2⟩
    clear ho
    have HB2 := Lib.hid (HB1.out.trans (hb2.mono HB1.out.size))
    clear hb2
    go_wp2_with fail
    go_ret2
    exact ⟨by rw [HRES.out]; rfl, HB2.out⟩

end Go.Proofs.YtfmppncefbjicaaDoor

namespace Go.Proofs.YtfmppncefbjicaaDoor
set_option linter.unusedSimpArgs false
set_option linter.unusedVariables false
open Go.RowKit Go.Maps
attribute [local go_sem] i64_bit toNat_eq_one toNat_ne_one toNat_eq_zero toNat_ne_zero i64_and i64_or i64_andNot i64_or_pow i64_andNot_pow

theorem graph_lt {n most : Nat} {z : Nat → Int} (hg : graphB n most z = true) : ∀ i, i < n → natG z i < 2 ^ n := fun i hi => by
  have := (graphB_le hg).2.2 i hi
  rw [pow_cast n] at this
  show (z i).toNat < 2 ^ n
  omega
/-- One node is a minor of any graph. -/
theorem one_found {n : Nat} {z : Nat → Int} (hg : graphB n 8 z = true) : (modG n 1 z (kz 1)).isSome = true := by
  obtain ⟨h1, h8, _⟩ := graphB_le hg
  rw [mod_ref hg (kz_graph 1 (by omega) (by omega))]
  have h := refM_found (q := 1) (pr := natG (kz 1)) (B := fun _ => 1) ⟨fun i hi => Nat.one_lt_two_pow (by omega), fun i hi => ⟨0, by decide⟩, fun i j x hi hj _ _ => by omega, fun i x y hi hx hy => by
    have : x = y := by
      have h0 : ∀ x, (1 : Nat).testBit x = true → x = 0 := fun x hx => by
        have := Nat.testBit_two_pow (n := 0) (m := x)
        rw [Nat.pow_zero, hx] at this
        exact (of_decide_eq_true this.symm).symm
      rw [h0 x hx, h0 y hy]
    subst this
    exact Rch.refl, fun i j hi hj hp => by
    rw [show i = 0 by omega, show j = 0 by omega] at hp
    exact absurd hp (by decide)⟩ h8 (graph_lt hg)
  cases hr : refM n 1 (natG z) (natG (kz 1)) with
  | none => exact absurd hr h
  | some L => rfl
theorem grt_all {n : Nat} {z : Nat → Int} (hg : graphB n 8 z = true) : ∀ k, k ≤ 6 → 1 ≤ k → 1 ≤ grt n z k ∧ grt n z k ≤ k ∧ (modG n (grt n z k) z (kz (grt n z k))).isSome = true ∧ (grt n z k < k → (modG n (grt n z k + 1) z (kz (grt n z k + 1))).isSome = false) := by
  intro k
  induction k with
  | zero => intro _ h; omega
  | succ k ih =>
    intro h6 _
    by_cases h0 : k = 0
    · subst h0
      have e : grt n z 1 = 1 := by show (if 0 = 0 then 1 else _) = _; rw [if_pos rfl]
      rw [e]
      exact ⟨by omega, by omega, one_found hg, fun h => by omega⟩
    · have e : grt n z (k + 1) = if (modG n (k + 1) z (kz (k + 1))).isSome then k + 1 else grt n z k := by show (if k = 0 then 1 else _) = _; rw [if_neg h0]
      cases hm : (modG n (k + 1) z (kz (k + 1))).isSome
      · rw [hm] at e
        rw [e, if_neg (by simp)]
        obtain ⟨i1, i2, i3, i4⟩ := ih (by omega) (by omega)
        refine ⟨i1, by omega, i3, fun h => ?_⟩
        by_cases h2 : grt n z k < k
        · exact i4 h2
        · have : grt n z k = k := by omega
          rw [this]; exact hm
      · rw [hm, if_pos rfl] at e
        rw [e]
        exact ⟨by omega, by omega, hm, fun h => by omega⟩
theorem grt_is {n : Nat} {z : Nat → Int} (hg : graphB n 8 z = true) : ∃ g : Nat, grt n z (min n 6) = g ∧ 1 ≤ g ∧ g ≤ 6 ∧ g ≤ Wd.widthG n z + 1 ∧ (modG n g z (kz g)).isSome = true ∧ (g < 6 → (modG n (g + 1) z (kz (g + 1))).isSome = false) := by
  obtain ⟨h1, h8, _⟩ := graphB_le hg
  obtain ⟨i1, i2, i3, i4⟩ := grt_all hg (min n 6) (by omega) (by omega)
  refine ⟨_, rfl, i1, by omega, ?_, i3, fun h => ?_⟩
  · have hw := kz_width (grt n z (min n 6)) (by omega) i1
    unfold modG modL at i3
    rw [hw] at i3
    split at i3
    · cases i3
    · omega
  · by_cases h2 : grt n z (min n 6) < min n 6
    · exact i4 h2
    · unfold modG modL
      rw [if_pos (Or.inl (by omega))]
      rfl

set_option maxRecDepth 200000 in
set_option maxHeartbeats 4000000 in
theorem MinorWidths_walk (n : Nat) (z : Nat → Int) (v : Value) (w : World) (hA : SliceArg w v n z) (hz : InI64 z) (hTab : HasTab w) :
    Calls Tryd.prog 13 #[v] w (LawTrue w) := by
  obtain ⟨a, cap, rfl, hI⟩ := hA.ints
  have HA := Lib.hid hA
  have HZ := Lib.hid hz
  have HT := Lib.hid (Tab.of hTab)
  clear hA hI hz hTab
  cases hg : graphB n 8 z
  · have HGM : Hid (graphB (min n 12) 8 z = false) := Lib.hid (by rw [graphB_few]; exact hg)
    clear hg
    go_enter Tryd.func13, Tryd.ntmps13
    go_wp2_with fail
    go_at_call 16
    refine (Few_any n z _ _ HA.out).mono ?_
    rintro e w1 ⟨a1, c1, rfl, hi1, hb1⟩
    have HI1 := Lib.hid hi1
    have HB1 := Lib.hid hb1
    clear hi1 hb1
    go_wp2_with fail
    go_at_call 43
    refine (Greatest_no _ HI1.out HZ.out (HT.out.below HB1.out) HGM.out).mono ?_
    rintro e w2 ⟨rfl, hb2⟩
    have HB2 := Lib.hid (HB1.out.trans (hb2.mono HB1.out.size))
    clear hb2
    go_wp2_with fail
    go_at_call 21
    refine (awake_any _ (HT.out.below HB2.out)).mono ?_
    rintro e w3 ⟨rfl, hb3⟩
    have HB3 := Lib.hid (HB2.out.trans (hb3.mono HB2.out.size))
    clear hb3
    go_wp2_with fail
    go_ret
    exact ⟨rfl, HB3.out⟩
  · have hn8 := graphB_le hg
    have HMN : Hid (min n 12 = n) := Lib.hid (by omega)
    have HG := Lib.hid hg
    obtain ⟨g, hgr, hg1, hg6, hgw, hgy, hgn⟩ := grt_is hg
    have HGR := Lib.hid hgr
    have HGY := Lib.hid hgy
    have HGN := Lib.hid hgn
    have HNI : Hid (∀ i, i < 7 → InI64 (kz i)) := Lib.hid fun i hi => kz_i64 i hi
    have hkk := k_same g (by omega)
    have HKK := Lib.hid hkk
    clear hg hn8 hgr hgy hgn hkk
    obtain ⟨W, hW⟩ : ∃ W, W = Wd.widthG n z := ⟨_, rfl⟩
    have HW := Lib.hid hW
    rw [← hW] at hgw
    clear hW
    have d1 : decide ((g : Int) > (W : Int) + 1) = false := decide_eq_false (by omega)
    have d2 : decide ((W : Int) + 1 < (g : Int)) = false := decide_eq_false (by omega)
    have d3 : decide ((g : Int) < 1) = false := decide_eq_false (by omega)
    have d4 : decide (g < 1) = false := decide_eq_false (by omega)
    have d5 : decide ((g : Int) > 6) = false := decide_eq_false (by omega)
    have d6 : decide ((6 : Int) < (g : Int)) = false := decide_eq_false (by omega)
    have d7 : decide (6 < g) = false := decide_eq_false (by omega)
    have d8 : decide (W + 1 < g) = false := decide_eq_false (by omega)
    have hWb : W ≤ 8 := by rw [HW.out]; exact Nat.le_trans (rst_le (Nat.two_pow_pos _)) (graphB_le HG.out).2.1
    go_enter Tryd.func13, Tryd.ntmps13
    go_wp2_with fail
    go_at_call 16
    refine (Few_any n z _ _ HA.out).mono ?_
    rintro e w1 ⟨a1, c1, rfl, hi1, hb1⟩
    rw [HMN.out] at hi1
    rw [HMN.out]
    have HI1 := Lib.hid hi1
    have HB1 := Lib.hid hb1
    clear hi1 hb1
    go_wp2_with fail
    go_at_call 43
    refine (Greatest_yes _ HI1.out HZ.out (HT.out.below HB1.out) HG.out).mono ?_
    rintro e w2 ⟨rfl, hb2⟩
    rw [HGR.out]
    have HB2 := Lib.hid (HB1.out.trans (hb2.mono HB1.out.size))
    clear hb2
    go_wp2_with fail
    go_at_call 16
    refine (Few_any n z _ _ (HA.out.below HB2.out)).mono ?_
    rintro e w3 ⟨a3, c3, rfl, hi3, hb3⟩
    rw [HMN.out] at hi3
    rw [HMN.out]
    have HI3 := Lib.hid hi3
    clear hi3
    have HB3 := Lib.hid (HB2.out.trans (hb3.mono HB2.out.size))
    clear hb3
    go_wp2_with fail
    go_at_call 53
    refine (Wd.Width_yes _ HI3.out HZ.out (graph_nine HG.out)).mono ?_
    rintro e w4 ⟨rfl, hb4⟩
    rw [← HW.out]
    have HB4 := Lib.hid (HB3.out.trans (hb4.mono HB3.out.size))
    clear hb4
    go_wp2_with fail
    go_at_call 30
    refine (KR_any hg1 hg6 _).mono ?_
    rintro e w5 ⟨g5, rfl, hr5, _, hb5⟩
    rw [HKK.out] at hr5
    have HK5 := Lib.hid (row_ints hr5 (show (cmpL g g).length = g by simp [cmpL]) (by omega))
    clear hr5
    have HB5 := Lib.hid (HB4.out.trans (hb5.mono HB4.out.size))
    clear hb5
    go_wp2_with fail
    go_at_call 52
    refine (hasL_any g (HA.out.below HB5.out) HK5.out HZ.out (HNI.out g (by omega)) (HT.out.below HB5.out) HG.out (kz_graph g (by omega) hg1)).mono ?_
    rintro e w6 ⟨rfl, hb6⟩
    rw [show (modG n g z (natL (cmpL g g))).isSome = true from HGY.out]
    have HB6 := Lib.hid (HB5.out.trans (hb6.mono HB5.out.size))
    clear hb6
    by_cases h6 : g = 6
    · have e6 : ((g : Int) == 6) = true := by rw [h6]; rfl
      go_wp2_with fail
      go_at_call 21
      refine (awake_any _ (HT.out.below HB6.out)).mono ?_
      rintro e w7 ⟨rfl, hb7⟩
      have HB7 := Lib.hid (HB6.out.trans (hb7.mono HB6.out.size))
      clear hb7
      go_wp2_with fail
      go_ret
      exact ⟨rfl, HB7.out⟩
    · have e6 : ((g : Int) == 6) = false := by rw [beq_eq_false_iff_ne]; omega
      have HKR : Hid (∀ w', Calls Tryd.prog 30 #[.int .i64 ((g : Int) + 1)] w' (MadePost w' (g + 1) (kAll (g + 1) (g + 1)))) := Lib.hid fun w' => KR_any (n := g + 1) (by omega) (by omega) w'
      go_wp2_with fail
      go_at_call 30
      refine (HKR.out _).mono ?_
      rintro e w7 ⟨g7, rfl, hr7, _, hb7⟩
      rw [k_same (g + 1) (by omega)] at hr7
      have HK7 := Lib.hid (row_ints hr7 (show (cmpL (g + 1) (g + 1)).length = g + 1 by simp [cmpL]) (by omega))
      clear hr7
      have HB7 := Lib.hid (HB6.out.trans (hb7.mono HB6.out.size))
      clear hb7
      go_wp2_with fail
      go_at_call 52
      refine (hasL_any (g + 1) (HA.out.below HB7.out) HK7.out HZ.out (HNI.out (g + 1) (by omega)) (HT.out.below HB7.out) HG.out (kz_graph (g + 1) (by omega) (by omega))).mono ?_
      rintro e w8 ⟨rfl, hb8⟩
      rw [show (modG n (g + 1) z (natL (cmpL (g + 1) (g + 1)))).isSome = false from HGN.out (by omega)]
      have HB8 := Lib.hid (HB7.out.trans (hb8.mono HB7.out.size))
      clear hb8
      go_wp2_with fail
      go_at_call 21
      refine (awake_any _ (HT.out.below HB8.out)).mono ?_
      rintro e w9 ⟨rfl, hb9⟩
      have HB9 := Lib.hid (HB8.out.trans (hb9.mono HB8.out.size))
      clear hb9
      go_wp2_with fail
      go_ret
      exact ⟨rfl, HB9.out⟩

end Go.Proofs.YtfmppncefbjicaaDoor
