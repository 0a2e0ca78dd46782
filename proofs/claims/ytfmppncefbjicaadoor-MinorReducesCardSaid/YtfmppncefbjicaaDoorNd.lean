/- Package minor: the contract of Greatest; the law's has. -/
import Derived.Test.YtfmppncefbjicaaDoorNa
namespace Go.Proofs.YtfmppncefbjicaaDoor
set_option linter.unusedSimpArgs false
set_option linter.unusedVariables false
open Go.RowKit Go.Maps
attribute [local go_sem] i64_bit toNat_eq_one toNat_ne_one toNat_eq_zero toNat_ne_zero i64_and i64_or i64_andNot i64_or_pow i64_andNot_pow

/-- The graph of k nodes that are all neighbours of each other. -/
def kz (k : Nat) : Nat → Int := natL (cmpL k k)
theorem kz_graph : ∀ k, k < 7 → 1 ≤ k → graphB k 6 (kz k) = true := by decide +kernel
theorem kz_width : ∀ k, k < 7 → 1 ≤ k → Wd.widthG k (kz k) = k - 1 := by decide +kernel
theorem kz_i64 (k : Nat) (h : k < 7) : InI64 (kz k) := fun i => by
  have h1 : ∀ k, k < 7 → ∀ x ∈ cmpL k k, x < 128 := by decide +kernel
  unfold kz natL
  by_cases hi : i < (cmpL k k).length
  · have := h1 k h _ (List.getElem_mem hi)
    rw [List.getD_eq_getElem?_getD, List.getElem?_eq_getElem hi]
    simp only [Option.getD_some]
    omega
  · rw [List.getD_eq_getElem?_getD, List.getElem?_eq_none (by omega)]
    simp
/-- The greatest number, from k down, of such a graph that is a minor. -/
def grt (n : Nat) (z : Nat → Int) : Nat → Nat
  | 0 => 1
  | k + 1 => if k = 0 then 1 else if (modG n (k + 1) z (kz (k + 1))).isSome then k + 1 else grt n z k

set_option maxRecDepth 20000 in
set_option maxHeartbeats 2000000 in
theorem greatest_any {n : Nat} {z : Nat → Int} {a : Option Addr} (cap : Nat) {w : World} (hI : IntsAt w a n z) (hz : InI64 z) (hT : Tab w) (hg : graphB n 8 z = true) :
    Calls Tryd.prog 76 #[.slice a n cap] w fun e w' => e = .returned (.int .i64 (grt n z (min n 6) : Nat)) ∧ Below w.heap.size w w' := by
  have hn := graphB_le hg
  have HI := Lib.hid hI
  have HZ := Lib.hid hz
  have HT := Lib.hid hT
  have HG := Lib.hid hg
  have HS : Hid (∀ k, 1 < k → grt n z k = if (modG n k z (kz k)).isSome then k else grt n z (k - 1)) := Lib.hid fun k hk => by
    obtain ⟨j, rfl⟩ : ∃ j, k = j + 1 := ⟨k - 1, by omega⟩
    show (if j = 0 then 1 else _) = _
    rw [if_neg (by omega)]; rfl
  have H1 : Hid (∀ k, k ≤ 1 → grt n z k = 1) := Lib.hid fun k hk => by
    rcases (show k = 0 ∨ k = 1 by omega) with rfl | rfl
    · rfl
    · show (if 0 = 0 then 1 else _) = _
      rw [if_pos rfl]
  obtain ⟨X, hX⟩ : ∃ X, X = grt n z (min n 6) := ⟨_, rfl⟩
  rw [← hX]
  have HX := Lib.hid hX
  clear hI hz hT hg hX
  have hmin : min (n : Int) 6 = ((min n 6 : Nat) : Int) := by omega
  have hm1 : 1 ≤ min n 6 ∧ min n 6 ≤ 6 ∧ min n 6 ≤ n := by omega
  generalize min n 6 = M at *
  go_enter Tryd.func76, Tryd.ntmps76
  go_wp2_with fail
  case inl h =>
    have hM6 : (6 : Int) = ((M : Nat) : Int) := by omega
    rw [hM6]
    clear h hM6 hmin hn
    go_loopw [3, 4, 5] (fun k _ _ wr => ∃ j : Nat, k = .int .i64 j ∧ j ≤ M ∧ X = grt n z j ∧ Below w.heap.size w wr) (fun k _ _ _ => (intOf k).toNat)
    case atStart => exact ⟨M, rfl, Nat.le_refl _, HX.out, Below.refl _ _⟩
    case round =>
      obtain ⟨j, rfl, hj, hx, hb⟩ := hrel
      have HB := Lib.hid hb
      have HXJ := Lib.hid hx
      clear hb hx HX
      by_cases hlt : 1 < j
      · have hj6 : j ≤ 6 := by omega
        have d1 : decide ((j : Int) > 1) = true := decide_eq_true (by omega)
        have d2 : decide ((1 : Int) < (j : Int)) = true := decide_eq_true (by omega)
        have d3 : decide (1 < j) = true := decide_eq_true hlt
        have HST := Lib.hid (HS.out j hlt)
        have hj1 : (j : Int) - 1 = ((j - 1 : Nat) : Int) := by omega
        have HJ1 := Lib.hid hj1
        clear hj1
        go_wp2_with fail
        go_at_call 65
        refine (complete_any (by omega) hj6 _).mono ?_
        rintro e w1 ⟨g, rfl, hr, _, hb1⟩
        have HB1 := Lib.hid (HB.out.trans (hb1.mono HB.out.size))
        clear hb1
        have HK := Lib.hid (row_ints hr (show (cmpL j j).length = j by simp [cmpL]) (by omega))
        clear hr
        have hkg := kz_graph j (by omega) (by omega)
        have HI1 := Lib.hid (HI.out.below HB1.out)
        have HMO := Lib.hid (model_any (wt := Wd.widthG n z) (wp := Wd.widthG j (kz j)) (Tn.of_graph HI1.out HG.out) (Tn.of_graph HK.out (graph_eight hkg)) cap j (HT.out.below HB1.out) (by omega) (fun w' hw => minorWidth_any cap (HI1.out.below hw) HZ.out (graph_nine HG.out)) (fun w' hw => minorWidth_any j (HK.out.below hw) (kz_i64 j (by omega)) (graph_nine (graph_eight hkg))))
        rw [show modL n j (natG z) (natG (natL (cmpL j j))) (Wd.widthG n z) (Wd.widthG j (kz j)) = modG n j z (kz j) from rfl] at HMO
        clear hkg
        cases hres : (modG n j z (kz j)).isSome
        · rw [hres] at HST HMO
          have HXN := Lib.hid (HXJ.out.trans HST.out)
          clear hres HXJ
          go_wp2_with fail
          go_at_call 59
          refine (HMO.out).mono ?_
          rintro e w2 ⟨v, rfl, ho, hb2⟩
          clear ho
          have HB2 := Lib.hid (HB1.out.trans (hb2.mono HB1.out.size))
          clear hb2
          go_wp2_with fail
          rw [HJ1.out]
          go_roundw
          case rel => exact ⟨j - 1, rfl, by omega, HXN.out, HB2.out⟩
          case measure => simp [intOf]; omega
        · rw [hres] at HST HMO
          have HXN := Lib.hid (HXJ.out.trans HST.out)
          clear hres HXJ
          go_wp2_with fail
          go_at_call 59
          refine (HMO.out).mono ?_
          rintro e w2 ⟨v, rfl, ho, hb2⟩
          clear ho
          have HB2 := Lib.hid (HB1.out.trans (hb2.mono HB1.out.size))
          clear hb2
          go_wp2_with fail
          go_ret
          exact ⟨by rw [HXN.out]; rfl, HB2.out⟩
      · have d1 : decide ((j : Int) > 1) = false := decide_eq_false (by omega)
        have d2 : decide ((1 : Int) < (j : Int)) = false := decide_eq_false (by omega)
        have d3 : decide (1 < j) = false := decide_eq_false hlt
        have HXN := Lib.hid (HXJ.out.trans (H1.out j (by omega)))
        go_wp2_with fail
        go_ret
        exact ⟨by rw [HXN.out]; rfl, HB.out⟩
  case inr h =>
    have hMn : (n : Int) = ((M : Nat) : Int) := by omega
    rw [hMn]
    clear h hMn hmin hn
    go_loopw [3, 4, 5] (fun k _ _ wr => ∃ j : Nat, k = .int .i64 j ∧ j ≤ M ∧ X = grt n z j ∧ Below w.heap.size w wr) (fun k _ _ _ => (intOf k).toNat)
    case atStart => exact ⟨M, rfl, Nat.le_refl _, HX.out, Below.refl _ _⟩
    case round =>
      obtain ⟨j, rfl, hj, hx, hb⟩ := hrel
      have HB := Lib.hid hb
      have HXJ := Lib.hid hx
      clear hb hx HX
      by_cases hlt : 1 < j
      · have hj6 : j ≤ 6 := by omega
        have d1 : decide ((j : Int) > 1) = true := decide_eq_true (by omega)
        have d2 : decide ((1 : Int) < (j : Int)) = true := decide_eq_true (by omega)
        have d3 : decide (1 < j) = true := decide_eq_true hlt
        have HST := Lib.hid (HS.out j hlt)
        have hj1 : (j : Int) - 1 = ((j - 1 : Nat) : Int) := by omega
        have HJ1 := Lib.hid hj1
        clear hj1
        go_wp2_with fail
        go_at_call 65
        refine (complete_any (by omega) hj6 _).mono ?_
        rintro e w1 ⟨g, rfl, hr, _, hb1⟩
        have HB1 := Lib.hid (HB.out.trans (hb1.mono HB.out.size))
        clear hb1
        have HK := Lib.hid (row_ints hr (show (cmpL j j).length = j by simp [cmpL]) (by omega))
        clear hr
        have hkg := kz_graph j (by omega) (by omega)
        have HI1 := Lib.hid (HI.out.below HB1.out)
        have HMO := Lib.hid (model_any (wt := Wd.widthG n z) (wp := Wd.widthG j (kz j)) (Tn.of_graph HI1.out HG.out) (Tn.of_graph HK.out (graph_eight hkg)) cap j (HT.out.below HB1.out) (by omega) (fun w' hw => minorWidth_any cap (HI1.out.below hw) HZ.out (graph_nine HG.out)) (fun w' hw => minorWidth_any j (HK.out.below hw) (kz_i64 j (by omega)) (graph_nine (graph_eight hkg))))
        rw [show modL n j (natG z) (natG (natL (cmpL j j))) (Wd.widthG n z) (Wd.widthG j (kz j)) = modG n j z (kz j) from rfl] at HMO
        clear hkg
        cases hres : (modG n j z (kz j)).isSome
        · rw [hres] at HST HMO
          have HXN := Lib.hid (HXJ.out.trans HST.out)
          clear hres HXJ
          go_wp2_with fail
          go_at_call 59
          refine (HMO.out).mono ?_
          rintro e w2 ⟨v, rfl, ho, hb2⟩
          clear ho
          have HB2 := Lib.hid (HB1.out.trans (hb2.mono HB1.out.size))
          clear hb2
          go_wp2_with fail
          rw [HJ1.out]
          go_roundw
          case rel => exact ⟨j - 1, rfl, by omega, HXN.out, HB2.out⟩
          case measure => simp [intOf]; omega
        · rw [hres] at HST HMO
          have HXN := Lib.hid (HXJ.out.trans HST.out)
          clear hres HXJ
          go_wp2_with fail
          go_at_call 59
          refine (HMO.out).mono ?_
          rintro e w2 ⟨v, rfl, ho, hb2⟩
          clear ho
          have HB2 := Lib.hid (HB1.out.trans (hb2.mono HB1.out.size))
          clear hb2
          go_wp2_with fail
          go_ret
          exact ⟨by rw [HXN.out]; rfl, HB2.out⟩
      · have d1 : decide ((j : Int) > 1) = false := decide_eq_false (by omega)
        have d2 : decide ((1 : Int) < (j : Int)) = false := decide_eq_false (by omega)
        have d3 : decide (1 < j) = false := decide_eq_false hlt
        have HXN := Lib.hid (HXJ.out.trans (H1.out j (by omega)))
        go_wp2_with fail
        go_ret
        exact ⟨by rw [HXN.out]; rfl, HB.out⟩

set_option maxRecDepth 20000 in
set_option maxHeartbeats 1000000 in
theorem Greatest_yes {n : Nat} {z : Nat → Int} {a : Option Addr} (cap : Nat) {w : World} (hI : IntsAt w a n z) (hz : InI64 z) (hT : Tab w) (hg : graphB n 8 z = true) :
    Calls Tryd.prog 43 #[.slice a n cap] w fun e w' => e = .returned (.tuple #[.int .i64 (grt n z (min n 6) : Nat), .int .i64 0]) ∧ Below w.heap.size w w' := by
  have HN := Lib.hid (newTown_yes cap hI hz hT hg)
  have HI := Lib.hid hI
  have HT := Lib.hid hT
  generalize hX : grt n z (min n 6) = X
  have HX := Lib.hid hX
  clear hI hT hX
  go_enter Tryd.func43, Tryd.ntmps43
  go_wp2_with fail
  go_at_call 68
  refine (HN.out).mono ?_
  rintro e w1 ⟨rfl, hb1⟩
  have HB1 := Lib.hid hb1
  clear hb1
  go_wp2_with fail
  go_at_call 76
  refine (greatest_any cap (HI.out.below HB1.out) hz (HT.out.below HB1.out) hg).mono ?_
  rintro e w2 ⟨rfl, hb2⟩
  have HB2 := Lib.hid (HB1.out.trans (hb2.mono HB1.out.size))
  clear hb2
  rw [HX.out]
  go_wp2_with fail
  go_ret2
  exact ⟨rfl, HB2.out⟩
set_option maxRecDepth 20000 in
set_option maxHeartbeats 1000000 in
theorem Greatest_no {n : Nat} {z : Nat → Int} {a : Option Addr} (cap : Nat) {w : World} (hI : IntsAt w a n z) (hz : InI64 z) (hT : Tab w) (hg : graphB n 8 z = false) :
    Calls Tryd.prog 43 #[.slice a n cap] w fun e w' => e = .returned (.tuple #[.int .i64 0, .int .i64 2]) ∧ Below w.heap.size w w' := by
  have HN := Lib.hid (newTown_no cap hI hz hT hg)
  clear hI hT
  go_enter Tryd.func43, Tryd.ntmps43
  go_wp2_with fail
  go_at_call 68
  refine (HN.out).mono ?_
  rintro e w1 ⟨rfl, hb1⟩
  go_wp2_with fail
  go_ret2
  exact ⟨rfl, hb1⟩

set_option maxRecDepth 20000 in
set_option maxHeartbeats 1000000 in
theorem hasL_any {n q : Nat} {z y : Nat → Int} {v : Value} {b : Option Addr} (cb : Nat) {w : World} (hA : SliceArg w v n z) (hJ : IntsAt w b q y) (hz : InI64 z) (hy : InI64 y) (hT : Tab w) (hg : graphB n 8 z = true) (hp : graphB q 6 y = true) :
    Calls Tryd.prog 52 #[v, .slice b q cb] w fun e w' => e = .returned (.tuple #[.bool (modG n q z y).isSome, .bool true]) ∧ Below w.heap.size w w' := by
  obtain ⟨a, cap, rfl, _⟩ := hA.ints
  have hn8 := graphB_le hg
  have HMN : Hid (min n 12 = n) := Lib.hid (by omega)
  have HA := Lib.hid hA
  have HJ := Lib.hid hJ
  have HZ := Lib.hid hz
  have HY := Lib.hid hy
  have HT := Lib.hid hT
  have HG := Lib.hid hg
  have HP := Lib.hid hp
  clear hA hJ hz hy hT hg hp hn8
  go_enter Tryd.func52, Tryd.ntmps52
  go_wp2_with fail
  go_at_call 16
  refine (Few_any n z _ _ HA.out).mono ?_
  rintro e w1 ⟨a1, c1, rfl, hi1, hb1⟩
  rw [HMN.out] at hi1
  rw [HMN.out]
  have HI1 := Lib.hid hi1
  have HB1 := Lib.hid hb1
  clear hi1 hb1
  have HMY := Lib.hid (Model_yes c1 cb HI1.out (HJ.out.below HB1.out) HZ.out HY.out (HT.out.below HB1.out) HG.out HP.out)
  cases hres : modG n q z y with
  | none =>
    rw [hres] at HMY
    have HRES := Lib.hid hres
    clear hres
    go_wp2_with fail
    go_at_call 15
    refine (HMY.out).mono ?_
    rintro e w2 ⟨v2, rfl, ho, hb2⟩
    clear ho
    have HB2 := Lib.hid (HB1.out.trans (hb2.mono HB1.out.size))
    clear hb2
    go_wp2_with fail
    go_ret2
    exact ⟨by rw [HRES.out]; rfl, HB2.out⟩
  | some L =>
    rw [hres] at HMY
    have HRES := Lib.hid hres
    clear hres
    go_wp2_with fail
    go_at_call 15
    refine (HMY.out).mono ?_
    rintro e w2 ⟨v2, rfl, ho, hb2⟩
    clear ho
    have HB2 := Lib.hid (HB1.out.trans (hb2.mono HB1.out.size))
    clear hb2
    go_wp2_with fail
    go_ret2
    exact ⟨by rw [HRES.out]; rfl, HB2.out⟩

end Go.Proofs.YtfmppncefbjicaaDoor
