/- Package minor: the reference's Outer, Apex, Greatest; the walk of MinorGreatest. Package minor: isOrder, isOuterOrder, CheckOuter; the reference's IsOrder, IsOuter. -/
import Derived.Test.YtfmppncefbjicaaDoorNn
import Derived.Test.YtfmppncefbjicaaDoorNe
namespace Go.Proofs.YtfmppncefbjicaaDoor
set_option linter.unusedSimpArgs false
set_option linter.unusedVariables false
open Go.RowKit Go.Maps
attribute [local go_sem] i64_bit toNat_eq_one toNat_ne_one toNat_eq_zero toNat_ne_zero i64_and i64_or i64_andNot i64_or_pow i64_andNot_pow

set_option maxRecDepth 20000 in
set_option maxHeartbeats 1000000 in
theorem OuterR_any {n : Nat} {z : Nat → Int} {a : Option Addr} {w : World} (T : Tn w a n (natG z)) (cap : Nat) :
    Calls Tryd.prog 41 #[.slice a n cap] w (RefModel w (outG n z)) := by
  have hrec := outer_rec T cap n [] (by simp) (fun i hi => by simp at hi) w none 0 (fun _ => ⟨rfl, rfl⟩) (Nat.le_refl _) (ints_nil w) (Below.refl _ _)
  rw [show outR n (natG z) n [] = outG n z from rfl] at hrec
  have HREC := Lib.hid (show Calls Tryd.prog 74 #[.slice a n cap, .slice none 0 0] w (RefPost w (outG n z)) from hrec)
  clear T hrec
  cases ho : outG n z with
  | none =>
    rw [ho] at HREC
    clear ho
    go_enter Tryd.func41, Tryd.ntmps41
    go_wp2_with fail
    go_at_call 74
    refine HREC.out.mono ?_
    rintro e w1 ⟨hb1, hp1⟩
    subst hp1
    have HB1 := Lib.hid hb1
    clear hb1
    go_wp2_with fail
    go_ret2
    exact ⟨HB1.out, rfl⟩
  | some B =>
    rw [ho] at HREC
    clear ho
    go_enter Tryd.func41, Tryd.ntmps41
    go_wp2_with fail
    go_at_call 74
    refine HREC.out.mono ?_
    rintro e w1 ⟨hb1, x, c, rfl, hx⟩
    have HB1 := Lib.hid hb1
    have HX := Lib.hid hx
    clear hb1 hx
    go_wp2_with fail
    go_ret2
    exact ⟨HB1.out, x, c, rfl, HX.out⟩

set_option maxRecDepth 20000 in
set_option maxHeartbeats 2000000 in
theorem ApexR_any {n : Nat} {z : Nat → Int} {a : Option Addr} (cap : Nat) {w : World} (hI : IntsAt w a n z) (hg : graphB n 8 z = true) :
    Calls Tryd.prog 45 #[.slice a n cap] w fun e w' => e = .returned (.tuple #[.int .i64 ((apxL n z).getD 0 : Nat), .int .i64 (codA (apxL n z))]) ∧ Below w.heap.size w w' := by
  have hn := graphB_le hg
  have hml := hI.1
  unfold maxLen at hml
  have HI := Lib.hid hI
  have HG := Lib.hid hg
  clear hI hg
  by_cases h1 : n = 1
  · subst h1
    have HX : Hid (apxL 1 z = some 0) := Lib.hid (by unfold apxL; rw [if_pos rfl])
    generalize apxL 1 z = X at *
    go_enter Tryd.func45, Tryd.ntmps45
    go_wp2_with fail
    go_ret2
    rw [HX.out]
    exact ⟨rfl, Below.refl _ _⟩
  · have h2 : 2 ≤ n := by omega
    have hq : ((n : Int) == 1) = false := by rw [beq_eq_false_iff_ne]; omega
    have hq2 : (n == 1) = false := by rw [beq_eq_false_iff_ne]; omega
    have HX : Hid (apxL n z = (List.range n).find? (apxB n z)) := Lib.hid (by unfold apxL; rw [if_neg h1])
    obtain ⟨X, hX⟩ : ∃ X, X = apxL n z := ⟨_, rfl⟩
    rw [← hX] at HX ⊢
    clear hX h1
    go_enter Tryd.func45, Tryd.ntmps45
    go_wp2_with fail
    go_loopw [12] (fun ix wr => ∃ v : Nat, v ≤ n ∧ ix = .int .i64 v ∧ (∀ i, i < v → apxB n z i = false) ∧ Below w.heap.size w wr) (fun ix _ => n - (intOf ix).toNat)
    case atStart => exact ⟨0, Nat.zero_le _, rfl, fun i hi => by omega, Below.refl _ _⟩
    case round =>
      obtain ⟨v, hv, rfl, hno, hb⟩ := hrel
      have HNO := Lib.hid hno
      have HB := Lib.hid hb
      clear hno hb
      by_cases hlt : v < n
      · have hdi : decide ((v : Int) < (n : Int)) = true := decide_eq_true (by omega)
        have hdn : decide (v < n) = true := decide_eq_true hlt
        go_wp2_with fail
        go_at_call 49
        refine (DeleteR_any (HI.out.below HB.out) hlt (by omega) (graph_bd HG.out)).mono ?_
        rintro e w1 ⟨⟨u, rfl, hu⟩, hb1⟩
        obtain ⟨g, c, rfl, _, _⟩ := own_form' hu (by omega)
        have HB1 := Lib.hid (HB.out.trans (hb1.mono HB.out.size))
        have hdg := del_graph HG.out h2 hlt
        have HOO := Lib.hid (OuterR_any (Tn.of_graph (WoOwn.ints' hu (by omega)) hdg) c)
        clear hu hb1 hdg
        cases hap : outG (n - 1) (woZ z v) with
        | none =>
          rw [hap] at HOO
          have HNX := Lib.hid (show ∀ i, i < v + 1 → apxB n z i = false from fun i hi => by
            by_cases e : i = v
            · subst e; unfold apxB; rw [hap]; rfl
            · exact HNO.out i (by omega))
          clear hap
          go_wp2_with fail
          go_at_call 41
          refine HOO.out.mono ?_
          rintro e w2 ⟨hb2, hp2⟩
          subst hp2
          clear HOO
          have HB2 := Lib.hid (HB1.out.trans (hb2.mono HB1.out.size))
          clear hb2
          go_wp2_with fail
          go_roundw
          case rel => exact ⟨v + 1, by omega, by go_num, HNX.out, HB2.out⟩
          case measure => simp [intOf]; omega
        | some B =>
          rw [hap] at HOO
          have HXX := Lib.hid (HX.out.trans (find_first hlt (by unfold apxB; rw [hap]; rfl) HNO.out))
          clear hap
          go_wp2_with fail
          go_at_call 41
          refine HOO.out.mono ?_
          rintro e w2 ⟨hb2, x2, c2, rfl, hx2⟩
          clear HOO hx2
          have HB2 := Lib.hid (HB1.out.trans (hb2.mono HB1.out.size))
          clear hb2
          go_wp2_with fail
          go_ret2
          rw [HXX.out]
          exact ⟨rfl, HB2.out⟩
      · have hve : v = n := by omega
        have HXX := Lib.hid (HX.out.trans (find_not fun i hi => HNO.out i (by omega)))
        clear hve
        go_wp2_with fail
        go_ret2
        rw [HXX.out]
        exact ⟨rfl, HB.out⟩

/-- Smaller complete graphs are minors of greater ones. -/
theorem kz_sub : ∀ g, g < 7 → ∀ j, j ≤ g → ∀ i, i < j → ∀ u, u < j → (natG (kz j) i).testBit u = true → (natG (kz g) i).testBit u = true := by decide +kernel
theorem kz_less {n g j : Nat} {z : Nat → Int} (hg : graphB n 8 z = true) (h6 : g < 7) (h1 : 1 ≤ j) (hj : j ≤ g) (h : (modG n g z (kz g)).isSome = true) : (modG n j z (kz j)).isSome = true := by
  have hpg := kz_graph g h6 (by omega)
  have hpj := kz_graph j (by omega) h1
  rw [mod_ref hg hpg] at h
  rw [mod_ref hg hpj]
  cases h2 : refM n g (natG z) (natG (kz g)) with
  | none => rw [h2] at h; cases h
  | some L =>
    obtain ⟨_, M, _⟩ := refM_model h2 (graphB_le hg).2.1 (lt_graph hg) (g_sym hg) (g_sym hpg) (g_loop hpg)
    have M2 : ModelOf n j (natG z) (natG (kz j)) (fun i => L.getD i 0) := ⟨fun i hi => M.lt i (by omega), fun i hi => M.some_ i (by omega), fun i k x hi hk => M.apart i k x (by omega) (by omega), fun i x y hi => M.conn i x y (by omega), fun i k hi hk hp => M.edge i k (by omega) (by omega) (kz_sub g h6 j hj i hi k hk hp)⟩
    have h3 := refM_found M2 (graphB_le hg).2.1 (lt_graph hg)
    cases h4 : refM n j (natG z) (natG (kz j)) with
    | none => exact absurd h4 h3
    | some _ => rfl

set_option maxRecDepth 20000 in
set_option maxHeartbeats 2000000 in
theorem GreatestR_any {n : Nat} {z : Nat → Int} {a : Option Addr} (cap : Nat) {w : World} (hI : IntsAt w a n z) (hg : graphB n 8 z = true) :
    Calls Tryd.prog 46 #[.slice a n cap] w fun e w' => e = .returned (.int .i64 (grt n z (min n 6) : Nat)) ∧ Below w.heap.size w w' := by
  obtain ⟨g, hgr, hg1, hg6, _, hgy, hgn⟩ := grt_is hg
  rw [hgr]
  have HT := Lib.hid (Tn.of_graph hI hg)
  have HY : Hid (∀ j, 1 ≤ j → j ≤ g → (modG n j z (kz j)).isSome = true) := Lib.hid fun j h1 hj => kz_less hg (by omega) h1 hj hgy
  have HN := Lib.hid hgn
  have HG := Lib.hid hg
  clear hI hg hgr hgy hgn
  go_enter Tryd.func46, Tryd.ntmps46
  go_wp2_with fail
  go_loopw [3] (fun k wr => ∃ j : Nat, k = .int .i64 j ∧ 1 ≤ j ∧ j ≤ g ∧ Below w.heap.size w wr) (fun k _ => g - (intOf k).toNat)
  case atStart => exact ⟨1, rfl, by omega, hg1, Below.refl _ _⟩
  case round =>
    obtain ⟨j, rfl, hj1, hjg, hb⟩ := hrel
    have HB := Lib.hid hb
    clear hb
    by_cases hlt : j < 6
    · have dj : decide ((j : Int) < 6) = true := decide_eq_true (by omega)
      have dj2 : decide (j < 6) = true := decide_eq_true hlt
      have HKR : Hid (∀ w', Calls Tryd.prog 30 #[.int .i64 ((j : Int) + 1)] w' (MadePost w' (j + 1) (kAll (j + 1) (j + 1)))) := Lib.hid fun w' => KR_any (n := j + 1) (by omega) (by omega) w'
      go_wp2_with fail
      go_at_call 30
      refine (HKR.out _).mono ?_
      rintro e w1 ⟨g1, rfl, hr1, _, hb1⟩
      rw [k_same (j + 1) (by omega)] at hr1
      have hK1 := row_ints hr1 (show (cmpL (j + 1) (j + 1)).length = j + 1 by simp [cmpL]) (by omega)
      have HB1 := Lib.hid (HB.out.trans (hb1.mono HB.out.size))
      have hpk := kz_graph (j + 1) (by omega) (by omega)
      have hmr := mod_ref HG.out hpk
      have HMR := Lib.hid (ModelR_any (HT.out.below HB1.out) (Tn.of_graph hK1 (graph_eight hpk)) (by omega) cap (j + 1))
      rw [show refM n (j + 1) (natG z) (natG (natL (cmpL (j + 1) (j + 1)))) = modG n (j + 1) z (kz (j + 1)) from hmr.symm] at HMR
      clear hr1 hK1 hb1 hpk hmr
      by_cases hjl : j < g
      · have hy := HY.out (j + 1) (by omega) (by omega)
        cases hm : modG n (j + 1) z (kz (j + 1)) with
        | none => rw [hm] at hy; cases hy
        | some B =>
          rw [hm] at HMR
          clear hm hy
          go_wp2_with fail
          go_at_call 22
          refine HMR.out.mono ?_
          rintro e w2 ⟨hb2, x2, c2, rfl, hx2⟩
          clear HMR hx2
          have HB2 := Lib.hid (HB1.out.trans (hb2.mono HB1.out.size))
          clear hb2
          go_wp2_with fail
          go_roundw
          case rel => exact ⟨j + 1, by go_num, by omega, by omega, HB2.out⟩
          case measure => simp [intOf]; omega
      · have hje : j = g := by omega
        have hno := HN.out (by omega)
        cases hm : modG n (j + 1) z (kz (j + 1)) with
        | some B => rw [hje] at hm; rw [hm] at hno; cases hno
        | none =>
          rw [hm] at HMR
          clear hm hno
          have HJE := Lib.hid hje
          clear hje
          go_wp2_with fail
          go_at_call 22
          refine HMR.out.mono ?_
          rintro e w2 ⟨hb2, hp2⟩
          subst hp2
          clear HMR
          have HB2 := Lib.hid (HB1.out.trans (hb2.mono HB1.out.size))
          clear hb2
          go_wp2_with fail
          go_ret
          exact ⟨by rw [← HJE.out]; rfl, HB2.out⟩
    · have hje : j = g := by omega
      have dj : decide ((j : Int) < 6) = false := decide_eq_false (by omega)
      have dj2 : decide (j < 6) = false := decide_eq_false hlt
      have HJE := Lib.hid hje
      clear hje
      go_wp2_with fail
      go_ret
      exact ⟨by rw [← HJE.out]; rfl, HB.out⟩

set_option maxRecDepth 200000 in
set_option maxHeartbeats 4000000 in
theorem MinorGreatest_walk (n : Nat) (z : Nat → Int) (v : Value) (w : World) (hA : SliceArg w v n z) (hz : InI64 z) (hTab : HasTab w) :
    Calls Tryd.prog 7 #[v] w (LawTrue w) := by
  obtain ⟨a, cap, rfl, hI⟩ := hA.ints
  have HA := Lib.hid hA
  have HZ := Lib.hid hz
  have HI0 := Lib.hid hI
  have HT := Lib.hid (Tab.of hTab)
  clear hA hI hz hTab
  cases hg : graphB n 8 z
  · have HG := Lib.hid hg
    have HGM : Hid (graphB (min n 12) 8 z = false) := Lib.hid (by rw [graphB_few]; exact hg)
    clear hg
    go_enter Tryd.func7, Tryd.ntmps7
    go_wp2_with fail
    go_at_call 16
    refine (Few_any n z _ _ HA.out).mono ?_
    rintro e w1 ⟨a1, c1, rfl, hi1, hb1⟩
    have HI1 := Lib.hid hi1
    have HB1 := Lib.hid hb1
    clear hi1 hb1
    go_wp2_with fail
    go_at_call 43
    refine (Greatest_no _ HI1.out HZ.out (HT.out.below HB1.out) HGM.out).mono ?_
    rintro e w2 ⟨rfl, hb2⟩
    have HB2 := Lib.hid (HB1.out.trans (hb2.mono HB1.out.size))
    clear hb2
    go_wp2_with fail
    go_at_call 16
    refine (Few_any n z _ _ (HA.out.below HB2.out)).mono ?_
    rintro e w3 ⟨a3, c3, rfl, hi3, hb3⟩
    have HI3 := Lib.hid hi3
    clear hi3
    have HB3 := Lib.hid (HB2.out.trans (hb3.mono HB2.out.size))
    clear hb3
    go_wp2_with fail
    go_at_call 44
    refine (Apex_no _ HI3.out HZ.out (HT.out.below HB3.out) HGM.out).mono ?_
    rintro e w4 ⟨rfl, hb4⟩
    have HB4 := Lib.hid (HB3.out.trans (hb4.mono HB3.out.size))
    clear hb4
    go_wp2_with fail
    go_at_call 19
    refine (ValidR_any n z _ _ _ (HI0.out.below HB4.out) HZ.out).mono ?_
    rintro e w5 ⟨rfl, hb5⟩
    rw [HG.out]
    have HB5 := Lib.hid (HB4.out.trans (hb5.mono HB4.out.size))
    clear hb5
    go_wp2_with fail
    go_at_call 21
    refine (awake_any _ (HT.out.below HB5.out)).mono ?_
    rintro e w6 ⟨rfl, hb6⟩
    have HB6 := Lib.hid (HB5.out.trans (hb6.mono HB5.out.size))
    clear hb6
    go_wp2_with fail
    go_ret
    exact ⟨rfl, HB6.out⟩
  · have hn8 := graphB_le hg
    have HMN : Hid (min n 12 = n) := Lib.hid (by omega)
    have HG := Lib.hid hg
    obtain ⟨g, hgr⟩ : ∃ g, grt n z (min n 6) = g := ⟨_, rfl⟩
    have HGR := Lib.hid hgr
    clear hg hn8 hgr
    go_enter Tryd.func7, Tryd.ntmps7
    go_wp2_with fail
    go_at_call 16
    refine (Few_any n z _ _ HA.out).mono ?_
    rintro e w1 ⟨a1, c1, rfl, hi1, hb1⟩
    rw [HMN.out] at hi1
    rw [HMN.out]
    have HI1 := Lib.hid hi1
    have HB1 := Lib.hid hb1
    clear hi1 hb1
    go_wp2_with fail
    go_at_call 43
    refine (Greatest_yes _ HI1.out HZ.out (HT.out.below HB1.out) HG.out).mono ?_
    rintro e w2 ⟨rfl, hb2⟩
    rw [HGR.out]
    have HB2 := Lib.hid (HB1.out.trans (hb2.mono HB1.out.size))
    clear hb2
    go_wp2_with fail
    go_at_call 16
    refine (Few_any n z _ _ (HA.out.below HB2.out)).mono ?_
    rintro e w3 ⟨a3, c3, rfl, hi3, hb3⟩
    rw [HMN.out] at hi3
    rw [HMN.out]
    have HI3 := Lib.hid hi3
    clear hi3
    have HB3 := Lib.hid (HB2.out.trans (hb3.mono HB2.out.size))
    clear hb3
    go_wp2_with fail
    go_at_call 44
    refine (Apex_yes _ HI3.out HZ.out (HT.out.below HB3.out) HG.out).mono ?_
    rintro e w4 ⟨rfl, hb4⟩
    have HB4 := Lib.hid (HB3.out.trans (hb4.mono HB3.out.size))
    clear hb4
    go_wp2_with fail
    go_at_call 19
    refine (ValidR_any n z _ _ _ (HI0.out.below HB4.out) HZ.out).mono ?_
    rintro e w5 ⟨rfl, hb5⟩
    rw [HG.out]
    have HB5 := Lib.hid (HB4.out.trans (hb5.mono HB4.out.size))
    clear hb5
    go_wp2_with fail
    go_at_call 45
    refine (ApexR_any cap (HI0.out.below HB5.out) HG.out).mono ?_
    rintro e w6 ⟨rfl, hb6⟩
    have HB6 := Lib.hid (HB5.out.trans (hb6.mono HB5.out.size))
    clear hb6
    have hq1 : (((apxL n z).getD 0 : Nat) == ((apxL n z).getD 0 : Nat)) = true := by simp
    have hq2 : (codA (apxL n z) == codA (apxL n z)) = true := by simp
    generalize (apxL n z).getD 0 = av at *
    generalize codA (apxL n z) = ac at *
    go_wp2_with fail
    go_at_call 46
    refine (GreatestR_any cap (HI0.out.below HB6.out) HG.out).mono ?_
    rintro e w7 ⟨rfl, hb7⟩
    rw [HGR.out]
    have HB7 := Lib.hid (HB6.out.trans (hb7.mono HB6.out.size))
    clear hb7
    go_wp2_with fail
    go_at_call 21
    refine (awake_any _ (HT.out.below HB7.out)).mono ?_
    rintro e w8 ⟨rfl, hb8⟩
    have HB8 := Lib.hid (HB7.out.trans (hb8.mono HB7.out.size))
    clear hb8
    go_wp2_with fail
    go_ret
    exact ⟨rfl, HB8.out⟩

end Go.Proofs.YtfmppncefbjicaaDoor

namespace Go.Proofs.YtfmppncefbjicaaDoor
set_option linter.unusedSimpArgs false
set_option linter.unusedVariables false
open Go.RowKit Go.Maps
attribute [local go_sem] i64_bit toNat_eq_one toNat_ne_one toNat_eq_zero toNat_ne_zero i64_and i64_or i64_andNot i64_or_pow i64_andNot_pow

theorem lt16p {n s : Nat} (hn : n ≤ 9) (h : s < 2 ^ n) : s < 65536 := by
  have : 2 ^ n ≤ 2 ^ 9 := Nat.pow_le_pow_right (by omega) hn
  omega

set_option maxRecDepth 20000 in
set_option maxHeartbeats 2000000 in
theorem isOrder_any {n : Nat} (a : Option Addr) (cap : Nat) {m : Nat} {z : Nat → Int} {o : Option Addr} {w : World} (hn : n ≤ 9) (co : Nat) (hI : IntsAt w o m z) :
    Calls Tryd.prog 100 #[.slice a n cap, .slice o m co] w fun e w' => e = .returned (.bool (ordB n m z)) ∧ w = w' := by
  have hml := hI.1
  unfold maxLen at hml
  by_cases hmn : m = n
  · subst hmn
    have HI := Lib.hid hI
    clear hI
    go_enter Tryd.func100, Tryd.ntmps100
    go_wp2_with fail
    go_loopw [5, 15] (fun f i wr => ∃ k : Nat, k ≤ m ∧ i = .int .i64 k ∧ f = .int .i64 (metO z k : Nat) ∧ (∀ i, i < k → okO m z i = true) ∧ w = wr) (fun _ i _ => m - (intOf i).toNat)
    case atStart => exact ⟨0, Nat.zero_le _, rfl, rfl, by omega, rfl⟩
    case round =>
      obtain ⟨k, hk, rfl, rfl, hok, rfl⟩ := hrel
      have HOK := Lib.hid hok
      have hmet := lt16p hn (metO_lt k hok)
      have HST : Hid (metO z (k + 1) = metO z k ||| 2 ^ (z k).toNat) := Lib.hid rfl
      clear hok
      by_cases hlt : k < m
      · obtain ⟨b, off, rfl, hb, hc⟩ := HI.out.2 (by omega)
        have ck := hc k hlt
        clear hc
        by_cases hr : 0 ≤ z k ∧ z k < m
        · have hin := inB_true hr.1 hr.2
          obtain ⟨s, hs⟩ : ∃ s : Nat, z k = s := ⟨(z k).toNat, by omega⟩
          have hsm : s < m := by omega
          have hs64 : s < 64 := by omega
          have hs16 : s < 16 := by omega
          have hps := pow_bd s hs16
          rw [hs] at ck hin
          have HS := Lib.hid hs
          rw [hs, Int.toNat_natCast] at HST
          have HMB : Hid (okO m z k = (true && !(metO z k).testBit s)) := Lib.hid (by unfold okO; rw [hs, hin, Int.toNat_natCast])
          clear hr hs
          generalize metO z k = M at *
          cases hq : M.testBit s
          · have HQ := Lib.hid (show okO m z k = true by rw [HMB.out, hq]; rfl)
            go_wp2_with (first | (go_at_call 78; refine (isNode_any _ _ _ _ _ (by omega)).mono ?_; rintro e w1 ⟨rfl, rfl⟩; rw [hin]) | (go_at_call 92; refine (has_any _ _ _ hmet hs64).mono ?_; rintro e w2 ⟨rfl, rfl⟩; rw [hq]))
            go_roundw
            case rel => exact ⟨k + 1, by omega, by go_num, by rw [HST.out], fun i hi => by rcases Nat.lt_succ_iff_lt_or_eq.1 hi with h | h; exact HOK.out i h; rw [h]; exact HQ.out, by trivial⟩
            case measure => simp [intOf]; omega
          · have HQ := Lib.hid (show okO m z k = false by rw [HMB.out, hq]; rfl)
            go_wp2_with (first | (go_at_call 78; refine (isNode_any _ _ _ _ _ (by omega)).mono ?_; rintro e w1 ⟨rfl, rfl⟩; rw [hin]) | (go_at_call 92; refine (has_any _ _ _ hmet hs64).mono ?_; rintro e w2 ⟨rfl, rfl⟩; rw [hq]))
            go_ret
            exact ⟨by rw [ordB_bad hlt HQ.out]; rfl, rfl⟩
        · have hin := inB_false hr
          have HQ := Lib.hid (show okO m z k = false by unfold okO; rw [hin]; rfl)
          clear hr
          go_wp2_with (go_at_call 78; refine (isNode_any _ _ _ _ _ (by omega)).mono ?_; rintro e w1 ⟨rfl, rfl⟩; rw [hin])
          go_ret
          exact ⟨by rw [ordB_bad hlt HQ.out]; rfl, rfl⟩
      · have hke : k = m := by omega
        subst hke
        go_wp2_with fail
        go_ret
        exact ⟨by rw [ordB_good HOK.out]; rfl, rfl⟩
  · have hne : ((m : Int) != (n : Int)) = true := by simp; omega
    have HF := Lib.hid (ordB_len (z := z) hmn)
    clear hI hmn
    go_enter Tryd.func100, Tryd.ntmps100
    go_wp2_with fail
    go_ret
    exact ⟨by rw [HF.out]; rfl, rfl⟩

set_option maxRecDepth 20000 in
set_option maxHeartbeats 2000000 in
theorem IsOrderR_any {n m : Nat} {z : Nat → Int} {o : Option Addr} {w : World} (hn : n ≤ 9) (co : Nat) (hI : IntsAt w o m z) :
    Calls Tryd.prog 75 #[.slice o m co, .int .i64 n] w fun e w' => e = .returned (.bool (ordB n m z)) ∧ w = w' := by
  have hml := hI.1
  unfold maxLen at hml
  have HI := Lib.hid hI
  clear hI
  go_enter Tryd.func75, Tryd.ntmps75
  go_wp2_with fail
  go_loopw [5, 10] (fun f i wr => ∃ k : Nat, k ≤ m ∧ i = .int .i64 k ∧ f = .int .i64 (metO z k : Nat) ∧ (∀ i, i < k → okO n z i = true) ∧ w = wr) (fun _ i _ => m - (intOf i).toNat)
  case atStart => exact ⟨0, Nat.zero_le _, rfl, rfl, by omega, rfl⟩
  case round =>
    obtain ⟨k, hk, rfl, rfl, hok, rfl⟩ := hrel
    have HOK := Lib.hid hok
    have hmet := lt16p hn (metO_lt k hok)
    have HST : Hid (metO z (k + 1) = metO z k ||| 2 ^ (z k).toNat) := Lib.hid rfl
    clear hok
    by_cases hlt : k < m
    · obtain ⟨b, off, rfl, hb, hc⟩ := HI.out.2 (by omega)
      have ck := hc k hlt
      clear hc
      by_cases hr0 : 0 ≤ z k
      · by_cases hr1 : z k < n
        · have hin := inB_true hr0 hr1
          obtain ⟨s, hs⟩ : ∃ s : Nat, z k = s := ⟨(z k).toNat, by omega⟩
          have hsm : s < n := by omega
          have hs64 : s < 64 := by omega
          have hs16 : s < 16 := by omega
          have hps := pow_bd s hs16
          rw [hs] at ck hin
          rw [hs, Int.toNat_natCast] at HST
          have HMB : Hid (okO n z k = (true && !(metO z k).testBit s)) := Lib.hid (by unfold okO; rw [hs, hin, Int.toNat_natCast])
          clear hr0 hr1 hs
          generalize metO z k = M at *
          cases hq : M.testBit s
          · have HQ := Lib.hid (show okO n z k = true by rw [HMB.out, hq]; rfl)
            go_wp2_with fail
            go_roundw
            case rel => exact ⟨k + 1, by omega, by go_num, by rw [HST.out], fun i hi => by rcases Nat.lt_succ_iff_lt_or_eq.1 hi with h | h; exact HOK.out i h; rw [h]; exact HQ.out, by trivial⟩
            case measure => simp [intOf]; omega
          · have HQ := Lib.hid (show okO n z k = false by rw [HMB.out, hq]; rfl)
            go_wp2_with fail
            go_ret
            exact ⟨by rw [ordB_bad hlt HQ.out]; rfl, rfl⟩
        · have HQ := Lib.hid (show okO n z k = false by unfold okO; rw [inB_false (by omega)]; rfl)
          generalize z k = x at ck hr0 hr1
          go_wp2_with fail
          go_ret
          exact ⟨by rw [ordB_bad hlt HQ.out]; rfl, rfl⟩
      · have HQ := Lib.hid (show okO n z k = false by unfold okO; rw [inB_false (by omega)]; rfl)
        generalize z k = x at ck hr0
        go_wp2_with fail
        go_ret
        exact ⟨by rw [ordB_bad hlt HQ.out]; rfl, rfl⟩
    · have hke : k = m := by omega
      subst hke
      go_wp2_with fail
      go_ret
      refine ⟨?_, rfl⟩
      show Ending.returned (Value.bool ((k : Int) == (n : Int))) = _
      rw [cast_beq]
      by_cases hkn : k = n
      · subst hkn; rw [ordB_good HOK.out]; simp
      · rw [ordB_len hkn, beq_eq_false_iff_ne.2 hkn]



/-- Whether numbers are an outer order. -/
def isO (n : Nat) (r : Nat → Nat) (m : Nat) (x : Nat → Int) : Bool := ordB n m x && (List.range m).all fun e => !crB r (fun i => (x i).toNat) e
theorem isO_bad {n m e : Nat} {r : Nat → Nat} {x : Nat → Int} (he : e < m) (h : crB r (fun i => (x i).toNat) e = true) : isO n r m x = false := by
  unfold isO
  rw [Bool.and_eq_false_iff]
  right
  rw [List.all_eq_false]
  exact ⟨e, List.mem_range.2 he, by rw [h]; simp⟩
theorem isO_good {n m : Nat} {r : Nat → Nat} {x : Nat → Int} (ho : ordB n m x = true) (h : ∀ e, e < m → crB r (fun i => (x i).toNat) e = false) : isO n r m x = true := by
  unfold isO
  rw [ho, Bool.true_and, List.all_eq_true]
  intro e he
  rw [h e (List.mem_range.1 he)]; rfl
theorem isO_not {n m : Nat} {r : Nat → Nat} {x : Nat → Int} (ho : ordB n m x = false) : isO n r m x = false := by unfold isO; rw [ho]; rfl
theorem ord_nat {n m : Nat} {x : Nat → Int} (ho : ordB n m x = true) : m = n ∧ ∀ i, i < n → (x i).toNat < n ∧ x i = ((x i).toNat : Nat) := by
  obtain ⟨h1, h2⟩ := ordB_iff ho
  exact ⟨h1, fun i hi => by obtain ⟨h3, h4, h5, _⟩ := okO_iff (h2 i hi); exact ⟨h5, by omega⟩⟩

set_option maxRecDepth 20000 in
set_option maxHeartbeats 2000000 in
theorem isOuterOrder_any {n m : Nat} {r : Nat → Nat} {a am : Option Addr} {w : World} (T : Tn w a n r) (cap cm : Nat) (hT : Tab w) (hs : ∀ u x, u < n → x < n → (r u).testBit x = (r x).testBit u) {x : Nat → Int} (hM : IntsAt w am m x) (hcm : m ≤ cm) :
    Calls Tryd.prog 73 #[.slice a n cap, .slice am m cm] w fun e w' => e = .returned (.bool (isO n r m x)) ∧ Below w.heap.size w w' := by
  have hn8 := T.le
  have HIO := Lib.hid (isOrder_any a cap (show n ≤ 9 by omega) cm hM)
  have HT := Lib.hid T
  have HTB := Lib.hid hT
  have HS := Lib.hid hs
  have HM := Lib.hid hM
  cases ho : ordB n m x
  · rw [ho] at HIO
    rw [isO_not ho]
    clear T hT hs hM ho
    go_enter Tryd.func73, Tryd.ntmps73
    go_wp2_with fail
    go_at_call 100
    refine (HIO.out).mono ?_
    rintro e w1 ⟨rfl, rfl⟩
    go_wp2_with fail
    go_ret
    exact ⟨rfl, Below.refl _ _⟩
  · rw [ho] at HIO
    obtain ⟨hmn, hx⟩ := ord_nat ho
    have HO := Lib.hid ho
    obtain ⟨X, hX⟩ : ∃ X, X = isO n r m x := ⟨_, rfl⟩
    have HX := Lib.hid hX
    rw [← hX]
    have hmM : m ≤ 8 := by omega
    have HG : Hid (∀ i, i < m → (x i).toNat < n ∧ x i = ((x i).toNat : Nat)) := Lib.hid fun i hi => hx i (by omega)
    clear T hT hs hM ho hmn hx hX
    go_enter Tryd.func73, Tryd.ntmps73
    go_wp2_with fail
    go_at_call 100
    refine (HIO.out).mono ?_
    rintro e w1 ⟨rfl, rfl⟩
    go_wp2_with fail
    go_loopw [12] (fun ix wr => ∃ e : Nat, e ≤ m ∧ ix = .int .i64 e ∧ (∀ i, i < e → crB r (fun i => (x i).toNat) i = false) ∧ Below w.heap.size w wr) (fun ix _ => m - (intOf ix).toNat)
    case atStart => exact ⟨0, Nat.zero_le _, rfl, fun i hi => by omega, Below.refl _ _⟩
    case round =>
      obtain ⟨e, he, rfl, hno, hb⟩ := hrel
      have HNO := Lib.hid hno
      have HB := Lib.hid hb
      clear hno hb
      by_cases hlt : e < m
      · have hcut : IntsAt wr am (e + 1) (fun i => (((x i).toNat : Nat) : Int)) := by
          obtain ⟨b1, o1, h1, h2, h3⟩ := (HM.out.below HB.out).2 (by omega)
          exact ⟨by unfold maxLen; omega, fun _ => ⟨b1, o1, h1, h2, fun i hi => by rw [h3 i (by omega)]; exact congrArg (fun t => some (Value.int .i64 t)) (HG.out i (by omega)).2⟩⟩
        have HC := Lib.hid (crosses_any (HT.out.below HB.out) cap HS.out (HTB.out.below HB.out) cm hcut (fun i hi => (HG.out i (by omega)).1) (by omega) (by omega))
        have hsl1 : decide ((cm : Int) < (e : Int) + 1) = false := decide_eq_false (by omega)
        have hsl2 : decide ((e : Int) + 1 < 0) = false := decide_eq_false (by omega)
        have hsl3 : decide (cm < e + 1) = false := decide_eq_false (by omega)
        have hsl4 : e + 1 ≤ cm := by omega
        obtain ⟨b1, o1, rfl, _, _⟩ := (HM.out.below HB.out).2 (by omega)
        clear hcut
        cases hcr : crB r (fun i => (x i).toNat) e
        · rw [hcr] at HC
          have HNX := Lib.hid (show ∀ i, i < e + 1 → crB r (fun i => (x i).toNat) i = false from fun i hi => by
            by_cases e1 : i = e
            · subst e1; exact hcr
            · exact HNO.out i (by omega))
          clear hcr
          go_wp2_with fail
          go_at_call 99
          refine (HC.out).mono ?_
          rintro e2 w2 ⟨rfl, hb2⟩
          have HB2 := Lib.hid (HB.out.trans (hb2.mono HB.out.size))
          clear hb2
          go_wp2_with fail
          go_roundw
          case rel => exact ⟨e + 1, by omega, by go_num, HNX.out, HB2.out⟩
          case measure => simp [intOf]; omega
        · rw [hcr] at HC
          have HXX := Lib.hid (HX.out.trans (isO_bad hlt hcr))
          clear hcr
          go_wp2_with fail
          go_at_call 99
          refine (HC.out).mono ?_
          rintro e2 w2 ⟨rfl, hb2⟩
          have HB2 := Lib.hid (HB.out.trans (hb2.mono HB.out.size))
          clear hb2
          go_wp2_with fail
          go_ret
          exact ⟨by rw [HXX.out]; rfl, HB2.out⟩
      · have hee : e = m := by omega
        have HXX := Lib.hid (HX.out.trans (isO_good HO.out fun i hi => HNO.out i (by omega)))
        clear hee
        go_wp2_with fail
        go_ret
        exact ⟨by rw [HXX.out]; rfl, HB.out⟩

set_option maxRecDepth 20000 in
set_option maxHeartbeats 1000000 in
theorem CheckOuter_yes {n m : Nat} {z x : Nat → Int} {a am : Option Addr} (ca cm : Nat) {w : World} (hI : IntsAt w a n z) (hz : InI64 z) (hT : Tab w) (hg : graphB n 8 z = true) (hM : IntsAt w am m x) (hcm : m ≤ cm) :
    Calls Tryd.prog 40 #[.slice a n ca, .slice am m cm] w fun e w' => e = .returned (.tuple #[.bool (isO n (natG z) m x), .int .i64 0]) ∧ Below w.heap.size w w' := by
  have HN := Lib.hid (newTown_yes ca hI hz hT hg)
  have HT := Lib.hid (Tn.of_graph hI hg)
  have HM := Lib.hid hM
  have HTB := Lib.hid hT
  have hs := g_sym hg
  clear hI hz hT hg hM
  go_enter Tryd.func40, Tryd.ntmps40
  go_wp2_with fail
  go_at_call 68
  refine (HN.out).mono ?_
  rintro e w1 ⟨rfl, hb1⟩
  have HB1 := Lib.hid hb1
  clear hb1
  go_wp2_with fail
  go_at_call 73
  refine (isOuterOrder_any (HT.out.below HB1.out) ca cm (HTB.out.below HB1.out) hs (HM.out.below HB1.out) hcm).mono ?_
  rintro e w2 ⟨rfl, hb2⟩
  have HB2 := Lib.hid (HB1.out.trans (hb2.mono HB1.out.size))
  clear hb2
  go_wp2_with fail
  go_ret2
  exact ⟨rfl, HB2.out⟩
set_option maxRecDepth 20000 in
set_option maxHeartbeats 1000000 in
theorem CheckOuter_no {n m : Nat} {z : Nat → Int} {a am : Option Addr} (ca cm : Nat) {w : World} (hI : IntsAt w a n z) (hz : InI64 z) (hT : Tab w) (hg : graphB n 8 z = false) :
    Calls Tryd.prog 40 #[.slice a n ca, .slice am m cm] w fun e w' => e = .returned (.tuple #[.bool false, .int .i64 2]) ∧ Below w.heap.size w w' := by
  have HN := Lib.hid (newTown_no ca hI hz hT hg)
  clear hI hT
  go_enter Tryd.func40, Tryd.ntmps40
  go_wp2_with fail
  go_at_call 68
  refine (HN.out).mono ?_
  rintro e w1 ⟨rfl, hb1⟩
  go_wp2_with fail
  go_ret2
  exact ⟨rfl, hb1⟩

set_option maxRecDepth 100000 in
set_option maxHeartbeats 4000000 in
theorem IsOuterR_any {n m : Nat} {r : Nat → Nat} {a am : Option Addr} {w : World} (T : Tn w a n r) (ca cm : Nat) {x : Nat → Int} (hM : IntsAt w am m x) :
    Calls Tryd.prog 42 #[.slice a n ca, .slice am m cm] w fun e w' => e = .returned (.bool (isO n r m x)) ∧ Below w.heap.size w w' := by
  have hn8 := T.le
  have h8 := pow_le8 hn8
  have hn1 := T.at_.pos
  have HIO := Lib.hid (IsOrderR_any (show n ≤ 9 by omega) cm hM)
  obtain ⟨bt, ot, hat, hbt, hct⟩ := T.at_.ints.2 hn1
  subst hat
  have HBD := Lib.hid T.bd
  have HCT := Lib.hid hct
  have HM := Lib.hid hM
  cases ho : ordB n m x
  · rw [ho] at HIO
    rw [isO_not ho]
    clear T hM ho hct
    go_enter Tryd.func42, Tryd.ntmps42
    go_wp2_with fail
    go_at_call 75
    refine (HIO.out).mono ?_
    rintro e w1 ⟨rfl, rfl⟩
    go_wp2_with fail
    go_ret
    exact ⟨rfl, Below.refl _ _⟩
  · rw [ho] at HIO
    obtain ⟨hmn, hx⟩ := ord_nat ho
    have HO := Lib.hid ho
    obtain ⟨X, hX⟩ : ∃ X, X = isO n r m x := ⟨_, rfl⟩
    have HX := Lib.hid hX
    rw [← hX]
    have hmM : m ≤ 8 := by omega
    obtain ⟨g, hgd⟩ : ∃ g : Nat → Nat, g = fun i => (x i).toNat := ⟨_, rfl⟩
    have HGD := Lib.hid hgd
    have HGB : Hid (∀ i, i < m → g i < n) := Lib.hid fun i hi => by rw [hgd]; exact (hx i (by omega)).1
    have HMC : Hid (0 < m → ∃ bm om, am = some ⟨bm, om, none⟩ ∧ ∀ wx, Below w.heap.size w wx → ∀ i, i < m → wx.cell? ⟨bm, om + i, none⟩ = some (.int .i64 (g i : Nat))) := Lib.hid fun h => by
      obtain ⟨bm, om, h1, h2, h3⟩ := HM.out.2 h
      exact ⟨bm, om, h1, fun wx hw i hi => by rw [hw.cell (p := ⟨bm, om + i, none⟩) h2, h3 i hi, hgd, ← (hx i (by omega)).2]⟩
    have HBAD : Hid (∀ e, e < m → crB r g e = true → X = false) := Lib.hid fun e he h => by rw [HX.out]; exact isO_bad he (by rw [← hgd]; exact h)
    have HGOOD : Hid ((∀ e, e < m → crB r g e = false) → X = true) := Lib.hid fun h => by rw [HX.out]; exact isO_good HO.out (by rw [← hgd]; exact h)
    clear T hM ho hmn hx hX hgd hct
    go_enter Tryd.func42, Tryd.ntmps42
    go_wp2_with fail
    go_at_call 75
    refine (HIO.out).mono ?_
    rintro e w1 ⟨rfl, rfl⟩
    go_wp2_with fail
    go_loopw [16] (fun ix wr => ∃ l : Nat, l ≤ m ∧ ix = .int .i64 l ∧ (∀ e, e < l → crB r g e = false) ∧ Below w.heap.size w wr) (fun ix _ => m - (intOf ix).toNat)
    case atStart => exact ⟨0, Nat.zero_le _, rfl, fun i hi => by omega, Below.refl _ _⟩
    case round =>
      obtain ⟨l, hlm, rfl, hnl, hb⟩ := hrel
      have HNL := Lib.hid hnl
      have HBR := Lib.hid hb
      clear hnl hb
      by_cases hll : l < m
      · have dl : decide ((l : Int) < (m : Int)) = true := decide_eq_true (by omega)
        have dl2 : decide (l < m) = true := decide_eq_true hll
        go_wp2_with fail
        go_loopw [20] (fun ix wr => ∃ x : Nat, x ≤ l ∧ ix = .int .i64 x ∧ (∀ k, k < x → ∀ j, j < k → ∀ i, i < j → prO r g l i j k = false) ∧ Below w.heap.size w wr) (fun ix _ => l - (intOf ix).toNat)
        case atStart => exact ⟨0, Nat.zero_le _, rfl, fun k hk => by omega, HBR.out⟩
        case round =>
          obtain ⟨x, hxL, rfl, hno, hbr⟩ := hrel
          have HNO := Lib.hid hno
          have HBR := Lib.hid hbr
          clear hno hbr
          by_cases hlt : x < l
          · have dx : decide ((x : Int) < (l : Int)) = true := decide_eq_true (by omega)
            have dx2 : decide (x < l) = true := decide_eq_true hlt
            go_wp2_with fail
            go_loopw [24] (fun iy wy => ∃ y : Nat, y ≤ x ∧ iy = .int .i64 y ∧ (∀ j, j < y → ∀ i, i < j → prO r g l i j x = false) ∧ Below w.heap.size w wy) (fun iy _ => x - (intOf iy).toNat)
            case atStart => exact ⟨0, Nat.zero_le _, rfl, fun j hj => by omega, HBR.out⟩
            case round =>
              obtain ⟨y, hyx, rfl, hno2, hbr2⟩ := hrel
              have HNO2 := Lib.hid hno2
              have HBR2 := Lib.hid hbr2
              clear hno2 hbr2 HBR
              by_cases hyl : y < x
              · have dy : decide ((y : Int) < (x : Int)) = true := decide_eq_true (by omega)
                have dy2 : decide (y < x) = true := decide_eq_true hyl
                go_wp2_with fail
                go_loopw [28] (fun iz wz => ∃ z : Nat, z ≤ y ∧ iz = .int .i64 z ∧ (∀ i, i < z → prO r g l i y x = false) ∧ Below w.heap.size w wz) (fun iz _ => y - (intOf iz).toNat)
                case atStart => exact ⟨0, Nat.zero_le _, rfl, fun j hj => by omega, HBR2.out⟩
                case round =>
                  obtain ⟨z, hzy, rfl, hno3, hbr3⟩ := hrel
                  obtain ⟨wz, rfl⟩ : ∃ x, x = wr := ⟨_, rfl⟩
                  have HNO3 := Lib.hid hno3
                  have HBR3 := Lib.hid hbr3
                  clear hno3 hbr3 HBR2
                  by_cases hzl : z < y
                  · have dz : decide ((z : Int) < (y : Int)) = true := decide_eq_true (by omega)
                    have dz2 : decide (z < y) = true := decide_eq_true hzl
                    obtain ⟨bm, om, rfl, hcM⟩ := HMC.out (by omega)
                    have HUB : Hid (∀ u : BelowW wz.heap.size wz, Below w.heap.size w u.w) := Lib.hid fun u => HBR3.out.trans (u.h.mono HBR3.out.size)
                    have gx := HGB.out x (by omega)
                    have gy := HGB.out y (by omega)
                    have gz := HGB.out z (by omega)
                    have gm := HGB.out l hll
                    have cX : ∀ u : BelowW wz.heap.size wz, u.w.cell? ⟨bm, om + x, none⟩ = some (.int .i64 (g x : Nat)) := fun u => hcM u.w (HUB.out u) x (by omega)
                    have cY : ∀ u : BelowW wz.heap.size wz, u.w.cell? ⟨bm, om + y, none⟩ = some (.int .i64 (g y : Nat)) := fun u => hcM u.w (HUB.out u) y (by omega)
                    have cZ : ∀ u : BelowW wz.heap.size wz, u.w.cell? ⟨bm, om + z, none⟩ = some (.int .i64 (g z : Nat)) := fun u => hcM u.w (HUB.out u) z (by omega)
                    have cM : ∀ u : BelowW wz.heap.size wz, u.w.cell? ⟨bm, om + l, none⟩ = some (.int .i64 (g l : Nat)) := fun u => hcM u.w (HUB.out u) l hll
                    have cTz : ∀ u : BelowW wz.heap.size wz, u.w.cell? ⟨bt, ot + g z, none⟩ = some (.int .i64 (r (g z) : Nat)) := fun u => by
                      rw [(HUB.out u).cell (p := ⟨bt, ot + g z, none⟩) hbt]; exact HCT.out _ gz
                    have cTy : ∀ u : BelowW wz.heap.size wz, u.w.cell? ⟨bt, ot + g y, none⟩ = some (.int .i64 (r (g y) : Nat)) := fun u => by
                      rw [(HUB.out u).cell (p := ⟨bt, ot + g y, none⟩) hbt]; exact HCT.out _ gy
                    have rz16 : r (g z) < 65536 := by have := HBD.out _ gz; omega
                    have ry16 : r (g y) < 65536 := by have := HBD.out _ gy; omega
                    have HPR : Hid (prO r g l z y x = ((r (g z)).testBit (g x) && (r (g y)).testBit (g l))) := Lib.hid rfl
                    have HYES : Hid (prO r g l z y x = true → X = false) := Lib.hid fun h => HBAD.out l hll (crB_pr hzl hyl hlt h)
                    have HNXT : Hid (prO r g l z y x = false → ∀ i, i < z + 1 → prO r g l i y x = false) := Lib.hid fun h i hi => by
                      by_cases e : i = z
                      · subst e; exact h
                      · exact HNO3.out i (by omega)
                    have gx16 : g x < 16 := by omega
                    have gm16 : g l < 16 := by omega
                    have gx64 : g x < 64 := by omega
                    have gm64 : g l < 64 := by omega
                    clear hcM
                    generalize g l = vm at *
                    generalize r (g z) = rz at *
                    generalize r (g y) = ry at *
                    generalize g x = vx at *
                    generalize g y = vy at *
                    generalize g z = vz at *
                    cases hb1 : rz.testBit vx
                    · have HN1 := Lib.hid (HNXT.out (by rw [HPR.out, hb1]; rfl))
                      go_wp2_with fail
                      refine wp_region_below wz.heap.size wz (Below.refl _ _) (by kernel_rfl) (by kernel_rfl) ?_
                      repeat (go_big_quiet_step (fail))
                      refine wpQuiet_nil ?_
                      rintro _ ⟨u, rfl⟩
                      have HU := Lib.hid (HUB.out u)
                      go_wp2_with fail
                      go_roundw
                      case rel => exact ⟨z + 1, by omega, by go_num, HN1.out, HU.out⟩
                      case measure => simp [intOf]; omega
                    · cases hb2 : ry.testBit vm
                      · have HN1 := Lib.hid (HNXT.out (by rw [HPR.out, hb1, hb2]; rfl))
                        go_wp2_with fail
                        refine wp_region_below wz.heap.size wz (Below.refl _ _) (by kernel_rfl) (by kernel_rfl) ?_
                        repeat (go_big_quiet_step (fail))
                        refine wpQuiet_nil ?_
                        rintro _ ⟨u, rfl⟩
                        have HU := Lib.hid (HUB.out u)
                        go_wp2_with fail
                        go_roundw
                        case rel => exact ⟨z + 1, by omega, by go_num, HN1.out, HU.out⟩
                        case measure => simp [intOf]; omega
                      · have HN1 := Lib.hid (HYES.out (by rw [HPR.out, hb1, hb2]; rfl))
                        go_wp2_with fail
                        refine wp_region_below wz.heap.size wz (Below.refl _ _) (by kernel_rfl) (by kernel_rfl) ?_
                        repeat (go_big_quiet_step (fail))
                        refine wpQuiet_nil ?_
                        rintro _ ⟨u, rfl⟩
                        have HU := Lib.hid (HUB.out u)
                        go_wp2_with fail
                        go_ret
                        exact ⟨by rw [HN1.out]; rfl, HU.out⟩
                  · have hze : z = y := by omega
                    have HN1 := Lib.hid (show ∀ j, j < y + 1 → ∀ i, i < j → prO r g l i j x = false from fun j hj i hi => by
                      by_cases e : j = y
                      · subst e; exact HNO3.out i (by omega)
                      · exact HNO2.out j (by omega) i hi)
                    clear hze
                    go_wp2_with fail
                    go_roundw
                    case rel => exact ⟨y + 1, by omega, by go_num, HN1.out, HBR3.out⟩
                    case measure => simp [intOf]; omega
              · have hye : y = x := by omega
                have HN1 := Lib.hid (show ∀ k, k < x + 1 → ∀ j, j < k → ∀ i, i < j → prO r g l i j k = false from fun k hk j hj i hi => by
                  by_cases e : k = x
                  · subst e; exact HNO2.out j (by omega) i hi
                  · exact HNO.out k (by omega) j hj i hi)
                clear hye
                go_wp2_with fail
                go_roundw
                case rel => exact ⟨x + 1, by omega, by go_num, HN1.out, HBR2.out⟩
                case measure => simp [intOf]; omega
          · have hxe : x = l := by omega
            have HN1 := Lib.hid (show ∀ e, e < l + 1 → crB r g e = false from fun e he => by
              by_cases e1 : e = l
              · subst e1; exact crB_none fun k hk j hj i hi => HNO.out k (by omega) j hj i hi
              · exact HNL.out e (by omega))
            clear hxe
            go_wp2_with fail
            go_roundw
            case rel => exact ⟨l + 1, by omega, by go_num, HN1.out, HBR.out⟩
            case measure => simp [intOf]; omega
      · have hle : l = m := by omega
        have HXX := Lib.hid (HGOOD.out fun e he => HNL.out e (by omega))
        clear hle
        go_wp2_with fail
        go_ret
        exact ⟨by rw [HXX.out]; rfl, HBR.out⟩

end Go.Proofs.YtfmppncefbjicaaDoor
