/- Package minor: the reference's Outer, Apex, Greatest; the walk of MinorGreatest. -/
import Derived.Test.YtjhodfabomhdaaaDoorNn
import Derived.Test.YtjhodfabomhdaaaDoorNe
namespace Go.Proofs.YtjhodfabomhdaaaDoor
set_option linter.unusedSimpArgs false
set_option linter.unusedVariables false
open Go.RowKit Go.Maps
attribute [local go_sem] i64_bit toNat_eq_one toNat_ne_one toNat_eq_zero toNat_ne_zero i64_and i64_or i64_andNot i64_or_pow i64_andNot_pow

set_option maxRecDepth 20000 in
set_option maxHeartbeats 1000000 in
theorem OuterR_any {n : Nat} {z : Nat → Int} {a : Option Addr} {w : World} (T : Tn w a n (natG z)) (cap : Nat) :
    Calls Tryd.prog 37 #[.slice a n cap] w (RefModel w (outG n z)) := by
  have hrec := outer_rec T cap n [] (by simp) (fun i hi => by simp at hi) w none 0 (fun _ => ⟨rfl, rfl⟩) (Nat.le_refl _) (ints_nil w) (Below.refl _ _)
  rw [show outR n (natG z) n [] = outG n z from rfl] at hrec
  have HREC := Lib.hid (show Calls Tryd.prog 68 #[.slice a n cap, .slice none 0 0] w (RefPost w (outG n z)) from hrec)
  clear T hrec
  cases ho : outG n z with
  | none =>
    rw [ho] at HREC
    clear ho
    go_enter Tryd.func37, Tryd.ntmps37
    go_wp2_with fail
    go_at_call 68
    refine HREC.out.mono ?_
    rintro e w1 ⟨hb1, hp1⟩
    subst hp1
    have HB1 := Lib.hid hb1
    clear hb1
    go_wp2_with fail
    go_ret2
    exact ⟨HB1.out, rfl⟩
  | some B =>
    rw [ho] at HREC
    clear ho
    go_enter Tryd.func37, Tryd.ntmps37
    go_wp2_with fail
    go_at_call 68
    refine HREC.out.mono ?_
    rintro e w1 ⟨hb1, x, c, rfl, hx⟩
    have HB1 := Lib.hid hb1
    have HX := Lib.hid hx
    clear hb1 hx
    go_wp2_with fail
    go_ret2
    exact ⟨HB1.out, x, c, rfl, HX.out⟩

set_option maxRecDepth 20000 in
set_option maxHeartbeats 2000000 in
theorem ApexR_any {n : Nat} {z : Nat → Int} {a : Option Addr} (cap : Nat) {w : World} (hI : IntsAt w a n z) (hg : graphB n 8 z = true) :
    Calls Tryd.prog 41 #[.slice a n cap] w fun e w' => e = .returned (.tuple #[.int .i64 ((apxL n z).getD 0 : Nat), .int .i64 (codA (apxL n z))]) ∧ Below w.heap.size w w' := by
  have hn := graphB_le hg
  have hml := hI.1
  unfold maxLen at hml
  have HI := Lib.hid hI
  have HG := Lib.hid hg
  clear hI hg
  by_cases h1 : n = 1
  · subst h1
    have HX : Hid (apxL 1 z = some 0) := Lib.hid (by unfold apxL; rw [if_pos rfl])
    generalize apxL 1 z = X at *
    go_enter Tryd.func41, Tryd.ntmps41
    go_wp2_with fail
    go_ret2
    rw [HX.out]
    exact ⟨rfl, Below.refl _ _⟩
  · have h2 : 2 ≤ n := by omega
    have hq : ((n : Int) == 1) = false := by rw [beq_eq_false_iff_ne]; omega
    have hq2 : (n == 1) = false := by rw [beq_eq_false_iff_ne]; omega
    have HX : Hid (apxL n z = (List.range n).find? (apxB n z)) := Lib.hid (by unfold apxL; rw [if_neg h1])
    obtain ⟨X, hX⟩ : ∃ X, X = apxL n z := ⟨_, rfl⟩
    rw [← hX] at HX ⊢
    clear hX h1
    go_enter Tryd.func41, Tryd.ntmps41
    go_wp2_with fail
    go_loopw [12] (fun ix wr => ∃ v : Nat, v ≤ n ∧ ix = .int .i64 v ∧ (∀ i, i < v → apxB n z i = false) ∧ Below w.heap.size w wr) (fun ix _ => n - (intOf ix).toNat)
    case atStart => exact ⟨0, Nat.zero_le _, rfl, fun i hi => by omega, Below.refl _ _⟩
    case round =>
      obtain ⟨v, hv, rfl, hno, hb⟩ := hrel
      have HNO := Lib.hid hno
      have HB := Lib.hid hb
      clear hno hb
      by_cases hlt : v < n
      · have hdi : decide ((v : Int) < (n : Int)) = true := decide_eq_true (by omega)
        have hdn : decide (v < n) = true := decide_eq_true hlt
        go_wp2_with fail
        go_at_call 45
        refine (DeleteR_any (HI.out.below HB.out) hlt (by omega) (graph_bd HG.out)).mono ?_
        rintro e w1 ⟨⟨u, rfl, hu⟩, hb1⟩
        obtain ⟨g, c, rfl, _, _⟩ := own_form' hu (by omega)
        have HB1 := Lib.hid (HB.out.trans (hb1.mono HB.out.size))
        have hdg := del_graph HG.out h2 hlt
        have HOO := Lib.hid (OuterR_any (Tn.of_graph (WoOwn.ints' hu (by omega)) hdg) c)
        clear hu hb1 hdg
        cases hap : outG (n - 1) (woZ z v) with
        | none =>
          rw [hap] at HOO
          have HNX := Lib.hid (show ∀ i, i < v + 1 → apxB n z i = false from fun i hi => by
            by_cases e : i = v
            · subst e; unfold apxB; rw [hap]; rfl
            · exact HNO.out i (by omega))
          clear hap
          go_wp2_with fail
          go_at_call 37
          refine HOO.out.mono ?_
          rintro e w2 ⟨hb2, hp2⟩
          subst hp2
          clear HOO
          have HB2 := Lib.hid (HB1.out.trans (hb2.mono HB1.out.size))
          clear hb2
          go_wp2_with fail
          go_roundw
          case rel => exact ⟨v + 1, by omega, by go_num, HNX.out, HB2.out⟩
          case measure => simp [intOf]; omega
        | some B =>
          rw [hap] at HOO
          have HXX := Lib.hid (HX.out.trans (find_first hlt (by unfold apxB; rw [hap]; rfl) HNO.out))
          clear hap
          go_wp2_with fail
          go_at_call 37
          refine HOO.out.mono ?_
          rintro e w2 ⟨hb2, x2, c2, rfl, hx2⟩
          clear HOO hx2
          have HB2 := Lib.hid (HB1.out.trans (hb2.mono HB1.out.size))
          clear hb2
          go_wp2_with fail
          go_ret2
          rw [HXX.out]
          exact ⟨rfl, HB2.out⟩
      · have hve : v = n := by omega
        have HXX := Lib.hid (HX.out.trans (find_not fun i hi => HNO.out i (by omega)))
        clear hve
        go_wp2_with fail
        go_ret2
        rw [HXX.out]
        exact ⟨rfl, HB.out⟩

/-- Smaller complete graphs are minors of greater ones. -/
theorem kz_sub : ∀ g, g < 7 → ∀ j, j ≤ g → ∀ i, i < j → ∀ u, u < j → (natG (kz j) i).testBit u = true → (natG (kz g) i).testBit u = true := by decide +kernel
theorem kz_less {n g j : Nat} {z : Nat → Int} (hg : graphB n 8 z = true) (h6 : g < 7) (h1 : 1 ≤ j) (hj : j ≤ g) (h : (modG n g z (kz g)).isSome = true) : (modG n j z (kz j)).isSome = true := by
  have hpg := kz_graph g h6 (by omega)
  have hpj := kz_graph j (by omega) h1
  rw [mod_ref hg hpg] at h
  rw [mod_ref hg hpj]
  cases h2 : refM n g (natG z) (natG (kz g)) with
  | none => rw [h2] at h; cases h
  | some L =>
    obtain ⟨_, M, _⟩ := refM_model h2 (graphB_le hg).2.1 (lt_graph hg) (g_sym hg) (g_sym hpg) (g_loop hpg)
    have M2 : ModelOf n j (natG z) (natG (kz j)) (fun i => L.getD i 0) := ⟨fun i hi => M.lt i (by omega), fun i hi => M.some_ i (by omega), fun i k x hi hk => M.apart i k x (by omega) (by omega), fun i x y hi => M.conn i x y (by omega), fun i k hi hk hp => M.edge i k (by omega) (by omega) (kz_sub g h6 j hj i hi k hk hp)⟩
    have h3 := refM_found M2 (graphB_le hg).2.1 (lt_graph hg)
    cases h4 : refM n j (natG z) (natG (kz j)) with
    | none => exact absurd h4 h3
    | some _ => rfl

set_option maxRecDepth 20000 in
set_option maxHeartbeats 2000000 in
theorem GreatestR_any {n : Nat} {z : Nat → Int} {a : Option Addr} (cap : Nat) {w : World} (hI : IntsAt w a n z) (hg : graphB n 8 z = true) :
    Calls Tryd.prog 42 #[.slice a n cap] w fun e w' => e = .returned (.int .i64 (grt n z (min n 6) : Nat)) ∧ Below w.heap.size w w' := by
  obtain ⟨g, hgr, hg1, hg6, _, hgy, hgn⟩ := grt_is hg
  rw [hgr]
  have HT := Lib.hid (Tn.of_graph hI hg)
  have HY : Hid (∀ j, 1 ≤ j → j ≤ g → (modG n j z (kz j)).isSome = true) := Lib.hid fun j h1 hj => kz_less hg (by omega) h1 hj hgy
  have HN := Lib.hid hgn
  have HG := Lib.hid hg
  clear hI hg hgr hgy hgn
  go_enter Tryd.func42, Tryd.ntmps42
  go_wp2_with fail
  go_loopw [3] (fun k wr => ∃ j : Nat, k = .int .i64 j ∧ 1 ≤ j ∧ j ≤ g ∧ Below w.heap.size w wr) (fun k _ => g - (intOf k).toNat)
  case atStart => exact ⟨1, rfl, by omega, hg1, Below.refl _ _⟩
  case round =>
    obtain ⟨j, rfl, hj1, hjg, hb⟩ := hrel
    have HB := Lib.hid hb
    clear hb
    by_cases hlt : j < 6
    · have dj : decide ((j : Int) < 6) = true := decide_eq_true (by omega)
      have dj2 : decide (j < 6) = true := decide_eq_true hlt
      have HKR : Hid (∀ w', Calls Tryd.prog 26 #[.int .i64 ((j : Int) + 1)] w' (MadePost w' (j + 1) (kAll (j + 1) (j + 1)))) := Lib.hid fun w' => KR_any (n := j + 1) (by omega) (by omega) w'
      go_wp2_with fail
      go_at_call 26
      refine (HKR.out _).mono ?_
      rintro e w1 ⟨g1, rfl, hr1, _, hb1⟩
      rw [k_same (j + 1) (by omega)] at hr1
      have hK1 := row_ints hr1 (show (cmpL (j + 1) (j + 1)).length = j + 1 by simp [cmpL]) (by omega)
      have HB1 := Lib.hid (HB.out.trans (hb1.mono HB.out.size))
      have hpk := kz_graph (j + 1) (by omega) (by omega)
      have hmr := mod_ref HG.out hpk
      have HMR := Lib.hid (ModelR_any (HT.out.below HB1.out) (Tn.of_graph hK1 (graph_eight hpk)) (by omega) cap (j + 1))
      rw [show refM n (j + 1) (natG z) (natG (natL (cmpL (j + 1) (j + 1)))) = modG n (j + 1) z (kz (j + 1)) from hmr.symm] at HMR
      clear hr1 hK1 hb1 hpk hmr
      by_cases hjl : j < g
      · have hy := HY.out (j + 1) (by omega) (by omega)
        cases hm : modG n (j + 1) z (kz (j + 1)) with
        | none => rw [hm] at hy; cases hy
        | some B =>
          rw [hm] at HMR
          clear hm hy
          go_wp2_with fail
          go_at_call 18
          refine HMR.out.mono ?_
          rintro e w2 ⟨hb2, x2, c2, rfl, hx2⟩
          clear HMR hx2
          have HB2 := Lib.hid (HB1.out.trans (hb2.mono HB1.out.size))
          clear hb2
          go_wp2_with fail
          go_roundw
          case rel => exact ⟨j + 1, by go_num, by omega, by omega, HB2.out⟩
          case measure => simp [intOf]; omega
      · have hje : j = g := by omega
        have hno := HN.out (by omega)
        cases hm : modG n (j + 1) z (kz (j + 1)) with
        | some B => rw [hje] at hm; rw [hm] at hno; cases hno
        | none =>
          rw [hm] at HMR
          clear hm hno
          have HJE := Lib.hid hje
          clear hje
          go_wp2_with fail
          go_at_call 18
          refine HMR.out.mono ?_
          rintro e w2 ⟨hb2, hp2⟩
          subst hp2
          clear HMR
          have HB2 := Lib.hid (HB1.out.trans (hb2.mono HB1.out.size))
          clear hb2
          go_wp2_with fail
          go_ret
          exact ⟨by rw [← HJE.out]; rfl, HB2.out⟩
    · have hje : j = g := by omega
      have dj : decide ((j : Int) < 6) = false := decide_eq_false (by omega)
      have dj2 : decide (j < 6) = false := decide_eq_false hlt
      have HJE := Lib.hid hje
      clear hje
      go_wp2_with fail
      go_ret
      exact ⟨by rw [← HJE.out]; rfl, HB.out⟩

set_option maxRecDepth 200000 in
set_option maxHeartbeats 4000000 in
theorem MinorGreatest_walk (n : Nat) (z : Nat → Int) (v : Value) (w : World) (hA : SliceArg w v n z) (hz : InI64 z) (hTab : HasTab w) :
    Calls Tryd.prog 7 #[v] w (LawTrue w) := by
  obtain ⟨a, cap, rfl, hI⟩ := hA.ints
  have HA := Lib.hid hA
  have HZ := Lib.hid hz
  have HI0 := Lib.hid hI
  have HT := Lib.hid (Tab.of hTab)
  clear hA hI hz hTab
  cases hg : graphB n 8 z
  · have HG := Lib.hid hg
    have HGM : Hid (graphB (min n 12) 8 z = false) := Lib.hid (by rw [graphB_few]; exact hg)
    clear hg
    go_enter Tryd.func7, Tryd.ntmps7
    go_wp2_with fail
    go_at_call 12
    refine (Few_any n z _ _ HA.out).mono ?_
    rintro e w1 ⟨a1, c1, rfl, hi1, hb1⟩
    have HI1 := Lib.hid hi1
    have HB1 := Lib.hid hb1
    clear hi1 hb1
    go_wp2_with fail
    go_at_call 39
    refine (Greatest_no _ HI1.out HZ.out (HT.out.below HB1.out) HGM.out).mono ?_
    rintro e w2 ⟨rfl, hb2⟩
    have HB2 := Lib.hid (HB1.out.trans (hb2.mono HB1.out.size))
    clear hb2
    go_wp2_with fail
    go_at_call 12
    refine (Few_any n z _ _ (HA.out.below HB2.out)).mono ?_
    rintro e w3 ⟨a3, c3, rfl, hi3, hb3⟩
    have HI3 := Lib.hid hi3
    clear hi3
    have HB3 := Lib.hid (HB2.out.trans (hb3.mono HB2.out.size))
    clear hb3
    go_wp2_with fail
    go_at_call 40
    refine (Apex_no _ HI3.out HZ.out (HT.out.below HB3.out) HGM.out).mono ?_
    rintro e w4 ⟨rfl, hb4⟩
    have HB4 := Lib.hid (HB3.out.trans (hb4.mono HB3.out.size))
    clear hb4
    go_wp2_with fail
    go_at_call 15
    refine (ValidR_any n z _ _ _ (HI0.out.below HB4.out) HZ.out).mono ?_
    rintro e w5 ⟨rfl, hb5⟩
    rw [HG.out]
    have HB5 := Lib.hid (HB4.out.trans (hb5.mono HB4.out.size))
    clear hb5
    go_wp2_with fail
    go_at_call 17
    refine (awake_any _ (HT.out.below HB5.out)).mono ?_
    rintro e w6 ⟨rfl, hb6⟩
    have HB6 := Lib.hid (HB5.out.trans (hb6.mono HB5.out.size))
    clear hb6
    go_wp2_with fail
    go_ret
    exact ⟨rfl, HB6.out⟩
  · have hn8 := graphB_le hg
    have HMN : Hid (min n 12 = n) := Lib.hid (by omega)
    have HG := Lib.hid hg
    obtain ⟨g, hgr⟩ : ∃ g, grt n z (min n 6) = g := ⟨_, rfl⟩
    have HGR := Lib.hid hgr
    clear hg hn8 hgr
    go_enter Tryd.func7, Tryd.ntmps7
    go_wp2_with fail
    go_at_call 12
    refine (Few_any n z _ _ HA.out).mono ?_
    rintro e w1 ⟨a1, c1, rfl, hi1, hb1⟩
    rw [HMN.out] at hi1
    rw [HMN.out]
    have HI1 := Lib.hid hi1
    have HB1 := Lib.hid hb1
    clear hi1 hb1
    go_wp2_with fail
    go_at_call 39
    refine (Greatest_yes _ HI1.out HZ.out (HT.out.below HB1.out) HG.out).mono ?_
    rintro e w2 ⟨rfl, hb2⟩
    rw [HGR.out]
    have HB2 := Lib.hid (HB1.out.trans (hb2.mono HB1.out.size))
    clear hb2
    go_wp2_with fail
    go_at_call 12
    refine (Few_any n z _ _ (HA.out.below HB2.out)).mono ?_
    rintro e w3 ⟨a3, c3, rfl, hi3, hb3⟩
    rw [HMN.out] at hi3
    rw [HMN.out]
    have HI3 := Lib.hid hi3
    clear hi3
    have HB3 := Lib.hid (HB2.out.trans (hb3.mono HB2.out.size))
    clear hb3
    go_wp2_with fail
    go_at_call 40
    refine (Apex_yes _ HI3.out HZ.out (HT.out.below HB3.out) HG.out).mono ?_
    rintro e w4 ⟨rfl, hb4⟩
    have HB4 := Lib.hid (HB3.out.trans (hb4.mono HB3.out.size))
    clear hb4
    go_wp2_with fail
    go_at_call 15
    refine (ValidR_any n z _ _ _ (HI0.out.below HB4.out) HZ.out).mono ?_
    rintro e w5 ⟨rfl, hb5⟩
    rw [HG.out]
    have HB5 := Lib.hid (HB4.out.trans (hb5.mono HB4.out.size))
    clear hb5
    go_wp2_with fail
    go_at_call 41
    refine (ApexR_any cap (HI0.out.below HB5.out) HG.out).mono ?_
    rintro e w6 ⟨rfl, hb6⟩
    have HB6 := Lib.hid (HB5.out.trans (hb6.mono HB5.out.size))
    clear hb6
    have hq1 : (((apxL n z).getD 0 : Nat) == ((apxL n z).getD 0 : Nat)) = true := by simp
    have hq2 : (codA (apxL n z) == codA (apxL n z)) = true := by simp
    generalize (apxL n z).getD 0 = av at *
    generalize codA (apxL n z) = ac at *
    go_wp2_with fail
    go_at_call 42
    refine (GreatestR_any cap (HI0.out.below HB6.out) HG.out).mono ?_
    rintro e w7 ⟨rfl, hb7⟩
    rw [HGR.out]
    have HB7 := Lib.hid (HB6.out.trans (hb7.mono HB6.out.size))
    clear hb7
    go_wp2_with fail
    go_at_call 17
    refine (awake_any _ (HT.out.below HB7.out)).mono ?_
    rintro e w8 ⟨rfl, hb8⟩
    have HB8 := Lib.hid (HB7.out.trans (hb8.mono HB7.out.size))
    clear hb8
    go_wp2_with fail
    go_ret
    exact ⟨rfl, HB8.out⟩

end Go.Proofs.YtjhodfabomhdaaaDoor
