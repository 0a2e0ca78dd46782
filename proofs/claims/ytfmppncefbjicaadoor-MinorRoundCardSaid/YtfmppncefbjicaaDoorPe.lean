/- Package minor: the walk of MinorRound. -/
import Derived.Test.YtfmppncefbjicaaDoorPd
import Derived.Test.YtfmppncefbjicaaDoorNe
import Derived.Test.YtfmppncefbjicaaDoorOf
import Derived.Deep.RegionLaw
namespace Go.Proofs.YtfmppncefbjicaaDoor
set_option linter.unusedSimpArgs false
set_option linter.unusedVariables false
open Go.RowKit Go.Maps
attribute [local go_sem] i64_bit toNat_eq_one toNat_ne_one toNat_eq_zero toNat_ne_zero i64_and i64_or i64_andNot i64_or_pow i64_andNot_pow

theorem idx_any (kI : Int) {l : Nat} (h0 : 0 < l) (h1 : l ≤ 65536) : ∃ i : Nat, i < l ∧ wrap64 ((IntKind.u64.wrap kI).tmod (l : Int)) = (i : Int) := by
  have hU : 0 ≤ IntKind.u64.wrap kI := by rw [IntKind.wrap_u64]; omega
  generalize IntKind.u64.wrap kI = U at *
  rw [Int.tmod_eq_emod_of_nonneg hU]
  have a := Int.emod_nonneg U (show (l : Int) ≠ 0 by omega)
  have b := Int.emod_lt_of_pos U (show (0 : Int) < l by omega)
  generalize U % (l : Int) = r at *
  exact ⟨r.toNat, by omega, by rw [IntWalk.wrap64_in _ (by omega)]; omega⟩
theorem zK23_i64 : InI64 zK23 := fun i => by
  unfold zK23 natL
  by_cases h : i < 5
  · have : i = 0 ∨ i = 1 ∨ i = 2 ∨ i = 3 ∨ i = 4 := by omega
    rcases this with rfl | rfl | rfl | rfl | rfl <;> decide
  · rw [List.getD_eq_getElem?_getD, List.getElem?_eq_none (by simp; omega)]; simp
theorem turn_list {n p : Nat} {x : Nat → Int} (hp : p < n) : intL (fun i => x (p + i)) (n - p) ++ intL x p = intL (fun i => x (if i + p < n then i + p else i + p - n)) n := by
  apply List.ext_getElem?
  intro i
  unfold intL
  by_cases h1 : i < n - p
  · rw [List.getElem?_append_left (by simpa using h1), map_range_get _ h1, map_range_get _ (by omega)]
    show some (Value.int IntKind.i64 (x (p + i))) = some (Value.int IntKind.i64 (x (if i + p < n then i + p else i + p - n)))
    rw [if_pos (by omega), Nat.add_comm p i]
  · by_cases h2 : i < n
    · rw [List.getElem?_append_right (by simpa using h1), map_range_get _ (by simp; omega), map_range_get _ h2]
      show some (Value.int IntKind.i64 (x (i - _))) = some (Value.int IntKind.i64 (x (if i + p < n then i + p else i + p - n)))
      rw [if_neg (by omega), List.length_map, List.length_range]
      congr 3; omega
    · rw [List.getElem?_eq_none (by simp; omega), List.getElem?_eq_none (by simp; omega)]

set_option maxRecDepth 200000 in
set_option maxHeartbeats 8000000 in
theorem MinorRound_walk (n : Nat) (z : Nat → Int) (v : Value) (kI : Int) (w : World) (hA : SliceArg w v n z) (hz : InI64 z) (hTab : HasTab w) :
    Calls Tryd.prog 11 #[v, .int .i64 kI] w (LawTrue w) := by
  obtain ⟨a, cap, rfl, hI⟩ := hA.ints
  have HA := Lib.hid hA
  have HI0 := Lib.hid hI
  have HZ := Lib.hid hz
  have HT := Lib.hid (Tab.of hTab)
  clear hA hI hz hTab
  cases hg : graphB n 8 z
  · have HGM : Hid (graphB (min n 12) 8 z = false) := Lib.hid (by rw [graphB_few]; exact hg)
    clear hg
    go_enter Tryd.func11, Tryd.ntmps11
    go_wp2_with fail
    go_at_call 16
    refine (Few_any n z _ _ HA.out).mono ?_
    rintro e w1 ⟨a1, c1, rfl, hi1, hb1⟩
    have HI1 := Lib.hid hi1
    have HB1 := Lib.hid hb1
    clear hi1 hb1
    go_wp2_with fail
    go_at_call 39
    refine (Outer_no _ HI1.out HZ.out (HT.out.below HB1.out) HGM.out).mono ?_
    rintro e w2 ⟨rfl, hb2⟩
    have HB2 := Lib.hid (HB1.out.trans (hb2.mono HB1.out.size))
    clear hb2
    go_wp2_with fail
    go_at_call 16
    refine (Few_any n z _ _ (HA.out.below HB2.out)).mono ?_
    rintro e w3 ⟨a3, c3, rfl, hi3, hb3⟩
    have HI3 := Lib.hid hi3
    clear hi3
    have HB3 := Lib.hid (HB2.out.trans (hb3.mono HB2.out.size))
    clear hb3
    go_wp2_with fail
    go_at_call 43
    refine (Greatest_no _ HI3.out HZ.out (HT.out.below HB3.out) HGM.out).mono ?_
    rintro e w4 ⟨rfl, hb4⟩
    have HB4 := Lib.hid (HB3.out.trans (hb4.mono HB3.out.size))
    clear hb4
    go_wp2_with fail
    go_at_call 21
    refine (awake_any _ (HT.out.below HB4.out)).mono ?_
    rintro e w5 ⟨rfl, hb5⟩
    have HB5 := Lib.hid (HB4.out.trans (hb5.mono HB4.out.size))
    clear hb5
    go_wp2_with fail
    go_ret
    exact ⟨rfl, HB5.out⟩
  obtain ⟨hn1, hn8, _⟩ := graphB_le hg
  have HMN : Hid (min n 12 = n) := Lib.hid (by omega)
  have HG := Lib.hid hg
  have HS := Lib.hid (g_sym hg)
  have HKR : Hid (∀ w', Calls Tryd.prog 30 #[.int .i64 4] w' (MadePost w' 4 (kAll 4 4))) := Lib.hid fun w' => KR_any (n := 4) (by omega) (by omega) w'
  have HK23 := Lib.hid k23_is
  cases hres : outG n z with
  | none =>
    have hno := round_no hg hres
    obtain ⟨q4, hq4⟩ : ∃ q, q = (modG n 4 z (kz 4)).isSome := ⟨_, rfl⟩
    obtain ⟨q5, hq5⟩ : ∃ q, q = (modG n 5 z zK23).isSome := ⟨_, rfl⟩
    rw [← hq4, ← hq5] at hno
    have HQ4 := Lib.hid hq4
    have HQ5 := Lib.hid hq5
    have HOU : Hid (∀ a1 c1 w', IntsAt w' a1 n z → Tab w' → Calls Tryd.prog 39 #[.slice a1 n c1] w' fun e w2 => ∃ v, e = .returned (.tuple #[v, .int .i64 4]) ∧ Below w'.heap.size w' w2) := Lib.hid fun a1 c1 w' h1 h2 => by
      have h := Outer_yes c1 h1 HZ.out h2 hg
      rw [hres] at h
      exact h.mono fun _ _ ⟨v, k1, _, k3⟩ => ⟨v, k1, k3⟩
    clear hg hres hq4 hq5
    go_enter Tryd.func11, Tryd.ntmps11
    go_wp2_with fail
    go_at_call 16
    refine (Few_any n z _ _ HA.out).mono ?_
    rintro e w1 ⟨a1, c1, rfl, hi1, hb1⟩
    rw [HMN.out] at hi1
    rw [HMN.out]
    have HI1 := Lib.hid hi1
    have HB1 := Lib.hid hb1
    clear hi1 hb1
    go_wp2_with fail
    go_at_call 39
    refine (HOU.out _ _ _ HI1.out (HT.out.below HB1.out)).mono ?_
    rintro e w2 ⟨vr, rfl, hb2⟩
    have HB2 := Lib.hid (HB1.out.trans (hb2.mono HB1.out.size))
    clear hb2
    go_wp2_with fail
    go_at_call 30
    refine (HKR.out _).mono ?_
    rintro e w3 ⟨g3, rfl, hr3, _, hb3⟩
    rw [k_same 4 (by omega)] at hr3
    have HK3 := Lib.hid (row_ints hr3 (show (cmpL 4 4).length = 4 by simp [cmpL]) (by omega))
    clear hr3
    have HB3 := Lib.hid (HB2.out.trans (hb3.mono HB2.out.size))
    clear hb3
    go_wp2_with fail
    go_at_call 52
    refine (hasL_any 4 (HA.out.below HB3.out) HK3.out HZ.out (kz_i64 4 (by omega)) (HT.out.below HB3.out) HG.out (kz_graph 4 (by omega) (by omega))).mono ?_
    rintro e w4 ⟨rfl, hb4⟩
    rw [show (modG n 4 z (natL (cmpL 4 4))).isSome = q4 from HQ4.out.symm]
    have HB4 := Lib.hid (HB3.out.trans (hb4.mono HB3.out.size))
    clear hb4
    go_wp2_with fail
    go_at_call 29
    refine (K23R_any _).mono ?_
    rintro e w5 ⟨g5, rfl, hr5, _, hb5⟩
    rw [HK23.out] at hr5
    have HK5 := Lib.hid (row_ints hr5 (show [28, 28, 3, 3, 3].length = 5 from rfl) (by omega))
    clear hr5
    have HB5 := Lib.hid (HB4.out.trans (hb5.mono HB4.out.size))
    clear hb5
    go_wp2_with fail
    go_at_call 52
    refine (hasL_any 5 (HA.out.below HB5.out) HK5.out HZ.out zK23_i64 (HT.out.below HB5.out) HG.out k23_graph).mono ?_
    rintro e w6 ⟨rfl, hb6⟩
    rw [show (modG n 5 z (natL [28, 28, 3, 3, 3])).isSome = q5 from HQ5.out.symm]
    have HB6 := Lib.hid (HB5.out.trans (hb6.mono HB5.out.size))
    clear hb6
    cases q4 <;> cases q5
    case false.false => cases hno
    all_goals
      clear hno
      go_wp2_with fail
      go_at_call 21
      refine (awake_any _ (HT.out.below HB6.out)).mono ?_
      rintro e w7 ⟨rfl, hb7⟩
      have HB7 := Lib.hid (HB6.out.trans (hb7.mono HB6.out.size))
      clear hb7
      go_wp2_with fail
      go_ret
      exact ⟨rfl, HB7.out⟩
  | some L =>
    obtain ⟨hf4, hf5, hrd, hlen, hO⟩ := round_yes hg hres
    obtain ⟨p, hp, hpe⟩ := idx_any kI (show 0 < n by omega) (by omega)
    have HF4 := Lib.hid hf4
    have HF5 := Lib.hid hf5
    have HO := Lib.hid hO
    have HOT := Lib.hid (hO.turn hp (g_sym hg))
    have HOB := Lib.hid ((hO.turn hp (g_sym hg)).back (g_sym hg))
    have HOU : Hid (∀ a1 c1 w', IntsAt w' a1 n z → Tab w' → Calls Tryd.prog 39 #[.slice a1 n c1] w' fun e w2 => ∃ g c, e = .returned (.tuple #[.slice (some ⟨g, 0, none⟩) n c, .int .i64 0]) ∧ n ≤ c ∧ c ≤ maxLen ∧ IntsAt w2 (some ⟨g, 0, none⟩) n (natL L) ∧ Below w'.heap.size w' w2) := Lib.hid fun a1 c1 w' h1 h2 => by
      have h := Outer_yes c1 h1 HZ.out h2 hg
      rw [hres] at h
      refine h.mono fun _ _ ⟨v, k1, k2, k3⟩ => ?_
      have k2' : IntsOwn _ w'.heap.size v (castL L) := k2
      obtain ⟨g, c, hv, hc, _⟩ := own_formC k2' (by rw [castL_len, hlen]; omega)
      obtain ⟨a2, c2, hv2, hi2⟩ := IntsOwn.at_ k2' (by omega)
      rw [castL_len, hlen] at hv hc
      rw [hlen] at hv2 hi2
      have hcl : c ≤ maxLen := by
        rcases k2'.2 with ⟨_, h0⟩ | ⟨g', cap', cur, hv', _, _, q1, q2, q3, _⟩
        · rw [castL_len, hlen] at h0; omega
        · rw [hv] at hv'
          simp only [Value.slice.injEq] at hv'
          omega
      subst hv
      simp only [Value.slice.injEq] at hv2
      obtain ⟨rfl, _, rfl⟩ := hv2
      exact ⟨g, c, k1, hc, hcl, hi2, k3⟩
    have HRD : Hid (∀ a1 c1 w', IntsAt w' a1 n z → Tab w' → Calls Tryd.prog 32 #[.slice a1 n c1] w' fun e w2 => ∃ v, e = .returned (.tuple #[v, .int .i64 0]) ∧ Below w'.heap.size w' w2) := Lib.hid fun a1 c1 w' h1 h2 => by
      have h := Reduce_yes c1 h1 HZ.out h2 hg
      refine h.mono fun _ _ ⟨v, k1, _, k3⟩ => ⟨v, ?_, k3⟩
      rw [k1]
      unfold codS
      rw [hrd]; rfl
    have hn0 : ((n : Int) == 0) = false := beq_eq_false_iff_ne.2 (by omega)
    clear hg hres hrd hlen hO hf4 hf5
    go_enter Tryd.func11, Tryd.ntmps11
    go_wp2_with fail
    go_at_call 16
    refine (Few_any n z _ _ HA.out).mono ?_
    rintro e w1 ⟨a1, c1, rfl, hi1, hb1⟩
    rw [HMN.out] at hi1
    rw [HMN.out]
    have HI1 := Lib.hid hi1
    have HB1 := Lib.hid hb1
    clear hi1 hb1
    go_wp2_with fail
    go_at_call 39
    refine (HOU.out _ _ _ HI1.out (HT.out.below HB1.out)).mono ?_
    rintro e w2 ⟨gl, cl, rfl, hcl, hcm, hl2, hb2⟩
    have HL2 := Lib.hid hl2
    clear hl2
    have HB2 := Lib.hid (HB1.out.trans (hb2.mono HB1.out.size))
    clear hb2
    go_wp2_with fail
    go_at_call 30
    refine (HKR.out _).mono ?_
    rintro e w3 ⟨g3, rfl, hr3, _, hb3⟩
    rw [k_same 4 (by omega)] at hr3
    have HK3 := Lib.hid (row_ints hr3 (show (cmpL 4 4).length = 4 by simp [cmpL]) (by omega))
    have HL3 := Lib.hid (HL2.out.below hb3)
    clear hr3
    have HB3 := Lib.hid (HB2.out.trans (hb3.mono HB2.out.size))
    clear hb3
    go_wp2_with fail
    go_at_call 52
    refine (hasL_any 4 (HA.out.below HB3.out) HK3.out HZ.out (kz_i64 4 (by omega)) (HT.out.below HB3.out) HG.out (kz_graph 4 (by omega) (by omega))).mono ?_
    rintro e w4 ⟨rfl, hb4⟩
    rw [show (modG n 4 z (natL (cmpL 4 4))).isSome = false from HF4.out]
    have HL4 := Lib.hid (HL3.out.below hb4)
    have HB4 := Lib.hid (HB3.out.trans (hb4.mono HB3.out.size))
    clear hb4
    go_wp2_with fail
    go_at_call 29
    refine (K23R_any _).mono ?_
    rintro e w5 ⟨g5, rfl, hr5, _, hb5⟩
    rw [HK23.out] at hr5
    have HK5 := Lib.hid (row_ints hr5 (show [28, 28, 3, 3, 3].length = 5 from rfl) (by omega))
    have HL5 := Lib.hid (HL4.out.below hb5)
    clear hr5
    have HB5 := Lib.hid (HB4.out.trans (hb5.mono HB4.out.size))
    clear hb5
    go_wp2_with fail
    go_at_call 52
    refine (hasL_any 5 (HA.out.below HB5.out) HK5.out HZ.out zK23_i64 (HT.out.below HB5.out) HG.out k23_graph).mono ?_
    rintro e w6 ⟨rfl, hb6⟩
    rw [show (modG n 5 z (natL [28, 28, 3, 3, 3])).isSome = false from HF5.out]
    have HL6 := Lib.hid (HL5.out.below hb6)
    have HB6 := Lib.hid (HB5.out.trans (hb6.mono HB5.out.size))
    clear hb6
    clear HL2 HL3 HL4 HL5 HK3 HK5
    unfold maxLen at hcm
    go_upto_region 14 with fail
    obtain ⟨i0, hi0, hz1, hz2, hz3⟩ := info_parts info_int
    obtain ⟨gq, oq, hgq, hgl, hgc⟩ := HL6.out.2 (by omega)
    simp only [Option.some.injEq, Addr.mk.injEq] at hgq
    obtain ⟨rfl, rfl, _⟩ := hgq
    have HGC := Lib.hid hgc
    have HSA : Hid (SliceArg w6 (.slice (some ⟨gl, p, none⟩) (n - p) (cl - p)) (n - p) (fun i => natL L (p + i))) := Lib.hid (Or.inr ⟨_, _, rfl, by omega, by unfold maxLen; omega, fun _ => ⟨gl, p, rfl, hgl, fun i hi => by
      have := HGC.out (p + i) (by omega)
      rw [Nat.zero_add] at this
      exact this⟩⟩)
    have q1 : (0 : Int) ≤ (p : Int) := by omega
    have q2 : (p : Int) ≤ (n : Int) := by omega
    have q3 : (p : Int) ≤ (cl : Int) := by omega
    have q4 : p ≤ n := by omega
    have q5 : p ≤ cl := by omega
    have q6 : ¬ cl = p := by omega
    have q7 : (cl == p) = false := beq_eq_false_iff_ne.2 q6
    clear hgc
    have HCL : Hid (Calls Tryd.prog 54 #[.slice (some ⟨gl, p, none⟩) (n - p) (cl - p)] w6.drew fun e w' => ∃ v, e = .returned v ∧ w'.ownsRow w6.heap.size 3 1 v (n - p) (intL (fun i => natL L (p + i)) (n - p)) ∧ Below w6.heap.size w6 w') := Lib.hid (by
      refine (CloneI_own (n - p) (fun i => natL L (p + i)) _ w6.drew (by omega) (HSA.out.below (Below.refl _ _).drew)).mono ?_
      rintro e w' ⟨v, h1, h2, h3⟩
      exact ⟨v, h1, h2, (Below.refl _ _).drew.trans h3⟩)
    go_region_law (first
      | (go_simp; go_at_call 54; refine HCL.out.mono ?_; rintro e w7 ⟨v7, rfl, ho7, hb7⟩; have HO7 := Lib.hid ho7; have HB7 := Lib.hid hb7; clear ho7 hb7)
      | (refine step_append_own rfl (.tmp 96) (.tmp 99) 22 rfl w6.heap.size 3 i0 (.int .i64 0) 1 8 Tryd.underlying22 hi0 hz1 hz2 hz3 rfl (by decide) _ (n - p) _ rfl HO7.out ⟨gl, 0, none⟩ p cl (intL (natL L) p) rfl (by simp [intL]) (fun j u hu => by
          have hj : j < p := by have := (List.getElem?_eq_some_iff.1 hu).1; simpa [intL] using this
          unfold intL at hu
          rw [map_range_get _ hj] at hu
          cases hu
          rw [Addr.add_lit, HB7.out.cell (p := ⟨gl, 0 + j, none⟩) hgl]
          exact HGC.out j (by omega)) (by intro u hu; unfold intL at hu; obtain ⟨i, _, rfl⟩ := List.mem_map.1 hu; rfl) (by unfold maxLen; omega) (by omega) HB7.out.size ?_; intro v8 w8 ho8 hg8; have HO8 := Lib.hid ho8; have HG8 := Lib.hid hg8; clear ho8 hg8))
    have hb8 : Below w6.heap.size w6 w8 := HB7.out.grown HG8.out HB7.out.size (fun k hk => (World.ownsRow.lt HO7.out k hk).1)
    have ho9 : w8.ownsRow w6.heap.size 3 1 v8 n (intL (fun i => natL L (if i + p < n then i + p else i + p - n)) n) := by
      have h := HO8.out
      rw [show n - p + p = n by omega, turn_list hp] at h
      exact h
    obtain ⟨g8, c8, rfl, _, hg8, hc8, hcm8, hM8⟩ := own_mine ho9 (by omega)
    have HM8 := Lib.hid hM8
    have HL8 := Lib.hid (HL6.out.below hb8)
    have HG8' : Hid (w.heap.size ≤ g8) := Lib.hid (Nat.le_trans HB6.out.size hg8)
    have HB8 := Lib.hid (HB6.out.trans (hb8.mono HB6.out.size))
    clear hb8
    clear ho9 hM8 HO8 HG8 HO7 HB7 HCL HSA HGC hgl hg8
    have HCK : Hid (∀ (a1 : Option Addr) (c1 : Nat) (am : Option Addr) (cm : Nat) (x : Nat → Int) (w' : World), IntsAt w' a1 n z → Tab w' → IntsAt w' am n x → n ≤ cm → isO n (natG z) n x = true → Calls Tryd.prog 40 #[.slice a1 n c1, .slice am n cm] w' fun e w2 => e = .returned (.tuple #[.bool true, .int .i64 0]) ∧ Below w'.heap.size w' w2) := Lib.hid fun a1 c1 am cm x w' h1 h2 h3 h4 h5 => by
      refine (CheckOuter_yes c1 cm h1 HZ.out h2 HG.out h3 h4).mono ?_
      rintro e w2 ⟨rfl, hb⟩
      rw [h5]
      exact ⟨rfl, hb⟩
    have HI1 : Hid (isO n (natG z) n (natL L) = true) := Lib.hid (isO_of HO.out fun i _ => rfl)
    have HI2 : Hid (isO n (natG z) n (fun i => natL L (if i + p < n then i + p else i + p - n)) = true) := Lib.hid (isO_of HOT.out fun i _ => rfl)
    have HI3 : Hid (isO n (natG z) n (backZ n (fun i => natL L (if i + p < n then i + p else i + p - n))) = true) := Lib.hid (isO_of HOB.out fun i _ => rfl)
    have hmx : n ≤ maxLen := by unfold maxLen; omega
    clear q1 q2 q3 q4 q5 q6 q7 hcm8 hpe hi0 hz1 hz2 hz3
    go_wp2_with fail
    go_at_call 16
    refine (Few_any n z _ _ (HA.out.below HB8.out)).mono ?_
    rintro e w9 ⟨a9, c9, rfl, hi9, hb9⟩
    rw [HMN.out] at hi9
    rw [HMN.out]
    have HI9 := Lib.hid hi9
    have HL9 := Lib.hid (HL8.out.below hb9)
    have HM9 := Lib.hid (HM8.out.below hb9)
    clear hi9 HL8 HM8
    have HB9 := Lib.hid (HB8.out.trans (hb9.mono HB8.out.size))
    clear hb9
    go_wp2_with fail
    go_at_call 40
    refine (HCK.out _ _ _ _ _ _ HI9.out (HT.out.below HB9.out) HL9.out hcl HI1.out).mono ?_
    rintro e w10 ⟨rfl, hb10⟩
    have HM10 := Lib.hid (HM9.out.below hb10)
    clear HM9 HL9 HI9
    have HB10 := Lib.hid (HB9.out.trans (hb10.mono HB9.out.size))
    clear hb10
    go_wp2_with fail
    go_at_call 16
    refine (Few_any n z _ _ (HA.out.below HB10.out)).mono ?_
    rintro e w11 ⟨a11, c11, rfl, hi11, hb11⟩
    rw [HMN.out] at hi11
    rw [HMN.out]
    have HI11 := Lib.hid hi11
    have HM11 := Lib.hid (HM10.out.below hb11)
    clear hi11 HM10
    have HB11 := Lib.hid (HB10.out.trans (hb11.mono HB10.out.size))
    clear hb11
    go_wp2_with fail
    go_at_call 40
    refine (HCK.out _ _ _ _ _ _ HI11.out (HT.out.below HB11.out) (HM11.out.ints hmx) hc8 HI2.out).mono ?_
    rintro e w12 ⟨rfl, hb12⟩
    have HM12 := Lib.hid (HM11.out.below hb12)
    clear HM11 HI11
    have HB12 := Lib.hid (HB11.out.trans (hb12.mono HB11.out.size))
    clear hb12
    go_wp2_with fail
    go_at_call 55
    refine (Reverse_any c8 (by omega) (by omega) HM12.out).mono ?_
    rintro e w13 ⟨rfl, hM13, hb13⟩
    have HM13 := Lib.hid hM13
    have HB13 := Lib.hid (HB12.out.trans (hb13.mono HG8'.out))
    clear hM13 hb13 HM12
    go_wp2_with fail
    go_at_call 16
    refine (Few_any n z _ _ (HA.out.below HB13.out)).mono ?_
    rintro e w14 ⟨a14, c14, rfl, hi14, hb14⟩
    rw [HMN.out] at hi14
    rw [HMN.out]
    have HI14 := Lib.hid hi14
    have HM14 := Lib.hid (HM13.out.below hb14)
    clear hi14 HM13
    have HB14 := Lib.hid (HB13.out.trans (hb14.mono HB13.out.size))
    clear hb14
    go_wp2_with fail
    go_at_call 40
    refine (HCK.out _ _ _ _ _ _ HI14.out (HT.out.below HB14.out) (HM14.out.ints hmx) hc8 HI3.out).mono ?_
    rintro e w15 ⟨rfl, hb15⟩
    clear HM14 HI14
    have HB15 := Lib.hid (HB14.out.trans (hb15.mono HB14.out.size))
    clear hb15
    go_wp2_with fail
    go_at_call 16
    refine (Few_any n z _ _ (HA.out.below HB15.out)).mono ?_
    rintro e w16 ⟨a16, c16, rfl, hi16, hb16⟩
    rw [HMN.out] at hi16
    rw [HMN.out]
    have HI16 := Lib.hid hi16
    clear hi16
    have HB16 := Lib.hid (HB15.out.trans (hb16.mono HB15.out.size))
    clear hb16
    go_wp2_with fail
    go_at_call 32
    refine (HRD.out _ _ _ HI16.out (HT.out.below HB16.out)).mono ?_
    rintro e w17 ⟨v17, rfl, hb17⟩
    have HB17 := Lib.hid (HB16.out.trans (hb17.mono HB16.out.size))
    clear hb17
    go_wp2_with fail
    go_at_call 21
    refine (awake_any _ (HT.out.below HB17.out)).mono ?_
    rintro e w18 ⟨rfl, hb18⟩
    have HB18 := Lib.hid (HB17.out.trans (hb18.mono HB17.out.size))
    clear hb18
    go_wp2_with fail
    go_ret
    exact ⟨rfl, HB18.out⟩

end Go.Proofs.YtfmppncefbjicaaDoor
