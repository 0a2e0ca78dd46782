/- The contracts of the reference's IsOrder, IsNumber, Double and Number. -/
import Derived.Test.YtnjpciaeapgbiaaDoorEt3
import Derived.Deep.RegionLaw
namespace Go.Proofs.YtnjpciaeapgbiaaDoor
set_option linter.unusedSimpArgs false
set_option linter.unusedVariables false
open Go.RowKit Go.Maps
attribute [local go_sem] i64_bit toNat_eq_one toNat_ne_one toNat_eq_zero toNat_ne_zero i64_and i64_or i64_andNot i64_or_pow i64_andNot_pow

theorem lt16e {n s : Nat} (hn : n ≤ 10) (h : s < 2 ^ n) : s < 65536 := by
  have : 2 ^ n ≤ 2 ^ 10 := Nat.pow_le_pow_right (by omega) hn
  omega

set_option maxRecDepth 20000 in
set_option maxHeartbeats 2000000 in
theorem IsOrderR_any {n m : Nat} {z : Nat → Int} {o : Option Addr} {w : World} (hn : n ≤ 10) (co : Nat) (hI : IntsAt w o m z) :
    Calls Tryd.prog 80 #[.slice o m co, .int .i64 n] w fun e w' => e = .returned (.bool (ordB n m z)) ∧ w = w' := by
  have hml := hI.1
  unfold maxLen at hml
  have HI := Lib.hid hI
  clear hI
  go_enter Tryd.func80, Tryd.ntmps80
  go_wp2_with fail
  go_loopw [5, 10] (fun f i wr => ∃ k : Nat, k ≤ m ∧ i = .int .i64 k ∧ f = .int .i64 (metO z k : Nat) ∧ (∀ i, i < k → okO n z i = true) ∧ w = wr) (fun _ i _ => m - (intOf i).toNat)
  case atStart => exact ⟨0, Nat.zero_le _, rfl, rfl, by omega, rfl⟩
  case round =>
    obtain ⟨k, hk, rfl, rfl, hok, rfl⟩ := hrel
    have HOK := Lib.hid hok
    have hmet := lt16e hn (metO_lt k hok)
    have HST : Hid (metO z (k + 1) = metO z k ||| 2 ^ (z k).toNat) := Lib.hid rfl
    clear hok
    by_cases hlt : k < m
    · obtain ⟨b, off, rfl, hb, hc⟩ := HI.out.2 (by omega)
      have ck := hc k hlt
      clear hc
      by_cases hr0 : 0 ≤ z k
      · by_cases hr1 : z k < n
        · have hin := inB_true hr0 hr1
          obtain ⟨s, hs⟩ : ∃ s : Nat, z k = s := ⟨(z k).toNat, by omega⟩
          have hsm : s < n := by omega
          have hs64 : s < 64 := by omega
          have hs16 : s < 16 := by omega
          have hps := pow_bd s hs16
          rw [hs] at ck hin
          rw [hs, Int.toNat_natCast] at HST
          have HMB : Hid (okO n z k = (true && !(metO z k).testBit s)) := Lib.hid (by unfold okO; rw [hs, hin, Int.toNat_natCast])
          clear hr0 hr1 hs
          generalize metO z k = M at *
          cases hq : M.testBit s
          · have HQ := Lib.hid (show okO n z k = true by rw [HMB.out, hq]; rfl)
            go_wp2_with fail
            go_roundw
            case rel => exact ⟨k + 1, by omega, by go_num, by rw [HST.out], fun i hi => by rcases Nat.lt_succ_iff_lt_or_eq.1 hi with h | h; exact HOK.out i h; rw [h]; exact HQ.out, by trivial⟩
            case measure => simp [intOf]; omega
          · have HQ := Lib.hid (show okO n z k = false by rw [HMB.out, hq]; rfl)
            go_wp2_with fail
            go_ret
            exact ⟨by rw [ordB_bad hlt HQ.out]; rfl, rfl⟩
        · have HQ := Lib.hid (show okO n z k = false by unfold okO; rw [inB_false (by omega)]; rfl)
          generalize z k = x at ck hr0 hr1
          go_wp2_with fail
          go_ret
          exact ⟨by rw [ordB_bad hlt HQ.out]; rfl, rfl⟩
      · have HQ := Lib.hid (show okO n z k = false by unfold okO; rw [inB_false (by omega)]; rfl)
        generalize z k = x at ck hr0
        go_wp2_with fail
        go_ret
        exact ⟨by rw [ordB_bad hlt HQ.out]; rfl, rfl⟩
    · have hke : k = m := by omega
      subst hke
      go_wp2_with fail
      go_ret
      refine ⟨?_, rfl⟩
      show Ending.returned (Value.bool ((k : Int) == (n : Int))) = _
      rw [cast_beq]
      by_cases hkn : k = n
      · subst hkn; rw [ordB_good HOK.out]; simp
      · rw [ordB_len hkn, beq_eq_false_iff_ne.2 hkn]


theorem allR_q (a : Option Addr) (n cap : Nat) (w : World) (hn : n < 16) :
    Calls Tryd.prog 66 #[.slice a n cap] w fun e w' => e = .returned (.int .i64 (2 ^ n - 1 : Nat)) ∧ w' = w := (allR_any a n cap w hn).mono fun _ _ ⟨h1, h2⟩ => ⟨h1, h2.symm⟩

theorem numRB_bad {n m k : Nat} {r : Nat → Nat} {z : Nat → Int} (hk : k < m) (h : okNR n r z k = false) : numRB n r m z = false := by
  unfold numRB
  have hf : (List.range m).all (okNR n r z) = false := by
    rw [Bool.eq_false_iff]
    intro ha
    rw [List.all_eq_true.1 ha k (List.mem_range.2 hk)] at h
    cases h
  rw [hf, Bool.and_false]

set_option maxRecDepth 20000 in
set_option maxHeartbeats 4000000 in
theorem IsNumberR_any {n m : Nat} {r : Nat → Nat} {z : Nat → Int} {ad o : Option Addr} {w : World} (G : GrAt w ad n r) (hP : Pl n r) (cap co : Nat) (hI : IntsAt w o m z) :
    Calls Tryd.prog 37 #[.slice ad n cap, .slice o m co] w fun e w' => e = .returned (.bool (numRB n r m z)) ∧ Below w.heap.size w w' := by
  have hpos := G.pos
  have hn10 := hP.le
  have hn16 : n < 16 := by omega
  have h10 := pow_le10 hn10
  have hml := hI.1
  unfold maxLen at hml
  have hml2 := G.ints.1
  unfold maxLen at hml2
  have HIO : Hid (∀ nq, Calls Tryd.prog 80 #[.slice o m co, .int .i64 n] (w.drewN nq) fun e w' => e = .returned (.bool (ordB n m z)) ∧ w' = w.drewN nq) := Lib.hid fun nq =>
    (IsOrderR_any hn10 co (hI.below (below_drewN (Below.refl _ _) nq))).mono fun _ _ ⟨h1, h2⟩ => ⟨h1, h2.symm⟩
  cases hord : ordB n m z
  · have HX : Hid (numRB n r m z = false) := Lib.hid (by unfold numRB; rw [hord]; rfl)
    rw [hord] at HIO
    clear G hI hP hord
    go_enter Tryd.func37, Tryd.ntmps37
    go_wp2_with fail
    go_quiet ((go_at_call 80; exact Calls.quiet_of_same (HIO.out _)))
    go_wp2_with fail
    go_ret
    exact ⟨by rw [HX.out]; rfl, below_drewN (Below.refl _ _) _⟩
  rw [hord] at HIO
  obtain ⟨hmn, hok⟩ := ordB_iff hord
  subst hmn
  by_cases hm2 : m < 2
  · have HX : Hid (numRB m r m z = false) := Lib.hid (by unfold numRB; rw [decide_eq_false (show ¬ 2 ≤ m by omega), Bool.and_false]; rfl)
    have d1 : decide ((m : Int) < 2) = true := by simp; omega
    clear G hI hP hord hok
    go_enter Tryd.func37, Tryd.ntmps37
    go_wp2_with fail
    go_quiet ((go_at_call 80; exact Calls.quiet_of_same (HIO.out _)))
    go_wp2_with fail
    go_ret
    exact ⟨by rw [HX.out]; rfl, below_drewN (Below.refl _ _) _⟩
  have d1 : decide ((m : Int) < 2) = false := by simp; omega
  obtain ⟨ob, oo, rfl, hlt, hc⟩ := hI.2 hpos
  have hbo : ∀ wx, Below w.heap.size w wx → ∀ i, i < m → wx.cell? ⟨ob, oo + i, none⟩ = some (.int .i64 (z i)) := fun wx hb i hi => by rw [hb.cell (p := ⟨ob, oo + i, none⟩) hlt]; exact hc i hi
  have HCO := Lib.hid hbo
  obtain ⟨_, hI2⟩ := G.ints
  obtain ⟨b, off, rfl, hlt2, hc2⟩ := hI2 hpos
  have hbg : ∀ wx, Below w.heap.size w wx → ∀ i, i < m → wx.cell? ⟨b, off + i, none⟩ = some (.int .i64 (r i : Nat)) := fun wx hb i hi => by rw [hb.cell (p := ⟨b, off + i, none⟩) hlt2]; exact hc2 i hi
  have HCG := Lib.hid hbg
  have HPL := Lib.hid hP
  have HOK := Lib.hid hok
  obtain ⟨a1, a2, a3, _⟩ := okO_iff (hok 0 (by omega))
  obtain ⟨b1, b2, b3, _⟩ := okO_iff (hok (m - 1) (by omega))
  obtain ⟨s0, hs0⟩ : ∃ s : Nat, z 0 = s := ⟨(z 0).toNat, by omega⟩
  obtain ⟨s1, hs1⟩ : ∃ s : Nat, z (m - 1) = s := ⟨(z (m - 1)).toNat, by omega⟩
  have c0 := hc 0 hpos
  rw [Nat.add_zero, hs0] at c0
  have cl := hc (m - 1) (by omega)
  rw [hs1] at cl
  have hix : ((m : Int) - 1).toNat = m - 1 := by omega
  have hs0m : s0 < m := by omega
  have hs1m : s1 < m := by omega
  have cg := hc2 s0 hs0m
  have hrs0 : r s0 < 65536 := by have := hP.bd s0 hs0m; omega
  have hs164 : s1 < 64 := by omega
  have HBT : Hid ((r (z 0).toNat).testBit (z (m - 1)).toNat = (r s0).testBit s1) := Lib.hid (by rw [hs0, hs1]; rfl)
  have HORD := Lib.hid hord
  clear G hI hP hord hok hbo hc hI2 hbg hc2 a1 a2 a3 b1 b2 b3 hs0 hs1 hlt hlt2
  cases hbit : (r s0).testBit s1
  · have HX : Hid (numRB m r m z = false) := Lib.hid (by unfold numRB; rw [HBT.out, hbit, Bool.and_false]; rfl)
    go_enter Tryd.func37, Tryd.ntmps37
    go_wp2_with fail
    go_quiet ((go_at_call 80; exact Calls.quiet_of_same (HIO.out _)))
    go_wp2_with fail
    go_ret
    exact ⟨by rw [HX.out]; rfl, below_drewN (Below.refl _ _) _⟩
  · have HBIT := Lib.hid hbit
    go_enter Tryd.func37, Tryd.ntmps37
    go_wp2_with fail
    go_quiet ((go_at_call 80; exact Calls.quiet_of_same (HIO.out _)))
    have HD0 := Lib.hid (below_drewN (Below.refl w.heap.size w) nq)
    generalize w.drewN nq = wq at *
    clear HIO c0 cl cg hbit
    go_wp2_with fail
    go_loopw [6, 39] (fun f i wr => ∃ k : Nat, k ≤ m ∧ i = .int .i64 k ∧ f = .int .i64 (metO z k : Nat) ∧ (∀ i, i < k → okNR m r z i = true) ∧ Below w.heap.size w wr) (fun _ i _ => m - (intOf i).toNat)
    case atStart => exact ⟨0, Nat.zero_le _, rfl, rfl, by omega, HD0.out⟩
    case round =>
      obtain ⟨k, hk, rfl, rfl, hokr, hbr⟩ := hrel
      have HOKR := Lib.hid hokr
      have HBR := Lib.hid hbr
      have hmet := metO_lt (z := z) k fun i hi => HOK.out i (by omega)
      clear hokr hbr HD0
      by_cases hltk : k < m
      · have ck := HCO.out wr HBR.out k hltk
        obtain ⟨h0, h1, h2, _⟩ := okO_iff (HOK.out k hltk)
        obtain ⟨s, hs⟩ : ∃ s : Nat, z k = s := ⟨(z k).toNat, by omega⟩
        have hsm : s < m := by omega
        rw [hs] at ck
        have HKN : Hid (okNR m r z k = (!(decide (0 < k) && decide (k < m - 1)) || (r s &&& metO z k != 0 && (r s &&& diff (restS m (metO z k)) (2 ^ s) != 0)))) := Lib.hid (by unfold okNR; rw [hs, Int.toNat_natCast])
        have HMS : Hid (metO z (k + 1) = metO z k ||| 2 ^ s) := Lib.hid (by show metO z k ||| 2 ^ (z k).toNat = _; rw [hs, Int.toNat_natCast])
        have HEX : Hid (okNR m r z k = true → ∀ i, i < k + 1 → okNR m r z i = true) := Lib.hid fun h i hi => by
          rcases Nat.lt_succ_iff_lt_or_eq.1 hi with h2 | h2
          · exact HOKR.out i h2
          · rw [h2]; exact h
        have hrs := HPL.out.bd s hsm
        have hrs16 : r s < 65536 := by omega
        have hs16 : s < 16 := by omega
        have hs64 : s < 64 := by omega
        have hps := pow_bd s hs16
        have cs := HCG.out (wr.drewN 1) (below_drewN HBR.out 1) s hsm
        clear h0 h1 h2 hs
        generalize metO z k = M at *
        have hM16 : M < 65536 := by omega
        have hall16 : 2 ^ m - 1 < 65536 := by omega
        have hrest : restS m M < 65536 := Nat.lt_of_lt_of_le rest_lt (by omega)
        have hleft : diff (restS m M) (2 ^ s) < 65536 := Nat.lt_of_le_of_lt (diff_le _ _) hrest
        have hand1 : r s &&& M < 65536 := Nat.lt_of_le_of_lt Nat.and_le_left hrs16
        have hand2 : r s &&& diff (restS m M) (2 ^ s) < 65536 := Nat.lt_of_le_of_lt Nat.and_le_left hrs16
        go_wp2_with fail
        go_quiet ((go_at_call 66; exact Calls.quiet_of_same (allR_q _ _ _ _ hn16)))
        have HBD := Lib.hid (below_drewN HBR.out nq)
        have cs := HCG.out (wr.drewN nq) HBD.out s hsm
        generalize wr.drewN nq = wq at *
        clear ck
        have hi1 : (k : Int) ≤ m := by omega
        by_cases hin : 0 < k ∧ k < m - 1
        · rw [decide_eq_true hin.1, decide_eq_true hin.2] at HKN
          have hk0 : 0 < k := hin.1
          have hki : (k : Int) < (m : Int) - 1 := by omega
          clear hi1 hin
          by_cases hX : r s &&& M = 0
          · have HF := Lib.hid (numRB_bad (r := r) (n := m) hltk (by rw [HKN.out, hX]; rfl))
            have hx : (((r s &&& M : Nat) : Int) == 0) = true := by rw [hX]; rfl
            clear hX
            go_wp2_with fail
            all_goals first
              | (exfalso; omega)
              | (go_ret; exact ⟨by rw [HF.out]; rfl, HBD.out⟩)
          · have hx : (((r s &&& M : Nat) : Int) == 0) = false := by rw [beq_eq_false_iff_ne]; omega
            by_cases hY : r s &&& diff (restS m M) (2 ^ s) = 0
            · have HF := Lib.hid (numRB_bad (r := r) (n := m) hltk (by rw [HKN.out, hY]; simp))
              have hy : (((r s &&& diff (restS m M) (2 ^ s) : Nat) : Int) == 0) = true := by rw [hY]; rfl
              clear hX hY
              go_wp2_with fail
              all_goals first
                | (exfalso; omega)
                | (go_ret; exact ⟨by rw [HF.out]; rfl, HBD.out⟩)
            · have hy : (((r s &&& diff (restS m M) (2 ^ s) : Nat) : Int) == 0) = false := by rw [beq_eq_false_iff_ne]; omega
              have HOK2 := Lib.hid (HEX.out (by rw [HKN.out, bne_iff_ne.2 hX, bne_iff_ne.2 hY]; rfl))
              clear hX hY
              go_wp2_with fail
              all_goals first
                | (exfalso; omega)
                | (go_roundw; (case rel => exact ⟨k + 1, by omega, by go_num, by rw [HMS.out], HOK2.out, HBD.out⟩); (case measure => simp [intOf]; omega))
        · have hno : (decide (0 < k) && decide (k < m - 1)) = false := by
            rw [Bool.and_eq_false_iff, decide_eq_false_iff_not, decide_eq_false_iff_not]; omega
          have HOK2 := Lib.hid (HEX.out (by rw [HKN.out, hno]; rfl))
          by_cases hk0 : 0 < k
          · have hki : ¬ (k : Int) < (m : Int) - 1 := by omega
            clear hin hno hi1
            go_wp2_with fail
            all_goals first
              | (exfalso; omega)
              | (go_roundw; (case rel => exact ⟨k + 1, by omega, by go_num, by rw [HMS.out], HOK2.out, HBD.out⟩); (case measure => simp [intOf]; omega))
          · clear hin hno hi1
            go_wp2_with fail
            all_goals first
              | (exfalso; omega)
              | (go_roundw; (case rel => exact ⟨k + 1, by omega, by go_num, by rw [HMS.out], HOK2.out, HBD.out⟩); (case measure => simp [intOf]; omega))
      · have hke : k = m := by omega
        have HX : Hid (numRB m r m z = true) := Lib.hid (by
          unfold numRB
          rw [HORD.out, HBT.out, HBIT.out, decide_eq_true (show 2 ≤ m by omega), List.all_eq_true.2 (fun i hi => HOKR.out i (by rw [hke]; exact List.mem_range.1 hi))]
          rfl)
        subst hke
        go_wp2_with fail
        go_ret
        exact ⟨by rw [HX.out]; rfl, HBR.out⟩

set_option maxRecDepth 20000 in
set_option maxHeartbeats 4000000 in
theorem DoubleR_any {n : Nat} {r : Nat → Nat} {ad : Option Addr} {w : World} (G : GrAt w ad n r) (hP : Pl n r) (cap : Nat) :
    Calls Tryd.prog 32 #[.slice ad n cap] w fun e w' => e = .returned (.bool (doubleB n r)) ∧ Below w.heap.size w w' := by
  have hpos := G.pos
  have hn10 := hP.le
  have hn16 : n < 16 := by omega
  have h10 := pow_le10 hn10
  have HG := Lib.hid G
  have HPL := Lib.hid hP
  have HX : Hid (doubleB n r = (decide (3 ≤ n) && connN n r ((2 ^ n - 1 : Nat) : Int) && cutsRTo n r (2 ^ n - 1) n == 0)) := Lib.hid (by unfold doubleB; rw [cuts_same hP n (Nat.le_refl _)])
  have hml := G.ints.1
  unfold maxLen at hml
  clear G hP
  by_cases h3 : 3 ≤ n
  rotate_left
  · have d1 : decide ((3 : Int) ≤ (n : Int)) = false := by simp; omega
    rw [decide_eq_false h3, Bool.false_and, Bool.false_and] at HX
    go_enter Tryd.func32, Tryd.ntmps32
    go_wp2_with fail
    go_ret
    exact ⟨by rw [HX.out]; rfl, Below.refl _ _⟩
  · have d1 : decide ((3 : Int) ≤ (n : Int)) = true := by simp; omega
    rw [decide_eq_true h3, Bool.true_and] at HX
    have hall0 : 0 < 2 ^ n - 1 := by
      have : 2 ^ 1 ≤ 2 ^ n := Nat.pow_le_pow_right (by omega) (by omega)
      omega
    cases hc : connN n r ((2 ^ n - 1 : Nat) : Int)
    · have HC := Lib.hid hc
      rw [hc, Bool.false_and] at HX
      clear hc
      go_enter Tryd.func32, Tryd.ntmps32
      go_wp2_with (first
        | (go_at_call 66; refine (allR_any _ _ _ _ hn16).mono ?_; rintro e w1 ⟨rfl, rfl⟩)
        | (go_at_call 70; refine (ConnectedR_any HG.out hn10 cap _ hall0 (by omega)).mono ?_; rintro e w2 ⟨rfl, hb2⟩; rw [HC.out]; have HB2 := Lib.hid hb2; clear hb2))
      go_ret
      exact ⟨by rw [HX.out]; rfl, HB2.out⟩
    · have HC := Lib.hid hc
      rw [hc, Bool.true_and] at HX
      clear hc
      go_enter Tryd.func32, Tryd.ntmps32
      go_wp2_with (first
        | (go_at_call 66; refine (allR_any _ _ _ _ hn16).mono ?_; rintro e w1 ⟨rfl, rfl⟩)
        | (go_at_call 70; refine (ConnectedR_any HG.out hn10 cap _ hall0 (by omega)).mono ?_; rintro e w2 ⟨rfl, hb2⟩; rw [HC.out]; have HB2 := Lib.hid hb2; clear hb2)
        | (go_at_call 22; refine (CutsR_any (HG.out.below HB2.out) hn10 HPL.out.bd cap).mono ?_; rintro e w3 ⟨rfl, hb3⟩; have HB3 := Lib.hid (HB2.out.trans (hb3.mono HB2.out.size)); clear hb3))
      go_ret
      refine ⟨?_, HB3.out⟩
      rw [HX.out, ← cast_beq0]
      rfl

end Go.Proofs.YtnjpciaeapgbiaaDoor
