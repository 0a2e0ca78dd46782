/- slices.Equal over pairs that stand anywhere; the contracts of Pairs; the walk of the law EarsPairs. -/
import Derived.Test.YtnjpciaeapgbiaaDoorEpc
namespace Go.Proofs.YtnjpciaeapgbiaaDoor
set_option linter.unusedSimpArgs false
set_option linter.unusedVariables false
open Go.RowKit Go.Maps

set_option maxRecDepth 20000 in
set_option maxHeartbeats 2000000 in
theorem EqualPairsAt_any {L M : List (Nat × Nat)} {v1 v2 : Value} {w : World} (h1 : PairsAt w v1 L) (h2 : PairsAt w v2 M) (hL : L.length ≤ 65536) :
    Calls Tryd.prog 20 #[v1, v2] w fun e w' => e = .returned (.bool (decide (L = M))) ∧ Below w.heap.size w w' := by
  obtain ⟨a1, c1, rfl, h1⟩ := h1
  obtain ⟨a2, c2, rfl, h2⟩ := h2
  by_cases hlen : L.length = M.length
  · have hneq := fun w a b c e => run_neq_pair w a b c e
    have hl1 : ((L.length : Int) != (M.length : Int)) = false := by rw [hlen]; simp
    have HC1 := Lib.hid h1
    have HC2 := Lib.hid h2
    have HLEN := Lib.hid hlen
    clear h1 h2 hlen
    go_enter Tryd.func20, Tryd.ntmps20
    go_wp2_with fail
    go_loopw [13] (fun i wr => ∃ k : Nat, k ≤ L.length ∧ i = .int .i64 k ∧ (∀ i, i < k → L[i]? = M[i]?) ∧ Below w.heap.size w wr) (fun i _ => L.length - (intOf i).toNat)
    case atStart => exact ⟨0, Nat.zero_le _, rfl, by omega, Below.refl _ _⟩
    case round =>
      obtain ⟨k, hk, rfl, hd, hbel⟩ := hrel
      have HD := Lib.hid hd
      have HB := Lib.hid hbel
      clear hd hbel
      by_cases hlt : k < L.length
      · obtain ⟨p, hp⟩ : ∃ p, L[k]? = some p := ⟨L[k], by simp [hlt]⟩
        obtain ⟨q, hq⟩ : ∃ q, M[k]? = some q := ⟨M[k]'(by have := HLEN.out; omega), by simp⟩
        obtain ⟨g1, rfl, x1, x2⟩ := HC1.out wr HB.out k p hp
        obtain ⟨g2, rfl, y1, y2⟩ := HC2.out wr HB.out k q hq
        have hlt2 : k < M.length := by have := HLEN.out; omega
        obtain ⟨pa, pb⟩ := p
        obtain ⟨qa, qb⟩ := q
        dsimp only at x1 x2 y1 y2
        have HP := Lib.hid hp
        have HQ := Lib.hid hq
        clear hp hq
        have s1 := cast_beq pa qa
        have s2 := cast_beq pb qb
        by_cases e1 : pa = qa
        · have t1 : (pa == qa) = true := by simpa using e1
          rw [t1] at s1
          by_cases e2 : pb = qb
          · have t2 : (pb == qb) = true := by simpa using e2
            rw [t2] at s2
            have HE : Hid (L[k]? = M[k]?) := Lib.hid (by rw [HP.out, HQ.out, e1, e2])
            clear e1 e2 t1 t2
            go_wp2_with fail
            go_quiet (fail)
            go_wp2_with fail
            go_roundw
            case rel => exact ⟨k + 1, by omega, by go_num, fun i hi => by rcases Nat.lt_succ_iff_lt_or_eq.1 hi with h | h; exact HD.out i h; rw [h]; exact HE.out, below_drewN HB.out _⟩
            case measure => simp [intOf]; omega
          · have t2 : (pb == qb) = false := by simpa using e2
            rw [t2] at s2
            have HE : Hid (¬ L = M) := Lib.hid (fun h => by have h3 := HP.out; rw [h, HQ.out] at h3; simp at h3; exact e2 h3.2.symm)
            clear e1 e2 t1 t2
            go_wp2_with fail
            go_quiet (fail)
            go_wp2_with fail
            go_ret
            exact ⟨by rw [decide_eq_false HE.out]; rfl, below_drewN HB.out _⟩
        · have t1 : (pa == qa) = false := by simpa using e1
          rw [t1] at s1
          have HE : Hid (¬ L = M) := Lib.hid (fun h => by have h3 := HP.out; rw [h, HQ.out] at h3; simp at h3; exact e1 h3.1.symm)
          clear e1 t1 s2
          go_wp2_with fail
          go_quiet (fail)
          go_wp2_with fail
          go_ret
          exact ⟨by rw [decide_eq_false HE.out]; rfl, below_drewN HB.out _⟩
      · have hke : k = L.length := by omega
        have HE : Hid (L = M) := Lib.hid (by
          apply List.ext_getElem?
          intro i
          by_cases hi : i < k
          · exact HD.out i hi
          · have := HLEN.out
            rw [List.getElem?_eq_none (by omega), List.getElem?_eq_none (by omega)])
        clear hke
        go_wp2_with fail
        go_ret
        exact ⟨by rw [decide_eq_true HE.out]; rfl, HB.out⟩
  · have hl1 : ((L.length : Int) != (M.length : Int)) = true := by simp; omega
    have HF := Lib.hid (show ¬ L = M from fun h => hlen (by rw [h]))
    clear h1 h2 hlen
    go_enter Tryd.func20, Tryd.ntmps20
    go_wp2_with fail
    go_ret
    exact ⟨by rw [decide_eq_false HF.out]; rfl, Below.refl _ _⟩


theorem pairsG_len {n : Nat} {r : Nat → Nat} (hn : n ≤ 10) : (pairsG n r).length ≤ 65536 := by
  unfold pairsG
  cases conB n r (2 ^ n - 1)
  · simp
  · have := refL_len n r hn n
    simp only [cond_true]
    omega

set_option maxRecDepth 20000 in
set_option maxHeartbeats 1000000 in
theorem Pairs_yes {n : Nat} {z : Nat → Int} {a : Option Addr} (cap : Nat) {w : World} (hI : IntsAt w a n z) (hz : InI64 z) (hT : Tab w) (hg : graphB n 10 z = true) :
    Calls Tryd.prog 51 #[.slice a n cap] w fun e w' => ∃ v, e = .returned (.tuple #[v, .int .i64 0]) ∧ PairsAt w' v (pairsG n (natG z)) ∧ Below w.heap.size w w' := by
  have HI := Lib.hid hI
  have HZ := Lib.hid hz
  have HT := Lib.hid hT
  have hP := pl_of hg
  clear hI hz hT
  go_enter Tryd.func51, Tryd.ntmps51
  go_wp2_with (first
    | (go_at_call 58; refine (newTown_yes cap HI.out HZ.out HT.out hg).mono ?_; rintro e w1 ⟨rfl, hb1, hG, hT1⟩; have HB1 := Lib.hid hb1; have HG := Lib.hid hG; have HT1 := Lib.hid hT1; clear hb1 hG hT1)
    | (go_at_call 87; refine (pairs_any HG.out hP cap HT1.out).mono ?_; rintro e w2 ⟨v, rfl, hO, hb2⟩; have HO := Lib.hid hO; have HB2 := Lib.hid (HB1.out.trans (hb2.mono HB1.out.size)); clear hb2 hO))
  go_ret2
  exact ⟨v, rfl, HO.out, HB2.out⟩
set_option maxRecDepth 20000 in
set_option maxHeartbeats 1000000 in
theorem Pairs_no {n : Nat} {z : Nat → Int} {a : Option Addr} (cap : Nat) {w : World} (hI : IntsAt w a n z) (hz : InI64 z) (hT : Tab w) (hg : graphB n 10 z = false) :
    Calls Tryd.prog 51 #[.slice a n cap] w fun e w' => e = .returned (.tuple #[.slice none 0 0, .int .i64 2]) ∧ Below w.heap.size w w' := by
  have HI := Lib.hid hI
  have HZ := Lib.hid hz
  have HT := Lib.hid hT
  clear hI hz hT
  go_enter Tryd.func51, Tryd.ntmps51
  go_wp2_with (go_at_call 58; refine (newTown_no cap HI.out HZ.out HT.out hg).mono ?_; rintro e w1 ⟨rfl, hb1⟩; have HB1 := Lib.hid hb1; clear hb1)
  go_ret2
  exact ⟨rfl, HB1.out⟩

set_option maxRecDepth 200000 in
set_option maxHeartbeats 4000000 in
theorem EarsPairs_walk (n : Nat) (z : Nat → Int) (v : Value) (w : World) (hA : SliceArg w v n z) (hz : InI64 z) (hTab : HasTab w) :
    Calls Tryd.prog 9 #[v] w (LawTrue w) := by
  obtain ⟨a, cap, rfl, hI⟩ := hA.ints
  have HA := Lib.hid hA
  have HI0 := Lib.hid hI
  have HZ := Lib.hid hz
  have HT := Lib.hid (Tab.of hTab)
  clear hA hI hz hTab
  cases hg : graphB n 10 z
  · have HG0 := Lib.hid hg
    have HGM : graphB (min n 14) 10 z = false := by rw [graphB_few]; exact hg
    clear hg
    go_enter Tryd.func9, Tryd.ntmps9
    go_wp2_with fail
    go_at_call 16
    refine (Few_any n z _ _ HA.out).mono ?_
    rintro e w1 ⟨a1, c1, rfl, hi1, hb1⟩
    have HB1 := Lib.hid hb1
    have HT1 := Lib.hid (HT.out.below hb1)
    have HI1 := Lib.hid hi1
    clear hb1 hi1
    go_wp2_with fail
    go_at_call 51
    refine (Pairs_no _ HI1.out HZ.out HT1.out HGM).mono ?_
    rintro e w2 ⟨rfl, hb2⟩
    have HB2 := Lib.hid (HB1.out.trans (hb2.mono HB1.out.size))
    clear hb2
    go_wp2_with fail
    go_at_call 18
    refine (ValidR_any n z _ _ _ (HI0.out.below HB2.out) HZ.out).mono ?_
    rintro e w5 ⟨rfl, hb5⟩
    rw [HG0.out]
    have HB5 := Lib.hid (HB2.out.trans (hb5.mono HB2.out.size))
    clear hb5
    go_wp2_with fail
    go_at_call 19
    refine (awake_any _ (HT.out.below HB5.out)).mono ?_
    rintro e w6 ⟨rfl, hb6⟩
    have HB6 := Lib.hid (HB5.out.trans (hb6.mono HB5.out.size))
    clear hb6
    go_wp2_with fail
    go_ret
    exact ⟨rfl, HB6.out⟩
  · have hP := pl_of hg
    have hmin : min n 14 = n := by have := hP.le; omega
    have HM : Hid (min n 14 = n) := Lib.hid hmin
    have HG0 := Lib.hid hg
    have HGR := Lib.hid (GrAt.of_graph HI0.out hg (by omega))
    have HBL := Lib.hid (pairsG_len (r := natG z) hP.le)
    clear hmin
    go_enter Tryd.func9, Tryd.ntmps9
    go_wp2_with fail
    go_at_call 16
    refine (Few_any n z _ _ HA.out).mono ?_
    rintro e w1 ⟨a1, c1, rfl, hi1, hb1⟩
    rw [HM.out] at hi1
    rw [HM.out]
    have HB1 := Lib.hid hb1
    have HT1 := Lib.hid (HT.out.below hb1)
    have HI1 := Lib.hid hi1
    clear hb1 hi1
    go_wp2_with fail
    go_at_call 51
    refine (Pairs_yes _ HI1.out HZ.out HT1.out HG0.out).mono ?_
    rintro e w2 ⟨v2, rfl, hO2, hb2⟩
    have HB2 := Lib.hid (HB1.out.trans (hb2.mono HB1.out.size))
    clear hb2
    have HO2 := Lib.hid hO2
    clear hO2
    go_wp2_with fail
    go_at_call 18
    refine (ValidR_any n z _ _ _ (HI0.out.below HB2.out) HZ.out).mono ?_
    rintro e w5 ⟨rfl, hb5⟩
    rw [HG0.out]
    have HX5 := Lib.hid hb5
    have HB5 := Lib.hid (HB2.out.trans (hb5.mono HB2.out.size))
    clear hb5
    go_wp2_with fail
    go_at_call 52
    refine (PairsR_any (HGR.out.below HB5.out) hP _).mono ?_
    rintro e w6 ⟨v6, rfl, hO6, hb6⟩
    have HX6 := Lib.hid (HX5.out.trans (hb6.mono HX5.out.size))
    have HO6 := Lib.hid hO6
    clear hO6
    have HB6 := Lib.hid (HB5.out.trans (hb6.mono HB5.out.size))
    clear hb6
    go_wp2_with fail
    go_at_call 20
    refine (EqualPairsAt_any (HO2.out.below HX6.out) HO6.out.at_ HBL.out).mono ?_
    rintro e w7 ⟨rfl, hb7⟩
    rw [decide_eq_true (rfl : pairsG n (natG z) = pairsG n (natG z))]
    have HB7 := Lib.hid (HB6.out.trans (hb7.mono HB6.out.size))
    clear hb7
    go_wp2_with fail
    go_at_call 19
    refine (awake_any _ (HT.out.below HB7.out)).mono ?_
    rintro e w9 ⟨rfl, hb9⟩
    have HB9 := Lib.hid (HB7.out.trans (hb9.mono HB7.out.size))
    clear hb9
    go_wp2_with fail
    go_ret
    exact ⟨rfl, HB9.out⟩

end Go.Proofs.YtnjpciaeapgbiaaDoor
