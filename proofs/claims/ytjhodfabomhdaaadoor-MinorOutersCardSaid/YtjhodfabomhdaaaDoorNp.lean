/- Package minor: isOrder, isOuterOrder, CheckOuter; the reference's IsOrder, IsOuter. -/
import Derived.Test.YtjhodfabomhdaaaDoorNo
namespace Go.Proofs.YtjhodfabomhdaaaDoor
set_option linter.unusedSimpArgs false
set_option linter.unusedVariables false
open Go.RowKit Go.Maps
attribute [local go_sem] i64_bit toNat_eq_one toNat_ne_one toNat_eq_zero toNat_ne_zero i64_and i64_or i64_andNot i64_or_pow i64_andNot_pow

theorem lt16p {n s : Nat} (hn : n ≤ 9) (h : s < 2 ^ n) : s < 65536 := by
  have : 2 ^ n ≤ 2 ^ 9 := Nat.pow_le_pow_right (by omega) hn
  omega

set_option maxRecDepth 20000 in
set_option maxHeartbeats 2000000 in
theorem isOrder_any {n : Nat} (a : Option Addr) (cap : Nat) {m : Nat} {z : Nat → Int} {o : Option Addr} {w : World} (hn : n ≤ 9) (co : Nat) (hI : IntsAt w o m z) :
    Calls Tryd.prog 95 #[.slice a n cap, .slice o m co] w fun e w' => e = .returned (.bool (ordB n m z)) ∧ w = w' := by
  have hml := hI.1
  unfold maxLen at hml
  by_cases hmn : m = n
  · subst hmn
    have HI := Lib.hid hI
    clear hI
    go_enter Tryd.func95, Tryd.ntmps95
    go_wp2_with fail
    go_loopw [5, 15] (fun f i wr => ∃ k : Nat, k ≤ m ∧ i = .int .i64 k ∧ f = .int .i64 (metO z k : Nat) ∧ (∀ i, i < k → okO m z i = true) ∧ w = wr) (fun _ i _ => m - (intOf i).toNat)
    case atStart => exact ⟨0, Nat.zero_le _, rfl, rfl, by omega, rfl⟩
    case round =>
      obtain ⟨k, hk, rfl, rfl, hok, rfl⟩ := hrel
      have HOK := Lib.hid hok
      have hmet := lt16p hn (metO_lt k hok)
      have HST : Hid (metO z (k + 1) = metO z k ||| 2 ^ (z k).toNat) := Lib.hid rfl
      clear hok
      by_cases hlt : k < m
      · obtain ⟨b, off, rfl, hb, hc⟩ := HI.out.2 (by omega)
        have ck := hc k hlt
        clear hc
        by_cases hr : 0 ≤ z k ∧ z k < m
        · have hin := inB_true hr.1 hr.2
          obtain ⟨s, hs⟩ : ∃ s : Nat, z k = s := ⟨(z k).toNat, by omega⟩
          have hsm : s < m := by omega
          have hs64 : s < 64 := by omega
          have hs16 : s < 16 := by omega
          have hps := pow_bd s hs16
          rw [hs] at ck hin
          have HS := Lib.hid hs
          rw [hs, Int.toNat_natCast] at HST
          have HMB : Hid (okO m z k = (true && !(metO z k).testBit s)) := Lib.hid (by unfold okO; rw [hs, hin, Int.toNat_natCast])
          clear hr hs
          generalize metO z k = M at *
          cases hq : M.testBit s
          · have HQ := Lib.hid (show okO m z k = true by rw [HMB.out, hq]; rfl)
            go_wp2_with (first | (go_at_call 72; refine (isNode_any _ _ _ _ _ (by omega)).mono ?_; rintro e w1 ⟨rfl, rfl⟩; rw [hin]) | (go_at_call 87; refine (has_any _ _ _ hmet hs64).mono ?_; rintro e w2 ⟨rfl, rfl⟩; rw [hq]))
            go_roundw
            case rel => exact ⟨k + 1, by omega, by go_num, by rw [HST.out], fun i hi => by rcases Nat.lt_succ_iff_lt_or_eq.1 hi with h | h; exact HOK.out i h; rw [h]; exact HQ.out, by trivial⟩
            case measure => simp [intOf]; omega
          · have HQ := Lib.hid (show okO m z k = false by rw [HMB.out, hq]; rfl)
            go_wp2_with (first | (go_at_call 72; refine (isNode_any _ _ _ _ _ (by omega)).mono ?_; rintro e w1 ⟨rfl, rfl⟩; rw [hin]) | (go_at_call 87; refine (has_any _ _ _ hmet hs64).mono ?_; rintro e w2 ⟨rfl, rfl⟩; rw [hq]))
            go_ret
            exact ⟨by rw [ordB_bad hlt HQ.out]; rfl, rfl⟩
        · have hin := inB_false hr
          have HQ := Lib.hid (show okO m z k = false by unfold okO; rw [hin]; rfl)
          clear hr
          go_wp2_with (go_at_call 72; refine (isNode_any _ _ _ _ _ (by omega)).mono ?_; rintro e w1 ⟨rfl, rfl⟩; rw [hin])
          go_ret
          exact ⟨by rw [ordB_bad hlt HQ.out]; rfl, rfl⟩
      · have hke : k = m := by omega
        subst hke
        go_wp2_with fail
        go_ret
        exact ⟨by rw [ordB_good HOK.out]; rfl, rfl⟩
  · have hne : ((m : Int) != (n : Int)) = true := by simp; omega
    have HF := Lib.hid (ordB_len (z := z) hmn)
    clear hI hmn
    go_enter Tryd.func95, Tryd.ntmps95
    go_wp2_with fail
    go_ret
    exact ⟨by rw [HF.out]; rfl, rfl⟩

set_option maxRecDepth 20000 in
set_option maxHeartbeats 2000000 in
theorem IsOrderR_any {n m : Nat} {z : Nat → Int} {o : Option Addr} {w : World} (hn : n ≤ 9) (co : Nat) (hI : IntsAt w o m z) :
    Calls Tryd.prog 69 #[.slice o m co, .int .i64 n] w fun e w' => e = .returned (.bool (ordB n m z)) ∧ w = w' := by
  have hml := hI.1
  unfold maxLen at hml
  have HI := Lib.hid hI
  clear hI
  go_enter Tryd.func69, Tryd.ntmps69
  go_wp2_with fail
  go_loopw [5, 10] (fun f i wr => ∃ k : Nat, k ≤ m ∧ i = .int .i64 k ∧ f = .int .i64 (metO z k : Nat) ∧ (∀ i, i < k → okO n z i = true) ∧ w = wr) (fun _ i _ => m - (intOf i).toNat)
  case atStart => exact ⟨0, Nat.zero_le _, rfl, rfl, by omega, rfl⟩
  case round =>
    obtain ⟨k, hk, rfl, rfl, hok, rfl⟩ := hrel
    have HOK := Lib.hid hok
    have hmet := lt16p hn (metO_lt k hok)
    have HST : Hid (metO z (k + 1) = metO z k ||| 2 ^ (z k).toNat) := Lib.hid rfl
    clear hok
    by_cases hlt : k < m
    · obtain ⟨b, off, rfl, hb, hc⟩ := HI.out.2 (by omega)
      have ck := hc k hlt
      clear hc
      by_cases hr0 : 0 ≤ z k
      · by_cases hr1 : z k < n
        · have hin := inB_true hr0 hr1
          obtain ⟨s, hs⟩ : ∃ s : Nat, z k = s := ⟨(z k).toNat, by omega⟩
          have hsm : s < n := by omega
          have hs64 : s < 64 := by omega
          have hs16 : s < 16 := by omega
          have hps := pow_bd s hs16
          rw [hs] at ck hin
          rw [hs, Int.toNat_natCast] at HST
          have HMB : Hid (okO n z k = (true && !(metO z k).testBit s)) := Lib.hid (by unfold okO; rw [hs, hin, Int.toNat_natCast])
          clear hr0 hr1 hs
          generalize metO z k = M at *
          cases hq : M.testBit s
          · have HQ := Lib.hid (show okO n z k = true by rw [HMB.out, hq]; rfl)
            go_wp2_with fail
            go_roundw
            case rel => exact ⟨k + 1, by omega, by go_num, by rw [HST.out], fun i hi => by rcases Nat.lt_succ_iff_lt_or_eq.1 hi with h | h; exact HOK.out i h; rw [h]; exact HQ.out, by trivial⟩
            case measure => simp [intOf]; omega
          · have HQ := Lib.hid (show okO n z k = false by rw [HMB.out, hq]; rfl)
            go_wp2_with fail
            go_ret
            exact ⟨by rw [ordB_bad hlt HQ.out]; rfl, rfl⟩
        · have HQ := Lib.hid (show okO n z k = false by unfold okO; rw [inB_false (by omega)]; rfl)
          generalize z k = x at ck hr0 hr1
          go_wp2_with fail
          go_ret
          exact ⟨by rw [ordB_bad hlt HQ.out]; rfl, rfl⟩
      · have HQ := Lib.hid (show okO n z k = false by unfold okO; rw [inB_false (by omega)]; rfl)
        generalize z k = x at ck hr0
        go_wp2_with fail
        go_ret
        exact ⟨by rw [ordB_bad hlt HQ.out]; rfl, rfl⟩
    · have hke : k = m := by omega
      subst hke
      go_wp2_with fail
      go_ret
      refine ⟨?_, rfl⟩
      show Ending.returned (Value.bool ((k : Int) == (n : Int))) = _
      rw [cast_beq]
      by_cases hkn : k = n
      · subst hkn; rw [ordB_good HOK.out]; simp
      · rw [ordB_len hkn, beq_eq_false_iff_ne.2 hkn]



/-- Whether numbers are an outer order. -/
def isO (n : Nat) (r : Nat → Nat) (m : Nat) (x : Nat → Int) : Bool := ordB n m x && (List.range m).all fun e => !crB r (fun i => (x i).toNat) e
theorem isO_bad {n m e : Nat} {r : Nat → Nat} {x : Nat → Int} (he : e < m) (h : crB r (fun i => (x i).toNat) e = true) : isO n r m x = false := by
  unfold isO
  rw [Bool.and_eq_false_iff]
  right
  rw [List.all_eq_false]
  exact ⟨e, List.mem_range.2 he, by rw [h]; simp⟩
theorem isO_good {n m : Nat} {r : Nat → Nat} {x : Nat → Int} (ho : ordB n m x = true) (h : ∀ e, e < m → crB r (fun i => (x i).toNat) e = false) : isO n r m x = true := by
  unfold isO
  rw [ho, Bool.true_and, List.all_eq_true]
  intro e he
  rw [h e (List.mem_range.1 he)]; rfl
theorem isO_not {n m : Nat} {r : Nat → Nat} {x : Nat → Int} (ho : ordB n m x = false) : isO n r m x = false := by unfold isO; rw [ho]; rfl
theorem ord_nat {n m : Nat} {x : Nat → Int} (ho : ordB n m x = true) : m = n ∧ ∀ i, i < n → (x i).toNat < n ∧ x i = ((x i).toNat : Nat) := by
  obtain ⟨h1, h2⟩ := ordB_iff ho
  exact ⟨h1, fun i hi => by obtain ⟨h3, h4, h5, _⟩ := okO_iff (h2 i hi); exact ⟨h5, by omega⟩⟩

set_option maxRecDepth 20000 in
set_option maxHeartbeats 2000000 in
theorem isOuterOrder_any {n m : Nat} {r : Nat → Nat} {a am : Option Addr} {w : World} (T : Tn w a n r) (cap cm : Nat) (hT : Tab w) (hs : ∀ u x, u < n → x < n → (r u).testBit x = (r x).testBit u) {x : Nat → Int} (hM : IntsAt w am m x) (hcm : m ≤ cm) :
    Calls Tryd.prog 67 #[.slice a n cap, .slice am m cm] w fun e w' => e = .returned (.bool (isO n r m x)) ∧ Below w.heap.size w w' := by
  have hn8 := T.le
  have HIO := Lib.hid (isOrder_any a cap (show n ≤ 9 by omega) cm hM)
  have HT := Lib.hid T
  have HTB := Lib.hid hT
  have HS := Lib.hid hs
  have HM := Lib.hid hM
  cases ho : ordB n m x
  · rw [ho] at HIO
    rw [isO_not ho]
    clear T hT hs hM ho
    go_enter Tryd.func67, Tryd.ntmps67
    go_wp2_with fail
    go_at_call 95
    refine (HIO.out).mono ?_
    rintro e w1 ⟨rfl, rfl⟩
    go_wp2_with fail
    go_ret
    exact ⟨rfl, Below.refl _ _⟩
  · rw [ho] at HIO
    obtain ⟨hmn, hx⟩ := ord_nat ho
    have HO := Lib.hid ho
    obtain ⟨X, hX⟩ : ∃ X, X = isO n r m x := ⟨_, rfl⟩
    have HX := Lib.hid hX
    rw [← hX]
    have hmM : m ≤ 8 := by omega
    have HG : Hid (∀ i, i < m → (x i).toNat < n ∧ x i = ((x i).toNat : Nat)) := Lib.hid fun i hi => hx i (by omega)
    clear T hT hs hM ho hmn hx hX
    go_enter Tryd.func67, Tryd.ntmps67
    go_wp2_with fail
    go_at_call 95
    refine (HIO.out).mono ?_
    rintro e w1 ⟨rfl, rfl⟩
    go_wp2_with fail
    go_loopw [12] (fun ix wr => ∃ e : Nat, e ≤ m ∧ ix = .int .i64 e ∧ (∀ i, i < e → crB r (fun i => (x i).toNat) i = false) ∧ Below w.heap.size w wr) (fun ix _ => m - (intOf ix).toNat)
    case atStart => exact ⟨0, Nat.zero_le _, rfl, fun i hi => by omega, Below.refl _ _⟩
    case round =>
      obtain ⟨e, he, rfl, hno, hb⟩ := hrel
      have HNO := Lib.hid hno
      have HB := Lib.hid hb
      clear hno hb
      by_cases hlt : e < m
      · have hcut : IntsAt wr am (e + 1) (fun i => (((x i).toNat : Nat) : Int)) := by
          obtain ⟨b1, o1, h1, h2, h3⟩ := (HM.out.below HB.out).2 (by omega)
          exact ⟨by unfold maxLen; omega, fun _ => ⟨b1, o1, h1, h2, fun i hi => by rw [h3 i (by omega)]; exact congrArg (fun t => some (Value.int .i64 t)) (HG.out i (by omega)).2⟩⟩
        have HC := Lib.hid (crosses_any (HT.out.below HB.out) cap HS.out (HTB.out.below HB.out) cm hcut (fun i hi => (HG.out i (by omega)).1) (by omega) (by omega))
        have hsl1 : decide ((cm : Int) < (e : Int) + 1) = false := decide_eq_false (by omega)
        have hsl2 : decide ((e : Int) + 1 < 0) = false := decide_eq_false (by omega)
        have hsl3 : decide (cm < e + 1) = false := decide_eq_false (by omega)
        have hsl4 : e + 1 ≤ cm := by omega
        obtain ⟨b1, o1, rfl, _, _⟩ := (HM.out.below HB.out).2 (by omega)
        clear hcut
        cases hcr : crB r (fun i => (x i).toNat) e
        · rw [hcr] at HC
          have HNX := Lib.hid (show ∀ i, i < e + 1 → crB r (fun i => (x i).toNat) i = false from fun i hi => by
            by_cases e1 : i = e
            · subst e1; exact hcr
            · exact HNO.out i (by omega))
          clear hcr
          go_wp2_with fail
          go_at_call 94
          refine (HC.out).mono ?_
          rintro e2 w2 ⟨rfl, hb2⟩
          have HB2 := Lib.hid (HB.out.trans (hb2.mono HB.out.size))
          clear hb2
          go_wp2_with fail
          go_roundw
          case rel => exact ⟨e + 1, by omega, by go_num, HNX.out, HB2.out⟩
          case measure => simp [intOf]; omega
        · rw [hcr] at HC
          have HXX := Lib.hid (HX.out.trans (isO_bad hlt hcr))
          clear hcr
          go_wp2_with fail
          go_at_call 94
          refine (HC.out).mono ?_
          rintro e2 w2 ⟨rfl, hb2⟩
          have HB2 := Lib.hid (HB.out.trans (hb2.mono HB.out.size))
          clear hb2
          go_wp2_with fail
          go_ret
          exact ⟨by rw [HXX.out]; rfl, HB2.out⟩
      · have hee : e = m := by omega
        have HXX := Lib.hid (HX.out.trans (isO_good HO.out fun i hi => HNO.out i (by omega)))
        clear hee
        go_wp2_with fail
        go_ret
        exact ⟨by rw [HXX.out]; rfl, HB.out⟩

set_option maxRecDepth 20000 in
set_option maxHeartbeats 1000000 in
theorem CheckOuter_yes {n m : Nat} {z x : Nat → Int} {a am : Option Addr} (ca cm : Nat) {w : World} (hI : IntsAt w a n z) (hz : InI64 z) (hT : Tab w) (hg : graphB n 8 z = true) (hM : IntsAt w am m x) (hcm : m ≤ cm) :
    Calls Tryd.prog 36 #[.slice a n ca, .slice am m cm] w fun e w' => e = .returned (.tuple #[.bool (isO n (natG z) m x), .int .i64 0]) ∧ Below w.heap.size w w' := by
  have HN := Lib.hid (newTown_yes ca hI hz hT hg)
  have HT := Lib.hid (Tn.of_graph hI hg)
  have HM := Lib.hid hM
  have HTB := Lib.hid hT
  have hs := g_sym hg
  clear hI hz hT hg hM
  go_enter Tryd.func36, Tryd.ntmps36
  go_wp2_with fail
  go_at_call 62
  refine (HN.out).mono ?_
  rintro e w1 ⟨rfl, hb1⟩
  have HB1 := Lib.hid hb1
  clear hb1
  go_wp2_with fail
  go_at_call 67
  refine (isOuterOrder_any (HT.out.below HB1.out) ca cm (HTB.out.below HB1.out) hs (HM.out.below HB1.out) hcm).mono ?_
  rintro e w2 ⟨rfl, hb2⟩
  have HB2 := Lib.hid (HB1.out.trans (hb2.mono HB1.out.size))
  clear hb2
  go_wp2_with fail
  go_ret2
  exact ⟨rfl, HB2.out⟩
set_option maxRecDepth 20000 in
set_option maxHeartbeats 1000000 in
theorem CheckOuter_no {n m : Nat} {z : Nat → Int} {a am : Option Addr} (ca cm : Nat) {w : World} (hI : IntsAt w a n z) (hz : InI64 z) (hT : Tab w) (hg : graphB n 8 z = false) :
    Calls Tryd.prog 36 #[.slice a n ca, .slice am m cm] w fun e w' => e = .returned (.tuple #[.bool false, .int .i64 2]) ∧ Below w.heap.size w w' := by
  have HN := Lib.hid (newTown_no ca hI hz hT hg)
  clear hI hT
  go_enter Tryd.func36, Tryd.ntmps36
  go_wp2_with fail
  go_at_call 62
  refine (HN.out).mono ?_
  rintro e w1 ⟨rfl, hb1⟩
  go_wp2_with fail
  go_ret2
  exact ⟨rfl, hb1⟩

set_option maxRecDepth 100000 in
set_option maxHeartbeats 4000000 in
theorem IsOuterR_any {n m : Nat} {r : Nat → Nat} {a am : Option Addr} {w : World} (T : Tn w a n r) (ca cm : Nat) {x : Nat → Int} (hM : IntsAt w am m x) :
    Calls Tryd.prog 38 #[.slice a n ca, .slice am m cm] w fun e w' => e = .returned (.bool (isO n r m x)) ∧ Below w.heap.size w w' := by
  have hn8 := T.le
  have h8 := pow_le8 hn8
  have hn1 := T.at_.pos
  have HIO := Lib.hid (IsOrderR_any (show n ≤ 9 by omega) cm hM)
  obtain ⟨bt, ot, hat, hbt, hct⟩ := T.at_.ints.2 hn1
  subst hat
  have HBD := Lib.hid T.bd
  have HCT := Lib.hid hct
  have HM := Lib.hid hM
  cases ho : ordB n m x
  · rw [ho] at HIO
    rw [isO_not ho]
    clear T hM ho hct
    go_enter Tryd.func38, Tryd.ntmps38
    go_wp2_with fail
    go_at_call 69
    refine (HIO.out).mono ?_
    rintro e w1 ⟨rfl, rfl⟩
    go_wp2_with fail
    go_ret
    exact ⟨rfl, Below.refl _ _⟩
  · rw [ho] at HIO
    obtain ⟨hmn, hx⟩ := ord_nat ho
    have HO := Lib.hid ho
    obtain ⟨X, hX⟩ : ∃ X, X = isO n r m x := ⟨_, rfl⟩
    have HX := Lib.hid hX
    rw [← hX]
    have hmM : m ≤ 8 := by omega
    obtain ⟨g, hgd⟩ : ∃ g : Nat → Nat, g = fun i => (x i).toNat := ⟨_, rfl⟩
    have HGD := Lib.hid hgd
    have HGB : Hid (∀ i, i < m → g i < n) := Lib.hid fun i hi => by rw [hgd]; exact (hx i (by omega)).1
    have HMC : Hid (0 < m → ∃ bm om, am = some ⟨bm, om, none⟩ ∧ ∀ wx, Below w.heap.size w wx → ∀ i, i < m → wx.cell? ⟨bm, om + i, none⟩ = some (.int .i64 (g i : Nat))) := Lib.hid fun h => by
      obtain ⟨bm, om, h1, h2, h3⟩ := HM.out.2 h
      exact ⟨bm, om, h1, fun wx hw i hi => by rw [hw.cell (p := ⟨bm, om + i, none⟩) h2, h3 i hi, hgd, ← (hx i (by omega)).2]⟩
    have HBAD : Hid (∀ e, e < m → crB r g e = true → X = false) := Lib.hid fun e he h => by rw [HX.out]; exact isO_bad he (by rw [← hgd]; exact h)
    have HGOOD : Hid ((∀ e, e < m → crB r g e = false) → X = true) := Lib.hid fun h => by rw [HX.out]; exact isO_good HO.out (by rw [← hgd]; exact h)
    clear T hM ho hmn hx hX hgd hct
    go_enter Tryd.func38, Tryd.ntmps38
    go_wp2_with fail
    go_at_call 69
    refine (HIO.out).mono ?_
    rintro e w1 ⟨rfl, rfl⟩
    go_wp2_with fail
    go_loopw [16] (fun ix wr => ∃ l : Nat, l ≤ m ∧ ix = .int .i64 l ∧ (∀ e, e < l → crB r g e = false) ∧ Below w.heap.size w wr) (fun ix _ => m - (intOf ix).toNat)
    case atStart => exact ⟨0, Nat.zero_le _, rfl, fun i hi => by omega, Below.refl _ _⟩
    case round =>
      obtain ⟨l, hlm, rfl, hnl, hb⟩ := hrel
      have HNL := Lib.hid hnl
      have HBR := Lib.hid hb
      clear hnl hb
      by_cases hll : l < m
      · have dl : decide ((l : Int) < (m : Int)) = true := decide_eq_true (by omega)
        have dl2 : decide (l < m) = true := decide_eq_true hll
        go_wp2_with fail
        go_loopw [20] (fun ix wr => ∃ x : Nat, x ≤ l ∧ ix = .int .i64 x ∧ (∀ k, k < x → ∀ j, j < k → ∀ i, i < j → prO r g l i j k = false) ∧ Below w.heap.size w wr) (fun ix _ => l - (intOf ix).toNat)
        case atStart => exact ⟨0, Nat.zero_le _, rfl, fun k hk => by omega, HBR.out⟩
        case round =>
          obtain ⟨x, hxL, rfl, hno, hbr⟩ := hrel
          have HNO := Lib.hid hno
          have HBR := Lib.hid hbr
          clear hno hbr
          by_cases hlt : x < l
          · have dx : decide ((x : Int) < (l : Int)) = true := decide_eq_true (by omega)
            have dx2 : decide (x < l) = true := decide_eq_true hlt
            go_wp2_with fail
            go_loopw [24] (fun iy wy => ∃ y : Nat, y ≤ x ∧ iy = .int .i64 y ∧ (∀ j, j < y → ∀ i, i < j → prO r g l i j x = false) ∧ Below w.heap.size w wy) (fun iy _ => x - (intOf iy).toNat)
            case atStart => exact ⟨0, Nat.zero_le _, rfl, fun j hj => by omega, HBR.out⟩
            case round =>
              obtain ⟨y, hyx, rfl, hno2, hbr2⟩ := hrel
              have HNO2 := Lib.hid hno2
              have HBR2 := Lib.hid hbr2
              clear hno2 hbr2 HBR
              by_cases hyl : y < x
              · have dy : decide ((y : Int) < (x : Int)) = true := decide_eq_true (by omega)
                have dy2 : decide (y < x) = true := decide_eq_true hyl
                go_wp2_with fail
                go_loopw [28] (fun iz wz => ∃ z : Nat, z ≤ y ∧ iz = .int .i64 z ∧ (∀ i, i < z → prO r g l i y x = false) ∧ Below w.heap.size w wz) (fun iz _ => y - (intOf iz).toNat)
                case atStart => exact ⟨0, Nat.zero_le _, rfl, fun j hj => by omega, HBR2.out⟩
                case round =>
                  obtain ⟨z, hzy, rfl, hno3, hbr3⟩ := hrel
                  obtain ⟨wz, rfl⟩ : ∃ x, x = wr := ⟨_, rfl⟩
                  have HNO3 := Lib.hid hno3
                  have HBR3 := Lib.hid hbr3
                  clear hno3 hbr3 HBR2
                  by_cases hzl : z < y
                  · have dz : decide ((z : Int) < (y : Int)) = true := decide_eq_true (by omega)
                    have dz2 : decide (z < y) = true := decide_eq_true hzl
                    obtain ⟨bm, om, rfl, hcM⟩ := HMC.out (by omega)
                    have HUB : Hid (∀ u : BelowW wz.heap.size wz, Below w.heap.size w u.w) := Lib.hid fun u => HBR3.out.trans (u.h.mono HBR3.out.size)
                    have gx := HGB.out x (by omega)
                    have gy := HGB.out y (by omega)
                    have gz := HGB.out z (by omega)
                    have gm := HGB.out l hll
                    have cX : ∀ u : BelowW wz.heap.size wz, u.w.cell? ⟨bm, om + x, none⟩ = some (.int .i64 (g x : Nat)) := fun u => hcM u.w (HUB.out u) x (by omega)
                    have cY : ∀ u : BelowW wz.heap.size wz, u.w.cell? ⟨bm, om + y, none⟩ = some (.int .i64 (g y : Nat)) := fun u => hcM u.w (HUB.out u) y (by omega)
                    have cZ : ∀ u : BelowW wz.heap.size wz, u.w.cell? ⟨bm, om + z, none⟩ = some (.int .i64 (g z : Nat)) := fun u => hcM u.w (HUB.out u) z (by omega)
                    have cM : ∀ u : BelowW wz.heap.size wz, u.w.cell? ⟨bm, om + l, none⟩ = some (.int .i64 (g l : Nat)) := fun u => hcM u.w (HUB.out u) l hll
                    have cTz : ∀ u : BelowW wz.heap.size wz, u.w.cell? ⟨bt, ot + g z, none⟩ = some (.int .i64 (r (g z) : Nat)) := fun u => by
                      rw [(HUB.out u).cell (p := ⟨bt, ot + g z, none⟩) hbt]; exact HCT.out _ gz
                    have cTy : ∀ u : BelowW wz.heap.size wz, u.w.cell? ⟨bt, ot + g y, none⟩ = some (.int .i64 (r (g y) : Nat)) := fun u => by
                      rw [(HUB.out u).cell (p := ⟨bt, ot + g y, none⟩) hbt]; exact HCT.out _ gy
                    have rz16 : r (g z) < 65536 := by have := HBD.out _ gz; omega
                    have ry16 : r (g y) < 65536 := by have := HBD.out _ gy; omega
                    have HPR : Hid (prO r g l z y x = ((r (g z)).testBit (g x) && (r (g y)).testBit (g l))) := Lib.hid rfl
                    have HYES : Hid (prO r g l z y x = true → X = false) := Lib.hid fun h => HBAD.out l hll (crB_pr hzl hyl hlt h)
                    have HNXT : Hid (prO r g l z y x = false → ∀ i, i < z + 1 → prO r g l i y x = false) := Lib.hid fun h i hi => by
                      by_cases e : i = z
                      · subst e; exact h
                      · exact HNO3.out i (by omega)
                    have gx16 : g x < 16 := by omega
                    have gm16 : g l < 16 := by omega
                    have gx64 : g x < 64 := by omega
                    have gm64 : g l < 64 := by omega
                    clear hcM
                    generalize g l = vm at *
                    generalize r (g z) = rz at *
                    generalize r (g y) = ry at *
                    generalize g x = vx at *
                    generalize g y = vy at *
                    generalize g z = vz at *
                    cases hb1 : rz.testBit vx
                    · have HN1 := Lib.hid (HNXT.out (by rw [HPR.out, hb1]; rfl))
                      go_wp2_with fail
                      refine wp_region_below wz.heap.size wz (Below.refl _ _) (by kernel_rfl) (by kernel_rfl) ?_
                      repeat (go_big_quiet_step (fail))
                      refine wpQuiet_nil ?_
                      rintro _ ⟨u, rfl⟩
                      have HU := Lib.hid (HUB.out u)
                      go_wp2_with fail
                      go_roundw
                      case rel => exact ⟨z + 1, by omega, by go_num, HN1.out, HU.out⟩
                      case measure => simp [intOf]; omega
                    · cases hb2 : ry.testBit vm
                      · have HN1 := Lib.hid (HNXT.out (by rw [HPR.out, hb1, hb2]; rfl))
                        go_wp2_with fail
                        refine wp_region_below wz.heap.size wz (Below.refl _ _) (by kernel_rfl) (by kernel_rfl) ?_
                        repeat (go_big_quiet_step (fail))
                        refine wpQuiet_nil ?_
                        rintro _ ⟨u, rfl⟩
                        have HU := Lib.hid (HUB.out u)
                        go_wp2_with fail
                        go_roundw
                        case rel => exact ⟨z + 1, by omega, by go_num, HN1.out, HU.out⟩
                        case measure => simp [intOf]; omega
                      · have HN1 := Lib.hid (HYES.out (by rw [HPR.out, hb1, hb2]; rfl))
                        go_wp2_with fail
                        refine wp_region_below wz.heap.size wz (Below.refl _ _) (by kernel_rfl) (by kernel_rfl) ?_
                        repeat (go_big_quiet_step (fail))
                        refine wpQuiet_nil ?_
                        rintro _ ⟨u, rfl⟩
                        have HU := Lib.hid (HUB.out u)
                        go_wp2_with fail
                        go_ret
                        exact ⟨by rw [HN1.out]; rfl, HU.out⟩
                  · have hze : z = y := by omega
                    have HN1 := Lib.hid (show ∀ j, j < y + 1 → ∀ i, i < j → prO r g l i j x = false from fun j hj i hi => by
                      by_cases e : j = y
                      · subst e; exact HNO3.out i (by omega)
                      · exact HNO2.out j (by omega) i hi)
                    clear hze
                    go_wp2_with fail
                    go_roundw
                    case rel => exact ⟨y + 1, by omega, by go_num, HN1.out, HBR3.out⟩
                    case measure => simp [intOf]; omega
              · have hye : y = x := by omega
                have HN1 := Lib.hid (show ∀ k, k < x + 1 → ∀ j, j < k → ∀ i, i < j → prO r g l i j k = false from fun k hk j hj i hi => by
                  by_cases e : k = x
                  · subst e; exact HNO2.out j (by omega) i hi
                  · exact HNO.out k (by omega) j hj i hi)
                clear hye
                go_wp2_with fail
                go_roundw
                case rel => exact ⟨x + 1, by omega, by go_num, HN1.out, HBR2.out⟩
                case measure => simp [intOf]; omega
          · have hxe : x = l := by omega
            have HN1 := Lib.hid (show ∀ e, e < l + 1 → crB r g e = false from fun e he => by
              by_cases e1 : e = l
              · subst e1; exact crB_none fun k hk j hj i hi => HNO.out k (by omega) j hj i hi
              · exact HNL.out e (by omega))
            clear hxe
            go_wp2_with fail
            go_roundw
            case rel => exact ⟨l + 1, by omega, by go_num, HN1.out, HBR.out⟩
            case measure => simp [intOf]; omega
      · have hle : l = m := by omega
        have HXX := Lib.hid (HGOOD.out fun e he => HNL.out e (by omega))
        clear hle
        go_wp2_with fail
        go_ret
        exact ⟨by rw [HXX.out]; rfl, HBR.out⟩

end Go.Proofs.YtjhodfabomhdaaaDoor
