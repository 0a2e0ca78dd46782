/- The contract of the reference's IsTree. -/
import Derived.Test.YtombmfphodikjaaW32
import Derived.Test.YtombmfphodikjaaW13
namespace Go.Proofs.Ytombmfphodikjaa
set_option linter.unusedSimpArgs false
set_option linter.unusedVariables false
open Go.RowKit Go.Maps
attribute [local go_sem] i64_bit toNat_eq_one toNat_ne_one toNat_eq_zero toNat_ne_zero i64_and i64_or i64_andNot i64_or_pow i64_andNot_pow

/-- What IsTree returns: the width and true of a tree decomposition. -/
def treeRes (n m : Nat) (z : Nat → Int) : Bool → Value
  | true => .tuple #[.int .i64 ((mxTo n z m : Nat) - 1), .bool true]
  | false => .tuple #[.int .i64 0, .bool false]
abbrev treeVR (ba : Option Addr) (m ca : Nat) (pa : Option Addr) (q cb : Nat) : Value := .agg #[.slice ba m ca, .slice pa q cb]

theorem topsTo_succ (z p : Nat → Int) (v k : Nat) : topsTo z p v (k + 1) = if topB z p v k then topsTo z p v k + 1 else topsTo z p v k := rfl
theorem togTo_succ (z : Nat → Int) (v k : Nat) : togTo z v (k + 1) = if (z k).toNat.testBit v then togTo z v k ||| (z k).toNat else togTo z v k := rfl

set_option maxRecDepth 100000 in
set_option maxHeartbeats 4000000 in
theorem IsTreeR_any {n : Nat} {r : Nat → Nat} {a : Option Addr} {w : World} (G : Gr w a n r) (cap : Nat) {m q : Nat} {z p : Nat → Int} {ba pa : Option Addr} (ca cb : Nat) (T : TreeAt w ba pa m q z p) :
    Calls Try.prog 28 #[.slice a n cap, treeVR ba m ca pa q cb] w fun e w' => e = .returned (treeRes n m z (decB n r m q z p)) ∧ Below w.heap.size w w' := by
  have hle := G.le
  have hn16 : n < 16 := by omega
  have hpn := pow_bd n hn16
  have hmb := T.bags.1
  have hmp := T.pars.1
  unfold maxLen at hmb hmp
  obtain ⟨w0, hw0, R0, HB0, hs0⟩ := new1 w 41 [.slice ba m ca, .slice pa q cb]
  have HT := Lib.hid (T.below HB0)
  have HG := Lib.hid (G.below HB0)
  have HW0 := Lib.hid hw0
  have HB := Lib.hid HB0
  have HR := Lib.hid R0
  have c0 := R0.cell (i := 0) rfl
  have c1 := R0.cell (i := 1) rfl
  have hl := R0.lt
  clear T G hw0 R0 HB0
  by_cases hsz : 1 ≤ m ∧ m ≤ 30 ∧ q = m
  · obtain ⟨h1, h30, rfl⟩ := hsz
    have HTB := Lib.hid (treeB_is (p := p) h1 h30)
    go_enter Try.func28, Try.ntmps28
    go_wp2_with fail
    rw [← HW0.out]
    go_wp2_with fail
    clear c0 c1 hl
    go_loopw [7, 8, 38] (fun c b i wr => ∃ k : Nat, k ≤ q ∧ i = .int .i64 k ∧ c = .int .i64 (rootsTo p k : Nat) ∧ b = .int .i64 (mxTo n z k : Nat) ∧ (∀ i, i < k → -1 ≤ p i ∧ p i < q) ∧ BagsOK n k z ∧ Below w0.heap.size w0 wr) (fun _ _ i _ => q - (intOf i).toNat)
    case atStart => exact ⟨0, Nat.zero_le _, rfl, rfl, rfl, by omega, fun i hi => by omega, Below.refl _ _⟩
    case round =>
      obtain ⟨k, hk, rfl, rfl, rfl, hok, hbok, hbel⟩ := hrel
      have HOK := Lib.hid hok
      have HBK := Lib.hid hbok
      have HBL := Lib.hid hbel
      have HRW := Lib.hid (HR.out.below hbel HR.out.lt)
      have c0 := HRW.out.cell (i := 0) rfl
      have c1 := HRW.out.cell (i := 1) rfl
      have hl := HRW.out.lt
      have hrt := rootsTo_le p k
      have hmx := mxTo_le n z k
      clear hok hbok hbel
      by_cases hlt : k < q
      · obtain ⟨b, off, rfl, hb, hc⟩ := (HT.out.below HBL.out).bags.2 (by omega)
        obtain ⟨b', off', rfl, hb', hc'⟩ := (HT.out.below HBL.out).pars.2 (by omega)
        have ck := hc k hlt
        have pk := hc' k hlt
        have HST : Hid (rootsTo p (k + 1) = if p k = -1 then rootsTo p k + 1 else rootsTo p k) := Lib.hid rfl
        have HMX : Hid (mxTo n z (k + 1) = max (mxTo n z k) (szS n (z k).toNat)) := Lib.hid rfl
        have HBAD : Hid (¬ ((-1 ≤ p k ∧ p k < q) ∧ 0 ≤ z k ∧ z k < 2 ^ n) → decB n r q q z p = false) := Lib.hid (fun h => decB_no (fun h2 => by
          obtain ⟨t1, t2, _⟩ := h2
          obtain ⟨_, _, _, t3, _⟩ := treeB_iff t1
          obtain ⟨t4, t5⟩ := t2 k hlt
          exact h ⟨t3 k hlt, t4, by rw [pow_cast]; omega⟩))
        have HGD : Hid (-1 ≤ p k ∧ p k < q → ∀ i, i < k + 1 → -1 ≤ p i ∧ p i < q) := Lib.hid (fun h i hi => by
          rcases Nat.lt_succ_iff_lt_or_eq.1 hi with h1 | h1
          · exact HOK.out i h1
          · rw [h1]; exact h)
        have HGB : Hid (0 ≤ z k ∧ z k < 2 ^ n → BagsOK n (k + 1) z) := Lib.hid (fun h i hi => by
          rcases Nat.lt_succ_iff_lt_or_eq.1 hi with h1 | h1
          · exact HBK.out i h1
          · rw [h1]; exact ⟨h.1, nat_pow_cast h.2 h.1⟩)
        have hszk := szS_le n (z k).toNat
        clear hc hc'
        generalize p k = x at *
        generalize z k = y at *
        generalize rootsTo p k = rt at *
        generalize mxTo n z k = mx at *
        by_cases hlo : x < -1
        · have HF := Lib.hid (HBAD.out (by omega))
          go_wp2_with fail
          go_quiet (fail)
          go_wp2_with fail
          go_ret2
          exact ⟨by rw [HF.out]; rfl, HB.out.trans ((below_drewN HBL.out _).mono HB.out.size)⟩
        · by_cases hhi : x < q
          · by_cases hy0 : y < 0
            · have HF := Lib.hid (HBAD.out (by omega))
              have hlo' : -1 ≤ x := by omega
              have d1 : decide (x < -1) = false := decide_eq_false (by omega)
              have d2 : decide ((q : Int) ≤ x) = false := decide_eq_false (by omega)
              clear hlo
              go_wp2_with fail
              go_quiet (fail)
              go_wp2_with fail
              go_ret2
              exact ⟨by rw [HF.out]; rfl, HB.out.trans ((below_drewN HBL.out _).mono HB.out.size)⟩
            · by_cases hy1 : y < 2 ^ n
              · obtain ⟨s, rfl⟩ : ∃ s : Nat, y = s := ⟨y.toNat, by omega⟩
                have hs2 : s < 2 ^ n := by rw [pow_cast] at hy1; omega
                have HS2 := Lib.hid hs2
                have hlo' : -1 ≤ x := by omega
                have HG2 := Lib.hid (HGD.out ⟨hlo', hhi⟩)
                have HGB2 := Lib.hid (HGB.out ⟨by omega, hy1⟩)
                have d1 : decide (x < -1) = false := decide_eq_false (by omega)
                have d2 : decide ((q : Int) ≤ x) = false := decide_eq_false (by omega)
                have d3 : decide ((s : Int) < 0) = false := decide_eq_false (by omega)
                have d4 : decide ((2 : Int) ^ n ≤ (s : Int)) = false := decide_eq_false (by omega)
                rw [Int.toNat_natCast] at HMX hszk
                clear hlo hy0 hs2
                by_cases hm : x < 0
                · have hm1 : x = -1 := by omega
                  have HM := Lib.hid hm1
                  clear hm1
                  go_wp2_with fail
                  go_quiet (fail)
                  go_wp2_with (go_at_call 54; refine (Size_any hle s HS2.out _).mono ?_; rintro e w4 ⟨rfl, rfl⟩)
                  go_roundw
                  case rel => exact ⟨k + 1, by omega, by go_num, by rw [HST.out, if_pos HM.out]; first | rfl | go_num, by rw [HMX.out]; first | rfl | (congr 1; omega), HG2.out, HGB2.out, below_drewN HBL.out _⟩
                  case measure => simp [intOf]; omega
                · have HM : Hid (¬ x = -1) := Lib.hid (by omega)
                  go_wp2_with fail
                  go_quiet (fail)
                  go_wp2_with (go_at_call 54; refine (Size_any hle s HS2.out _).mono ?_; rintro e w4 ⟨rfl, rfl⟩)
                  go_roundw
                  case rel => exact ⟨k + 1, by omega, by go_num, by rw [HST.out, if_neg HM.out], by rw [HMX.out]; first | rfl | (congr 1; omega), HG2.out, HGB2.out, below_drewN HBL.out _⟩
                  case measure => simp [intOf]; omega
              · have HF := Lib.hid (HBAD.out (by omega))
                have hlo' : -1 ≤ x := by omega
                have hy0' : 0 ≤ y := by omega
                have hy1' : 2 ^ n ≤ y := by omega
                have d1 : decide (x < -1) = false := decide_eq_false (by omega)
                have d2 : decide ((q : Int) ≤ x) = false := decide_eq_false (by omega)
                have d3 : decide (y < 0) = false := decide_eq_false (by omega)
                clear hlo hy0 hy1
                go_wp2_with fail
                go_quiet (fail)
                go_wp2_with fail
                go_ret2
                exact ⟨by rw [HF.out]; rfl, HB.out.trans ((below_drewN HBL.out _).mono HB.out.size)⟩
          · have HF := Lib.hid (HBAD.out (by omega))
            have hlo' : -1 ≤ x := by omega
            have hhi' : (q : Int) ≤ x := by omega
            have d1 : decide (x < -1) = false := decide_eq_false (by omega)
            clear hlo hhi
            go_wp2_with fail
            go_quiet (fail)
            go_wp2_with fail
            go_ret2
            exact ⟨by rw [HF.out]; rfl, HB.out.trans ((below_drewN HBL.out _).mono HB.out.size)⟩
      · have hke : k = q := by omega
        subst hke
        obtain ⟨wq, hwq⟩ : ∃ wq, wq = wr := ⟨_, rfl⟩
        have HTQ : Hid (TreeAt wq ba pa k k z p) := Lib.hid (by rw [hwq]; exact HT.out.below HBL.out)
        have HGQ : Hid (Gr wq a n r) := Lib.hid (by rw [hwq]; exact HG.out.below HBL.out)
        have HRQ : Hid (Row wq w.heap.size 41 [.slice ba k ca, .slice pa k cb]) := Lib.hid (by rw [hwq]; exact HRW.out)
        have HBQ : Hid (Below w.heap.size w wq) := Lib.hid (by rw [hwq]; exact HB.out.trans (HBL.out.mono HB.out.size))
        rw [← hwq] at c0 c1 hl ⊢
        clear hwq HRW HBL
        have HMXK : Hid (mxTo n z k ≤ n) := Lib.hid hmx
        go_wp2_with fail
        go_loopw [85] (fun i wx => ∃ k2 : Nat, k2 ≤ k ∧ i = .int .i64 k2 ∧ (∀ i : Nat, i < k2 → upTo p i k = -1) ∧ wq = wx) (fun i _ => k - (intOf i).toNat)
        case atStart => exact ⟨0, Nat.zero_le _, rfl, by omega, rfl⟩
        case round =>
          obtain ⟨k2, hk2, rfl, hdone, rfl⟩ := hrel
          have HD := Lib.hid hdone
          clear hdone
          by_cases hl2 : k2 < k
          · go_wp2_with fail
            go_loopw [12, 90] (fun c i wx => ∃ (j : Nat) (x : Int), j ≤ k ∧ i = .int .i64 j ∧ c = .int .i64 x ∧ x = upTo p k2 j ∧ wq = wx) (fun _ i _ => k - (intOf i).toNat)
            case atStart => exact ⟨0, k2, Nat.zero_le _, rfl, rfl, rfl, rfl⟩
            case round =>
              obtain ⟨j, x, hj, rfl, rfl, hx, rfl⟩ := hrel
              have HX := Lib.hid hx
              have hbd := upTo_bd HOK.out hl2 j
              rw [← hx] at hbd
              have HST : Hid (upTo p k2 (j + 1) = if upTo p k2 j = -1 then -1 else p (upTo p k2 j).toNat) := Lib.hid rfl
              rw [← hx] at HST
              clear hx
              by_cases hlj : j < k
              · by_cases hm : x = -1
                · have hq0 : x < 0 := by omega
                  have HM := Lib.hid hm
                  clear hm
                  go_wp2_with fail
                  go_roundw
                  case rel => exact ⟨j + 1, x, by omega, by go_num, rfl, by rw [HST.out, if_pos HM.out, HM.out], by trivial⟩
                  case measure => simp [intOf]; omega
                · have HM := Lib.hid hm
                  obtain ⟨s, rfl⟩ : ∃ s : Nat, x = s := ⟨x.toNat, by omega⟩
                  have hs : s < k := by omega
                  obtain ⟨b, off, rfl, hb, hc⟩ := HTQ.out.pars.2 (by omega)
                  have cs := hc s hs
                  clear hc hm hbd
                  go_wp2_with fail
                  go_roundw
                  case rel => exact ⟨j + 1, p s, by omega, by go_num, rfl, by rw [HST.out, if_neg HM.out, Int.toNat_natCast], by trivial⟩
                  case measure => simp [intOf]; omega
              · have hje : j = k := by omega
                subst hje
                by_cases hm : x = -1
                · have hq0 : x < 0 := by omega
                  have HF : Hid (upTo p k2 j = -1) := Lib.hid (by rw [← HX.out]; exact hm)
                  clear hm
                  go_wp2_with fail
                  go_roundw
                  case rel => exact ⟨k2 + 1, by omega, by go_num, fun i hi => by rcases Nat.lt_succ_iff_lt_or_eq.1 hi with h | h; exact HD.out i h; rw [h]; exact HF.out, by trivial⟩
                  case measure => simp [intOf]; omega
                · have hq0 : 0 ≤ x := by omega
                  have HF : Hid (decB n r j j z p = false) := Lib.hid (decB_no (fun h => by
                    have h2 := (treeB_iff h.1).2.2.2.2.2
                    rw [cycB_yes hl2 (p := p) (by rw [← HX.out]; exact hm)] at h2; cases h2))
                  clear hm
                  go_wp2_with fail
                  go_ret2
                  exact ⟨by rw [HF.out]; rfl, HBQ.out⟩
          · have hke2 : k2 = k := by omega
            subst hke2
            have HCY := Lib.hid (cycB_no HD.out)
            by_cases hr1 : rootsTo p k2 = 1
            · have hq : (((rootsTo p k2 : Nat) : Int) != 1) = false := by rw [hr1]; rfl
              have HTR : Hid (treeB k2 k2 p = true) := Lib.hid (by rw [HTB.out, parB_good HOK.out, decide_eq_true hr1, HCY.out]; rfl)
              clear hr1
              go_wp2_with fail
              go_loopw [107] (fun i wx => ∃ v : Nat, v ≤ n ∧ i = .int .i64 v ∧ (∀ u, u < v → nodeB r k2 z p u = true) ∧ Below wq.heap.size wq wx) (fun i _ => n - (intOf i).toNat)
              case atStart => exact ⟨0, Nat.zero_le _, rfl, by omega, Below.refl _ _⟩
              case round =>
                obtain ⟨v, hv, rfl, hdone, hbel⟩ := hrel
                have HDV := Lib.hid hdone
                have HBV := Lib.hid hbel
                clear hdone hbel c0 c1 hl
                have HRV := Lib.hid (HRQ.out.below HBV.out HRQ.out.lt)
                have c0 := HRV.out.cell (i := 0) rfl
                have c1 := HRV.out.cell (i := 1) rfl
                have hl := HRV.out.lt
                by_cases hlv : v < n
                · have hv64 : v < 64 := by omega
                  obtain ⟨wv, hwv⟩ : ∃ wv, wv = wr := ⟨_, rfl⟩
                  have HTV : Hid (TreeAt wv ba pa k2 k2 z p) := Lib.hid (by rw [hwv]; exact HTQ.out.below HBV.out)
                  have HGV : Hid (Gr wv a n r) := Lib.hid (by rw [hwv]; exact HGQ.out.below HBV.out)
                  have HBV2 : Hid (Below wq.heap.size wq wv) := Lib.hid (by rw [hwv]; exact HBV.out)
                  rw [← hwv] at c0 c1 hl ⊢
                  clear hwv HRV HBV
                  go_wp2_with fail
                  go_loopw [14, 15, 113] (fun h t i wx => ∃ i' : Nat, i' ≤ k2 ∧ i = .int .i64 i' ∧ h = .int .i64 (topsTo z p v i' : Nat) ∧ t = .int .i64 (togTo z v i' : Nat) ∧ wv = wx) (fun _ _ i _ => k2 - (intOf i).toNat)
                  case atStart => exact ⟨0, Nat.zero_le _, rfl, rfl, rfl, rfl⟩
                  case round =>
                    obtain ⟨i', hi', rfl, rfl, rfl, rfl⟩ := hrel
                    have htp := topsTo_le z p v i'
                    have htg := lt16 hle (togTo_lt HBK.out v i' hi')
                    by_cases hli : i' < k2
                    · obtain ⟨b, off, rfl, hb, hc⟩ := HTV.out.bags.2 (by omega)
                      obtain ⟨b', off', rfl, hb', hc'⟩ := HTV.out.pars.2 (by omega)
                      have ck := hc i' hli
                      have pk := hc' i' hli
                      obtain ⟨s, hs, hs2⟩ := HBK.out.nat hli
                      have hs16 := lt16 hle hs2
                      obtain ⟨p0, p1⟩ := HOK.out i' hli
                      have HST := Lib.hid (topsTo_succ z p v i')
                      have HSG : Hid (togTo z v (i' + 1) = if s.testBit v then togTo z v i' ||| s else togTo z v i') := Lib.hid (by rw [togTo_succ, hs, Int.toNat_natCast])
                      generalize topsTo z p v i' = A at *
                      generalize togTo z v i' = B at *
                      rw [hs] at ck
                      cases hq : s.testBit v
                      · have HTP : Hid (topB z p v i' = false) := Lib.hid (by unfold topB; rw [hs, Int.toNat_natCast, hq]; rfl)
                        clear hc hc' hs hs2 p0 p1 pk
                        go_wp2_with fail
                        go_roundw
                        case rel => exact ⟨i' + 1, by omega, by go_num, by rw [HST.out, HTP.out]; rfl, by rw [HSG.out, hq]; rfl, by trivial⟩
                        case measure => simp [intOf]; omega
                      · by_cases hm : p i' < 0
                        · have HTP : Hid (topB z p v i' = true) := Lib.hid (by unfold topB; rw [hs, Int.toNat_natCast, hq, decide_eq_true (by omega)]; rfl)
                          clear hc hc' hs hs2 p0 p1
                          generalize p i' = x at pk hm
                          go_wp2_with fail
                          go_roundw
                          case rel => exact ⟨i' + 1, by omega, by go_num, by rw [HST.out, HTP.out]; first | rfl | go_num, by rw [HSG.out, hq]; rfl, by trivial⟩
                          case measure => simp [intOf]; omega
                        · obtain ⟨x, hx⟩ : ∃ x : Nat, p i' = x := ⟨(p i').toNat, by omega⟩
                          have hxm : x < k2 := by omega
                          obtain ⟨t, ht, ht2⟩ := HBK.out.nat hxm
                          have ht16 := lt16 hle ht2
                          have cx := hc x hxm
                          rw [ht] at cx
                          rw [hx] at pk
                          have HTP : Hid (topB z p v i' = !t.testBit v) := Lib.hid (by unfold topB; rw [hs, hx, Int.toNat_natCast, Int.toNat_natCast, ht, Int.toNat_natCast, hq, decide_eq_false (by omega)]; simp)
                          have d1 : decide ((x : Int) < 0) = false := decide_eq_false (by omega)
                          clear hc hc' hs hs2 hm p0 p1 hx ht ht2
                          cases hr : t.testBit v
                          all_goals
                            go_wp2_with fail
                            go_roundw
                            case rel => exact ⟨i' + 1, by omega, by go_num, by rw [HST.out, HTP.out, hr]; first | rfl | go_num, by rw [HSG.out, hq]; rfl, by trivial⟩
                            case measure => simp [intOf]; omega
                    · have hie : i' = k2 := by omega
                      subst hie
                      obtain ⟨gb, go, ha, hgb, hgc⟩ := HGV.out.at_.ints.2 HGV.out.at_.pos
                      subst ha
                      have gv : wv.cell? ⟨gb, go + v, none⟩ = some (Value.int .i64 (r v : Nat)) := hgc v hlv
                      have hrv := HGV.out.at_.bd v hlv
                      have HND : Hid (nodeB r i' z p v = (decide (topsTo z p v i' = 1) && diff (r v) (togTo z v i') == 0)) := Lib.hid rfl
                      have HBAD : Hid (nodeB r i' z p v = false → decB n r i' i' z p = false) := Lib.hid (fun hno => decB_no (fun h => by rw [h.2.2 v hlv] at hno; cases hno))
                      clear hgc
                      generalize topsTo z p v i' = tp at *
                      generalize togTo z v i' = tg at *
                      generalize r v = rv at *
                      have hdl := diff_lt (b := tg) hrv
                      by_cases ht1 : tp = 1
                      · have hq : ((tp : Int) != 1) = false := by rw [ht1]; rfl
                        have HT1 := Lib.hid ht1
                        clear ht1
                        by_cases hdf : diff rv tg = 0
                        · have hq2 : (((diff rv tg : Nat) : Int) != 0) = false := by rw [hdf]; rfl
                          have HF : Hid (nodeB r i' z p v = true) := Lib.hid (by rw [HND.out, hdf, decide_eq_true HT1.out]; rfl)
                          clear hdf
                          go_wp2_with fail
                          go_roundw
                          case rel => exact ⟨v + 1, by omega, by go_num, fun u hu => by rcases Nat.lt_succ_iff_lt_or_eq.1 hu with h | h; exact HDV.out u h; rw [h]; exact HF.out, HBV2.out⟩
                          case measure => simp [intOf]; omega
                        · have hq2 : (((diff rv tg : Nat) : Int) != 0) = true := by simp; omega
                          have HF := Lib.hid (HBAD.out (by rw [HND.out, beq_eq_false_iff_ne.2 hdf, Bool.and_false]))
                          clear hdf
                          go_wp2_with fail
                          go_ret2
                          exact ⟨by rw [HF.out]; rfl, HBQ.out.trans (HBV2.out.mono HBQ.out.size)⟩
                      · have hq : ((tp : Int) != 1) = true := by simp; omega
                        have HF := Lib.hid (HBAD.out (by rw [HND.out, decide_eq_false ht1, Bool.false_and]))
                        clear ht1
                        go_wp2_with fail
                        go_ret2
                        exact ⟨by rw [HF.out]; rfl, HBQ.out.trans (HBV2.out.mono HBQ.out.size)⟩
                · have hve : v = n := by omega
                  subst hve
                  have HF := Lib.hid (decB_iff.2 ⟨HTR.out, HBK.out, HDV.out⟩)
                  have hmx9 := HMXK.out
                  go_wp2_with fail
                  go_ret2
                  exact ⟨by rw [HF.out]; rfl, HBQ.out.trans (HBV.out.mono HBQ.out.size)⟩
            · have hq : (((rootsTo p k2 : Nat) : Int) != 1) = true := by simp; omega
              have HF : Hid (decB n r k2 k2 z p = false) := Lib.hid (decB_no (fun h => hr1 (treeB_iff h.1).2.2.2.2.1))
              clear hr1
              go_wp2_with fail
              go_ret2
              exact ⟨by rw [HF.out]; rfl, HBQ.out⟩
  · have HF : Hid (decB n r m q z p = false) := Lib.hid (decB_no (fun h => by rw [treeB_size hsz] at h; cases h.1))
    by_cases h1 : m < 1
    · clear hsz
      go_enter Try.func28, Try.ntmps28
      go_wp2_with fail
      rw [← HW0.out]
      go_wp2_with fail
      go_ret2
      exact ⟨by rw [HF.out]; rfl, HB.out⟩
    · by_cases h2 : 30 < m
      · clear hsz h1
        go_enter Try.func28, Try.ntmps28
        go_wp2_with fail
        rw [← HW0.out]
        go_wp2_with fail
        go_ret2
        exact ⟨by rw [HF.out]; rfl, HB.out⟩
      · have hq : ((q : Int) != (m : Int)) = true := by simp; omega
        have h1' : 1 ≤ m := by omega
        have h2' : m ≤ 30 := by omega
        clear hsz h1 h2
        go_enter Try.func28, Try.ntmps28
        go_wp2_with fail
        rw [← HW0.out]
        go_wp2_with fail
        go_ret2
        exact ⟨by rw [HF.out]; rfl, HB.out⟩

end Go.Proofs.Ytombmfphodikjaa
