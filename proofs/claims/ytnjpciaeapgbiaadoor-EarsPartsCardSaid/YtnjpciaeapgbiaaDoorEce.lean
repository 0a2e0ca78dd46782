/- The walk of the law EarsParts. -/
import Derived.Test.YtnjpciaeapgbiaaDoorEcc
import Derived.Test.YtnjpciaeapgbiaaDoorEci
import Derived.Test.YtnjpciaeapgbiaaDoorEt7
namespace Go.Proofs.YtnjpciaeapgbiaaDoor
set_option linter.unusedSimpArgs false
set_option linter.unusedVariables false
open Go.RowKit Go.Maps
attribute [local go_sem] i64_bit toNat_eq_one toNat_ne_one toNat_eq_zero toNat_ne_zero i64_and i64_or i64_andNot i64_or_pow i64_andNot_pow

/-- In how many of the first sets a pair of nodes is. -/
def cntB (K : List Int) (a b k : Nat) : Nat := (K.take k).countP (bothB a b)
theorem cntB_succ {K : List Int} {a b k : Nat} (h : k < K.length) : cntB K a b (k + 1) = cntB K a b k + (if bothB a b (zListI K k) then 1 else 0) := by
  unfold cntB
  rw [List.take_add_one, List.getElem?_eq_getElem h, List.countP_append, zListI_at h]
  simp [List.countP_cons]
theorem cntB_le {K : List Int} {a b k : Nat} : cntB K a b k ≤ K.length := by
  unfold cntB
  exact Nat.le_trans List.countP_le_length (by rw [List.length_take]; omega)
theorem cntB_all {K : List Int} {a b : Nat} : cntB K a b K.length = K.countP (bothB a b) := by unfold cntB; rw [List.take_length]
def bridgesL (n : Nat) (r : Nat → Nat) : List (Nat × Nat) := (edgesTo r n).filter (brB n r)

set_option maxRecDepth 200000 in
set_option maxHeartbeats 4000000 in
theorem EarsParts_walk (n : Nat) (z : Nat → Int) (v : Value) (w : World) (hA : SliceArg w v n z) (hz : InI64 z) (hTab : HasTab w) :
    Calls Tryd.prog 11 #[v] w (LawTrue w) := by
  obtain ⟨a, cap, rfl, hI⟩ := hA.ints
  have HA := Lib.hid hA
  have HI0 := Lib.hid hI
  have HZ := Lib.hid hz
  have HT := Lib.hid (Tab.of hTab)
  cases hg : graphB n 10 z
  · clear hA hI hz hTab
    have HGM : graphB (min n 14) 10 z = false := by rw [graphB_few]; exact hg
    clear hg
    go_enter Tryd.func11, Tryd.ntmps11
    go_wp2_with fail
    go_at_call 16
    refine (Few_any n z _ _ HA.out).mono ?_
    rintro e w1 ⟨a1, c1, rfl, hi1, hb1⟩
    have HB1 := Lib.hid hb1
    have HT1 := Lib.hid (HT.out.below hb1)
    have HI1 := Lib.hid hi1
    clear hb1 hi1
    go_wp2_with fail
    go_at_call 23
    refine (Blocks_no _ HI1.out HZ.out HT1.out HGM).mono ?_
    rintro e w2 ⟨rfl, hb2⟩
    have HB2 := Lib.hid (HB1.out.trans (hb2.mono HB1.out.size))
    clear hb2
    go_wp2_with fail
    go_at_call 16
    refine (Few_any n z _ _ (HA.out.below HB2.out)).mono ?_
    rintro e w3 ⟨a3, c3, rfl, hi3, hb3⟩
    have HB3 := Lib.hid (HB2.out.trans (hb3.mono HB2.out.size))
    clear hb3
    have HI3 := Lib.hid hi3
    clear hi3
    go_wp2_with fail
    go_at_call 17
    refine (Cuts_no _ HI3.out HZ.out (HT.out.below HB3.out) HGM).mono ?_
    rintro e w4 ⟨rfl, hb4⟩
    have HB4 := Lib.hid (HB3.out.trans (hb4.mono HB3.out.size))
    clear hb4
    go_wp2_with fail
    go_at_call 16
    refine (Few_any n z _ _ (HA.out.below HB4.out)).mono ?_
    rintro e w5 ⟨a5, c5, rfl, hi5, hb5⟩
    have HB5 := Lib.hid (HB4.out.trans (hb5.mono HB4.out.size))
    clear hb5
    have HI5 := Lib.hid hi5
    clear hi5
    go_wp2_with fail
    go_at_call 15
    refine (Bridges_no _ HI5.out HZ.out (HT.out.below HB5.out) HGM).mono ?_
    rintro e w6 ⟨rfl, hb6⟩
    have HB6 := Lib.hid (HB5.out.trans (hb6.mono HB5.out.size))
    clear hb6
    go_wp2_with fail
    go_at_call 19
    refine (awake_any _ (HT.out.below HB6.out)).mono ?_
    rintro e w7 ⟨rfl, hb7⟩
    have HB7 := Lib.hid (HB6.out.trans (hb7.mono HB6.out.size))
    clear hb7
    go_wp2_with fail
    go_ret
    exact ⟨rfl, HB7.out⟩
  · have hP := pl_of hg
    have hmin : min n 14 = n := by have := hP.le; omega
    have HM : Hid (min n 14 = n) := Lib.hid hmin
    have HG0 := Lib.hid hg
    have hgr : GrAt w a n (natG z) := GrAt.of_graph hI hg (by omega)
    obtain ⟨hml, hI2⟩ := hgr.ints
    obtain ⟨b, off, rfl, hlt0, hc⟩ := hI2 hgr.pos
    have hn10 := hP.le
    have h10 := pow_le10 hn10
    have hbc : ∀ wx, Below w.heap.size w wx → ∀ i, i < n → wx.cell? ⟨b, off + i, none⟩ = some (.int .i64 (natG z i : Nat)) := fun wx hb i hi => by rw [hb.cell (p := ⟨b, off + i, none⟩) hlt0]; exact hc i hi
    have HC := Lib.hid hbc
    have HR := Lib.hid hP.bd
    have hcl : cutsTo n (natG z) n < 2 ^ n := cutsTo_lt n (Nat.le_refl _)
    have HKL := Lib.hid (blocksI_len (n := n) (r := natG z) hn10)
    have HBRL : Hid ((bridgesL n (natG z)).length ≤ 65536) := Lib.hid (by
      have h1 := List.length_filter_le (brB n (natG z)) (edgesTo (natG z) n)
      have h2 := edgesTo_len (natG z) n
      unfold bridgesL
      omega)
    have HMM : Hid (∀ j, j < (blocksI n (natG z)).length → ∃ m : Nat, m < 2 ^ n ∧ zListI (blocksI n (natG z)) j = (m : Int)) := Lib.hid fun j hj => by
      obtain ⟨m, h1, h2⟩ := blocksI_mem (List.getElem_mem hj)
      exact ⟨m, blkL_lt h1, by rw [zListI_at hj]; exact h2⟩
    have hrise : ∀ i j, (hj : j < (blocksI n (natG z)).length) → i < j → zListI (blocksI n (natG z)) i < zListI (blocksI n (natG z)) j := fun i j hj hij => by
      rw [zListI_at hj, zListI_at (by omega)]
      exact List.pairwise_iff_getElem.1 (blocksI_rise n (natG z)) i j (by omega) hj hij
    have HSRT : Hid (∀ j, j + 1 < (blocksI n (natG z)).length → ¬ zListI (blocksI n (natG z)) (j + 1) < zListI (blocksI n (natG z)) j) := Lib.hid fun j hj => by have := hrise j (j + 1) hj (by omega); omega
    have HPLE : Hid (∀ a b : Nat, b < a → (blocksI n (natG z)).countP (bothB a b) ≤ 1) := Lib.hid fun a b h => pair_le hP (by omega)
    have HPAD : Hid (∀ a b : Nat, b < a → a < n → (natG z a).testBit b = true → (blocksI n (natG z)).countP (bothB a b) = 1) := Lib.hid fun a b h1 h2 h3 => pair_adj hP h1 h2 h3
    have HPBR : Hid (∀ a b : Nat, b < a → ((blocksI n (natG z)).countP (bothB a b) == 1 && decide (((2 ^ a ||| 2 ^ b : Nat) : Int) ∈ blocksI n (natG z))) = decide ((b, a) ∈ bridgesL n (natG z))) := Lib.hid fun a b h => pair_bridge hP h
    have HMEET : Hid (∀ i j s t : Nat, i < (blocksI n (natG z)).length → j < i → zListI (blocksI n (natG z)) i = (s : Int) → zListI (blocksI n (natG z)) j = (t : Int) → s &&& t ≠ 0 → (s &&& t) &&& ((s &&& t) - 1) = 0 ∧ diff (s &&& t) (cutsTo n (natG z) n) = 0) := Lib.hid fun i j s t hi hj hs ht h0 => by
      have h1 := hrise j i hi hj
      rw [hs, ht] at h1
      have hin : ∀ k, (hk : k < (blocksI n (natG z)).length) → zListI (blocksI n (natG z)) k ∈ blocksI n (natG z) := fun k hk => by rw [zListI_at hk]; exact List.getElem_mem hk
      have ms := hin i hi
      have mt := hin j (by omega)
      rw [hs] at ms
      rw [ht] at mt
      exact meet_cut hP (blocksI_iff.1 ms) (blocksI_iff.1 mt) (by omega) h0
    have HBY := Lib.hid (fun (a : Option Addr) (cap : Nat) (w : World) (h1 : IntsAt w a n z) (h2 : Tab w) => Blocks_yes cap h1 HZ.out h2 HG0.out)
    have HCY : Hid (∀ (a : Option Addr) (cap : Nat) (w : World), IntsAt w a n z → Tab w → Calls Tryd.prog 17 #[.slice a n cap] w fun e w' => e = .returned (.tuple #[.int .i64 (cutsTo n (natG z) n : Nat), .int .i64 0]) ∧ Below w.heap.size w w') := Lib.hid fun a cap w h1 h2 => Cuts_yes cap h1 HZ.out h2 HG0.out
    have HRY : Hid (∀ (a : Option Addr) (cap : Nat) (w : World), IntsAt w a n z → Tab w → Calls Tryd.prog 15 #[.slice a n cap] w fun e w' => ∃ v, e = .returned (.tuple #[v, .int .i64 0]) ∧ PairsOwn w' w.heap.size v (bridgesL n (natG z)) ∧ Below w.heap.size w w') := Lib.hid fun a cap w h1 h2 => Bridges_yes cap h1 HZ.out h2 HG0.out
    unfold maxLen at hml
    clear hmin hg hgr hI2 hc hbc hA hI hz hTab hP hrise
    generalize natG z = r at *
    generalize bridgesL n r = Lb at *
    generalize hcc : cutsTo n r n = cc at *
    clear hcc
    go_enter Tryd.func11, Tryd.ntmps11
    go_wp2_with fail
    go_at_call 16
    refine (Few_any n z _ _ HA.out).mono ?_
    rintro e w1 ⟨a1, c1, rfl, hi1, hb1⟩
    rw [HM.out] at hi1
    rw [HM.out]
    have HB1 := Lib.hid hb1
    have HT1 := Lib.hid (HT.out.below hb1)
    have HI1 := Lib.hid hi1
    clear hb1 hi1
    go_wp2_with fail
    go_at_call 23
    refine (HBY.out _ _ _ HI1.out HT1.out).mono ?_
    rintro e w2 ⟨u, rfl, ⟨au, cu, rfl, hiu, hcu⟩, hb2⟩
    have HIU2 := Lib.hid hiu
    have HB2 := Lib.hid (HB1.out.trans (hb2.mono HB1.out.size))
    clear hb2
    clear hiu
    go_wp2_with fail
    go_at_call 16
    refine (Few_any n z _ _ (HA.out.below HB2.out)).mono ?_
    rintro e w3 ⟨a3, c3, rfl, hi3, hb3⟩
    rw [HM.out] at hi3
    rw [HM.out]
    have HIU3 := Lib.hid (HIU2.out.below hb3)
    have HB3 := Lib.hid (HB2.out.trans (hb3.mono HB2.out.size))
    clear hb3
    have HI3 := Lib.hid hi3
    clear hi3
    go_wp2_with fail
    go_at_call 17
    refine (HCY.out _ _ _ HI3.out (HT.out.below HB3.out)).mono ?_
    rintro e w4 ⟨rfl, hb4⟩
    have HIU4 := Lib.hid (HIU3.out.below hb4)
    have HB4 := Lib.hid (HB3.out.trans (hb4.mono HB3.out.size))
    clear hb4
    go_wp2_with fail
    go_at_call 16
    refine (Few_any n z _ _ (HA.out.below HB4.out)).mono ?_
    rintro e w5 ⟨a5, c5, rfl, hi5, hb5⟩
    rw [HM.out] at hi5
    rw [HM.out]
    have HIU5 := Lib.hid (HIU4.out.below hb5)
    have HB5 := Lib.hid (HB4.out.trans (hb5.mono HB4.out.size))
    clear hb5
    have HI5 := Lib.hid hi5
    clear hi5
    go_wp2_with fail
    go_at_call 15
    refine (HRY.out _ _ _ HI5.out (HT.out.below HB5.out)).mono ?_
    rintro e w6 ⟨vx, rfl, hox, hb6⟩
    have HIU6 := Lib.hid (HIU5.out.below hb6)
    obtain ⟨ax, cx, rfl⟩ := own_form hox
    have HOX6 := Lib.hid hox
    have HB6 := Lib.hid (HB5.out.trans (hb6.mono HB5.out.size))
    clear hb6
    clear hox
    have HIS := Lib.hid (IsSorted_yes cu HIU6.out (by have := HKL.out; omega) (fun j hj => Int.not_lt.2 (HSRT.out j hj)))
    clear HBY HCY HRY HI1 HI3 HI5 HT1 HIU2 HIU3 HIU4 HIU5 HB1 HB2 HB3 HB4 HB5
    generalize blocksI n r = K at *
    have hkl := HKL.out
    go_wp2_with (go_at_call 54; refine HIS.out.mono ?_; rintro e w7 ⟨rfl, hb7⟩; have HIU := Lib.hid (HIU6.out.below hb7); have HOX := Lib.hid (show PairsOwn w7 w5.heap.size (.slice ax Lb.length cx) Lb from ownsRow_below HOX6.out hb7 (Nat.le_refl _)); have HB7 := Lib.hid (HB6.out.trans (hb7.mono HB6.out.size)); clear hb7)
    clear HIS HIU6 HOX6
    go_loopw [65] (fun i wr => ∃ a : Nat, a ≤ n ∧ i = .int .i64 a ∧ Below w7.heap.size w7 wr) (fun i _ => n - (intOf i).toNat)
    case atStart => exact ⟨0, Nat.zero_le _, rfl, Below.refl _ _⟩
    case round =>
      obtain ⟨a, ha, rfl, hbr⟩ := hrel
      have HBA := Lib.hid hbr
      clear hbr
      by_cases han : a < n
      · go_wp2_with fail
        go_loopw [69] (fun i wr => ∃ b : Nat, b ≤ a ∧ i = .int .i64 b ∧ Below w7.heap.size w7 wr) (fun i _ => a - (intOf i).toNat)
        case atStart => exact ⟨0, Nat.zero_le _, rfl, HBA.out⟩
        case round =>
          clear HBA
          obtain ⟨d, hd, rfl, hbr⟩ := hrel
          have HBD := Lib.hid hbr
          clear hbr
          by_cases hda : d < a
          · go_wp2_with fail
            go_loopw [11, 74] (fun c i wr => ∃ k : Nat, k ≤ K.length ∧ i = .int .i64 k ∧ c = .int .i64 (cntB K a d k : Nat) ∧ Below w7.heap.size w7 wr) (fun _ i _ => K.length - (intOf i).toNat)
            case atStart => exact ⟨0, Nat.zero_le _, rfl, rfl, HBD.out⟩
            case round =>
              clear HBD
              obtain ⟨k, hk, rfl, rfl, hbr⟩ := hrel
              have HBK := Lib.hid hbr
              have hcb := cntB_le (K := K) (a := a) (b := d) (k := k)
              by_cases hlt : k < K.length
              · obtain ⟨m, hm, hzm⟩ := HMM.out k hlt
                obtain ⟨bK, oK, rfl, hbK, hcK⟩ := HIU.out.2 (by omega)
                have ck : wr.cell? ⟨bK, oK + k, none⟩ = some (.int .i64 (m : Int)) := by
                  rw [hbr.cell (p := ⟨bK, oK + k, none⟩) hbK, ← hzm]; exact hcK k hlt
                have HST := Lib.hid (cntB_succ (a := a) (b := d) hlt)
                have hbo : bothB a d (zListI K k) = (m.testBit a && m.testBit d) := by unfold bothB; rw [hzm, Int.toNat_natCast]
                rw [hbo] at HST
                have hm16 : m < 65536 := by omega
                have ha64 : a < 64 := by omega
                have hd64 : d < 64 := by omega
                generalize cntB K a d k = X at *
                clear hcK hzm hbr hbo
                cases h1 : m.testBit a <;> cases h2 : m.testBit d
                all_goals
                  rw [h1, h2] at HST
                  go_wp2_with fail
                  go_quiet (fail)
                  go_wp2_with fail
                  go_roundw
                  case rel => exact ⟨k + 1, by omega, by go_num, by rw [HST.out]; first | rfl | go_num | simp, below_drewN HBK.out _⟩
                  case measure => simp [intOf]; omega
              · have hke : k = K.length := by omega
                rw [hke, cntB_all] at *
                clear hke hbr hcb
                have HWW := Lib.hid (HB7.out.trans (HBK.out.mono HB7.out.size))
                have ca := HC.out wr HWW.out a han
                have hra := HR.out a han
                have hra16 : r a < 65536 := by omega
                have ha16 : a < 16 := by omega
                have hd16 : d < 16 := by omega
                have hd64 : d < 64 := by omega
                have ha64 : a < 64 := by omega
                have hpa := pow_bd a ha16
                have hpd := pow_bd d hd16
                have hwa : IntKind.i64.wrap ((2 : Int) ^ a) = 2 ^ a := IntWalk.i64_in _ (by omega)
                have hwd : IntKind.i64.wrap ((2 : Int) ^ d) = 2 ^ d := IntWalk.i64_in _ (by omega)
                have hor : bits .or .i64 ((2 : Int) ^ a) ((2 : Int) ^ d) = ((2 ^ a ||| 2 ^ d : Nat) : Int) := by rw [pow_cast a]; exact i64_or_pow _ _ (pow_lt16 ha16) hd16
                have hle := HPLE.out a d hda
                have hadj := HPAD.out a d hda han
                have hbri := HPBR.out a d hda
                have HCI : Hid (∀ u : BelowW wr.heap.size wr, Calls Tryd.prog 55 #[.slice au K.length cu, .int .i64 ((2 ^ a ||| 2 ^ d : Nat) : Int)] u.w fun e w' => e = .returned (.bool (decide (((2 ^ a ||| 2 ^ d : Nat) : Int) ∈ K))) ∧ Below u.w.heap.size u.w w') := Lib.hid fun u => ContainsI_any cu ((HIU.out.below HBK.out).below u.h) _
                have HCP : Hid (∀ u : BelowW wr.heap.size wr, Calls Tryd.prog 56 #[.slice ax Lb.length cx, .agg #[.int .i64 d, .int .i64 a]] u.w fun e w' => e = .returned (.bool (decide ((d, a) ∈ Lb))) ∧ Below u.w.heap.size u.w w') := Lib.hid fun u => ContainsP_any (b1 := w5.heap.size) (ownsRow_below (ownsRow_below (show w7.ownsRow _ _ _ _ _ _ from HOX.out) HBK.out (Nat.le_refl _)) u.h (Nat.le_refl _)) HBRL.out d a
                generalize K.countP (bothB a d) = X at *
                generalize decide (((2 ^ a ||| 2 ^ d : Nat) : Int) ∈ K) = q1 at *
                generalize decide ((d, a) ∈ Lb) = q2 at *
                obtain hX | hX : X = 0 ∨ X = 1 := by omega
                · have hbit : (r a).testBit d = false := by
                    rw [Bool.eq_false_iff]; intro h; have := hadj h; omega
                  have hq2 : q2 = false := by rw [← hbri, hX]; rfl
                  subst hX hq2
                  clear hle hadj hbri hpa hpd
                  go_wp2_with fail
                  refine wp_region_below wr.heap.size wr (Below.refl _ _) (by kernel_rfl) (by kernel_rfl) ?_
                  repeat (go_big_quiet_step (first | (go_at_call 55; exact calls_below (Nat.le_refl _) (HCI.out _)) | (go_at_call 56; exact calls_below (Nat.le_refl _) (HCP.out _))))
                  refine wpQuiet_nil ?_
                  rintro _ ⟨u, rfl⟩
                  have HU := Lib.hid (HBK.out.trans (u.h.mono HBK.out.size))
                  go_wp2_with fail
                  go_roundw
                  case rel => exact ⟨d + 1, by omega, by go_num, HU.out⟩
                  case measure => simp [intOf]; omega
                · have hq2 : q2 = q1 := by rw [← hbri, hX]; cases q1 <;> rfl
                  subst hX hq2
                  clear hle hadj hbri hpa hpd
                  cases hbit : (r a).testBit d <;> cases q2
                  all_goals
                    go_wp2_with fail
                    refine wp_region_below wr.heap.size wr (Below.refl _ _) (by kernel_rfl) (by kernel_rfl) ?_
                    repeat (go_big_quiet_step (first | (go_at_call 55; exact calls_below (Nat.le_refl _) (HCI.out _)) | (go_at_call 56; exact calls_below (Nat.le_refl _) (HCP.out _))))
                    refine wpQuiet_nil ?_
                    rintro _ ⟨u, rfl⟩
                    have HU := Lib.hid (HBK.out.trans (u.h.mono HBK.out.size))
                    go_wp2_with fail
                    go_roundw
                    case rel => exact ⟨d + 1, by omega, by go_num, HU.out⟩
                    case measure => simp [intOf]; omega
          · have hde : d = a := by omega
            go_wp2_with fail
            go_roundw
            case rel => exact ⟨a + 1, by omega, by go_num, HBD.out⟩
            case measure => simp [intOf]; omega
      · have HW8 := Lib.hid (HB7.out.trans (HBA.out.mono HB7.out.size))
        have HIW := Lib.hid (HIU.out.below HBA.out)
        have hcc16 : cc < 65536 := by omega
        obtain ⟨w8, rfl⟩ : ∃ x, x = wr := ⟨_, rfl⟩
        clear HIU HOX HBA HC HR HPLE HPAD HPBR
        go_wp2_with fail
        go_loopw [127] (fun i wx => ∃ k : Nat, k ≤ K.length ∧ i = .int .i64 k ∧ w8 = wx) (fun i _ => K.length - (intOf i).toNat)
        case atStart => exact ⟨0, Nat.zero_le _, rfl, by first | trivial | rfl⟩
        case round =>
          obtain ⟨k, hk, rfl, rfl⟩ := hrel
          by_cases hlt : k < K.length
          · obtain ⟨s, hs, hzs⟩ := HMM.out k hlt
            obtain ⟨bK, oK, rfl, hbK, hcK⟩ := HIW.out.2 (by omega)
            have HCK := Lib.hid hcK
            have ck : w8.cell? ⟨bK, oK + k, none⟩ = some (.int .i64 (s : Int)) := by
              rw [← hzs]; exact hcK k hlt
            have hkc : k ≤ cu := by omega
            have HZS := Lib.hid hzs
            have hs16 : s < 65536 := by omega
            clear hcK hzs
            go_wp2_with fail
            go_loopw [136] (fun i wx => ∃ j : Nat, j ≤ k ∧ i = .int .i64 j ∧ w8 = wx) (fun i _ => k - (intOf i).toNat)
            case atStart => exact ⟨0, Nat.zero_le _, rfl, by first | trivial | rfl⟩
            case round =>
              obtain ⟨j, hj, rfl, rfl⟩ := hrel
              by_cases hjk : j < k
              · obtain ⟨t, ht, hzt⟩ := HMM.out j (by omega)
                have cj : w8.cell? ⟨bK, oK + j, none⟩ = some (.int .i64 (t : Int)) := by
                  rw [← hzt]; exact HCK.out j (by omega)
                have HMT := Lib.hid (HMEET.out k j s t hlt hjk HZS.out hzt)
                have ht16 : t < 65536 := by omega
                have hB : s &&& t < 65536 := Nat.lt_of_le_of_lt Nat.and_le_left hs16
                clear hzt
                by_cases h0 : s &&& t = 0
                · have e0 : (((s &&& t : Nat) : Int) != 0) = false := by rw [h0]; rfl
                  clear h0
                  go_wp2_with fail
                  go_roundw
                  case rel => exact ⟨j + 1, by omega, by go_num, by first | trivial | rfl⟩
                  case measure => simp [intOf]; omega
                · have e0 : (((s &&& t : Nat) : Int) != 0) = true := by rw [bne_iff_ne]; omega
                  obtain ⟨m1, m2⟩ := HMT.out h0
                  have hsub : wrap64 (((s &&& t : Nat) : Int) - 1) = (((s &&& t) - 1 : Nat) : Int) := by
                    rw [show ((s &&& t : Nat) : Int) - 1 = (((s &&& t) - 1 : Nat) : Int) by omega]
                    exact IntWalk.wrap64_in _ ⟨by omega, by omega⟩
                  have f1 : bits .and .i64 ((s &&& t : Nat) : Int) (((s &&& t : Nat) : Int) - 1) = 0 := by
                    rw [show ((s &&& t : Nat) : Int) - 1 = (((s &&& t) - 1 : Nat) : Int) by omega, i64_and _ _ hB (by omega), m1]; rfl
                  have f2 : bits .andNot .i64 ((s &&& t : Nat) : Int) (cc : Int) = 0 := by
                    rw [i64_andNot _ _ hB hcc16, m2]; rfl
                  clear h0 m1 m2
                  go_wp2_with fail
                  go_roundw
                  case rel => exact ⟨j + 1, by omega, by go_num, by first | trivial | rfl⟩
                  case measure => simp [intOf]; omega
              · go_wp2_with fail
                go_roundw
                case rel => exact ⟨k + 1, by omega, by go_num, by first | trivial | rfl⟩
                case measure => simp [intOf]; omega
          · go_wp2_with (go_at_call 19; refine (awake_any _ (HT.out.below HW8.out)).mono ?_; rintro e w9 ⟨rfl, hb9⟩; have HB9 := Lib.hid (HW8.out.trans (hb9.mono HW8.out.size)); clear hb9)
            go_ret
            exact ⟨rfl, HB9.out⟩

end Go.Proofs.YtnjpciaeapgbiaaDoor
