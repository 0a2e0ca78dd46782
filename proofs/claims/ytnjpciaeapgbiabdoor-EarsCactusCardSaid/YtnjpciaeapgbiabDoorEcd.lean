/- The walk of the law EarsCactus. -/
import Derived.Test.YtnjpciaeapgbiabDoorEcc
namespace Go.Proofs.YtnjpciaeapgbiabDoor
set_option linter.unusedSimpArgs false
set_option linter.unusedVariables false
open Go.RowKit Go.Maps
attribute [local go_sem] i64_bit toNat_eq_one toNat_ne_one toNat_eq_zero toNat_ne_zero i64_and i64_or i64_andNot i64_or_pow i64_andNot_pow

/-- What the law asks of a block. -/
def ptB (n : Nat) (r : Nat → Nat) (m : Nat) : Bool := degS n r m n / 2 == szS n m || decide (szS n m ≤ 2)
def plainTo (n : Nat) (r : Nat → Nat) (K : List Int) : Nat → Bool
  | 0 => true
  | k + 1 => plainTo n r K k && ptB n r (zListI K k).toNat
theorem plainTo_iff {n : Nat} {r : Nat → Nat} {K : List Int} : ∀ k, plainTo n r K k = true ↔ ∀ j, j < k → ptB n r (zListI K j).toNat = true := by
  intro k
  induction k with
  | zero => exact ⟨fun _ j hj => by omega, fun _ => rfl⟩
  | succ k ih =>
    rw [plainTo, Bool.and_eq_true, ih]
    constructor
    · rintro ⟨h1, h2⟩ j hj
      rcases Nat.lt_succ_iff_lt_or_eq.1 hj with h | h
      · exact h1 j h
      · rw [h]; exact h2
    · exact fun h => ⟨fun j hj => h j (by omega), h k (by omega)⟩
theorem plain_cact {n : Nat} {r : Nat → Nat} (hP : Pl n r) : plainTo n r (blocksI n r) (blocksI n r).length = cactB n r := by
  have hpt : ∀ j, j < (blocksI n r).length → ptB n r (zListI (blocksI n r) j).toNat = fewE n r (zListI (blocksI n r) j).toNat := fun j hj => by
    obtain ⟨m, h1, h2⟩ := blocksI_mem (List.getElem_mem hj)
    rw [zListI_at hj, h2, Int.toNat_natCast]
    unfold ptB fewE
    rw [blk_point hP h1, Bool.not_not]
  rw [Bool.eq_iff_iff, plainTo_iff]
  constructor
  · exact fun h => all_yes fun j hj => by rw [← hpt j hj]; exact h j hj
  · intro h j hj
    rw [hpt j hj, zListI_at hj]
    exact List.all_eq_true.1 h _ (List.getElem_mem hj)

set_option maxRecDepth 200000 in
set_option maxHeartbeats 4000000 in
theorem EarsCactus_walk (n : Nat) (z : Nat → Int) (v : Value) (w : World) (hA : SliceArg w v n z) (hz : InI64 z) (hTab : HasTab w) :
    Calls Tryd.prog 4 #[v] w (LawTrue w) := by
  obtain ⟨a, cap, rfl, hI⟩ := hA.ints
  have HA := Lib.hid hA
  have HI0 := Lib.hid hI
  have HZ := Lib.hid hz
  have HT := Lib.hid (Tab.of hTab)
  cases hg : graphB n 10 z
  · clear hA hI hz hTab
    have HGM : graphB (min n 14) 10 z = false := by rw [graphB_few]; exact hg
    clear hg
    go_enter Tryd.func4, Tryd.ntmps4
    go_wp2_with fail
    go_at_call 10
    refine (Few_any n z _ _ HA.out).mono ?_
    rintro e w1 ⟨a1, c1, rfl, hi1, hb1⟩
    have HB1 := Lib.hid hb1
    have HT1 := Lib.hid (HT.out.below hb1)
    have HI1 := Lib.hid hi1
    clear hb1 hi1
    go_wp2_with fail
    go_at_call 18
    refine (Cactus_no _ HI1.out HZ.out HT1.out HGM).mono ?_
    rintro e w2 ⟨rfl, hb2⟩
    have HB2 := Lib.hid (HB1.out.trans (hb2.mono HB1.out.size))
    clear hb2
    go_wp2_with fail
    go_at_call 10
    refine (Few_any n z _ _ (HA.out.below HB2.out)).mono ?_
    rintro e w3 ⟨a3, c3, rfl, hi3, hb3⟩
    have HB3 := Lib.hid (HB2.out.trans (hb3.mono HB2.out.size))
    clear hb3
    have HI3 := Lib.hid hi3
    clear hi3
    go_wp2_with fail
    go_at_call 13
    refine (Blocks_no _ HI3.out HZ.out (HT.out.below HB3.out) HGM).mono ?_
    rintro e w4 ⟨rfl, hb4⟩
    have HB4 := Lib.hid (HB3.out.trans (hb4.mono HB3.out.size))
    clear hb4
    go_wp2_with fail
    go_at_call 7
    refine (awake_any _ (HT.out.below HB4.out)).mono ?_
    rintro e w6 ⟨rfl, hb6⟩
    have HB6 := Lib.hid (HB4.out.trans (hb6.mono HB4.out.size))
    clear hb6
    go_wp2_with fail
    go_ret
    exact ⟨rfl, HB6.out⟩
  · have hP := pl_of hg
    have hmin : min n 14 = n := by have := hP.le; omega
    have HM : Hid (min n 14 = n) := Lib.hid hmin
    have HG0 := Lib.hid hg
    have hgr : GrAt w a n (natG z) := GrAt.of_graph hI hg (by omega)
    obtain ⟨hml, hI2⟩ := hgr.ints
    obtain ⟨b, off, rfl, hlt0, hc⟩ := hI2 hgr.pos
    have hn10 := hP.le
    have h10 := pow_le10 hn10
    have hbc : ∀ wx, Below w.heap.size w wx → ∀ i, i < n → wx.cell? ⟨b, off + i, none⟩ = some (.int .i64 (natG z i : Nat)) := fun wx hb i hi => by rw [hb.cell (p := ⟨b, off + i, none⟩) hlt0]; exact hc i hi
    have HC := Lib.hid hbc
    have HR := Lib.hid hP.bd
    have HPC := Lib.hid (plain_cact hP)
    have HKL := Lib.hid (blocksI_len (n := n) (r := natG z) hn10)
    have HMM : Hid (∀ j, j < (blocksI n (natG z)).length → ∃ m : Nat, m < 2 ^ n ∧ zListI (blocksI n (natG z)) j = (m : Int)) := Lib.hid fun j hj => by
      obtain ⟨m, h1, h2⟩ := blocksI_mem (List.getElem_mem hj)
      exact ⟨m, blkL_lt h1, by rw [zListI_at hj]; exact h2⟩
    have HCY := Lib.hid (fun (a : Option Addr) (cap : Nat) (w : World) (h1 : IntsAt w a n z) (h2 : Tab w) => Cactus_yes cap h1 HZ.out h2 HG0.out)
    have HBY := Lib.hid (fun (a : Option Addr) (cap : Nat) (w : World) (h1 : IntsAt w a n z) (h2 : Tab w) => Blocks_yes cap h1 HZ.out h2 HG0.out)
    unfold maxLen at hml
    clear hmin hg hgr hI2 hc hbc hA hI hz hTab hP
    generalize natG z = r at *
    go_enter Tryd.func4, Tryd.ntmps4
    go_wp2_with fail
    go_at_call 10
    refine (Few_any n z _ _ HA.out).mono ?_
    rintro e w1 ⟨a1, c1, rfl, hi1, hb1⟩
    rw [HM.out] at hi1
    rw [HM.out]
    have HB1 := Lib.hid hb1
    have HT1 := Lib.hid (HT.out.below hb1)
    have HI1 := Lib.hid hi1
    clear hb1 hi1
    go_wp2_with fail
    go_at_call 18
    refine (HCY.out _ _ _ HI1.out HT1.out).mono ?_
    rintro e w2 ⟨rfl, hb2⟩
    have HB2 := Lib.hid (HB1.out.trans (hb2.mono HB1.out.size))
    clear hb2
    go_wp2_with fail
    go_at_call 10
    refine (Few_any n z _ _ (HA.out.below HB2.out)).mono ?_
    rintro e w3 ⟨a3, c3, rfl, hi3, hb3⟩
    rw [HM.out] at hi3
    rw [HM.out]
    have HB3 := Lib.hid (HB2.out.trans (hb3.mono HB2.out.size))
    clear hb3
    have HI3 := Lib.hid hi3
    clear hi3
    go_wp2_with fail
    go_at_call 13
    refine (HBY.out _ _ _ HI3.out (HT.out.below HB3.out)).mono ?_
    rintro e w4 ⟨u, rfl, ⟨au, cu, rfl, hiu⟩, hb4⟩
    have HIU := Lib.hid hiu
    have HB4 := Lib.hid (HB3.out.trans (hb4.mono HB3.out.size))
    clear hb4
    clear hiu HCY HBY HI1 HI3 HT1
    generalize blocksI n r = K at *
    have hkl := HKL.out
    generalize cactB n r = cb at *
    go_wp2_with fail
    go_loopw [7, 38] (fun p i wr => ∃ k : Nat, k ≤ K.length ∧ i = .int .i64 k ∧ p = .bool (plainTo n r K k) ∧ w4 = wr) (fun _ i _ => K.length - (intOf i).toNat)
    case atStart => exact ⟨0, Nat.zero_le _, rfl, rfl, rfl⟩
    case round =>
      obtain ⟨k, hk, rfl, rfl, rfl⟩ := hrel
      by_cases hlt : k < K.length
      · obtain ⟨m, hm, hzm⟩ := HMM.out k hlt
        obtain ⟨bK, oK, rfl, hbK, hcK⟩ := HIU.out.2 (by omega)
        have ck : w4.cell? ⟨bK, oK + k, none⟩ = some (.int .i64 (m : Int)) := by
          rw [← hzm]; exact hcK k hlt
        have HPT : Hid (plainTo n r K (k + 1) = (plainTo n r K k && (degS n r m n / 2 == szS n m || decide (szS n m ≤ 2)))) := Lib.hid (by rw [plainTo, hzm, Int.toNat_natCast]; rfl)
        have hm16 : m < 65536 := by omega
        generalize plainTo n r K k = p0 at *
        clear hcK hzm
        go_wp2_with fail
        go_loopw [10, 44] (fun c i wr => ∃ j : Nat, j ≤ n ∧ i = .int .i64 j ∧ c = .int .i64 (degS n r m j : Nat) ∧ w4 = wr) (fun _ i _ => n - (intOf i).toNat)
        case atStart => exact ⟨0, Nat.zero_le _, rfl, rfl, rfl⟩
        case round =>
          obtain ⟨j, hj, rfl, rfl, rfl⟩ := hrel
          by_cases hjn : j < n
          · have cj := HC.out w4 HB4.out j hjn
            have hrj := HR.out j hjn
            have hrj16 : r j < 65536 := by omega
            have HST : Hid (degS n r m (j + 1) = degS n r m j + (if m.testBit j then szS n (r j &&& m) else 0)) := Lib.hid rfl
            have hd := degS_le10 (r := r) (s := m) hn10 j
            have hd2 : degS n r m j ≤ 100 := by omega
            have hand : r j &&& m < 2 ^ n := Nat.lt_of_le_of_lt Nat.and_le_right hm
            have hsz := szS_le n (r j &&& m)
            have HSZ := Lib.hid (fun w => Size_any hn10 (r j &&& m) hand w)
            have hj64 : j < 64 := by omega
            generalize degS n r m j = D at *
            generalize szS n (r j &&& m) = S at *
            generalize r j = rj at *
            clear hd
            cases hb : m.testBit j
            · rw [hb, if_neg (by decide), Nat.add_zero] at HST
              go_wp2_with fail
              go_roundw
              case rel => exact ⟨j + 1, by omega, by go_num, by rw [HST.out]; first | rfl | (rw [Nat.add_zero]), by first | trivial | rfl⟩
              case measure => simp [intOf]; omega
            · rw [hb, if_pos rfl] at HST
              go_wp2_with (go_at_call 19; refine (HSZ.out _).mono ?_; rintro e w5 ⟨rfl, rfl⟩)
              go_roundw
              case rel => exact ⟨j + 1, by omega, by go_num, by rw [HST.out]; go_num, by first | trivial | rfl⟩
              case measure => simp [intOf]; omega
          · have hje : j = n := by omega
            subst hje
            have hd := degS_le10 (r := r) (s := m) hn10 j
            have hd2 : degS j r m j ≤ 100 := by omega
            have hsz := szS_le j m
            have HSZ := Lib.hid (fun w => Size_any hn10 m hm w)
            generalize degS j r m j = D at *
            generalize szS j m = S at *
            clear hd
            have hdiv : (D : Int) / 2 = ((D / 2 : Nat) : Int) := by omega
            cases p0
            · rw [Bool.false_and] at HPT
              go_wp2_with fail
              go_roundw
              case rel => exact ⟨k + 1, by omega, by go_num, by rw [HPT.out], by first | trivial | rfl⟩
              case measure => simp [intOf]; omega
            · rw [Bool.true_and] at HPT
              by_cases hq : D / 2 = S
              · have hq1 : ((D : Int) / 2 == (S : Int)) = true := by rw [hdiv, hq]; exact beq_self_eq_true _
                rw [hq, beq_self_eq_true, Bool.true_or] at HPT
                clear hq hdiv
                go_wp2_with (go_at_call 19; refine (HSZ.out _).mono ?_; rintro e w5 ⟨rfl, rfl⟩)
                go_roundw
                case rel => exact ⟨k + 1, by omega, by go_num, by rw [HPT.out], by first | trivial | rfl⟩
                case measure => simp [intOf]; omega
              · have hq1 : ((D : Int) / 2 == (S : Int)) = false := by rw [hdiv, beq_eq_false_iff_ne]; omega
                rw [beq_eq_false_iff_ne.2 hq, Bool.false_or] at HPT
                clear hq hdiv
                by_cases h2 : S ≤ 2
                · have h2i : (S : Int) ≤ 2 := by omega
                  have h2d : decide ((S : Int) ≤ 2) = true := decide_eq_true h2i
                  rw [decide_eq_true h2] at HPT
                  go_wp2_with (go_at_call 19; refine (HSZ.out _).mono ?_; rintro e w5 ⟨rfl, rfl⟩)
                  go_roundw
                  case rel => exact ⟨k + 1, by omega, by go_num, by rw [HPT.out], by first | trivial | rfl⟩
                  case measure => simp [intOf]; omega
                · have h2i : ¬ (S : Int) ≤ 2 := by omega
                  have h2d : decide ((S : Int) ≤ 2) = false := decide_eq_false h2i
                  rw [decide_eq_false h2] at HPT
                  go_wp2_with (go_at_call 19; refine (HSZ.out _).mono ?_; rintro e w5 ⟨rfl, rfl⟩)
                  go_roundw
                  case rel => exact ⟨k + 1, by omega, by go_num, by rw [HPT.out], by first | trivial | rfl⟩
                  case measure => simp [intOf]; omega
      · have hke : k = K.length := by omega
        rw [hke, HPC.out]
        clear hke
        go_wp2_with (go_at_call 7; refine (awake_any _ (HT.out.below HB4.out)).mono ?_; rintro e w6 ⟨rfl, hb6⟩; have HB6 := Lib.hid (HB4.out.trans (hb6.mono HB4.out.size)); clear hb6)
        go_ret
        exact ⟨rfl, HB6.out⟩

end Go.Proofs.YtnjpciaeapgbiabDoor
