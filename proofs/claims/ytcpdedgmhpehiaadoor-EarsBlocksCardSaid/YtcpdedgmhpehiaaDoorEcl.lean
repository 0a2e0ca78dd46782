/- The contract of the reference's Cactus; the walk of the law EarsBlocks. -/
import Derived.Test.YtcpdedgmhpehiaaDoorEck
namespace Go.Proofs.YtcpdedgmhpehiaaDoor
set_option linter.unusedSimpArgs false
set_option linter.unusedVariables false
open Go.RowKit Go.Maps
attribute [local go_sem] i64_bit toNat_eq_one toNat_ne_one toNat_eq_zero toNat_ne_zero i64_and i64_or i64_andNot i64_or_pow i64_andNot_pow

set_option maxRecDepth 20000 in
set_option maxHeartbeats 4000000 in
theorem CactusR_any {n : Nat} {r : Nat → Nat} {ad : Option Addr} {w : World} (G : GrAt w ad n r) (hP : Pl n r) (cap : Nat) :
    Calls Tryd.prog 20 #[.slice ad n cap] w fun e w' => e = .returned (.bool (cactB n r)) ∧ Below w.heap.size w w' := by
  have hn10 := hP.le
  have h10 := pow_le10 hn10
  obtain ⟨hml, hI⟩ := G.ints
  obtain ⟨b, off, rfl, hlt0, hc⟩ := hI G.pos
  have hbc : ∀ wx, Below w.heap.size w wx → ∀ i, i < n → wx.cell? ⟨b, off + i, none⟩ = some (.int .i64 (r i : Nat)) := fun wx hb i hi => by rw [hb.cell (p := ⟨b, off + i, none⟩) hlt0]; exact hc i hi
  have HC := Lib.hid hbc
  have HR := Lib.hid hP.bd
  have HX : Hid (cactB n r = (blocksI n r).all fun x => fewE n r x.toNat) := Lib.hid rfl
  have HBL := Lib.hid (BlocksR_any G hP cap)
  have HKL := Lib.hid (blocksI_len (n := n) (r := r) hn10)
  have HMM : Hid (∀ j, j < (blocksI n r).length → ∃ m : Nat, m < 2 ^ n ∧ zListI (blocksI n r) j = (m : Int)) := Lib.hid fun j hj => by
    obtain ⟨m, h1, h2⟩ := blocksI_mem (List.getElem_mem hj)
    exact ⟨m, blkL_lt h1, by rw [zListI_at hj]; exact h2⟩
  unfold maxLen at hml
  clear hbc hc hI G hP
  generalize blocksI n r = K at *
  have hkl := HKL.out
  go_enter Tryd.func20, Tryd.ntmps20
  go_wp2_with (go_at_call 19; refine HBL.out.mono ?_; rintro e w1 ⟨u, rfl, hO, hb1⟩; obtain ⟨au, cu, rfl, hI⟩ := hO.ints (by omega); have HIU := Lib.hid hI; have HB1 := Lib.hid hb1; clear hO hI hb1)
  go_loopw [11] (fun i wr => ∃ k : Nat, k ≤ K.length ∧ i = .int .i64 k ∧ (∀ j, j < k → fewE n r (zListI K j).toNat = true) ∧ w1 = wr) (fun i _ => K.length - (intOf i).toNat)
  case atStart => exact ⟨0, Nat.zero_le _, rfl, by omega, rfl⟩
  case round =>
    obtain ⟨k, hk, rfl, hd, rfl⟩ := hrel
    have HD := Lib.hid hd
    clear hd
    by_cases hlt : k < K.length
    · obtain ⟨m, hm, hzm⟩ := HMM.out k hlt
      obtain ⟨bK, oK, rfl, hbK, hcK⟩ := HIU.out.2 (by omega)
      have ck : w1.cell? ⟨bK, oK + k, none⟩ = some (.int .i64 (m : Int)) := by rw [← hzm]; exact hcK k hlt
      have hFD : fewE n r (zListI K k).toNat = !decide (szS n m < degS n r m n / 2) := by rw [hzm]; rfl
      have HFD := Lib.hid hFD
      have hm16 : m < 65536 := by omega
      clear hcK hzm hFD
      have hdk : decide ((k : Int) < (K.length : Int)) = true := decide_eq_true (by omega)
      go_wp2_with fail
      go_loopw [5, 17] (fun c i wx => ∃ j : Nat, j ≤ n ∧ i = .int .i64 j ∧ c = .int .i64 (degS n r m j : Nat) ∧ w1 = wx) (fun _ i _ => n - (intOf i).toNat)
      case atStart => exact ⟨0, Nat.zero_le _, rfl, rfl, rfl⟩
      case round =>
        obtain ⟨j, hj, rfl, rfl, rfl⟩ := hrel
        by_cases hjn : j < n
        · have cj := HC.out w1 HB1.out j hjn
          have hrj := HR.out j hjn
          have hrj16 : r j < 65536 := by omega
          have HST : Hid (degS n r m (j + 1) = degS n r m j + (if m.testBit j then szS n (r j &&& m) else 0)) := Lib.hid rfl
          have hd := degS_le10 (r := r) (s := m) hn10 j
          have hd2 : degS n r m j ≤ 100 := by omega
          have hand : r j &&& m < 2 ^ n := Nat.lt_of_le_of_lt Nat.and_le_right hm
          have hsz := szS_le n (r j &&& m)
          have HSZ := Lib.hid (fun w => Size_any hn10 (r j &&& m) hand w)
          have hj64 : j < 64 := by omega
          generalize degS n r m j = D at *
          generalize szS n (r j &&& m) = S at *
          generalize r j = rj at *
          clear hd
          cases hb : m.testBit j
          · rw [hb, if_neg (by decide), Nat.add_zero] at HST
            go_wp2_with fail
            go_roundw
            case rel => exact ⟨j + 1, by omega, by go_num, by rw [HST.out]; first | rfl | (rw [Nat.add_zero]), by first | trivial | rfl⟩
            case measure => simp [intOf]; omega
          · rw [hb, if_pos rfl] at HST
            go_wp2_with (go_at_call 44; refine (HSZ.out _).mono ?_; rintro e w5 ⟨rfl, rfl⟩)
            go_roundw
            case rel => exact ⟨j + 1, by omega, by go_num, by rw [HST.out]; go_num, by first | trivial | rfl⟩
            case measure => simp [intOf]; omega
        · have hje : j = n := by omega
          subst hje
          have hd := degS_le10 (r := r) (s := m) hn10 j
          have hd2 : degS j r m j ≤ 100 := by omega
          have hsz := szS_le j m
          have HSZ := Lib.hid (fun w => Size_any hn10 m hm w)
          generalize degS j r m j = D at *
          generalize szS j m = S at *
          clear hd
          by_cases h2 : S < D / 2
          · have h2i : (S : Int) < (D : Int) / 2 := by omega
            have h2d : decide ((S : Int) < (D : Int) / 2) = true := decide_eq_true h2i
            have h2e : decide ((D : Int) / 2 > (S : Int)) = true := decide_eq_true h2i
            rw [decide_eq_true h2] at HFD
            go_wp2_with (go_at_call 44; refine (HSZ.out _).mono ?_; rintro e w5 ⟨rfl, rfl⟩)
            go_ret
            exact ⟨by rw [HX.out, all_no hlt HFD.out]; rfl, HB1.out⟩
          · have h2i : ¬ (S : Int) < (D : Int) / 2 := by omega
            have h2d : decide ((S : Int) < (D : Int) / 2) = false := decide_eq_false h2i
            have h2e : decide ((D : Int) / 2 > (S : Int)) = false := decide_eq_false h2i
            rw [decide_eq_false h2] at HFD
            go_wp2_with (go_at_call 44; refine (HSZ.out _).mono ?_; rintro e w5 ⟨rfl, rfl⟩)
            go_roundw
            case rel => exact ⟨k + 1, by omega, by go_num, fun i hi => by rcases Nat.lt_succ_iff_lt_or_eq.1 hi with h | h; exact HD.out i h; rw [h]; exact HFD.out, by first | trivial | rfl⟩
            case measure => simp [intOf]; omega
    · have hke : k = K.length := by omega
      rw [hke] at HD
      clear hke
      go_wp2_with fail
      go_ret
      exact ⟨by rw [HX.out, all_yes HD.out]; rfl, HB1.out⟩

set_option maxRecDepth 200000 in
set_option maxHeartbeats 4000000 in
theorem EarsBlocks_walk (n : Nat) (z : Nat → Int) (v : Value) (w : World) (hA : SliceArg w v n z) (hz : InI64 z) (hTab : HasTab w) :
    Calls Tryd.prog 3 #[v] w (LawTrue w) := by
  obtain ⟨a, cap, rfl, hI⟩ := hA.ints
  have HA := Lib.hid hA
  have HI0 := Lib.hid hI
  have HZ := Lib.hid hz
  have HT := Lib.hid (Tab.of hTab)
  cases hg : graphB n 10 z
  · clear hA hI hz hTab
    have HG0 := Lib.hid hg
    have HGM : graphB (min n 14) 10 z = false := by rw [graphB_few]; exact hg
    clear hg
    go_enter Tryd.func3, Tryd.ntmps3
    go_wp2_with fail
    go_at_call 14
    refine (Few_any n z _ _ HA.out).mono ?_
    rintro e w1 ⟨a1, c1, rfl, hi1, hb1⟩
    have HB1 := Lib.hid hb1
    have HT1 := Lib.hid (HT.out.below hb1)
    have HI1 := Lib.hid hi1
    clear hb1 hi1
    go_wp2_with fail
    go_at_call 13
    refine (Blocks_no _ HI1.out HZ.out HT1.out HGM).mono ?_
    rintro e w2 ⟨rfl, hb2⟩
    have HB2 := Lib.hid (HB1.out.trans (hb2.mono HB1.out.size))
    clear hb2
    go_wp2_with fail
    go_at_call 14
    refine (Few_any n z _ _ (HA.out.below HB2.out)).mono ?_
    rintro e w3 ⟨a3, c3, rfl, hi3, hb3⟩
    have HB3 := Lib.hid (HB2.out.trans (hb3.mono HB2.out.size))
    clear hb3
    have HI3 := Lib.hid hi3
    clear hi3
    go_wp2_with fail
    go_at_call 15
    refine (Cactus_no _ HI3.out HZ.out (HT.out.below HB3.out) HGM).mono ?_
    rintro e w4 ⟨rfl, hb4⟩
    have HB4 := Lib.hid (HB3.out.trans (hb4.mono HB3.out.size))
    clear hb4
    go_wp2_with fail
    go_at_call 16
    refine (ValidR_any n z _ _ _ (HI0.out.below HB4.out) HZ.out).mono ?_
    rintro e w5 ⟨rfl, hb5⟩
    rw [HG0.out]
    have HB5 := Lib.hid (HB4.out.trans (hb5.mono HB4.out.size))
    clear hb5
    go_wp2_with fail
    go_at_call 17
    refine (awake_any _ (HT.out.below HB5.out)).mono ?_
    rintro e w6 ⟨rfl, hb6⟩
    have HB6 := Lib.hid (HB5.out.trans (hb6.mono HB5.out.size))
    clear hb6
    go_wp2_with fail
    go_ret
    exact ⟨rfl, HB6.out⟩
  · have hP := pl_of hg
    have HPL := Lib.hid hP
    have hmin : min n 14 = n := by have := hP.le; omega
    have HM : Hid (min n 14 = n) := Lib.hid hmin
    have HG0 := Lib.hid hg
    have HGR : Hid (GrAt w a n (natG z)) := Lib.hid (GrAt.of_graph hI hg (by omega))
    have HKL := Lib.hid (blocksI_len (n := n) (r := natG z) hP.le)
    have HCY := Lib.hid (fun (a : Option Addr) (cap : Nat) (w : World) (h1 : IntsAt w a n z) (h2 : Tab w) => Cactus_yes cap h1 HZ.out h2 HG0.out)
    have HBY := Lib.hid (fun (a : Option Addr) (cap : Nat) (w : World) (h1 : IntsAt w a n z) (h2 : Tab w) => Blocks_yes cap h1 HZ.out h2 HG0.out)
    clear hmin hg hA hI hz hTab hP
    generalize natG z = r at *
    go_enter Tryd.func3, Tryd.ntmps3
    go_wp2_with fail
    go_at_call 14
    refine (Few_any n z _ _ HA.out).mono ?_
    rintro e w1 ⟨a1, c1, rfl, hi1, hb1⟩
    rw [HM.out] at hi1
    rw [HM.out]
    have HB1 := Lib.hid hb1
    have HT1 := Lib.hid (HT.out.below hb1)
    have HI1 := Lib.hid hi1
    clear hb1 hi1
    go_wp2_with fail
    go_at_call 13
    refine (HBY.out _ _ _ HI1.out HT1.out).mono ?_
    rintro e w2 ⟨u, rfl, ⟨au, cu, rfl, hiu, hcu⟩, hb2⟩
    have HIU2 := Lib.hid hiu
    have HB2 := Lib.hid (HB1.out.trans (hb2.mono HB1.out.size))
    clear hb2
    clear hiu
    go_wp2_with fail
    go_at_call 14
    refine (Few_any n z _ _ (HA.out.below HB2.out)).mono ?_
    rintro e w3 ⟨a3, c3, rfl, hi3, hb3⟩
    rw [HM.out] at hi3
    rw [HM.out]
    have HIU3 := Lib.hid (HIU2.out.below hb3)
    have HB3 := Lib.hid (HB2.out.trans (hb3.mono HB2.out.size))
    clear hb3
    have HI3 := Lib.hid hi3
    clear hi3
    go_wp2_with fail
    go_at_call 15
    refine (HCY.out _ _ _ HI3.out (HT.out.below HB3.out)).mono ?_
    rintro e w4 ⟨rfl, hb4⟩
    have HIU4 := Lib.hid (HIU3.out.below hb4)
    have HB4 := Lib.hid (HB3.out.trans (hb4.mono HB3.out.size))
    clear hb4
    go_wp2_with fail
    go_at_call 16
    refine (ValidR_any n z _ _ _ (HI0.out.below HB4.out) HZ.out).mono ?_
    rintro e w5 ⟨rfl, hb5⟩
    rw [HG0.out]
    have HIU5 := Lib.hid (HIU4.out.below hb5)
    have HB5 := Lib.hid (HB4.out.trans (hb5.mono HB4.out.size))
    clear hb5
    go_wp2_with fail
    go_at_call 19
    refine (BlocksR_any (HGR.out.below HB5.out) HPL.out _).mono ?_
    rintro e w6 ⟨u6, rfl, ho6, hb6⟩
    have HIU6 := Lib.hid (HIU5.out.below hb6)
    have HB6 := Lib.hid (HB5.out.trans (hb6.mono HB5.out.size))
    clear hb6
    obtain ⟨a6, c6, rfl, hi6⟩ := ho6.ints (by have := HKL.out; omega)
    have HI6 := Lib.hid hi6
    clear hi6 ho6
    go_wp2_with fail
    go_at_call 18
    refine (EqualI_true _ _ HIU6.out HI6.out).mono ?_
    rintro e w7 ⟨rfl, hb7⟩
    have HB7 := Lib.hid (HB6.out.trans (hb7.mono HB6.out.size))
    clear hb7
    go_wp2_with fail
    go_at_call 20
    refine (CactusR_any (HGR.out.below HB7.out) HPL.out _).mono ?_
    rintro e w8 ⟨rfl, hb8⟩
    have HB8 := Lib.hid (HB7.out.trans (hb8.mono HB7.out.size))
    clear hb8
    have hcc : (cactB n r == cactB n r) = true := by simp
    generalize cactB n r = cb at *
    go_wp2_with fail
    go_at_call 17
    refine (awake_any _ (HT.out.below HB8.out)).mono ?_
    rintro e w9 ⟨rfl, hb9⟩
    have HB9 := Lib.hid (HB8.out.trans (hb9.mono HB8.out.size))
    clear hb9
    go_wp2_with fail
    go_ret
    exact ⟨rfl, HB9.out⟩

end Go.Proofs.YtcpdedgmhpehiaaDoor
