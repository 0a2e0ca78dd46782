/- The walk of the law ChaseNames. -/
import Derived.Test.YtmkcnpphdghbaaaL2i
import Derived.Test.YtmkcnpphdghbaaaS18
import Derived.Test.YtmkcnpphdghbaaaS19
import Derived.Test.YtmkcnpphdghbaaaC3d
import Derived.Test.YtmkcnpphdghbaaaC3i
import Derived.BigRegion
namespace Go.Proofs.Ytmkcnpphdghbaaa
set_option linter.unusedSimpArgs false
set_option linter.unusedVariables false
open Go.RowKit Go.Maps

def hCells (n b : Nat) (z : Nat → Int) (i j : Nat) : List Value := (List.range n).map fun x => .int .i64 (hrow n b z i j x : Nat)
theorem hCells_zero (n b : Nat) (z : Nat → Int) : hCells n b z 0 0 = (madeCells #[.int .i64 0] n).toList := by
  unfold hCells madeCells
  simp only [hrow_zero]
  simp [Nat.mod_one]
theorem hCells_next {n b : Nat} (hb : b < n) (z : Nat → Int) (i : Nat) : hCells n b z i n = hCells n b z (i + 1) 0 := by
  unfold hCells
  apply List.map_congr_left
  intro x _
  rw [hrow_next hb]
theorem hCells_set {n b : Nat} (hb : b < n) (z : Nat → Int) {i j : Nat} (hi : i < n) : (hCells n b z i j).set (rot n b i) (.int .i64 (hrow n b z i (j + 1) (rot n b i) : Nat)) = hCells n b z i (j + 1) := by
  unfold hCells
  rw [map_range_set]
  apply List.map_congr_left
  intro x hx
  have hx := List.mem_range.1 hx
  by_cases h : x = rot n b i
  · subst h; simp
  · rw [if_neg h, hrow_other hb z hi hx h]

theorem wrap_small (x : Nat) (h : x < 1000) : IntKind.i64.wrap (x : Int) = x ∧ wrap64 (x : Int) = x := ⟨IntWalk.i64_in _ (by omega), IntWalk.wrap64_in _ ⟨by omega, by omega⟩⟩
theorem wrap_sum (x y : Nat) (h : x < 500) (h' : y < 500) : IntKind.i64.wrap ((x : Int) + y) = x + y ∧ wrap64 ((x : Int) + y) = x + y := ⟨IntWalk.i64_in _ (by omega), IntWalk.wrap64_in _ ⟨by omega, by omega⟩⟩
theorem wrap_pow (x : Nat) (h : x < 16) : IntKind.i64.wrap ((2 : Int) ^ x) = 2 ^ x ∧ wrap64 ((2 : Int) ^ x) = 2 ^ x := by
  have := pow_bd x h
  exact ⟨IntWalk.i64_in _ (by omega), IntWalk.wrap64_in _ ⟨by omega, by omega⟩⟩
theorem or_zero (x : Nat) (h : x < 65536) : bits .or .i64 (x : Int) 0 = (x : Int) := by
  have := i64_or x 0 h (by omega)
  simpa using this
theorem rot_tmod (n b i : Nat) : ((i : Int) + b).tmod n = (rot n b i : Nat) := by
  rw [Int.tmod_eq_emod_of_nonneg (by omega)]
  unfold rot
  rw [Int.natCast_emod, Int.natCast_add]

theorem bit_mod (s j : Nat) : (s : Int) / 2 ^ j % 2 = if s.testBit j then 1 else 0 := by
  have h0 := bitZ_nat s j
  unfold bitZ at h0
  cases hb : s.testBit j
  · rw [hb, beq_eq_false_iff_ne] at h0
    simp
    omega
  · rw [hb, beq_iff_eq] at h0
    simpa using h0
/-- What the step for row i and bit j reads, reckons and writes. -/
theorem cell_facts {n b : Nat} (hb : b < n) (hn8 : n ≤ 8) (z : Nat → Int) {i j s : Nat} (hi : i < n) (hj : j < n) (hs : z i = s) :
    ∃ ri rj X Y : Nat, ∃ bt V : Int, ri < n ∧ rj < n ∧ X < 256 ∧ ((i : Int) + b).tmod n = (ri : Nat) ∧ ((j : Int) + b).tmod n = (rj : Nat) ∧ (hCells n b z i j)[ri]? = some (.int .i64 (X : Nat)) ∧
      (hCells n b z i j).set ri (.int .i64 (Y : Nat)) = hCells n b z i (j + 1) ∧ bits .and .i64 ((s : Int) / 2 ^ j) 1 = bt ∧ IntKind.i64.wrap (bt * 2 ^ rj) = V ∧ wrap64 (bt * 2 ^ rj) = V ∧ bits .or .i64 (X : Int) V = (Y : Nat) := by
  have hn0 : 0 < n := Nat.lt_of_le_of_lt (Nat.zero_le _) hb
  have hx1 : rot n b i < n := rot_lt hn0
  have hx2 : rot n b j < n := rot_lt hn0
  have hX : hrow n b z i j (rot n b i) < 256 := Nat.lt_of_lt_of_le (hrow_lt _ _ _ _ _ _) (pow_le16 hn8)
  have hst := hrow_step hb z hi hj
  rw [hs, Int.toNat_natCast] at hst
  have hset := hCells_set hb z (j := j) hi
  have r1 := rot_tmod n b i
  have r2 := rot_tmod n b j
  have hget : (hCells n b z i j)[rot n b i]? = some (.int .i64 (hrow n b z i j (rot n b i) : Nat)) := by unfold hCells; exact map_range_get _ hx1
  generalize hrow n b z i (j + 1) (rot n b i) = Y at *
  generalize hrow n b z i j (rot n b i) = X at *
  generalize rot n b i = ri at *
  generalize rot n b j = rj at *
  have hor := i64_or_pow X rj (by omega) (by omega)
  have hor0 := or_zero X (by omega)
  obtain ⟨hw2, hw2'⟩ := wrap_pow rj (by omega)
  obtain ⟨h0, h0'⟩ := wrap_small 0 (by omega)
  refine ⟨ri, rj, X, Y, (if s.testBit j then 1 else 0), (if s.testBit j then 2 ^ rj else 0), hx1, hx2, hX, r1, r2, hget, hset, by rw [i64_and_one, bit_mod], ?_, ?_, ?_⟩
  · cases s.testBit j
    · simpa using h0
    · simpa using hw2
  · cases s.testBit j
    · simpa using h0'
    · simpa using hw2'
  · rw [hst]
    cases s.testBit j
    · simpa using hor0
    · simpa using hor

set_option maxRecDepth 200000 in
set_option maxHeartbeats 4000000 in
theorem ChaseNames_walk (n : Nat) (z : Nat → Int) (v : Value) (kI : Int) (w : World) (hA : SliceArg w v n z) (hz : ∀ i, -9223372036854775808 ≤ z i ∧ z i ≤ 9223372036854775807) :
    Calls Try.prog 11 #[v, .int .i64 kI] w (LawTrue w) := by
  obtain ⟨a, cap, rfl, hI⟩ := hA.ints
  have HA := Lib.hid hA
  have HI := Lib.hid hI
  have HZ := Lib.hid hz
  have hml := hI.1
  unfold maxLen at hml
  clear hA hI hz
  cases hv : validB n z
  · have HV := Lib.hid hv
    clear hv
    go_enter Try.func11, Try.ntmps11
    go_wp2_with fail
    go_at_call 23
    refine (Valid_any n z _ _ _ HI.out HZ.out).mono ?_
    rintro e w1 ⟨rfl, hb1⟩
    rw [HV.out]
    have HB1 := Lib.hid hb1
    clear hb1
    go_wp2_with fail
    go_at_call 17
    refine (awake_any _).mono ?_
    rintro e w10 ⟨rfl, hb10⟩
    have HB10 := Lib.hid (HB1.out.trans (hb10.mono HB1.out.size))
    clear hb10
    go_wp2_with fail
    go_ret
    exact ⟨rfl, HB10.out⟩
  · obtain ⟨hn1, hn8, hcell⟩ := graphB_le (validB_graph hv)
    have HM : Hid (min n 13 = n) := Lib.hid (by omega)
    have HT : Hid (townB n z = true) := Lib.hid (by rw [townB_valid]; exact hv)
    have HV := Lib.hid hv
    have HCE := Lib.hid hcell
    obtain ⟨b, hb, hR⟩ := idx_any kI (show 0 < n by omega) (by omega)
    have HHB := Lib.hid hb
    have hmk : ∀ w : World, (Instr.makeSlice 23 (.int .i64 (n : Int)) (.int .i64 (n : Int))).run Try.prog w = .ok (.slice (some ⟨w.heap.size, 0, none⟩) n n) (w.alloc (.cells (hCells n b z 0 0).toArray 3)) := by
      have h := run_make_row' (P := Try.prog) 23 3 (.int .i64 0) 8 Try.underlying23 info_int rfl .i64 .i64 n (by omega) (by omega)
      rw [hCells_zero]; exact h
    clear hv hcell
    have hn0 : ((n : Int) == 0) = false := beq_eq_false_iff_ne.2 (by omega)
    go_enter Try.func11, Try.ntmps11
    go_wp2_with fail
    go_at_call 23
    refine (Valid_any n z _ _ _ HI.out HZ.out).mono ?_
    rintro e w1 ⟨rfl, hb1⟩
    rw [HV.out]
    have HB1 := Lib.hid hb1
    clear hb1
    obtain ⟨w2, hw2, R2, hb2, hsz2⟩ := new1 w1 3 (hCells n b z 0 0)
    have HW2 := Lib.hid hw2
    have HR2 := Lib.hid R2
    have HBW := Lib.hid (HB1.out.trans (hb2.mono HB1.out.size))
    clear hw2 R2 hb2
    go_wp2_with fail
    rw [← HW2.out, hR]
    have HSZ1 := Lib.hid HB1.out.size
    clear HW2 hmk hR
    go_loopw [41] (fun ii wr => ∃ i : Nat, i ≤ n ∧ ii = .int .i64 i ∧ Row wr w1.heap.size 3 (hCells n b z i 0) ∧ Below w.heap.size w wr) (fun ii _ => n - (intOf ii).toNat)
    case atStart => exact ⟨0, Nat.zero_le _, rfl, HR2.out, HBW.out⟩
    case round =>
      clear HR2 HBW hsz2 w2
      obtain ⟨i, hi, rfl, hrow0, hbel⟩ := hrel
      have HR := Lib.hid hrow0
      have HB := Lib.hid hbel
      clear hrow0 hbel
      by_cases hlt : i < n
      · obtain ⟨gb, off, rfl, hgb, hgc⟩ := (HI.out.below HB.out).2 (by omega)
        have hci := hgc i hlt
        obtain ⟨s, hs⟩ : ∃ s : Nat, z i = s := ⟨(z i).toNat, by have := (HCE.out i hlt).1; omega⟩
        have hs2 : s < 2 ^ n := by
          have h0 := (HCE.out i hlt).2
          rw [hs, pow_cast] at h0
          omega
        rw [hs] at hci
        have hs256 : s < 256 := by have := pow_le16 hn8; omega
        have HS := Lib.hid hs
        clear hs hs2 hgc hgb
        go_wp2_with fail
        go_loopw [47] (fun jj wx => ∃ j : Nat, j ≤ n ∧ jj = .int .i64 j ∧ Row wx w1.heap.size 3 (hCells n b z i j) ∧ Below w.heap.size w wx) (fun jj _ => n - (intOf jj).toNat)
        case atStart => exact ⟨0, Nat.zero_le _, rfl, HR.out, HB.out⟩
        case round =>
          clear HR HB hci
          obtain ⟨j, hj, rfl, hrow0, hbel⟩ := hrel
          have HR := Lib.hid hrow0
          have HB := Lib.hid hbel
          clear hbel
          by_cases hlj : j < n
          · obtain ⟨ri, rj, X, Y, bt, V, hri, hrj, hX, r1', r2', hget, hset, e0', ev', ew', eo'⟩ := cell_facts HHB.out hn8 z hlt hlj HS.out
            have HR1 := Lib.hid r1'
            have HR2 := Lib.hid r2'
            have HE0 := Lib.hid e0'
            have HEV := Lib.hid ev'
            have HEW := Lib.hid ew'
            have HEO := Lib.hid eo'
            have HSET := Lib.hid hset
            clear r1' r2' e0' ev' ew' eo' hset
            have qc := hrow0.cell (i := ri) hget
            have qf := hrow0.free ri
            have ql := hrow0.lt
            have o1 : i < 500 := by omega
            have o2 : b < 500 := by omega
            have o3 : j < 500 := by omega
            have o4 : ri < 1000 := by omega
            have o5 : rj < 1000 := by omega
            have hn00 : n ≠ 0 := by omega
            have hj64 : j < 64 := by omega
            have h64 : rj < 64 := by omega
            obtain ⟨wi, wi'⟩ := wrap_sum i b o1 o2
            obtain ⟨wj, wj'⟩ := wrap_sum j b o3 o2
            obtain ⟨wri, wri'⟩ := wrap_small ri o4
            obtain ⟨wrj, wrj'⟩ := wrap_small rj o5
            clear hget hrow0
            have r1 := HR1.out
            have r2 := HR2.out
            have e0 := HE0.out
            have ev := HEV.out
            have ew := HEW.out
            have eo := HEO.out
            go_wp2_with fail
            go_region
            all_goals
              clear wi wi' wj wj' wri wri' wrj wrj' r1 r2 e0 ev ew eo
              go_wp2_with fail
              go_roundw
              case rel =>
                refine ⟨j + 1, by omega, by go_num, ?_, below_drewN (HB.out.setCell HSZ1.out _) 1⟩
                rw [← HSET.out]
                have hv : bits .or .i64 (X : Int) (wrap64 (bt * 2 ^ min rj 64)) = (Y : Nat) := by rw [Nat.min_eq_left (Nat.le_of_lt h64), HEW.out, HEO.out]
                rw [hv]
                exact (HR.out.set ri _).drewN 1
              case measure => simp [intOf]; omega
          · have hje : j = n := by omega
            subst hje
            go_wp2_with fail
            go_roundw
            case rel => exact ⟨i + 1, by omega, by go_num, by rw [← hCells_next HHB.out]; exact HR.out, HB.out⟩
            case measure => simp [intOf]; omega
      · have hie : i = n := by omega
        have hrow := HR.out
        rw [hie] at hrow
        have HH : Hid (SliceArg wr (.slice (some ⟨w1.heap.size, 0, none⟩) n n) n (zrot n b z)) := Lib.hid (.inr ⟨_, n, rfl, Nat.le_refl _, by unfold maxLen; omega, fun _ => ⟨_, 0, rfl, hrow.lt, fun x hx => by
          rw [Nat.zero_add]
          refine hrow.cell ?_
          unfold hCells zrot
          exact map_range_get _ hx⟩⟩)
        have HTU : Hid (Turn n (reachOf z) (reachOf (zrot n b z)) (rot n b)) := Lib.hid (turn_rot HHB.out HCE.out)
        have HTR : Hid (townB n (zrot n b z) = true) := Lib.hid (town_rot HHB.out HT.out)
        have HBE : Hid (∀ k, k = 1 ∨ k = 2 → (bestG n (zrot n b z) k).2 = (bestG n z k).2) := Lib.hid (fun k hk => HTU.out.best hk)
        clear hrow HR hie
        go_wp2_with fail
        go_loopw [10] (fun kk wx => ∃ k : Nat, 1 ≤ k ∧ k ≤ 3 ∧ kk = .int .i64 k ∧ Below wr.heap.size wr wx) (fun kk _ => 3 - (intOf kk).toNat)
        case atStart => exact ⟨1, by omega, by omega, rfl, Below.refl _ _⟩
        case round =>
          obtain ⟨k, hk1, hk3, rfl, hbel⟩ := hrel
          have HBL := Lib.hid hbel
          have HBR := Lib.hid (HB.out.trans (hbel.mono HB.out.size))
          clear hbel
          by_cases hle : k ≤ 2
          · have HKI : Hid ((k : Int) = 1 ∨ (k : Int) = 2) := Lib.hid (by omega)
            have hke := HBE.out (k : Int).toNat (by omega)
            have HKE := Lib.hid hke
            clear hke
            by_cases hbb : (bestG n z (k : Int).toNat).2 = -1
            · have HX := Lib.hid hbb
              have HY : Hid ((bestG n (zrot n b z) (k : Int).toNat).2 = -1) := Lib.hid (by rw [HKE.out]; exact hbb)
              clear hbb
              go_wp2_with fail
              go_at_call 13
              refine (Few_any n z _ _ (SliceArg.below HA.out HBR.out)).mono ?_
              rintro e w5 ⟨a5, c5, rfl, hi5, hb5⟩
              rw [HM.out] at hi5
              rw [HM.out]
              have HI5 := Lib.hid hi5
              clear hi5
              have HL5 := Lib.hid (HBL.out.trans (hb5.mono HBL.out.size))
              clear hb5
              go_wp2_with fail
              go_at_call 21
              refine (Rounds_any n z k _ _ _ HI5.out).mono ?_
              rintro e w6 ⟨hb6, hr, -⟩
              obtain rfl := hr ⟨HT.out, HKI.out⟩ HX.out
              clear hr
              have HL6 := Lib.hid (HL5.out.trans (hb6.mono HL5.out.size))
              clear hb6
              go_wp2_with fail
              go_at_call 33
              refine (Clone_any n (zrot n b z) _ _ (by omega) (SliceArg.below HH.out HL6.out)).mono ?_
              rintro e w7 ⟨a7, c7, rfl, hi7, hb7⟩
              have HI7 := Lib.hid hi7
              clear hi7
              have HL7 := Lib.hid (HL6.out.trans (hb7.mono HL6.out.size))
              clear hb7
              go_wp2_with fail
              go_at_call 21
              refine (Rounds_any n (zrot n b z) k _ _ _ HI7.out).mono ?_
              rintro e w8 ⟨hb8, hr, -⟩
              obtain rfl := hr ⟨HTR.out, HKI.out⟩ HY.out
              clear hr
              have HL8 := Lib.hid (HL7.out.trans (hb8.mono HL7.out.size))
              clear hb8
              go_wp2_with fail
              go_roundw
              case rel => exact ⟨k + 1, by omega, by omega, by go_num, HL8.out⟩
              case measure => simp [intOf]; omega
            · obtain ⟨m1, hm1⟩ : ∃ m1, (bestG n z (k : Int).toNat).2 = m1 := ⟨_, rfl⟩
              have HM1 := Lib.hid hm1
              have HX : Hid (Unit → ¬ (bestG n z (k : Int).toNat).2 = -1) := Lib.hid fun _ => hbb
              have HY : Hid (Unit → ¬ (bestG n (zrot n b z) (k : Int).toNat).2 = -1) := Lib.hid fun _ => by rw [HKE.out]; exact hbb
              clear hbb hm1
              go_wp2_with fail
              go_at_call 13
              refine (Few_any n z _ _ (SliceArg.below HA.out HBR.out)).mono ?_
              rintro e w5 ⟨a5, c5, rfl, hi5, hb5⟩
              rw [HM.out] at hi5
              rw [HM.out]
              have HI5 := Lib.hid hi5
              clear hi5
              have HL5 := Lib.hid (HBL.out.trans (hb5.mono HBL.out.size))
              clear hb5
              go_wp2_with fail
              go_at_call 21
              refine (Rounds_any n z k _ _ _ HI5.out).mono ?_
              rintro e w6 ⟨hb6, -, hr, -⟩
              obtain rfl := hr ⟨HT.out, HKI.out⟩ (HX.out ())
              rw [HM1.out]
              clear hr
              have HL6 := Lib.hid (HL5.out.trans (hb6.mono HL5.out.size))
              clear hb6
              go_wp2_with fail
              go_at_call 33
              refine (Clone_any n (zrot n b z) _ _ (by omega) (SliceArg.below HH.out HL6.out)).mono ?_
              rintro e w7 ⟨a7, c7, rfl, hi7, hb7⟩
              have HI7 := Lib.hid hi7
              clear hi7
              have HL7 := Lib.hid (HL6.out.trans (hb7.mono HL6.out.size))
              clear hb7
              go_wp2_with fail
              go_at_call 21
              refine (Rounds_any n (zrot n b z) k _ _ _ HI7.out).mono ?_
              rintro e w8 ⟨hb8, -, hr, -⟩
              obtain rfl := hr ⟨HTR.out, HKI.out⟩ (HY.out ())
              rw [HKE.out, HM1.out]
              clear hr
              have HL8 := Lib.hid (HL7.out.trans (hb8.mono HL7.out.size))
              clear hb8
              go_wp2_with fail
              go_roundw
              case rel => exact ⟨k + 1, by omega, by omega, by go_num, HL8.out⟩
              case measure => simp [intOf]; omega
          · have hke : k = 3 := by omega
            subst hke
            go_wp2_with fail
            go_at_call 13
            refine (Few_any n z _ _ (SliceArg.below HA.out HBR.out)).mono ?_
            rintro e w10 ⟨a10, c10, rfl, hi10, hb10⟩
            rw [HM.out] at hi10
            rw [HM.out]
            have HI10 := Lib.hid hi10
            clear hi10
            have HL10 := Lib.hid (HBL.out.trans (hb10.mono HBL.out.size))
            clear hb10
            go_wp2_with fail
            go_at_call 34
            refine (Core_any n z _ _ _ HI10.out).mono ?_
            rintro e w11 ⟨hb11, hr, -⟩
            obtain ⟨L1, T1, rfl, hst1, hno1⟩ := hr HT.out
            have HL11 := Lib.hid (HL10.out.trans (hb11.mono HL10.out.size))
            clear hr hb11
            go_wp2_with fail
            go_at_call 33
            refine (Clone_any n (zrot n b z) _ _ (by omega) (SliceArg.below HH.out HL11.out)).mono ?_
            rintro e w12 ⟨a12, c12, rfl, hi12, hb12⟩
            have HI12 := Lib.hid hi12
            clear hi12
            have HL12 := Lib.hid (HL11.out.trans (hb12.mono HL11.out.size))
            clear hb12
            go_wp2_with fail
            go_at_call 34
            refine (Core_any n (zrot n b z) _ _ _ HI12.out).mono ?_
            rintro e w13 ⟨hb13, hr, -⟩
            obtain ⟨L2, T2, rfl, hst2, hno2⟩ := hr HTR.out
            have HL13 := Lib.hid (HL12.out.trans (hb13.mono HL12.out.size))
            clear hr hb13
            have hall : 2 ^ n - 1 < 2 ^ n := by have := Nat.one_le_two_pow (n := n); omega
            have ht1 := hst1.pow hall
            have ht2 := hst2.pow hall
            have h256 := pow_le16 hn8
            have hT1 : T1 < 256 := by omega
            have hT2 : T2 < 256 := by omega
            have hsz := core_size (net_town HT.out) (net_town HTR.out) HTU.out.iso hst1 hno1 hst2 hno2
            rw [← szS_eight hn8 ht1, ← szS_eight hn8 ht2] at hsz
            have HSZ := Lib.hid hsz
            clear hst1 hno1 hst2 hno2 hsz ht1 ht2 hall h256
            obtain ⟨p1, p2⟩ := pow_bd n (by omega)
            have HIN : Hid (inB ((2 : Int) ^ n - 1) (2 ^ n) = true) := Lib.hid (inB_true (by omega) (by omega))
            have HTN : Hid (((2 : Int) ^ n - 1).toNat = 2 ^ n - 1) := Lib.hid (by rw [mask_val, Int.toNat_natCast])
            have w1' : IntKind.i64.wrap ((2 : Int) ^ n) = 2 ^ n := IntWalk.i64_in _ (by omega)
            have w2' : IntKind.i64.wrap ((2 : Int) ^ n - 1) = 2 ^ n - 1 := IntWalk.i64_in _ (by omega)
            go_wp2_with fail
            have HLD := Lib.hid (HL13.out.drew)
            have HBD := Lib.hid (HB.out.trans (HLD.out.mono HB.out.size))
            go_region_law (first
              | (go_simp; go_at_call 13; refine (Few_any n z _ _ (SliceArg.below HA.out HBD.out)).mono ?_; rintro e w14 ⟨a14, c14, rfl, hi14, hb14⟩; rw [HM.out] at hi14; rw [HM.out]; have HI14 := Lib.hid hi14; clear hi14; have HL14 := Lib.hid (HLD.out.trans (hb14.mono HLD.out.size)); clear hb14)
              | (go_simp; go_at_call 31; refine (Corners_any n z _ _ _ _ HI14.out).mono ?_; rintro e w15 ⟨hb15, hyes, -⟩; obtain ⟨v15, rfl, ho15⟩ := hyes HT.out HIN.out; clear hyes; have HO15 := Lib.hid ho15; clear ho15; have HL15 := Lib.hid (HL14.out.trans (hb15.mono HL14.out.size)); clear hb15))
            go_wp2_with fail
            have HLE := Lib.hid (HL15.out.drew)
            go_region_law (first
              | (go_simp; go_at_call 33; refine (Clone_any n (zrot n b z) _ _ (by omega) (SliceArg.below HH.out HLE.out)).mono ?_; rintro e w16 ⟨a16, c16, rfl, hi16, hb16⟩; have HI16 := Lib.hid hi16; clear hi16; have HL16 := Lib.hid (HLE.out.trans (hb16.mono HLE.out.size)); have HE16 := Lib.hid ((Below.refl w15.heap.size w15).drew.trans (hb16.mono (Nat.le_refl _))); clear hb16)
              | (go_simp; go_at_call 31; refine (Corners_any n (zrot n b z) _ _ _ _ HI16.out).mono ?_; rintro e w17 ⟨hb17, hyes, -⟩; obtain ⟨v17, rfl, ho17⟩ := hyes HTR.out HIN.out; clear hyes; have HO17 := Lib.hid ho17; clear ho17; have HL17 := Lib.hid (HL16.out.trans (hb17.mono HL16.out.size)); have HE17 := Lib.hid (HE16.out.trans (hb17.mono HE16.out.size)); clear hb17))
            have ho15 := HO15.out
            have ho17 := HO17.out
            rw [HTN.out] at ho15 ho17
            obtain ⟨hlen, hcon⟩ := HTU.out.corners
            have hll := cornTo_len (covP (reachOf z) (2 ^ n - 1)) n (by omega) n
            have HLB : Hid (∀ p, p ∈ cornTo (covP (reachOf z) (2 ^ n - 1)) n n → p.1 < n ∧ p.2 < n) := Lib.hid (fun p hp => ⟨(cornTo_mem hp).1, (cornTo_mem hp).2.1⟩)
            clear HO15 HO17 w1' w2' p1 p2 HTU
            generalize cornTo (covP (reachOf z) (2 ^ n - 1)) n n = L at *
            generalize cornTo (covP (reachOf (zrot n b z)) (2 ^ n - 1)) n n = M at *
            obtain ⟨a15, c15, rfl⟩ := own_form ho15
            obtain ⟨a17, c17, rfl⟩ := own_form ho17
            have HPL : Hid (PairCells w17 a15 L) := Lib.hid (PairCells.below (w := w15) ho15.cells HE17.out)
            have HPM : Hid (PairCells w17 a17 M) := Lib.hid ho17.cells
            have HCON : Hid (∀ p, p ∈ L → (rot n b p.1, rot n b p.2) ∈ M) := Lib.hid hcon
            have hL16 : L.length ≤ 65536 := by omega
            have hM16 : M.length ≤ 65536 := by omega
            have hq1 : ((L.length : Int) != (M.length : Int)) = false := by rw [hlen]; simp
            clear ho15 ho17 hcon hll hlen
            go_wp2_with fail
            go_at_call 35
            refine (size_any T1 hT1 _).mono ?_
            rintro e w18 ⟨rfl, rfl⟩
            rw [HSZ.out]
            go_wp2_with fail
            go_at_call 35
            refine (size_any T2 hT2 _).mono ?_
            rintro e w19 ⟨rfl, rfl⟩
            generalize szS 8 T2 = sz at *
            go_wp2_with fail
            go_loopw [158] (fun ii wx => ∃ q : Nat, q ≤ L.length ∧ ii = .int .i64 q ∧ Below w17.heap.size w17 wx) (fun ii _ => L.length - (intOf ii).toNat)
            case atStart => exact ⟨0, Nat.zero_le _, rfl, Below.refl _ _⟩
            case round =>
              obtain ⟨q, hq, rfl, hbel⟩ := hrel
              have HBX := Lib.hid hbel
              clear hbel
              by_cases hlq : q < L.length
              · obtain ⟨⟨pv, pu⟩, hp⟩ : ∃ p, L[q]? = some p := ⟨L[q], by simp [hlq]⟩
                obtain ⟨gl, rfl, e0, e1⟩ := HPL.out wr HBX.out q _ hp
                have hmm := HCON.out _ (List.mem_of_getElem? hp)
                obtain ⟨lb1, lb2⟩ := HLB.out _ (List.mem_of_getElem? hp)
                clear hp
                dsimp only at e0 e1 hmm lb1 lb2
                have hr1' := rot_tmod n b pv
                have hr2' := rot_tmod n b pu
                have hv1 : rot n b pv < n := rot_lt (Nat.lt_of_le_of_lt (Nat.zero_le _) HHB.out)
                have hv2 : rot n b pu < n := rot_lt (Nat.lt_of_le_of_lt (Nat.zero_le _) HHB.out)
                generalize rot n b pv = rv at *
                generalize rot n b pu = ru at *
                have HR1 := Lib.hid hr1'
                have HR2 := Lib.hid hr2'
                have HMM := Lib.hid hmm
                clear hr1' hr2' hmm
                have o1 : pv < 500 := by omega
                have o2 : b < 500 := by omega
                have o3 : pu < 500 := by omega
                have o4 : rv < 1000 := by omega
                have o5 : ru < 1000 := by omega
                have hn00 : n ≠ 0 := by omega
                have HW1 := Lib.hid (wrap_sum pv b o1 o2)
                have HW2 := Lib.hid (wrap_sum pu b o3 o2)
                have HW3 := Lib.hid (wrap_small rv o4)
                have HW4 := Lib.hid (wrap_small ru o5)
                go_wp2_with fail
                have HBX2 := Lib.hid ((HBX.out.alloc HBX.out.size (.cells #[.int .i64 pv, .int .i64 pu] 32)).drew)
                have HPMX := Lib.hid (PairCells.below HPM.out HBX2.out)
                have c0 : (wr.alloc (.cells #[.int .i64 pv, .int .i64 pu] 32)).drew.cell? ⟨wr.heap.size, 0, none⟩ = some (.int .i64 pv) := (Row.new wr 32 [.int .i64 pv, .int .i64 pu]).cell (i := 0) rfl
                have c1 : (wr.alloc (.cells #[.int .i64 pv, .int .i64 pu] 32)).drew.cell? ⟨wr.heap.size, 1, none⟩ = some (.int .i64 pu) := (Row.new wr 32 [.int .i64 pv, .int .i64 pu]).cell (i := 1) rfl
                obtain ⟨wi, wi'⟩ := HW1.out
                obtain ⟨wj, wj'⟩ := HW2.out
                obtain ⟨wri, wri'⟩ := HW3.out
                obtain ⟨wrj, wrj'⟩ := HW4.out
                have r1 := HR1.out
                have r2 := HR2.out
                go_region_law (go_simp; go_at_call 36; refine (ContainsPair_any HPMX.out hM16 HMM.out).mono ?_; rintro e w21 ⟨rfl, hb21⟩; have HB21 := Lib.hid (HBX2.out.trans (hb21.mono HBX2.out.size)); clear hb21)
                all_goals
                  clear wi wi' wj wj' wri wri' wrj wrj' r1 r2
                  go_wp2_with fail
                  go_roundw
                  case rel => exact ⟨q + 1, by omega, by go_num, HB21.out⟩
                  case measure => simp [intOf]; omega
              · have hqe : q = L.length := by omega
                go_wp2_with fail
                go_at_call 17
                refine (awake_any _).mono ?_
                rintro e w20 ⟨rfl, hb20⟩
                have HL20 := Lib.hid (HL17.out.trans ((HBX.out.trans (hb20.mono HBX.out.size)).mono HL17.out.size))
                clear hb20
                go_wp2_with fail
                go_ret
                exact ⟨rfl, HB.out.trans (HL20.out.mono HB.out.size)⟩

end Go.Proofs.Ytmkcnpphdghbaaa
