/- The contracts of package ears' isCactus, Cactus and Blocks; the walk of the law EarsCactus. -/
import Derived.Test.YtcpdedgmhpehiaaDoorEcb
namespace Go.Proofs.YtcpdedgmhpehiaaDoor
set_option linter.unusedSimpArgs false
set_option linter.unusedVariables false
open Go.RowKit Go.Maps
attribute [local go_sem] i64_bit toNat_eq_one toNat_ne_one toNat_eq_zero toNat_ne_zero i64_and i64_or i64_andNot i64_or_pow i64_andNot_pow

/-- Whether a set has not more edges than nodes. -/
def fewE (n : Nat) (r : Nat → Nat) (m : Nat) : Bool := !decide (szS n m < degS n r m n / 2)
/-- Whether no block has more edges than nodes. -/
def cactB (n : Nat) (r : Nat → Nat) : Bool := (blocksI n r).all fun x => fewE n r x.toNat
theorem zListI_at {K : List Int} {k : Nat} (h : k < K.length) : zListI K k = K[k] := by
  unfold zListI
  rw [List.getD_eq_getElem?_getD, List.getElem?_eq_getElem h]; rfl
theorem all_yes {K : List Int} {p : Int → Bool} (h : ∀ j, j < K.length → p (zListI K j) = true) : K.all p = true := by
  rw [List.all_eq_true]
  intro x hx
  obtain ⟨i, hi, rfl⟩ := List.mem_iff_getElem.1 hx
  rw [← zListI_at hi]; exact h i hi
theorem all_no {K : List Int} {p : Int → Bool} {j : Nat} (hj : j < K.length) (h : p (zListI K j) = false) : K.all p = false := by
  rw [List.all_eq_false]
  exact ⟨K[j], List.getElem_mem hj, by rw [← zListI_at hj, h]; decide⟩

set_option maxRecDepth 20000 in
set_option maxHeartbeats 4000000 in
theorem isCactus_any {n : Nat} {r : Nat → Nat} {ad : Option Addr} {w : World} (G : GrAt w ad n r) (hP : Pl n r) (cap : Nat) (hT : Tab w) :
    Calls Tryd.prog 57 #[.slice ad n cap] w fun e w' => e = .returned (.bool (cactB n r)) ∧ Below w.heap.size w w' := by
  have hn10 := hP.le
  have h10 := pow_le10 hn10
  have HG := Lib.hid G
  have HR := Lib.hid hP.bd
  have HT := Lib.hid hT
  have HX : Hid (cactB n r = (blocksI n r).all fun x => fewE n r x.toNat) := Lib.hid rfl
  have HBL := Lib.hid (blocks_any G hn10 hP.bd cap hT)
  have HMM : Hid (∀ j, j < (blocksI n r).length → ∃ m : Nat, m < 2 ^ n ∧ zListI (blocksI n r) j = (m : Int)) := Lib.hid fun j hj => by
    obtain ⟨m, h1, h2⟩ := blocksI_mem (List.getElem_mem hj)
    exact ⟨m, blkL_lt h1, by rw [zListI_at hj]; exact h2⟩
  have hkl := blocksI_len (n := n) (r := r) hn10
  clear G hT hP
  generalize blocksI n r = K at *
  go_enter Tryd.func57, Tryd.ntmps57
  go_wp2_with (go_at_call 56; refine HBL.out.mono ?_; rintro e w1 ⟨u, rfl, ⟨au, cu, rfl, hI, _⟩, hb1⟩; have HI := Lib.hid hI; have HB1 := Lib.hid hb1; clear hI hb1)
  go_loopw [8] (fun i wr => ∃ k : Nat, k ≤ K.length ∧ i = .int .i64 k ∧ (∀ j, j < k → fewE n r (zListI K j).toNat = true) ∧ Below w1.heap.size w1 wr) (fun i _ => K.length - (intOf i).toNat)
  case atStart => exact ⟨0, Nat.zero_le _, rfl, by omega, Below.refl _ _⟩
  case round =>
    obtain ⟨k, hk, rfl, hd, hbr⟩ := hrel
    have HD := Lib.hid hd
    have HBR := Lib.hid hbr
    clear hd
    by_cases hlt : k < K.length
    · obtain ⟨m, hm, hzm⟩ := HMM.out k hlt
      obtain ⟨bK, oK, rfl, hbK, hcK⟩ := HI.out.2 (by omega)
      have ck : wr.cell? ⟨bK, oK + k, none⟩ = some (.int .i64 (m : Int)) := by
        rw [hbr.cell (p := ⟨bK, oK + k, none⟩) hbK, ← hzm]; exact hcK k hlt
      have HWR := Lib.hid (HB1.out.trans (hbr.mono HB1.out.size))
      have HE := Lib.hid (edgesWithin_any (HG.out.below HWR.out) hn10 HR.out cap m hm (HT.out.below HWR.out))
      have HCO := Lib.hid (fun w => count_any hn10 m hm w)
      have hFD : fewE n r (zListI K k).toNat = !decide (szS n m < degS n r m n / 2) := by rw [hzm]; rfl
      have hsz := szS_le n m
      have hdg := degS_le10 (r := r) (s := m) hn10 n
      have hdg2 : degS n r m n / 2 ≤ 50 := by omega
      have hm16 : m < 65536 := by omega
      generalize degS n r m n / 2 = E at *
      generalize szS n m = S at *
      clear hbr hcK hzm hdg
      by_cases hc : S < E
      · have hci : (S : Int) < (E : Int) := by omega
        have hdd : decide ((S : Int) < (E : Int)) = true := decide_eq_true hci
        have hdn : decide (S < E) = true := decide_eq_true hc
        rw [decide_eq_true hc] at hFD
        have HFD := Lib.hid hFD
        clear hFD
        go_wp2_with (first
          | (go_at_call 96; refine HE.out.mono ?_; rintro e w2 ⟨rfl, hb2⟩; have HB2 := Lib.hid hb2; clear hb2)
          | (go_at_call 97; refine (HCO.out _).mono ?_; rintro e w3 ⟨rfl, rfl⟩))
        go_ret
        exact ⟨by rw [HX.out, all_no hlt HFD.out]; rfl, HWR.out.trans (HB2.out.mono HWR.out.size)⟩
      · have hci : ¬ (S : Int) < (E : Int) := by omega
        have hdd : decide ((S : Int) < (E : Int)) = false := decide_eq_false hci
        have hdn : decide (S < E) = false := decide_eq_false hc
        rw [decide_eq_false hc] at hFD
        have HFD := Lib.hid hFD
        clear hFD
        go_wp2_with (first
          | (go_at_call 96; refine HE.out.mono ?_; rintro e w2 ⟨rfl, hb2⟩; have HB2 := Lib.hid hb2; clear hb2)
          | (go_at_call 97; refine (HCO.out _).mono ?_; rintro e w3 ⟨rfl, rfl⟩))
        go_roundw
        case rel => exact ⟨k + 1, by omega, by go_num, fun j hj => by rcases Nat.lt_succ_iff_lt_or_eq.1 hj with h | h; exact HD.out j h; rw [h]; exact HFD.out, HBR.out.trans (HB2.out.mono HBR.out.size)⟩
        case measure => simp [intOf]; omega
    · have hke : k = K.length := by omega
      rw [hke] at HD
      clear hke hbr
      go_wp2_with fail
      go_ret
      exact ⟨by rw [HX.out, all_yes HD.out]; rfl, HB1.out.trans (HBR.out.mono HB1.out.size)⟩

set_option maxRecDepth 20000 in
set_option maxHeartbeats 1000000 in
theorem Cactus_yes {n : Nat} {z : Nat → Int} {a : Option Addr} (cap : Nat) {w : World} (hI : IntsAt w a n z) (hz : InI64 z) (hT : Tab w) (hg : graphB n 10 z = true) :
    Calls Tryd.prog 15 #[.slice a n cap] w fun e w' => e = .returned (.tuple #[.bool (cactB n (natG z)), .int .i64 0]) ∧ Below w.heap.size w w' := by
  have HI := Lib.hid hI
  have HZ := Lib.hid hz
  have HT := Lib.hid hT
  have hP := pl_of hg
  clear hI hz hT
  go_enter Tryd.func15, Tryd.ntmps15
  go_wp2_with (first
    | (go_at_call 55; refine (newTown_yes cap HI.out HZ.out HT.out hg).mono ?_; rintro e w1 ⟨rfl, hb1, hG, hT1⟩; have HB1 := Lib.hid hb1; have HG := Lib.hid hG; have HT1 := Lib.hid hT1; clear hb1 hG hT1)
    | (go_at_call 57; refine (isCactus_any HG.out hP cap HT1.out).mono ?_; rintro e w2 ⟨rfl, hb2⟩; have HB2 := Lib.hid (HB1.out.trans (hb2.mono HB1.out.size)); clear hb2))
  go_ret2
  exact ⟨rfl, HB2.out⟩
set_option maxRecDepth 20000 in
set_option maxHeartbeats 1000000 in
theorem Cactus_no {n : Nat} {z : Nat → Int} {a : Option Addr} (cap : Nat) {w : World} (hI : IntsAt w a n z) (hz : InI64 z) (hT : Tab w) (hg : graphB n 10 z = false) :
    Calls Tryd.prog 15 #[.slice a n cap] w fun e w' => e = .returned (.tuple #[.bool false, .int .i64 2]) ∧ Below w.heap.size w w' := by
  have HI := Lib.hid hI
  have HZ := Lib.hid hz
  have HT := Lib.hid hT
  clear hI hz hT
  go_enter Tryd.func15, Tryd.ntmps15
  go_wp2_with (go_at_call 55; refine (newTown_no cap HI.out HZ.out HT.out hg).mono ?_; rintro e w1 ⟨rfl, hb1⟩; have HB1 := Lib.hid hb1; clear hb1)
  go_ret2
  exact ⟨rfl, HB1.out⟩
set_option maxRecDepth 20000 in
set_option maxHeartbeats 1000000 in
theorem Blocks_yes {n : Nat} {z : Nat → Int} {a : Option Addr} (cap : Nat) {w : World} (hI : IntsAt w a n z) (hz : InI64 z) (hT : Tab w) (hg : graphB n 10 z = true) :
    Calls Tryd.prog 13 #[.slice a n cap] w fun e w' => ∃ v, e = .returned (.tuple #[v, .int .i64 0]) ∧ IntsV w' v (blocksI n (natG z)) ∧ Below w.heap.size w w' := by
  have HI := Lib.hid hI
  have HZ := Lib.hid hz
  have HT := Lib.hid hT
  have hP := pl_of hg
  clear hI hz hT
  go_enter Tryd.func13, Tryd.ntmps13
  go_wp2_with (first
    | (go_at_call 55; refine (newTown_yes cap HI.out HZ.out HT.out hg).mono ?_; rintro e w1 ⟨rfl, hb1, hG, hT1⟩; have HB1 := Lib.hid hb1; have HG := Lib.hid hG; have HT1 := Lib.hid hT1; clear hb1 hG hT1)
    | (go_at_call 56; refine (blocks_any HG.out hP.le hP.bd cap HT1.out).mono ?_; rintro e w2 ⟨v, rfl, hO, hb2⟩; have HO := Lib.hid hO; have HB2 := Lib.hid (HB1.out.trans (hb2.mono HB1.out.size)); clear hb2 hO))
  go_ret2
  exact ⟨v, rfl, HO.out, HB2.out⟩
set_option maxRecDepth 20000 in
set_option maxHeartbeats 1000000 in
theorem Blocks_no {n : Nat} {z : Nat → Int} {a : Option Addr} (cap : Nat) {w : World} (hI : IntsAt w a n z) (hz : InI64 z) (hT : Tab w) (hg : graphB n 10 z = false) :
    Calls Tryd.prog 13 #[.slice a n cap] w fun e w' => e = .returned (.tuple #[.slice none 0 0, .int .i64 2]) ∧ Below w.heap.size w w' := by
  have HI := Lib.hid hI
  have HZ := Lib.hid hz
  have HT := Lib.hid hT
  clear hI hz hT
  go_enter Tryd.func13, Tryd.ntmps13
  go_wp2_with (go_at_call 55; refine (newTown_no cap HI.out HZ.out HT.out hg).mono ?_; rintro e w1 ⟨rfl, hb1⟩; have HB1 := Lib.hid hb1; clear hb1)
  go_ret2
  exact ⟨rfl, HB1.out⟩

end Go.Proofs.YtcpdedgmhpehiaaDoor
