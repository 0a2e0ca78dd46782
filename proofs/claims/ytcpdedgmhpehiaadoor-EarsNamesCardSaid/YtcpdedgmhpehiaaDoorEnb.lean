/- The walk of the law EarsNames. -/
import Derived.Test.YtcpdedgmhpehiaaDoorEna
namespace Go.Proofs.YtcpdedgmhpehiaaDoor
set_option linter.unusedSimpArgs false
set_option linter.unusedVariables false
open Go.RowKit Go.Maps
attribute [local go_sem] i64_bit toNat_eq_one toNat_ne_one toNat_eq_zero toNat_ne_zero i64_and i64_or i64_andNot i64_or_pow i64_andNot_pow

set_option maxRecDepth 20000 in
set_option maxHeartbeats 1000000 in
theorem Pairs_yes' {n : Nat} {z : Nat → Int} {a : Option Addr} (cap : Nat) {w : World} (hI : IntsAt w a n z) (hz : InI64 z) (hT : Tab w) (hg : graphB n 10 z = true) :
    Calls Tryd.prog 47 #[.slice a n cap] w fun e w' => ∃ v, e = .returned (.tuple #[v, .int .i64 0]) ∧ PairsAt w' v (pairsG n (natG z)) ∧ Below w.heap.size w w' := by
  have HI := Lib.hid hI
  have HZ := Lib.hid hz
  have HT := Lib.hid hT
  have hP := pl_of hg
  clear hI hz hT
  go_enter Tryd.func47, Tryd.ntmps47
  go_wp2_with (first
    | (go_at_call 55; refine (newTown_yes cap HI.out HZ.out HT.out hg).mono ?_; rintro e w1 ⟨rfl, hb1, hG, hT1⟩; have HB1 := Lib.hid hb1; have HG := Lib.hid hG; have HT1 := Lib.hid hT1; clear hb1 hG hT1)
    | (go_at_call 84; refine (pairs_any HG.out hP cap HT1.out).mono ?_; rintro e w2 ⟨v, rfl, hO, hb2⟩; have HO := Lib.hid hO; have HB2 := Lib.hid (HB1.out.trans (hb2.mono HB1.out.size)); clear hb2 hO))
  go_ret2
  exact ⟨v, rfl, HO.out, HB2.out⟩

theorem idx_any (kI : Int) {l : Nat} (h0 : 0 < l) (h1 : l ≤ 65536) : ∃ i : Nat, i < l ∧ wrap64 ((IntKind.u64.wrap kI).tmod (l : Int)) = (i : Int) := by
  have hU : 0 ≤ IntKind.u64.wrap kI := by rw [IntKind.wrap_u64]; omega
  generalize IntKind.u64.wrap kI = U at *
  rw [Int.tmod_eq_emod_of_nonneg hU]
  have a := Int.emod_nonneg U (show (l : Int) ≠ 0 by omega)
  have b := Int.emod_lt_of_pos U (show (0 : Int) < l by omega)
  generalize U % (l : Int) = r at *
  exact ⟨r.toNat, by omega, by rw [IntWalk.wrap64_in _ (by omega)]; omega⟩
def bridgesN (n : Nat) (r : Nat → Nat) : List (Nat × Nat) := (edgesTo r n).filter (brB n r)
/-- The turned graph as whole numbers. -/
def zT (n b : Nat) (r : Nat → Nat) (i : Nat) : Int := ((turnG n b r i : Nat) : Int)
theorem nat_zT (n b : Nat) (r : Nat → Nat) : natG (zT n b r) = turnG n b r := by funext i; exact Int.toNat_natCast _
theorem zT_in {n b : Nat} {r : Nat → Nat} (hn : n ≤ 10) : InI64 (zT n b r) := fun i => by
  have h1 : turnG n b r i < 2 ^ n := turnS_lt
  have h2 := pow_le10 hn
  unfold zT
  omega
theorem row_arg {n b g : Nat} {r : Nat → Nat} {w : World} (hb : b < n) (hn : n ≤ 10) (h : Row w g 3 (hT n b r n)) : SliceArg w (.slice (some ⟨g, 0, none⟩) n n) n (zT n b r) :=
  .inr ⟨⟨g, 0, none⟩, n, rfl, Nat.le_refl _, by unfold maxLen; omega, fun _ => ⟨g, 0, rfl, h.lt, fun i hi => by rw [Nat.zero_add]; exact h.cell (hT_all hb hi)⟩⟩

set_option maxRecDepth 200000 in
set_option maxHeartbeats 4000000 in
theorem EarsNames_walk (n : Nat) (z : Nat → Int) (v : Value) (kI : Int) (w : World) (hA : SliceArg w v n z) (hz : InI64 z) (hTab : HasTab w) :
    Calls Tryd.prog 11 #[v, .int .i64 kI] w (LawTrue w) := by
  obtain ⟨a, cap, rfl, hI⟩ := hA.ints
  have HA := Lib.hid hA
  have HI := Lib.hid hI
  have HZ := Lib.hid hz
  have HT := Lib.hid (Tab.of hTab)
  have hml := hI.1
  unfold maxLen at hml
  obtain ⟨wa, hwa, Ra, hba, hsa⟩ := new1 w 3 [.int .i64 kI]
  have HBA := Lib.hid hba
  have HRA := Lib.hid Ra
  clear hba Ra hA hz hTab
  cases hg : graphB n 10 z
  · have HG0 := Lib.hid hg
    clear hg hI
    go_enter Tryd.func11, Tryd.ntmps11
    go_wp2_with fail
    rw [← hwa]
    clear hwa
    go_at_call 16
    refine (ValidR_any n z _ _ _ (HI.out.below HBA.out) HZ.out).mono ?_
    rintro e w1 ⟨rfl, hb1⟩
    rw [HG0.out]
    have HB1 := Lib.hid (HBA.out.trans (hb1.mono HBA.out.size))
    clear hb1
    go_wp2_with fail
    go_at_call 17
    refine (awake_any _ (HT.out.below HB1.out)).mono ?_
    rintro e w2 ⟨rfl, hb2⟩
    have HB2 := Lib.hid (HB1.out.trans (hb2.mono HB1.out.size))
    clear hb2
    go_wp2_with fail
    go_ret
    exact ⟨rfl, HB2.out⟩
  · have hP := pl_of hg
    have HPL := Lib.hid hP
    have HG0 := Lib.hid hg
    have hn10 := hP.le
    have hn1 := hP.one
    have h10 := pow_le10 hn10
    have HM : Hid (min n 14 = n) := Lib.hid (by omega)
    obtain ⟨bb, hbb, hR⟩ := idx_any kI (show 0 < n by omega) (by omega)
    have HBBN := Lib.hid hbb
    obtain ⟨gb, off, rfl, hgb0, hgc0⟩ := hI.2 (by omega)
    have HGC : Hid (∀ wx, Below w.heap.size w wx → ∀ i, i < n → wx.cell? ⟨gb, off + i, none⟩ = some (.int .i64 (natG z i : Nat))) := Lib.hid fun wx hx i hi => by
      rw [hx.cell (p := ⟨gb, off + i, none⟩) hgb0, hgc0 i hi]
      have := ((graphB_le HG0.out).2.2 i hi).1
      show some (Value.int IntKind.i64 (z i)) = some (Value.int IntKind.i64 ((z i).toNat : Int))
      rw [Int.toNat_of_nonneg this]
    have HGT : Hid (graphB n 10 (zT n bb (natG z)) = true) := Lib.hid (graph_pl (turnR_pl hbb hP))
    have hmf : ∀ (fn : Fn) (first cap : Array Value) (w : World), (Instr.makeFunc fn first cap).run Tryd.prog w = .ok (.func fn first cap) w := fun _ _ _ _ => rfl
    have hmk : ∀ w : World, (Instr.makeSlice 23 (.int .i64 (n : Int)) (.int .i64 (n : Int))).run Tryd.prog w = .ok (.slice (some ⟨w.heap.size, 0, none⟩) n n) (w.alloc (.cells (hT n bb (natG z) 0).toArray 3)) := by
      have h := run_make_row' (P := Tryd.prog) 23 3 (.int .i64 0) 8 Tryd.underlying23 info_int rfl .i64 .i64 n (by omega) (by omega)
      rw [hT_zero]; exact h
    have hn0 : ((n : Int) == 0) = false := beq_eq_false_iff_ne.2 (by omega)
    clear hg hI hgc0 hgb0 hP
    go_enter Tryd.func11, Tryd.ntmps11
    go_wp2_with fail
    rw [← hwa]
    clear hwa
    go_at_call 16
    refine (ValidR_any n z _ _ _ (HI.out.below HBA.out) HZ.out).mono ?_
    rintro e w1 ⟨rfl, hb1⟩
    rw [HG0.out]
    have HRA1 := Lib.hid (HRA.out.below hb1 (by omega))
    have hs1 := hb1.size
    have HB1 := Lib.hid (HBA.out.trans (hb1.mono HBA.out.size))
    have hlt1 := HRA1.out.lt
    have c1 : (w1.alloc (Obj.cells #[Value.int .i64 n] 3)).cell? ⟨w.heap.size, 0, none⟩ = some (.int .i64 kI) := (HRA1.out.alloc _).cell (i := 0) rfl
    have f1 : (w1.alloc (Obj.cells #[Value.int .i64 n] 3)).frozen? ⟨w.heap.size, 0, none⟩ = false := (HRA1.out.alloc _).free 0
    clear hb1 HRA
    have HGL := Lib.hid (rot_lt (n := n) (b := bb) (x := 0) (by omega))
    have HR1 := Lib.hid (HRA1.out.set 0 (.int .i64 (bb : Int)))
    obtain ⟨w2, hw2⟩ : ∃ x, x = w1.setCell ⟨w.heap.size, 0, none⟩ (.int .i64 (bb : Int)) := ⟨_, rfl⟩
    have hsz2 : w2.heap.size = w1.heap.size := by rw [hw2]; simp
    have HR2 : Hid (Row w2 w.heap.size 3 [.int .i64 (bb : Int)]) := Lib.hid (by rw [hw2]; exact HR1.out)
    have HB2 : Hid (Below w.heap.size w w2) := Lib.hid (by rw [hw2]; exact HB1.out.setCell (Nat.le_refl _) _)
    obtain ⟨w3, hw3, RN, RH, hb3, hs3⟩ := new2 w2 3 3 [.int .i64 (n : Int)] (hT n bb (natG z) 0)
    rw [hsz2] at RN RH hb3 hs3
    have HRN := Lib.hid RN
    have HRH := Lib.hid RH
    have HR3 := Lib.hid (HR2.out.below hb3 hlt1)
    have HB3 := Lib.hid (HB2.out.trans (hb3.mono (by omega)))
    clear RN RH hb3
    go_wp2_with fail
    rw [← hw2, ← hw3]
    clear hw2 hw3 hR hmk hmf c1 f1 HR1 HR2 HB2 HRA1 hsz2
    generalize w1.heap.size = gn at *
    clear HB1
    go_loopw [50] (fun x wr => ∃ i : Nat, i ≤ n ∧ x = .int .i64 i ∧ Row wr w.heap.size 3 [.int .i64 (bb : Int)] ∧ Row wr gn 3 [.int .i64 (n : Int)] ∧ Row wr (gn + 1) 3 (hT n bb (natG z) i) ∧ Below w.heap.size w wr) (fun x _ => n - (intOf x).toNat)
    case atStart => exact ⟨0, Nat.zero_le _, rfl, HR3.out, HRN.out, HRH.out, HB3.out⟩
    case round =>
      clear HR3 HRN HRH HB3
      obtain ⟨i, hi, rfl, hr1, hrn, hrh, hbr⟩ := hrel
      have cg := fun h => HGC.out wr hbr i h
      have HRB := Lib.hid hr1
      have HRN := Lib.hid hrn
      have HRH := Lib.hid hrh
      have HB := Lib.hid hbr
      have hbz := hbr.size
      have hln := hrh.lt
      clear hrh hbr
      by_cases hlt : i < n
      · have ci := cg hlt
        have hri : natG z i < 2 ^ n := HPL.out.bd i hlt
        have hrot := rot_val hn10 HBBN.out hlt
        have hrl := rot_lt (n := n) (b := bb) (x := i) (by omega)
        have hwr : IntKind.i64.wrap ((i : Int) + bb) = i + bb := IntWalk.i64_in _ (by omega)
        have hwr2 : wrap64 ((i : Int) + bb) = i + bb := IntWalk.wrap64_in _ ⟨by omega, by omega⟩
        have hnz : ¬ n = 0 := by omega
        obtain ⟨X, hX⟩ := hT_at (n := n) (b := bb) (r := natG z) (i := i) hrl
        have HHS := Lib.hid (hT_set (r := natG z) HBBN.out hlt)
        have cb := hr1.cell (i := 0) rfl
        have cn := hrn.cell (i := 0) rfl
        have HHX := Lib.hid hX
        have HTU : Hid (∀ wx, Below wr.heap.size wr wx → Calls Tryd.prog 45 #[.int .i64 (natG z i : Nat), .pointer (some ⟨w.heap.size, 0, none⟩), .pointer (some ⟨gn, 0, none⟩)] wx fun e w' => e = .returned (.int .i64 (turnS n bb (natG z i) : Nat)) ∧ Below wx.heap.size wx w') := Lib.hid fun wx hx =>
          turn_any hn10 HBBN.out hri wx (Nat.lt_of_lt_of_le (by omega) hx.size) (Nat.lt_of_lt_of_le (by omega) hx.size) ((HRB.out.below hx (by omega)).cell (i := 0) rfl) ((HRN.out.below hx (by omega)).cell (i := 0) rfl)
        generalize turnS n bb (natG z i) = V at *
        generalize natG z i = ri at *
        generalize rot n bb i = Z at *
        clear cg hr1 hrn hX hri
        go_wp2_with fail
        go_region_law (go_simp; go_at_call 45; refine (HTU.out _ (by first | exact Below.refl _ _ | exact below_drewN (Below.refl _ _) 1)).mono ?_; rintro e w5 ⟨rfl, hb5⟩; have HB5 := Lib.hid (show Below wr.heap.size wr w5 from (by first | exact hb5 | exact (below_drewN (Below.refl _ _) 1).trans hb5)); have HRH5 := Lib.hid (HRH.out.below HB5.out hln); have k5 := HRH5.out.cell HHX.out; have f5 := HRH5.out.free Z; have hl5 : w.heap.size < w5.heap.size := (HRB.out.below HB5.out (by omega)).lt; have cb5 := (HRB.out.below HB5.out (by omega)).cell (i := 0) rfl; have cn5 := (HRN.out.below HB5.out (by omega)).cell (i := 0) rfl; clear hb5)
        -- GEN
        all_goals go_wp2_with fail
        all_goals go_roundw
        all_goals first
          | exact ⟨i + 1, by omega, by go_num, (HRB.out.below HB5.out (by omega)).other (by simp; omega) _, (HRN.out.below HB5.out (by omega)).other (by simp) _, by rw [← HHS.out]; exact HRH5.out.set _ _, (HB.out.trans (HB5.out.mono hbz)).setCell (by simp; omega) _⟩
          | (simp [intOf]; omega)
      · have hie : i = n := by omega
        rw [hie] at HRH
        clear cg hie hr1 hrn
        obtain ⟨wo, rfl⟩ : ∃ x, x = wr := ⟨_, rfl⟩
        have HAF : Hid (∀ wx, Below wo.heap.size wo wx → SliceArg wx (.slice (some ⟨gb, off, none⟩) n cap) n z) := Lib.hid fun wx hx => HA.out.below (HB.out.trans (hx.mono hbz))
        have HTF : Hid (∀ wx, Below wo.heap.size wo wx → Tab wx) := Lib.hid fun wx hx => HT.out.below (HB.out.trans (hx.mono hbz))
        have HHF : Hid (∀ wx, Below wo.heap.size wo wx → SliceArg wx (.slice (some ⟨gn + 1, 0, none⟩) n n) n (zT n bb (natG z))) := Lib.hid fun wx hx => (row_arg HBBN.out hn10 HRH.out).below hx
        have HRF : Hid (∀ wx, Below wo.heap.size wo wx → w.heap.size < wx.heap.size ∧ gn < wx.heap.size ∧ wx.cell? ⟨w.heap.size, 0, none⟩ = some (.int .i64 (bb : Int)) ∧ wx.cell? ⟨gn, 0, none⟩ = some (.int .i64 (n : Int))) := Lib.hid fun wx hx => ⟨(HRB.out.below hx (by omega)).lt, (HRN.out.below hx (by omega)).lt, (HRB.out.below hx (by omega)).cell (i := 0) rfl, (HRN.out.below hx (by omega)).cell (i := 0) rfl⟩
        have HZT := Lib.hid (zT_in (n := n) (b := bb) (r := natG z) hn10)
        have hnat := nat_zT n bb (natG z)
        have hlp := fun (p : Nat × Nat) (h : p ∈ bridgesN n (natG z)) => (mem_bridges HPL.out (a := p.1) (b := p.2)).1 h
        have HBR : Hid (∀ (a : Option Addr) (cap : Nat) (w : World), IntsAt w a n z → Tab w → Calls Tryd.prog 43 #[.slice a n cap] w fun e w' => ∃ v, e = .returned (.tuple #[v, .int .i64 0]) ∧ PairsAt w' v (bridgesN n (natG z)) ∧ Below w.heap.size w w') := Lib.hid fun a cap w h1 h2 => (Bridges_yes cap h1 HZ.out h2 HG0.out).mono fun e w' ⟨v, h3, h4, h5⟩ => ⟨v, h3, h4.at_, h5⟩
        have HBRT : Hid (∀ (a : Option Addr) (cap : Nat) (w : World), IntsAt w a n (zT n bb (natG z)) → Tab w → Calls Tryd.prog 43 #[.slice a n cap] w fun e w' => ∃ v, e = .returned (.tuple #[v, .int .i64 0]) ∧ PairsAt w' v (bridgesN n (turnG n bb (natG z))) ∧ Below w.heap.size w w') := Lib.hid fun a cap w h1 h2 => (Bridges_yes cap h1 HZT.out h2 HGT.out).mono fun e w' ⟨v, h3, h4, h5⟩ => ⟨v, h3, by have h6 := h4.at_; unfold bridgesG at h6; rw [hnat] at h6; exact h6, h5⟩
        have HBL : Hid (∀ (a : Option Addr) (cap : Nat) (w : World), IntsAt w a n z → Tab w → Calls Tryd.prog 13 #[.slice a n cap] w fun e w' => ∃ v, e = .returned (.tuple #[v, .int .i64 0]) ∧ IntsV w' v (blocksI n (natG z)) ∧ Below w.heap.size w w') := Lib.hid fun a cap w h1 h2 => (Blocks_yes cap h1 HZ.out h2 HG0.out).mono fun e w' ⟨v, h3, h4, h5⟩ => ⟨v, h3, h4, h5⟩
        have HBLT : Hid (∀ (a : Option Addr) (cap : Nat) (w : World), IntsAt w a n (zT n bb (natG z)) → Tab w → Calls Tryd.prog 13 #[.slice a n cap] w fun e w' => ∃ v, e = .returned (.tuple #[v, .int .i64 0]) ∧ IntsV w' v (blocksI n (turnG n bb (natG z))) ∧ Below w.heap.size w w') := Lib.hid fun a cap w h1 h2 => (Blocks_yes cap h1 HZT.out h2 HGT.out).mono fun e w' ⟨v, h3, h4, h5⟩ => ⟨v, h3, by rw [← hnat]; exact h4, h5⟩
        have HPR : Hid (∀ (a : Option Addr) (cap : Nat) (w : World), IntsAt w a n z → Tab w → Calls Tryd.prog 47 #[.slice a n cap] w fun e w' => ∃ v, e = .returned (.tuple #[v, .int .i64 0]) ∧ PairsAt w' v (pairsG n (natG z)) ∧ Below w.heap.size w w') := Lib.hid fun a cap w h1 h2 => (Pairs_yes' cap h1 HZ.out h2 HG0.out).mono fun e w' ⟨v, h3, h4, h5⟩ => ⟨v, h3, h4, h5⟩
        have HPRT : Hid (∀ (a : Option Addr) (cap : Nat) (w : World), IntsAt w a n (zT n bb (natG z)) → Tab w → Calls Tryd.prog 47 #[.slice a n cap] w fun e w' => ∃ v, e = .returned (.tuple #[v, .int .i64 0]) ∧ PairsAt w' v (pairsG n (turnG n bb (natG z))) ∧ Below w.heap.size w w') := Lib.hid fun a cap w h1 h2 => (Pairs_yes' cap h1 HZT.out h2 HGT.out).mono fun e w' ⟨v, h3, h4, h5⟩ => ⟨v, h3, by rw [← hnat]; exact h4, h5⟩
        have HCU : Hid (∀ (a : Option Addr) (cap : Nat) (w : World), IntsAt w a n z → Tab w → Calls Tryd.prog 39 #[.slice a n cap] w fun e w' => e = .returned (.tuple #[.int .i64 (cutsTo n (natG z) n : Nat), .int .i64 0]) ∧ Below w.heap.size w w') := Lib.hid fun a cap w h1 h2 => by have h := Cuts_yes cap h1 HZ.out h2 HG0.out; exact h
        have HCUT : Hid (∀ (a : Option Addr) (cap : Nat) (w : World), IntsAt w a n (zT n bb (natG z)) → Tab w → Calls Tryd.prog 39 #[.slice a n cap] w fun e w' => e = .returned (.tuple #[.int .i64 (cutsTo n (turnG n bb (natG z)) n : Nat), .int .i64 0]) ∧ Below w.heap.size w w') := Lib.hid fun a cap w h1 h2 => by have h := Cuts_yes cap h1 HZT.out h2 HGT.out; unfold cutsG at h; rw [hnat] at h; exact h
        have HNM := Lib.hid (named_turn HBBN.out HPL.out)
        have HPT := Lib.hid (turnR_pl HBBN.out HPL.out)
        have hctu := cuts_turn HBBN.out HPL.out
        have hcl : cutsTo n (natG z) n < 2 ^ n := cutsTo_lt n (Nat.le_refl _)
        have HTC : Hid (∀ wx, Below wo.heap.size wo wx → Calls Tryd.prog 45 #[.int .i64 (cutsTo n (natG z) n : Nat), .pointer (some ⟨w.heap.size, 0, none⟩), .pointer (some ⟨gn, 0, none⟩)] wx fun e w' => e = .returned (.int .i64 (cutsTo n (turnG n bb (natG z)) n : Nat)) ∧ Below wx.heap.size wx w') := Lib.hid fun wx hx => by rw [← hctu]; obtain ⟨h1, h2, h3, h4⟩ := HRF.out wx hx; exact turn_any hn10 HBBN.out hcl wx h1 h2 h3 h4
        have HLB : Hid (∀ p, p ∈ bridgesN n (natG z) → p.1 < n ∧ p.2 < n ∧ ordP (rot n bb) p ∈ bridgesN n (turnG n bb (natG z))) := Lib.hid fun p hp => ⟨by have := hlp p hp; omega, (hlp p hp).2.1, br_named HNM.out HPL.out HPT.out hp⟩
        have HLP : Hid (∀ p, p ∈ pairsG n (natG z) → p.1 < n ∧ p.2 < n ∧ ordP (rot n bb) p ∈ pairsG n (turnG n bb (natG z))) := Lib.hid fun p hp => ⟨by have := mem_pairsG.1 hp; omega, (mem_pairsG.1 hp).2.2.1, pr_named HNM.out HPL.out HPT.out hp⟩
        have HLK : Hid (∀ j, j < (blocksI n (natG z)).length → ∃ m : Nat, m < 2 ^ n ∧ zListI (blocksI n (natG z)) j = (m : Int) ∧ ((turnS n bb m : Nat) : Int) ∈ blocksI n (turnG n bb (natG z))) := Lib.hid fun j hj => by
          obtain ⟨m, h1, h2⟩ := blocksI_mem (List.getElem_mem hj)
          exact ⟨m, blkL_lt h1, by rw [zListI_at hj]; exact h2, blocksI_has (bl_named HBBN.out HPL.out h1)⟩
        have HEB : Hid ((bridgesN n (natG z)).length = (bridgesN n (turnG n bb (natG z))).length) := Lib.hid (br_len HNM.out HPL.out HPT.out)
        have HEP : Hid ((pairsG n (natG z)).length = (pairsG n (turnG n bb (natG z))).length) := Lib.hid (pr_len HNM.out HPL.out HPT.out)
        have HEK : Hid ((blocksI n (natG z)).length = (blocksI n (turnG n bb (natG z))).length) := Lib.hid (bl_len HBBN.out HPL.out)
        have hb65 : (bridgesN n (natG z)).length ≤ 200 := by
          have h1 := List.length_filter_le (brB n (natG z)) (edgesTo (natG z) n)
          have h2 := edgesTo_len (natG z) n
          unfold bridgesN; omega
        have hp65 : (pairsG n (natG z)).length ≤ 200 := by
          have h2 := refL_len n (natG z) hn10 n
          unfold pairsG
          cases conB n (natG z) (2 ^ n - 1)
          · simp
          · rw [cond_true]; omega
        have hk65 := blocksI_len (n := n) (r := natG z) hn10
        have HB0 := Lib.hid (Below.refl wo.heap.size wo)
        have hcc16 : cutsTo n (turnG n bb (natG z)) n < 65536 := by have := cutsTo_lt (n := n) (r := turnG n bb (natG z)) n (Nat.le_refl _); omega
        clear hnat hlp hctu hcl HI HGC HRB HRN HRH HGT HZT
        try clear hrh
        generalize bridgesN n (natG z) = LB at *
        generalize bridgesN n (turnG n bb (natG z)) = LBT at *
        generalize pairsG n (natG z) = LP at *
        generalize pairsG n (turnG n bb (natG z)) = LPT at *
        generalize blocksI n (natG z) = LK at *
        generalize blocksI n (turnG n bb (natG z)) = LKT at *
        generalize cutsTo n (natG z) n = cc at *
        generalize cutsTo n (turnG n bb (natG z)) n = ct at *
        go_wp2_with fail
        go_at_call 14
        refine (Few_any n z _ _ (HAF.out _ HB0.out)).mono ?_
        rintro e w1 ⟨a1, c1, rfl, hi1, hb1⟩
        rw [HM.out] at hi1
        rw [HM.out]
        have HB1 := Lib.hid (HB0.out.trans (hb1.mono HB0.out.size))
        clear hb1
        have HI1 := Lib.hid hi1
        clear hi1
        go_wp2_with fail
        go_at_call 43
        refine (HBR.out _ _ _ HI1.out (HTF.out _ HB1.out)).mono ?_
        rintro e w2 ⟨v2, rfl, hp2, hb2⟩
        obtain ⟨auBR, cuBR, rfl, hq2⟩ := hp2
        have PuBR := Lib.hid (show PairsAt w2 (.slice auBR LB.length cuBR) LB from ⟨_, _, rfl, hq2⟩)
        clear hq2
        have HB2 := Lib.hid (HB1.out.trans (hb2.mono HB1.out.size))
        clear hb2
        go_wp2_with fail
        go_at_call 46
        refine (Clone_any n (zT n bb (natG z)) _ _ (by omega) (HHF.out _ HB2.out)).mono ?_
        rintro e w3 ⟨a3, c3, rfl, hi3, hb3⟩
        have PuBR_3 := Lib.hid (PuBR.out.below hb3)
        have HB3 := Lib.hid (HB2.out.trans (hb3.mono HB2.out.size))
        clear hb3
        have HI3 := Lib.hid hi3
        clear hi3
        go_wp2_with fail
        go_at_call 43
        refine (HBRT.out _ _ _ HI3.out (HTF.out _ HB3.out)).mono ?_
        rintro e w4 ⟨v4, rfl, hp4, hb4⟩
        have PuBR_4 := Lib.hid (PuBR_3.out.below hb4)
        obtain ⟨auBRT, cuBRT, rfl, hq4⟩ := hp4
        have PuBRT := Lib.hid (show PairsAt w4 (.slice auBRT LBT.length cuBRT) LBT from ⟨_, _, rfl, hq4⟩)
        clear hq4
        have HB4 := Lib.hid (HB3.out.trans (hb4.mono HB3.out.size))
        clear hb4
        go_wp2_with fail
        go_at_call 14
        refine (Few_any n z _ _ (HAF.out _ HB4.out)).mono ?_
        rintro e w5 ⟨a5, c5, rfl, hi5, hb5⟩
        have PuBR_5 := Lib.hid (PuBR_4.out.below hb5)
        have PuBRT_5 := Lib.hid (PuBRT.out.below hb5)
        rw [HM.out] at hi5
        rw [HM.out]
        have HB5 := Lib.hid (HB4.out.trans (hb5.mono HB4.out.size))
        clear hb5
        have HI5 := Lib.hid hi5
        clear hi5
        go_wp2_with fail
        go_at_call 39
        refine (HCU.out _ _ _ HI5.out (HTF.out _ HB5.out)).mono ?_
        rintro e w6 ⟨rfl, hb6⟩
        have PuBR_6 := Lib.hid (PuBR_5.out.below hb6)
        have PuBRT_6 := Lib.hid (PuBRT_5.out.below hb6)
        have HB6 := Lib.hid (HB5.out.trans (hb6.mono HB5.out.size))
        clear hb6
        go_wp2_with fail
        go_at_call 46
        refine (Clone_any n (zT n bb (natG z)) _ _ (by omega) (HHF.out _ HB6.out)).mono ?_
        rintro e w7 ⟨a7, c7, rfl, hi7, hb7⟩
        have PuBR_7 := Lib.hid (PuBR_6.out.below hb7)
        have PuBRT_7 := Lib.hid (PuBRT_6.out.below hb7)
        have HB7 := Lib.hid (HB6.out.trans (hb7.mono HB6.out.size))
        clear hb7
        have HI7 := Lib.hid hi7
        clear hi7
        go_wp2_with fail
        go_at_call 39
        refine (HCUT.out _ _ _ HI7.out (HTF.out _ HB7.out)).mono ?_
        rintro e w8 ⟨rfl, hb8⟩
        have PuBR_8 := Lib.hid (PuBR_7.out.below hb8)
        have PuBRT_8 := Lib.hid (PuBRT_7.out.below hb8)
        have HB8 := Lib.hid (HB7.out.trans (hb8.mono HB7.out.size))
        clear hb8
        go_wp2_with fail
        go_at_call 14
        refine (Few_any n z _ _ (HAF.out _ HB8.out)).mono ?_
        rintro e w9 ⟨a9, c9, rfl, hi9, hb9⟩
        have PuBR_9 := Lib.hid (PuBR_8.out.below hb9)
        have PuBRT_9 := Lib.hid (PuBRT_8.out.below hb9)
        rw [HM.out] at hi9
        rw [HM.out]
        have HB9 := Lib.hid (HB8.out.trans (hb9.mono HB8.out.size))
        clear hb9
        have HI9 := Lib.hid hi9
        clear hi9
        go_wp2_with fail
        go_at_call 13
        refine (HBL.out _ _ _ HI9.out (HTF.out _ HB9.out)).mono ?_
        rintro e w10 ⟨v10, rfl, hp10, hb10⟩
        have PuBR_10 := Lib.hid (PuBR_9.out.below hb10)
        have PuBRT_10 := Lib.hid (PuBRT_9.out.below hb10)
        obtain ⟨auBL, cuBL, rfl, hq10, -⟩ := hp10
        have PuBL := Lib.hid hq10
        clear hq10
        have HB10 := Lib.hid (HB9.out.trans (hb10.mono HB9.out.size))
        clear hb10
        go_wp2_with fail
        go_at_call 46
        refine (Clone_any n (zT n bb (natG z)) _ _ (by omega) (HHF.out _ HB10.out)).mono ?_
        rintro e w11 ⟨a11, c11, rfl, hi11, hb11⟩
        have PuBR_11 := Lib.hid (PuBR_10.out.below hb11)
        have PuBRT_11 := Lib.hid (PuBRT_10.out.below hb11)
        have PuBL_11 := Lib.hid (PuBL.out.below hb11)
        have HB11 := Lib.hid (HB10.out.trans (hb11.mono HB10.out.size))
        clear hb11
        have HI11 := Lib.hid hi11
        clear hi11
        go_wp2_with fail
        go_at_call 13
        refine (HBLT.out _ _ _ HI11.out (HTF.out _ HB11.out)).mono ?_
        rintro e w12 ⟨v12, rfl, hp12, hb12⟩
        have PuBR_12 := Lib.hid (PuBR_11.out.below hb12)
        have PuBRT_12 := Lib.hid (PuBRT_11.out.below hb12)
        have PuBL_12 := Lib.hid (PuBL_11.out.below hb12)
        obtain ⟨auBLT, cuBLT, rfl, hq12, -⟩ := hp12
        have PuBLT := Lib.hid hq12
        clear hq12
        have HB12 := Lib.hid (HB11.out.trans (hb12.mono HB11.out.size))
        clear hb12
        go_wp2_with fail
        go_at_call 14
        refine (Few_any n z _ _ (HAF.out _ HB12.out)).mono ?_
        rintro e w13 ⟨a13, c13, rfl, hi13, hb13⟩
        have PuBR_13 := Lib.hid (PuBR_12.out.below hb13)
        have PuBRT_13 := Lib.hid (PuBRT_12.out.below hb13)
        have PuBL_13 := Lib.hid (PuBL_12.out.below hb13)
        have PuBLT_13 := Lib.hid (PuBLT.out.below hb13)
        rw [HM.out] at hi13
        rw [HM.out]
        have HB13 := Lib.hid (HB12.out.trans (hb13.mono HB12.out.size))
        clear hb13
        have HI13 := Lib.hid hi13
        clear hi13
        go_wp2_with fail
        go_at_call 47
        refine (HPR.out _ _ _ HI13.out (HTF.out _ HB13.out)).mono ?_
        rintro e w14 ⟨v14, rfl, hp14, hb14⟩
        have PuBR_14 := Lib.hid (PuBR_13.out.below hb14)
        have PuBRT_14 := Lib.hid (PuBRT_13.out.below hb14)
        have PuBL_14 := Lib.hid (PuBL_13.out.below hb14)
        have PuBLT_14 := Lib.hid (PuBLT_13.out.below hb14)
        obtain ⟨auPR, cuPR, rfl, hq14⟩ := hp14
        have PuPR := Lib.hid (show PairsAt w14 (.slice auPR LP.length cuPR) LP from ⟨_, _, rfl, hq14⟩)
        clear hq14
        have HB14 := Lib.hid (HB13.out.trans (hb14.mono HB13.out.size))
        clear hb14
        go_wp2_with fail
        go_at_call 46
        refine (Clone_any n (zT n bb (natG z)) _ _ (by omega) (HHF.out _ HB14.out)).mono ?_
        rintro e w15 ⟨a15, c15, rfl, hi15, hb15⟩
        have PuBR_15 := Lib.hid (PuBR_14.out.below hb15)
        have PuBRT_15 := Lib.hid (PuBRT_14.out.below hb15)
        have PuBL_15 := Lib.hid (PuBL_14.out.below hb15)
        have PuBLT_15 := Lib.hid (PuBLT_14.out.below hb15)
        have PuPR_15 := Lib.hid (PuPR.out.below hb15)
        have HB15 := Lib.hid (HB14.out.trans (hb15.mono HB14.out.size))
        clear hb15
        have HI15 := Lib.hid hi15
        clear hi15
        go_wp2_with fail
        go_at_call 47
        refine (HPRT.out _ _ _ HI15.out (HTF.out _ HB15.out)).mono ?_
        rintro e w16 ⟨v16, rfl, hp16, hb16⟩
        have PuBR_16 := Lib.hid (PuBR_15.out.below hb16)
        have PuBRT_16 := Lib.hid (PuBRT_15.out.below hb16)
        have PuBL_16 := Lib.hid (PuBL_15.out.below hb16)
        have PuBLT_16 := Lib.hid (PuBLT_15.out.below hb16)
        have PuPR_16 := Lib.hid (PuPR_15.out.below hb16)
        obtain ⟨auPRT, cuPRT, rfl, hq16⟩ := hp16
        have PuPRT := Lib.hid (show PairsAt w16 (.slice auPRT LPT.length cuPRT) LPT from ⟨_, _, rfl, hq16⟩)
        clear hq16
        have HB16 := Lib.hid (HB15.out.trans (hb16.mono HB15.out.size))
        clear hb16
        have e1 : ((ct : Int) != (ct : Int)) = false := by simp
        have e2 : ((LB.length : Int) != (LBT.length : Int)) = false := by rw [HEB.out]; simp
        have e3 : ((LK.length : Int) != (LKT.length : Int)) = false := by rw [HEK.out]; simp
        have e4 : ((LP.length : Int) != (LPT.length : Int)) = false := by rw [HEP.out]; simp
        have hb65t : LBT.length ≤ 65536 := by rw [← HEB.out]; omega
        have hp65t : LPT.length ≤ 65536 := by rw [← HEP.out]; omega
        have hmf : ∀ (fn : Fn) (first cap : Array Value) (w : World), (Instr.makeFunc fn first cap).run Tryd.prog w = .ok (.func fn first cap) w := fun _ _ _ _ => rfl
        go_wp2_with fail
        go_at_call 45
        refine (HTC.out _ HB16.out).mono ?_
        rintro e w17 ⟨rfl, hb17⟩
        have PuBR_17 := Lib.hid (PuBR_16.out.below hb17)
        have PuBRT_17 := Lib.hid (PuBRT_16.out.below hb17)
        have PuBL_17 := Lib.hid (PuBL_16.out.below hb17)
        have PuBLT_17 := Lib.hid (PuBLT_16.out.below hb17)
        have PuPR_17 := Lib.hid (PuPR_16.out.below hb17)
        have PuPRT_17 := Lib.hid (PuPRT.out.below hb17)
        have HB17 := Lib.hid (HB16.out.trans (hb17.mono HB16.out.size))
        clear hb17
        obtain ⟨wF, rfl⟩ : ∃ x, x = w17 := ⟨_, rfl⟩
        have HBF := Lib.hid HB17.out
        go_wp2_with fail
        go_loopw [175] (fun x wx => ∃ k : Nat, k ≤ LB.length ∧ x = .int .i64 k ∧ Below wF.heap.size wF wx) (fun x _ => LB.length - (intOf x).toNat)
        case atStart => exact ⟨0, Nat.zero_le _, rfl, Below.refl _ _⟩
        case round =>
          obtain ⟨k, hk, rfl, hbr⟩ := hrel
          have HBK := Lib.hid hbr
          clear hbr
          by_cases hlt : k < LB.length
          · obtain ⟨p, hp⟩ : ∃ p, LB[k]? = some p := ⟨_, List.getElem?_eq_getElem hlt⟩
            obtain ⟨p1, p2⟩ := p
            obtain ⟨_, _, hv, hcells⟩ := PuBR_17.out
            simp only [Value.slice.injEq] at hv
            obtain ⟨rfl, _, rfl⟩ := hv
            obtain ⟨g, rfl, c0, c1⟩ := hcells _ HBK.out k _ hp
            obtain ⟨hp1, hp2, hpm⟩ := HLB.out _ (List.mem_of_getElem? hp)
            dsimp only at hp1 hp2 c0 c1
            have HPM := Lib.hid hpm
            obtain ⟨wb, hwb, rb, hbb', hsz⟩ := new1 wr 66 [.int .i64 p1, .int .i64 p2]
            have hb0 := rb.cell (i := 0) rfl
            have hb1 := rb.cell (i := 1) rfl
            have HBB := Lib.hid (HBK.out.trans (hbb'.mono HBK.out.size))
            clear hcells hpm hp hbb' rb
            go_wp2_with fail
            rw [← hwb]
            clear hwb
            go_wp2_with fail
            go_at_call 48
            obtain ⟨q1, q2, q3, q4⟩ := HRF.out wb (HBF.out.trans (HBB.out.mono HBF.out.size))
            refine (pairN_any hn10 HBBN.out hp1 hp2 wb q1 q2 q3 q4).mono ?_
            rintro e w21 ⟨rfl, hb21⟩
            have HB21 := Lib.hid (HBB.out.trans (hb21.mono HBB.out.size))
            clear hb21 q1 q2 q3 q4
            obtain ⟨o, ho⟩ : ∃ o, o = ordP (rot n bb) (p1, p2) := ⟨_, rfl⟩
            rw [← ho] at HPM
            rw [← ho]
            clear ho
            obtain ⟨o1, o2⟩ := o
            dsimp only
            go_wp2_with fail
            go_at_call 49
            refine (ContainsA_yes (PuBRT_17.out.below HB21.out) hb65t o1 o2 HPM.out).mono ?_
            rintro e w22 ⟨rfl, hb22⟩
            have HB22 := Lib.hid (HB21.out.trans (hb22.mono HB21.out.size))
            clear hb22
            go_wp2_with fail
            go_roundw
            case rel => exact ⟨k + 1, by omega, by go_num, HB22.out⟩
            case measure => simp [intOf]; omega
          · have hdd175 : decide ((k : Int) < (LB.length : Int)) = false := decide_eq_false (by omega)
            clear hk
            obtain ⟨wG, rfl⟩ : ∃ x, x = wr := ⟨_, rfl⟩
            have HBG := Lib.hid HBK.out
            go_wp2_with fail
            go_loopw [188] (fun x wx => ∃ k : Nat, k ≤ LP.length ∧ x = .int .i64 k ∧ Below wF.heap.size wF wx) (fun x _ => LP.length - (intOf x).toNat)
            case atStart => exact ⟨0, Nat.zero_le _, rfl, HBG.out⟩
            case round =>
              obtain ⟨k, hk, rfl, hbr⟩ := hrel
              have HBK := Lib.hid hbr
              clear hbr
              by_cases hlt : k < LP.length
              · obtain ⟨p, hp⟩ : ∃ p, LP[k]? = some p := ⟨_, List.getElem?_eq_getElem hlt⟩
                obtain ⟨p1, p2⟩ := p
                obtain ⟨_, _, hv, hcells⟩ := PuPR_17.out
                simp only [Value.slice.injEq] at hv
                obtain ⟨rfl, _, rfl⟩ := hv
                obtain ⟨g, rfl, c0, c1⟩ := hcells _ HBK.out k _ hp
                obtain ⟨hp1, hp2, hpm⟩ := HLP.out _ (List.mem_of_getElem? hp)
                dsimp only at hp1 hp2 c0 c1
                have HPM := Lib.hid hpm
                obtain ⟨wb, hwb, rb, hbb', hsz⟩ := new1 wr 66 [.int .i64 p1, .int .i64 p2]
                have hb0 := rb.cell (i := 0) rfl
                have hb1 := rb.cell (i := 1) rfl
                have HBB := Lib.hid (HBK.out.trans (hbb'.mono HBK.out.size))
                clear hcells hpm hp hbb' rb
                go_wp2_with fail
                rw [← hwb]
                clear hwb
                go_wp2_with fail
                go_at_call 48
                obtain ⟨q1, q2, q3, q4⟩ := HRF.out wb (HBF.out.trans (HBB.out.mono HBF.out.size))
                refine (pairN_any hn10 HBBN.out hp1 hp2 wb q1 q2 q3 q4).mono ?_
                rintro e w21 ⟨rfl, hb21⟩
                have HB21 := Lib.hid (HBB.out.trans (hb21.mono HBB.out.size))
                clear hb21 q1 q2 q3 q4
                obtain ⟨o, ho⟩ : ∃ o, o = ordP (rot n bb) (p1, p2) := ⟨_, rfl⟩
                rw [← ho] at HPM
                rw [← ho]
                clear ho
                obtain ⟨o1, o2⟩ := o
                dsimp only
                go_wp2_with fail
                go_at_call 49
                refine (ContainsA_yes (PuPRT_17.out.below HB21.out) hp65t o1 o2 HPM.out).mono ?_
                rintro e w22 ⟨rfl, hb22⟩
                have HB22 := Lib.hid (HB21.out.trans (hb22.mono HB21.out.size))
                clear hb22
                go_wp2_with fail
                go_roundw
                case rel => exact ⟨k + 1, by omega, by go_num, HB22.out⟩
                case measure => simp [intOf]; omega
              · have hdd188 : decide ((k : Int) < (LP.length : Int)) = false := decide_eq_false (by omega)
                clear hk
                obtain ⟨wH, rfl⟩ : ∃ x, x = wr := ⟨_, rfl⟩
                have HBH := Lib.hid HBK.out
                go_wp2_with fail
                go_loopw [201] (fun x wx => ∃ k : Nat, k ≤ LK.length ∧ x = .int .i64 k ∧ Below wF.heap.size wF wx) (fun x _ => LK.length - (intOf x).toNat)
                case atStart => exact ⟨0, Nat.zero_le _, rfl, HBH.out⟩
                case round =>
                  obtain ⟨k, hk, rfl, hbr⟩ := hrel
                  have HBK := Lib.hid hbr
                  clear hbr
                  by_cases hlt : k < LK.length
                  · obtain ⟨m, hm, hzm, hmem⟩ := HLK.out k hlt
                    obtain ⟨bK, oK, rfl, hbK, hcK⟩ := (PuBL_17.out.below HBK.out).2 (by omega)
                    have ck : wr.cell? ⟨bK, oK + k, none⟩ = some (.int .i64 (m : Int)) := by rw [← hzm]; exact hcK k hlt
                    have hdec : decide (((turnS n bb m : Nat) : Int) ∈ LKT) = true := decide_eq_true hmem
                    obtain ⟨q1, q2, q3, q4⟩ := HRF.out wr (HBF.out.trans (HBK.out.mono HBF.out.size))
                    have HTU := Lib.hid (turn_any hn10 HBBN.out hm wr q1 q2 q3 q4)
                    generalize turnS n bb m = tm at *
                    clear hcK hzm hmem q1 q2 q3 q4
                    go_wp2_with fail
                    go_at_call 45
                    refine HTU.out.mono ?_
                    rintro e w21 ⟨rfl, hb21⟩
                    have HB21 := Lib.hid (HBK.out.trans (hb21.mono HBK.out.size))
                    clear hb21
                    go_wp2_with fail
                    go_at_call 50
                    refine (ContainsI_any _ (PuBLT_17.out.below HB21.out) _).mono ?_
                    rintro e w22 ⟨rfl, hb22⟩
                    rw [hdec]
                    have HB22 := Lib.hid (HB21.out.trans (hb22.mono HB21.out.size))
                    clear hb22
                    go_wp2_with fail
                    go_roundw
                    case rel => exact ⟨k + 1, by omega, by go_num, HB22.out⟩
                    case measure => simp [intOf]; omega
                  · have HW := Lib.hid (HBF.out.trans (HBK.out.mono HBF.out.size))
                    go_wp2_with fail
                    go_at_call 17
                    refine (awake_any _ (HTF.out _ HW.out)).mono ?_
                    rintro e w30 ⟨rfl, hb30⟩
                    have HB30 := Lib.hid (HW.out.trans (hb30.mono HW.out.size))
                    clear hb30
                    go_wp2_with fail
                    go_ret
                    exact ⟨rfl, HB.out.trans (HB30.out.mono hbz)⟩

end Go.Proofs.YtcpdedgmhpehiaaDoor
