/- Package minor: named graphs, of the program and of the reference; the walk of the law MinorNamed. -/
import Derived.Test.YtfmppncefbjicaaDoorMg
namespace Go.Proofs.YtfmppncefbjicaaDoor
set_option linter.unusedSimpArgs false
set_option linter.unusedVariables false
open Go.RowKit Go.Maps
attribute [local go_sem] i64_bit toNat_eq_one toNat_ne_one toNat_eq_zero toNat_ne_zero i64_and i64_or i64_andNot i64_or_pow i64_andNot_pow

/-- Numbers as cells; so many small ones. -/
def natC (L : List Nat) : List Value := L.map fun x => Value.int .i64 (x : Nat)
def okL (m : Nat) (L : List Nat) : Prop := L.length = m ∧ ∀ x ∈ L, x < 128
def setL (L : List Nat) (x y : Nat) : List Nat := L.set x (L.getD x 0 ||| 2 ^ y)
/-- Two nodes made neighbours. -/
def lnkL (L : List Nat) (x y : Nat) : List Nat := setL (setL L x y) y x
theorem natC_set (L : List Nat) (x v : Nat) : natC (L.set x v) = (natC L).set x (.int .i64 v) := by unfold natC; rw [List.map_set]
theorem setL_ok {m x y : Nat} {L : List Nat} (h : okL m L) (hy : y < 7) : okL m (setL L x y) := by
  refine ⟨by unfold setL; rw [List.length_set]; exact h.1, fun z hz => ?_⟩
  unfold setL at hz
  rcases List.mem_or_eq_of_mem_set hz with h1 | h1
  · exact h.2 z h1
  · subst h1
    have h2 : L.getD x 0 < 128 := by
      rw [List.getD_eq_getElem?_getD]
      cases hx : L[x]? with
      | none => simp
      | some v => exact h.2 v (List.mem_of_getElem? hx)
    have h3 : 2 ^ y < 128 := Nat.pow_lt_pow_right (a := 2) (m := y) (n := 7) (by omega) hy
    exact Nat.or_lt_two_pow (n := 7) h2 h3
theorem lnkL_ok {m x y : Nat} {L : List Nat} (h : okL m L) (hx : x < 7) (hy : y < 7) : okL m (lnkL L x y) := setL_ok (setL_ok h hy) hx
theorem cell_of {m x : Nat} {L : List Nat} (h : okL m L) (hx : x < m) : (natC L)[x]? = some (.int .i64 (L.getD x 0 : Nat)) ∧ L.getD x 0 < 128 := by
  have hlt : x < L.length := by rw [h.1]; exact hx
  have e : L.getD x 0 = L[x] := by rw [List.getD_eq_getElem?_getD, List.getElem?_eq_getElem hlt]; rfl
  refine ⟨?_, by rw [e]; exact h.2 _ (List.getElem_mem hlt)⟩
  unfold natC
  rw [List.getElem?_map, List.getElem?_eq_getElem hlt, e]
  rfl

set_option maxRecDepth 20000 in
set_option maxHeartbeats 2000000 in
theorem link_any {L : List Nat} {m gb x y c B : Nat} {w : World} (hL : okL m L) (hm : m ≤ 7) (hx : x < m) (hy : y < m) (hR : Row w gb 3 (natC L)) (hB : B ≤ gb) :
    Calls Tryd.prog 90 #[.slice (some ⟨gb, 0, none⟩) m c, .int .i64 x, .int .i64 y] w fun e w' => e = .returned (.tuple #[]) ∧ Row w' gb 3 (natC (lnkL L x y)) ∧ Below B w w' := by
  have hx16 : x < 16 := by omega
  have hy16 : y < 16 := by omega
  obtain ⟨h1, h2⟩ := cell_of hL hx
  have hok1 := setL_ok hL (by omega : y < 7) (x := x)
  obtain ⟨h3, h4⟩ := cell_of hok1 hy
  have HL1 : Hid (natC (setL L x y) = (natC L).set x (.int .i64 (L.getD x 0 ||| 2 ^ y : Nat))) := Lib.hid (natC_set _ _ _)
  have HL2 : Hid (natC (lnkL L x y) = (natC (setL L x y)).set y (.int .i64 ((setL L x y).getD y 0 ||| 2 ^ x : Nat))) := Lib.hid (natC_set _ _ _)
  have c1 := hR.cell h1
  have f1 := hR.free x
  have lg := hR.lt
  have HR := Lib.hid hR
  have HC3 := Lib.hid h3
  have hpy := pow_bd y hy16
  have hpx := pow_bd x hx16
  have hor1 := i64_or_pow (L.getD x 0) y (by omega) hy16
  have hor2 := i64_or_pow ((setL L x y).getD y 0) x (by omega) hx16
  generalize lnkL L x y = L2 at *
  generalize (setL L x y).getD y 0 = b1 at *
  generalize setL L x y = L1 at *
  generalize L.getD x 0 = a1 at *
  clear hL hok1 h1 h3 hR
  go_enter Tryd.func90, Tryd.ntmps90
  go_wp2_with fail
  refine wp_region_still_tail 8 (by kernel_rfl) (by kernel_rfl) ?_
  simp only [List.take_succ_cons, List.take_zero, List.drop_succ_cons, List.drop_zero]
  repeat still_step
  refine wpStill_nil ?_
  change wpList _ _ _ _ _ w.drew
  go_wp2_with fail
  rw [hor1]
  obtain ⟨w2, hw2⟩ : ∃ z, z = (w.setCell ⟨gb, x, none⟩ (.int .i64 (a1 ||| 2 ^ y : Nat))).drew := ⟨_, rfl⟩
  have HR2 : Hid (Row w2 gb 3 (natC L1)) := Lib.hid (by rw [hw2, HL1.out]; exact (HR.out.set x _).drewN 1)
  have HB2 : Hid (Below B w w2) := Lib.hid (by rw [hw2]; exact below_drewN ((Below.refl B w).setCell (p := ⟨gb, x, none⟩) hB _) 1)
  rw [← hw2]
  have c2 := HR2.out.cell HC3.out
  have f2 := HR2.out.free y
  have l2 := HR2.out.lt
  clear hw2 c1 f1
  refine wp_region_still_tail 8 (by kernel_rfl) (by kernel_rfl) ?_
  simp only [List.take_succ_cons, List.take_zero, List.drop_succ_cons, List.drop_zero]
  repeat still_step
  refine wpStill_nil ?_
  change wpList _ _ _ _ _ w2.drew
  go_wp2_with fail
  rw [hor2]
  have HR3 : Hid (Row ((w2.setCell ⟨gb, y, none⟩ (.int .i64 (b1 ||| 2 ^ x : Nat))).drew) gb 3 (natC L2)) := Lib.hid (by rw [HL2.out]; exact (HR2.out.set y _).drewN 1)
  have HB3 : Hid (Below B w ((w2.setCell ⟨gb, y, none⟩ (.int .i64 (b1 ||| 2 ^ x : Nat))).drew)) := Lib.hid (below_drewN (HB2.out.setCell (p := ⟨gb, y, none⟩) hB _) 1)
  go_end0
  exact ⟨rfl, HR3.out, HB3.out⟩

set_option maxRecDepth 20000 in
set_option maxHeartbeats 2000000 in
theorem join_any {L : List Nat} {m gb x y c B : Nat} {w : World} (hL : okL m L) (hm : m ≤ 7) (hx : x < m) (hy : y < m) (hR : Row w gb 3 (natC L)) (hB : B ≤ gb) :
    Calls Tryd.prog 67 #[.slice (some ⟨gb, 0, none⟩) m c, .int .i64 x, .int .i64 y] w fun e w' => e = .returned (.tuple #[]) ∧ Row w' gb 3 (natC (lnkL L x y)) ∧ Below B w w' := by
  have hx16 : x < 16 := by omega
  have hy16 : y < 16 := by omega
  obtain ⟨h1, h2⟩ := cell_of hL hx
  have hok1 := setL_ok hL (by omega : y < 7) (x := x)
  obtain ⟨h3, h4⟩ := cell_of hok1 hy
  have HL1 : Hid (natC (setL L x y) = (natC L).set x (.int .i64 (L.getD x 0 ||| 2 ^ y : Nat))) := Lib.hid (natC_set _ _ _)
  have HL2 : Hid (natC (lnkL L x y) = (natC (setL L x y)).set y (.int .i64 ((setL L x y).getD y 0 ||| 2 ^ x : Nat))) := Lib.hid (natC_set _ _ _)
  have c1 := hR.cell h1
  have f1 := hR.free x
  have lg := hR.lt
  have HR := Lib.hid hR
  have HC3 := Lib.hid h3
  have hpy := pow_bd y hy16
  have hpx := pow_bd x hx16
  have hor1 := i64_or_pow (L.getD x 0) y (by omega) hy16
  have hor2 := i64_or_pow ((setL L x y).getD y 0) x (by omega) hx16
  generalize lnkL L x y = L2 at *
  generalize (setL L x y).getD y 0 = b1 at *
  generalize setL L x y = L1 at *
  generalize L.getD x 0 = a1 at *
  clear hL hok1 h1 h3 hR
  go_enter Tryd.func67, Tryd.ntmps67
  go_wp2_with fail
  refine wp_region_still_tail 8 (by kernel_rfl) (by kernel_rfl) ?_
  simp only [List.take_succ_cons, List.take_zero, List.drop_succ_cons, List.drop_zero]
  repeat still_step
  refine wpStill_nil ?_
  change wpList _ _ _ _ _ w.drew
  go_wp2_with fail
  rw [hor1]
  obtain ⟨w2, hw2⟩ : ∃ z, z = (w.setCell ⟨gb, x, none⟩ (.int .i64 (a1 ||| 2 ^ y : Nat))).drew := ⟨_, rfl⟩
  have HR2 : Hid (Row w2 gb 3 (natC L1)) := Lib.hid (by rw [hw2, HL1.out]; exact (HR.out.set x _).drewN 1)
  have HB2 : Hid (Below B w w2) := Lib.hid (by rw [hw2]; exact below_drewN ((Below.refl B w).setCell (p := ⟨gb, x, none⟩) hB _) 1)
  rw [← hw2]
  have c2 := HR2.out.cell HC3.out
  have f2 := HR2.out.free y
  have l2 := HR2.out.lt
  clear hw2 c1 f1
  refine wp_region_still_tail 8 (by kernel_rfl) (by kernel_rfl) ?_
  simp only [List.take_succ_cons, List.take_zero, List.drop_succ_cons, List.drop_zero]
  repeat still_step
  refine wpStill_nil ?_
  change wpList _ _ _ _ _ w2.drew
  go_wp2_with fail
  rw [hor2]
  have HR3 : Hid (Row ((w2.setCell ⟨gb, y, none⟩ (.int .i64 (b1 ||| 2 ^ x : Nat))).drew) gb 3 (natC L2)) := Lib.hid (by rw [HL2.out]; exact (HR2.out.set y _).drewN 1)
  have HB3 : Hid (Below B w ((w2.setCell ⟨gb, y, none⟩ (.int .i64 (b1 ||| 2 ^ x : Nat))).drew)) := Lib.hid (below_drewN (HB2.out.setCell (p := ⟨gb, y, none⟩) hB _) 1)
  go_end0
  exact ⟨rfl, HR3.out, HB3.out⟩

end Go.Proofs.YtfmppncefbjicaaDoor
