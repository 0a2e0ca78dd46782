/- The contract of the law's Of. -/
import Derived.Test.YtombmfphodikjaaW37
import Derived.Deep.DeepCutAuto
import Derived.Deep.RegionLaw
namespace Go.Proofs.Ytombmfphodikjaa
set_option linter.unusedSimpArgs false
set_option linter.unusedVariables false
open Go.RowKit Go.Maps

def OfPost (m q : Nat) (z p : Nat → Int) (w : World) (e : Ending) (w' : World) : Prop :=
  ∃ a ca b cb, e = .returned (treeV a (min m 210) ca b (min q 210) cb) ∧ TreeAt w' a b (min m 210) (min q 210) z p ∧ Below w.heap.size w w'

/-- Numbers do not lie in a row without numbers. -/
theorem IntsAt.apart {w : World} {a : Option Addr} {n : Nat} {z : Nat → Int} (h : IntsAt w a n z) {b : Nat} {e : TypeId} {xs : List Value} (hr : Row w b e xs) (hx : ∀ x ∈ xs, ∀ k, x ≠ .int .i64 k) (i : Nat) (v : Value) : IntsAt (w.setCell ⟨b, i, none⟩ v) a n z := by
  refine ⟨h.1, fun hn => ?_⟩
  obtain ⟨b', off, ha, hlt, hc⟩ := h.2 hn
  have hne : b' ≠ b := by
    intro e1
    subst e1
    have c := hc 0 hn
    unfold Row at hr
    simp only [World.cell?, hr, Nat.add_zero] at c
    have hm : Value.int .i64 (z 0) ∈ xs := by
      have c' : xs.toArray[off]? = some (Value.int .i64 (z 0)) := c
      rw [List.getElem?_toArray] at c'
      exact List.mem_of_getElem? c'
    exact hx _ hm _ rfl
  have hb : Below b (w.setCell ⟨b, i, none⟩ v) (w.setCell ⟨b, i, none⟩ v) := Below.refl _ _
  refine ⟨b', off, ha, by simpa using hlt, fun j hj => ?_⟩
  have hh : (w.setCell ⟨b, i, none⟩ v).heap[b']? = w.heap[b']? := Below.heap_setCell _ _ _ _ hne
  have := hc j hj
  unfold World.cell? at *
  rw [hh]; exact this

/-- The box of a result: two slices laid into it. -/
theorem box_two {w : World} {b : Nat} {e : TypeId} {a1 a2 : Option Addr} {m q : Nat} {z p : Nat → Int} {s1 s2 : Option Addr} {l1 l2 h1 h2 : Nat} (hr : Row w b e [.slice s1 l1 h1, .slice s2 l2 h2]) (H1 : IntsAt w a1 m z) (H2 : IntsAt w a2 q p) (k1 k2 : Nat) :
    IntsAt ((w.setCell ⟨b, 0, none⟩ (.slice a1 m k1)).setCell ⟨b, 1, none⟩ (.slice a2 q k2)) a1 m z ∧ IntsAt ((w.setCell ⟨b, 0, none⟩ (.slice a1 m k1)).setCell ⟨b, 1, none⟩ (.slice a2 q k2)) a2 q p ∧
    ((w.setCell ⟨b, 0, none⟩ (.slice a1 m k1)).setCell ⟨b, 1, none⟩ (.slice a2 q k2)).cell? ⟨b, 0, none⟩ = some (.slice a1 m k1) ∧
    ((w.setCell ⟨b, 0, none⟩ (.slice a1 m k1)).setCell ⟨b, 1, none⟩ (.slice a2 q k2)).cell? ⟨b, 1, none⟩ = some (.slice a2 q k2) := by
  have r1 := hr.set 0 (.slice a1 m k1)
  have r2 := r1.set 1 (.slice a2 q k2)
  refine ⟨(H1.apart hr (by simp) _ _).apart r1 (by simp) _ _, (H2.apart hr (by simp) _ _).apart r1 (by simp) _ _, r2.cell rfl, r2.cell rfl⟩

set_option maxRecDepth 20000 in
set_option maxHeartbeats 4000000 in
theorem Of_any {m q : Nat} {z p : Nat → Int} {vb vp : Value} {w : World} (h1 : SliceArg w vb m z) (h2 : SliceArg w vp q p) :
    Calls Try.prog 26 #[.agg #[vb, vp]] w (OfPost m q z p w) := by
  obtain ⟨w0, hw0, R0, HB0, hs0⟩ := new1 w 41 [vb, vp]
  have HW0 := Lib.hid hw0
  have HB := Lib.hid HB0
  have hws : w0.heap.size = w.heap.size + 1 := by rw [hw0]; simp
  obtain ⟨wa, hwa, Ra, HBa, hsa⟩ := new1 w0 42 [.slice none 0 0, .slice none 0 0]
  rw [hws] at Ra
  have HRa := Lib.hid (R0.below HBa R0.lt)
  have HRb := Lib.hid Ra
  have HA1 := Lib.hid ((h1.below HB0).below HBa)
  have HA2 := Lib.hid ((h2.below HB0).below HBa)
  have HWA := Lib.hid hwa
  have HBA := Lib.hid (HB0.trans (HBa.mono HB0.size))
  have hl : w.heap.size < wa.heap.size := by omega
  have hl1 : w.heap.size + 1 < wa.heap.size := by omega
  have c0 := HRa.out.cell (i := 0) rfl
  have c1 := HRa.out.cell (i := 1) rfl
  have B0 : Below wa.heap.size wa wa.drew := (Below.refl _ _).drew
  clear hw0 R0 HB0 h1 h2 hwa Ra HBa
  obtain ⟨M, hM⟩ : ∃ M, M = min m 210 := ⟨_, rfl⟩
  obtain ⟨Q, hQ⟩ : ∃ Q, Q = min q 210 := ⟨_, rfl⟩
  have HM := Lib.hid hM
  have HQ := Lib.hid hQ
  clear hM hQ
  go_enter Try.func26, Try.ntmps26
  go_wp2_with fail
  rw [← HW0.out]
  go_wp2_with fail
  rw [← HWA.out]
  go_region_law (first
    | (go_simp; go_at_call 16; refine (List_any m z vb _ (HA1.out.below B0)).mono ?_; rintro e w1 ⟨a1, k1, rfl, hi1, hb1⟩; rw [← HM.out] at hi1; rw [← HM.out]; have hb2 := B0.trans (hb1.mono B0.size); have HI1 := Lib.hid hi1; have e1 := (HRa.out.below hb2 hl).cell (i := 1) rfl; clear hb1 hi1)
    | (go_simp; go_at_call 16; refine (List_any q p vp _ (HA2.out.below hb2)).mono ?_; rintro e w2 ⟨a2, k2, rfl, hi2, hb3⟩; rw [← HQ.out] at hi2; rw [← HQ.out]; have hb4 := hb2.trans (hb3.mono hb2.size); have HI2 := Lib.hid hi2; have HI3 := Lib.hid (HI1.out.below hb3); have RB := HRb.out.below hb4 hl1; have d0 := RB.cell (i := 0) rfl; have d1 := RB.cell (i := 1) rfl; have d2 := RB.free 0; have d3 := RB.free 1; have d4 := RB.lt; have HRB := Lib.hid RB; clear hb3 hi2 RB))
  all_goals
    go_wp2_with fail
    obtain ⟨I1, I2, g0, g1⟩ := box_two HRB.out HI3.out HI2.out k1 k2
    have hb5 : Below w.heap.size w w2 := HBA.out.trans (hb4.mono HBA.out.size)
    have hb6 := hb5.setCell (p := ⟨w.heap.size + 1, 0, none⟩) (Nat.le_succ _) (.slice a1 M k1)
    have hb7 := hb6.setCell (p := ⟨w.heap.size + 1, 1, none⟩) (Nat.le_succ _) (.slice a2 Q k2)
    exact bodyPost_ret (v := treeV a1 M k1 a2 Q k2) (by simp [results, Try.results26, go_sem, g0, g1]) rfl ⟨a1, k1, a2, k2, by rw [HM.out, HQ.out], by rw [← HM.out, ← HQ.out]; exact ⟨I1, I2⟩, hb7⟩
end Go.Proofs.Ytombmfphodikjaa
