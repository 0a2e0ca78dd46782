/- The contracts of package width's widths and width. -/
import Derived.Test.YtfmppncefbjicaaDoorWdW7
namespace Go.Proofs.YtfmppncefbjicaaDoor.Wd
set_option linter.unusedSimpArgs false
set_option linter.unusedVariables false
open Go.RowKit Go.Maps
attribute [local go_sem] i64_bit toNat_eq_one toNat_ne_one toNat_eq_zero toNat_ne_zero i64_and i64_or i64_andNot i64_or_pow i64_andNot_pow

@[local go_sem] theorem run_store_func (w : World) (a : Addr) (fn : Fn) (x y : Array Value) (m : Mode) : (store a (.func fn x y) m).run Tryd.prog w = stored Tryd.prog w a (.func fn x y) m := run_store Tryd.prog w a _ m rfl

def WidthsPost (w : World) (a : Option Addr) (n cap : Nat) (r : Nat → Nat) (e : Ending) (w' : World) : Prop :=
  ∃ kb tb lb mb F, e = .returned (leastV kb tb lb) ∧ LeastAt w' kb tb lb mb a n cap r F ∧ Below w.heap.size w w' ∧ w.heap.size ≤ mb

set_option maxRecDepth 20000 in
set_option maxHeartbeats 2000000 in
theorem widths_any {n : Nat} {r : Nat → Nat} {a : Option Addr} {w : World} (G : Gr w a n r) (cap : Nat) :
    Calls Tryd.prog 104 #[.slice a n cap] w (WidthsPost w a n cap r) := by
  have hle := G.le
  have hpn := pow_bd n (by omega)
  have h1 := Nat.one_le_two_pow (n := n)
  have hcast : ((2 : Int) ^ n - 1) = ((2 ^ n - 1 : Nat) : Int) := by rw [pow_cast]; omega
  have hlt : 2 ^ n - 1 < 2 ^ n := by omega
  have h16 := lt16 hle hlt
  obtain ⟨w0, hw0, HB0, hs0, hc0⟩ : ∃ w0, w0 = w.alloc (.cells #[.slice a n cap] 100) ∧ Below w.heap.size w w0 ∧ w0.heap.size = w.heap.size + 1 ∧ w0.cell? ⟨w.heap.size, 0, none⟩ = some (.slice a n cap) :=
    ⟨_, rfl, (Below.refl _ _).alloc (Nat.le_refl _) _, by simp, (Row.new w 100 [.slice a n cap]).cell (i := 0) rfl⟩
  obtain ⟨w1, hw1, HM, hs1, HB1⟩ : ∃ w1, w1 = w0.alloc (.map #[] 0) ∧ NatMap w1 w0.heap.size (fun _ => none) ∧ w1.heap.size = w0.heap.size + 1 ∧ Below w0.heap.size w0 w1 :=
    ⟨_, rfl, MapIs.made _ _ _, by simp, (Below.refl _ _).alloc (Nat.le_refl _) _⟩
  obtain ⟨w2, hrun, HM2, hg2, hs2⟩ := HM.store keyed_int nat_inj (fun x v hx => by cases hx) Tryd.underlying121 (2 ^ n - 1) 0 ⟨_, key_nat h16⟩
  change (Instr.mapUpdate 121 (.map (some w0.heap.size)) (.int .i64 ((2 ^ n - 1 : Nat) : Int)) (.int .i64 0)).run Tryd.prog w1 = .ok () w2 at hrun
  rw [← hcast] at hrun
  have hc1 : w1.cell? ⟨w.heap.size, 0, none⟩ = some (.slice a n cap) := by rw [HB1.cell (p := ⟨w.heap.size, 0, none⟩) (by show w.heap.size < _; omega)]; exact hc0
  have hc2 : w2.cell? ⟨w.heap.size, 0, none⟩ = some (.slice a n cap) := by rw [World.cell?_of_block (a := ⟨w.heap.size, 0, none⟩) (hg2.block w.heap.size (by omega) (by simp; omega))]; exact hc1
  have hb2 : Below w.heap.size w w2 := (HB0.trans (HB1.mono (by omega))).grown hg2 (by omega) (fun k hk => by cases hk; omega)
  have hz2 : w2.heap.size = w.heap.size + 1 + 1 := by omega
  have HW0 := Lib.hid hw0
  have HW1 := Lib.hid hw1
  have HG := Lib.hid G
  have HMM := Lib.hid HM2
  have HBB := Lib.hid hb2
  have HGG := Lib.hid hg2
  have HCC := Lib.hid hc2
  rw [hs0] at hrun
  have hmf : ∀ (fn : Fn) (first cap : Array Value) (w : World), (Instr.makeFunc fn first cap).run Tryd.prog w = .ok (.func fn first cap) w := fun _ _ _ _ => rfl
  obtain ⟨w4, hw4, R0, R1, HB4, hs4⟩ := new2 w2 121 65 [.map (some (w.heap.size + 1))] [leastV (w.heap.size + 1 + 1) w.heap.size (w.heap.size + 1 + 1 + 1)]
  rw [hz2] at R0 R1
  have HW4 := Lib.hid hw4
  have HB4' := Lib.hid HB4
  have HR0 := Lib.hid R0
  have HR1 := Lib.hid R1
  have d1 := R1.cell (i := 0) rfl
  have f1 := R1.free 0
  have hl4 : w.heap.size + 1 + 1 + 1 < w4.heap.size := by omega
  have d0 := R0.cell (i := 0) rfl
  clear hw4 HB4 R0 R1
  have hmk : ∀ w : World, (Instr.makeMap 121 none).run Tryd.prog w = .ok (.map (some w.heap.size)) (w.alloc (.map #[] 0)) := fun w => by
    simp [Instr.makeMap, run_underlying Tryd.underlying121]
  clear hw0 hw1 hc0 hc2 HB0 HM HB1 HM2 hg2 hb2 G hcast h16 hlt
  go_enter Tryd.func104, Tryd.ntmps104
  go_wp2_with fail
  rw [← HW0.out, ← HW1.out]
  try rw [hs0]
  go_wp2_with (go_at_call 110; refine (all_any _ _ _ _ (by omega)).mono ?_; rintro e wz ⟨rfl, rfl⟩)
  rw [← HW4.out]
  go_ret
  have hg4 := HB4'.out
  refine ⟨w.heap.size + 1 + 1, w.heap.size, w.heap.size + 1 + 1 + 1, w.heap.size + 1, (fun y => if y = 2 ^ n - 1 then some 0 else none), rfl, ?_, HBB.out.trans (hg4.mono (by omega)), by omega⟩
  have hM4 : NatMap w4 (w.heap.size + 1) (fun y => if y = 2 ^ n - 1 then some 0 else none) := by
    have := HMM.out.below hg4 HMM.out.lt
    rwa [hs0] at this
  have hb4 : Below w.heap.size w w4 := HBB.out.trans (hg4.mono (by omega))
  exact {
    gr := HG.out.below hb4
    ga := fun x hx => by
      obtain ⟨b, off, he, hlt, _⟩ := HG.out.at_.ints.2 HG.out.at_.pos
      rw [hx] at he
      cases he
      show b ≠ _
      omega
    kl := by omega
    tl := by omega
    ll := by omega
    nk := by omega
    nt := by omega
    nl := by omega
    kc := HR0.out.cell (i := 0) rfl
    tc := by rw [hg4.cell (p := ⟨w.heap.size, 0, none⟩) (by show w.heap.size < _; omega)]; exact HCC.out
    lc := HR1.out.cell (i := 0) rfl
    mp := hM4
    good := fun g x hx => by
      by_cases hy : g = 2 ^ n - 1
      · simp only [hy, if_true] at hx
        cases hx
        exact ⟨by rw [hy]; omega, by rw [hy, rst_all]⟩
      · simp only [hy, if_false] at hx
        cases hx
    top := ⟨0, by simp⟩ }

def WidthPost (w : World) (n : Nat) (r : Nat → Nat) (e : Ending) (w' : World) : Prop :=
  e = .returned (.int .i64 (rst n (tn n r) 0 : Nat)) ∧ Below w.heap.size w w'

set_option maxRecDepth 20000 in
set_option maxHeartbeats 2000000 in
theorem width_any {n : Nat} {r : Nat → Nat} {a : Option Addr} {w : World} (G : Gr w a n r) (cap : Nat) :
    Calls Tryd.prog 83 #[.slice a n cap] w (WidthPost w n r) := by
  have HG := Lib.hid G
  have h2 := Nat.two_pow_pos n
  clear G
  go_enter Tryd.func83, Tryd.ntmps83
  go_wp2_with (first
    | (go_at_call 104; refine (widths_any HG.out cap).mono ?_; rintro e w1 ⟨kb, tb, lb, mb, F, rfl, L, hb, hmb⟩; have HL := Lib.hid L; have HB := Lib.hid hb; clear L hb)
    | (go_at_call 111; refine (least_rec kb tb lb mb a n cap r (2 ^ n) 0 h2 (by omega) w1 F HL.out).mono ?_; rintro e w2 ⟨rfl, F2, L2, hg2⟩; have HL2 := Lib.hid L2; have HG2 := Lib.hid hg2; clear L2 hg2))
  go_ret
  exact ⟨rfl, HB.out.grown HG2.out HB.out.size (fun k hk => by cases hk; exact hmb)⟩

end Go.Proofs.YtfmppncefbjicaaDoor.Wd
