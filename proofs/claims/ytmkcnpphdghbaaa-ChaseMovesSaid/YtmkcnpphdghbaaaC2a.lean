/- The contracts of the reference's caught, IsPlace and of its table of ranks. -/
import Derived.Test.YtmkcnpphdghbaaaC1m
namespace Go.Proofs.Ytmkcnpphdghbaaa
set_option linter.unusedSimpArgs false
set_option linter.unusedVariables false
open Go.RowKit Go.Maps
attribute [local go_sem] i64_bit toNat_eq_one toNat_ne_one toNat_eq_zero toNat_ne_zero i64_and i64_or i64_andNot i64_or_pow i64_andNot_pow

set_option maxHeartbeats 400000 in
theorem caughtR_any (p : Pl) (w : World) :
    Calls Try.prog 44 #[encPl p] w fun e w' => e = .returned (.bool (ctchB p)) ∧ Below w.heap.size w w' := by
  obtain ⟨a, b, c⟩ := p
  show Calls Try.prog 44 #[.agg #[.int .i64 a, .int .i64 b, .int .i64 c]] w _
  by_cases h : c = a
  · subst h
    go_enter Try.func44, Try.ntmps44
    go_wp2
    go_ret
    exact ⟨by simp [ctchB], (Below.refl _ _).alloc (Nat.le_refl _) _⟩
  · have h1 : ((c : Int) == (a : Int)) = false := by rw [cast_beq]; simpa using h
    have H := Lib.hid h
    clear h
    go_enter Try.func44, Try.ntmps44
    go_wp2
    go_ret
    refine ⟨?_, (Below.refl _ _).alloc (Nat.le_refl _) _⟩
    show Ending.returned (.bool ((c : Int) == (b : Int))) = _
    unfold ctchB
    rw [cast_beq, show (c == a) = false from by simpa using H.out, Bool.false_or]

/-- The reference's table of ranks in a block of one's own. -/
def RkRow (w : World) (b : Nat) (G : Nat → Int) : Prop := Row w b 79 ((List.range 512).map fun i => .int .i64 (G i))
theorem RkRow.cell {w : World} {b : Nat} {G : Nat → Int} (h : RkRow w b G) {i : Nat} (hi : i < 512) : w.cell? ⟨b, i, none⟩ = some (.int .i64 (G i)) := Row.cell h (map_range_get _ hi)
def rkIx (p : Pl) : Nat := p.1 * 64 + p.2.1 * 8 + p.2.2

set_option maxHeartbeats 1000000 in
theorem of_any {w : World} {rb : Nat} {G : Nat → Int} (R : RkRow w rb G) (p : Pl) (h1 : p.1 < 8) (h2 : p.2.1 < 8) (h3 : p.2.2 < 8) :
    Calls Try.prog 42 #[.pointer (some ⟨rb, 0, none⟩), encPl p] w fun e w' => e = .returned (.int .i64 (G (rkIx p))) ∧ Below w.heap.size w w' := by
  obtain ⟨a, b, c⟩ := p
  dsimp only at h1 h2 h3
  obtain ⟨w0, hw0, R0, HB, hsz⟩ := new1 w 25 [.int .i64 a, .int .i64 b, .int .i64 c]
  have R1 : RkRow w0 rb G := Row.below R HB (Row.lt R)
  have hc : w0.cell? ⟨rb, a * 64 + b * 8 + c, none⟩ = some (.int .i64 (G (a * 64 + b * 8 + c))) := R1.cell (by omega)
  have hrb := Row.lt R1
  have d0 := R0.cell (i := 0) rfl
  have d1 := R0.cell (i := 1) rfl
  have d2 := R0.cell (i := 2) rfl
  have HW := Lib.hid hw0
  clear hw0 R0 R1
  show Calls Try.prog 42 #[.pointer (some ⟨rb, 0, none⟩), .agg #[.int .i64 a, .int .i64 b, .int .i64 c]] w _
  go_enter Try.func42, Try.ntmps42
  go_wp2_with fail
  rw [← HW.out]
  clear HW
  go_quiet (fail)
  go_wp2_with fail
  go_ret
  exact ⟨rfl, below_drewN HB _⟩

end Go.Proofs.Ytmkcnpphdghbaaa
