/- The contracts of the reference's reach and covers, for a seat that does not reach its Corners. -/
import Derived.Test.YtbodgdbcbaggdaaDoorC1m
namespace Go.Proofs.YtbodgdbcbaggdaaDoor
set_option linter.unusedSimpArgs false
set_option linter.unusedVariables false
open Go.RowKit Go.Maps
attribute [local go_sem] i64_bit toNat_eq_one toNat_ne_one toNat_eq_zero toNat_ne_zero i64_and i64_or i64_andNot i64_or_pow i64_andNot_pow

def covR (g : Nat → Nat) (set v u : Nat) : Bool := u != v && set.testBit v && set.testBit u && diff ((g v ||| 2 ^ v) &&& set) (g u ||| 2 ^ u) == 0

set_option maxRecDepth 20000 in
set_option maxHeartbeats 1000000 in
theorem reach_any {n : Nat} {g : Nat → Nat} {a : Option Addr} {w : World} (G : GrAt w a n g) (cap v : Nat) (hv : v < n) :
    Calls Tryd.prog 51 #[.slice a n cap, .int .i64 v] w fun e w' => e = .returned (.int .i64 ((g v ||| 2 ^ v : Nat) : Int)) ∧ Below w.heap.size w w' := by
  obtain ⟨hml, hI⟩ := G.ints
  obtain ⟨b, off, rfl, hlt, hc⟩ := hI G.pos
  have hn := G.small
  have hb := G.bd v hv
  have cv := hc v hv
  have hv16 : v < 16 := by omega
  have hpv := pow_bd v hv16
  have w1 : IntKind.i64.wrap ((2 : Int) ^ v) = 2 ^ v := IntWalk.i64_in _ (by omega)
  have w2 : wrap64 ((2 : Int) ^ v) = 2 ^ v := IntWalk.wrap64_in _ (by omega)
  clear hc hI
  unfold maxLen at hml
  go_enter Tryd.func51, Tryd.ntmps51
  go_wp2_with fail
  go_quiet (fail)
  go_wp2_with fail
  go_ret
  exact ⟨rfl, below_drewN (Below.refl _ _) _⟩

set_option maxRecDepth 20000 in
set_option maxHeartbeats 2000000 in
theorem coversR_any {n : Nat} {g : Nat → Nat} {a : Option Addr} {w : World} (G : GrAt w a n g) (cap set v u : Nat) (hset : set < 65536) (hv : v < n) (hu : u < n) :
    Calls Tryd.prog 42 #[.slice a n cap, .int .i64 set, .int .i64 v, .int .i64 u] w fun e w' => e = .returned (.bool (covR g set v u)) ∧ Below w.heap.size w w' := by
  have HG := Lib.hid G
  have hn := G.small
  have hb1 := G.bd v hv
  have hb2 := G.bd u hu
  have hr1 : g v ||| 2 ^ v < 65536 := or_lt hb1 (pow_lt16 (by omega))
  have hr2 : g u ||| 2 ^ u < 65536 := or_lt hb2 (pow_lt16 (by omega))
  have hr3 : (g v ||| 2 ^ v) &&& set < 65536 := and_lt hr1
  have hv64 : v < 64 := by omega
  have hu64 : u < 64 := by omega
  cases h1 : (u != v)
  · have h1' : ((u : Int) != (v : Int)) = false := by have := cast_beq u v; unfold bne at h1 ⊢; rw [this]; exact h1
    have H1 := Lib.hid h1
    clear h1
    go_enter Tryd.func42, Tryd.ntmps42
    go_wp2_with fail
    go_ret
    exact ⟨by unfold covR; rw [H1.out]; rfl, Below.refl _ _⟩
  · have h1' : ((u : Int) != (v : Int)) = true := by have := cast_beq u v; unfold bne at h1 ⊢; rw [this]; exact h1
    have H1 := Lib.hid h1
    clear h1
    cases h2 : set.testBit v
    · go_enter Tryd.func42, Tryd.ntmps42
      go_wp2_with fail
      go_ret
      exact ⟨by unfold covR; rw [H1.out, h2]; rfl, Below.refl _ _⟩
    · cases h3 : set.testBit u
      · go_enter Tryd.func42, Tryd.ntmps42
        go_wp2_with fail
        go_ret
        exact ⟨by unfold covR; rw [H1.out, h2, h3]; rfl, Below.refl _ _⟩
      · go_enter Tryd.func42, Tryd.ntmps42
        go_wp2_with fail
        go_at_call 51
        refine (reach_any HG.out cap v hv).mono ?_
        rintro e w1 ⟨rfl, hb⟩
        have HB1 := Lib.hid hb
        clear hb
        go_wp2_with fail
        go_at_call 51
        refine (reach_any (HG.out.below HB1.out) cap u hu).mono ?_
        rintro e w2 ⟨rfl, hb⟩
        have HB2 := Lib.hid hb
        clear hb
        go_wp2_with fail
        go_ret
        exact ⟨by unfold covR; rw [H1.out, h2, h3]; simp [cast_beq0], HB1.out.trans (HB2.out.mono HB1.out.size)⟩

end Go.Proofs.YtbodgdbcbaggdaaDoor
