/- The contract of the closure far of the law ChaseMoves. -/
import Derived.Test.YtmkcnpphdghbaaaS20
import Derived.Test.YtmkcnpphdghbaaaL2b
namespace Go.Proofs.Ytmkcnpphdghbaaa
set_option linter.unusedSimpArgs false
set_option linter.unusedVariables false
open Go.RowKit Go.Maps
attribute [local go_sem] i64_bit toNat_eq_one toNat_ne_one toNat_eq_zero toNat_ne_zero i64_and i64_or i64_andNot i64_or_pow i64_andNot_pow

set_option maxRecDepth 20000 in
set_option maxHeartbeats 2000000 in
theorem far_any {n : Nat} {z : Nat → Int} {a : Option Addr} {cap bg : Nat} {w : World} (hb : w.cell? ⟨bg, 0, none⟩ = some (.slice a n cap)) (hI : IntsAt w a n z) (hz : ∀ i, i < n → 0 ≤ z i ∧ z i < 2 ^ n) (hn : n ≤ 8) {x y : Nat} (hx : x < n) (hy : y < n) :
    Calls Try.prog 30 #[.int .i64 x, .int .i64 y, .pointer (some ⟨bg, 0, none⟩)] w fun e w' => e = .returned (.bool (!(reachOf z x).testBit y)) ∧ Below w.heap.size w w' := by
  obtain ⟨hml, hI⟩ := hI
  unfold maxLen at hml
  obtain ⟨b, off, rfl, hlt, hc⟩ := hI (by omega)
  have cv := hc x hx
  obtain ⟨s, hs⟩ : ∃ s : Nat, z x = s := ⟨(z x).toNat, by have := (hz x hx).1; omega⟩
  have hs2 := (hz x hx).2
  rw [hs, pow_cast] at hs2
  rw [hs] at cv
  have hp := pow_le16 hn
  have hs3 : s < 65536 := by omega
  have hreach : reachOf z x = s ||| 2 ^ x := by unfold reachOf; rw [hs, Int.toNat_natCast]
  have HRE := Lib.hid hreach
  have hx16 : x < 16 := by omega
  have hy64 : y < 64 := by omega
  have hor := i64_or_pow s x hs3 hx16
  have hor2 : s ||| 2 ^ x < 65536 := or_lt hs3 (pow_lt16 hx16)
  have hx64 : x < 64 := by omega
  have hpv := pow_bd x hx16
  have w1 : IntKind.i64.wrap ((2 : Int) ^ x) = 2 ^ x := IntWalk.i64_in _ (by omega)
  have w2 : wrap64 ((2 : Int) ^ x) = 2 ^ x := IntWalk.wrap64_in _ (by omega)
  clear hc hI hz hs hs2 hreach hpv hp
  cases hbit : (s ||| 2 ^ x).testBit y
  · have HBT := Lib.hid hbit
    go_enter Try.func30, Try.ntmps30
    go_wp2_with fail
    go_quiet (fail)
    go_wp2_with fail
    go_ret
    exact ⟨by rw [HRE.out, HBT.out]; rfl, below_drewN (Below.refl _ _) _⟩
  · have HBT := Lib.hid hbit
    go_enter Try.func30, Try.ntmps30
    go_wp2_with fail
    go_quiet (fail)
    go_wp2_with fail
    go_ret
    exact ⟨by rw [HRE.out, HBT.out]; rfl, below_drewN (Below.refl _ _) _⟩

end Go.Proofs.Ytmkcnpphdghbaaa
