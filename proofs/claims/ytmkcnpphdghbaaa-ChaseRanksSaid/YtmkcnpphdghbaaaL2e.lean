/- The walk of the law ChaseRanks, all of it. -/
import Derived.Test.YtmkcnpphdghbaaaL2c
import Derived.Test.YtmkcnpphdghbaaaL2d
namespace Go.Proofs.Ytmkcnpphdghbaaa
set_option linter.unusedSimpArgs false
set_option linter.unusedVariables false
open Go.RowKit Go.Maps

theorem ChaseRanks_walk (n : Nat) (z : Nat → Int) (v : Value) (kI x y d : Int) (w : World) (hA : SliceArg w v n z) (hz : ∀ i, -9223372036854775808 ≤ z i ∧ z i ≤ 9223372036854775807) :
    Calls Try.prog 3 #[v, .int .i64 kI, .agg #[.int .i64 x, .int .i64 y, .int .i64 d]] w (LawTrue w) := by
  cases hf : fineB n z kI x y d
  · exact ChaseRanks_no n z v kI x y d w hA hz hf
  · have hok := fine_ok.1 hf
    obtain ⟨x, y, d, rfl, rfl, rfl, -, -⟩ := isPlB_nat hok.2
    cases hm : mvRef n kI.toNat (fun i => (z i).toNat) (ranksF n (reachOf z) (chs n kI.toNat)) (x, y, d) with
    | none => exact ChaseRanks_none n z v kI x y d w hA hz hok hm
    | some q => exact ChaseRanks_some n z v kI x y d w hA hz hok q hm

end Go.Proofs.Ytmkcnpphdghbaaa
