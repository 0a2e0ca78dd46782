/- The contracts of package ears' isNode, areNodes, areNeighbours, isConnected, isDouble. -/
import Derived.Test.YtcpdedgmhpehiaaDoorEh
import Derived.Test.YtcpdedgmhpehiaaDoorEt2
namespace Go.Proofs.YtcpdedgmhpehiaaDoor
set_option linter.unusedSimpArgs false
set_option linter.unusedVariables false
open Go.RowKit Go.Maps
attribute [local go_sem] i64_bit toNat_eq_one toNat_ne_one toNat_eq_zero toNat_ne_zero i64_and i64_or i64_andNot i64_or_pow i64_andNot_pow

/-- Whether two numbers are different nodes; neighbours. -/
def twoB (n : Nat) (x y : Int) : Bool := inB x n && inB y n && x != y
def nbB (n : Nat) (r : Nat → Nat) (x y : Int) : Bool := twoB n x y && (r x.toNat).testBit y.toNat

set_option maxRecDepth 20000 in
set_option maxHeartbeats 1000000 in
theorem isNode_any (a : Option Addr) (n cap : Nat) (x : Int) (w : World) (hn : n < 16) :
    Calls Tryd.prog 108 #[.slice a n cap, .int .i64 x] w fun e w' => e = .returned (.bool (inB x n)) ∧ w = w' := by
  by_cases h0 : 0 ≤ x
  · go_enter Tryd.func108, Tryd.ntmps108
    go_wp2
    go_ret
    refine ⟨?_, rfl⟩
    show Ending.returned (Value.bool (decide (x < n))) = _
    unfold inB; congr 2; apply decide_eq_decide.2; omega
  · go_enter Tryd.func108, Tryd.ntmps108
    go_wp2
    go_ret
    refine ⟨?_, rfl⟩
    rw [inB_false (by omega)]; rfl
set_option maxRecDepth 20000 in
set_option maxHeartbeats 1000000 in
theorem areNodes_any (a : Option Addr) (n cap : Nat) (x y : Int) (w : World) (hn : n < 16) :
    Calls Tryd.prog 74 #[.slice a n cap, .int .i64 x, .int .i64 y] w fun e w' => e = .returned (.bool (twoB n x y)) ∧ w = w' := by
  have HE : Hid (twoB n x y = (inB x n && inB y n && x != y)) := Lib.hid rfl
  cases h1 : inB x n <;> cases h2 : inB y n
  all_goals
    have H1 := Lib.hid h1
    have H2 := Lib.hid h2
    rw [h1, h2] at HE
    clear h1 h2
    go_enter Tryd.func74, Tryd.ntmps74
    go_wp2_with (go_at_call 108; refine (isNode_any _ _ _ _ _ hn).mono ?_; rintro e w1 ⟨rfl, rfl⟩; first | rw [H1.out] | rw [H2.out])
    go_ret
    exact ⟨by rw [HE.out]; first | rfl | simp, rfl⟩
set_option maxRecDepth 20000 in
set_option maxHeartbeats 1000000 in
theorem areNeighbours_any {n : Nat} {r : Nat → Nat} {a : Option Addr} {w : World} (G : GrAt w a n r) (hn10 : n ≤ 10) (hr : ∀ i, i < n → r i < 2 ^ n) (cap : Nat) (x y : Int) :
    Calls Tryd.prog 76 #[.slice a n cap, .int .i64 x, .int .i64 y] w fun e w' => e = .returned (.bool (nbB n r x y)) ∧ w = w' := by
  have h10 := pow_le10 hn10
  have hn16 : n < 16 := by omega
  have HE : Hid (nbB n r x y = (twoB n x y && (r x.toNat).testBit y.toNat)) := Lib.hid rfl
  obtain ⟨hml, hI⟩ := G.ints
  obtain ⟨b, off, rfl, hlt, hc⟩ := hI G.pos
  unfold maxLen at hml
  cases h : twoB n x y
  · have H := Lib.hid h
    rw [h] at HE
    clear h hI hc G hr
    go_enter Tryd.func76, Tryd.ntmps76
    go_wp2_with (go_at_call 74; refine (areNodes_any _ _ _ _ _ _ hn16).mono ?_; rintro e w1 ⟨rfl, rfl⟩; rw [H.out])
    go_ret
    exact ⟨by rw [HE.out]; rfl, rfl⟩
  · have H := Lib.hid h
    rw [h] at HE
    unfold twoB at h
    rw [Bool.and_eq_true, Bool.and_eq_true, inB_iff, inB_iff] at h
    obtain ⟨x, rfl⟩ : ∃ k : Nat, x = k := ⟨x.toNat, by omega⟩
    obtain ⟨y, rfl⟩ : ∃ k : Nat, y = k := ⟨y.toNat, by omega⟩
    have hxn : x < n := by omega
    have hyn : y < n := by omega
    have cx := hc x hxn
    have hrx := hr x hxn
    have hrx16 : r x < 65536 := by omega
    have hy64 : y < 64 := by omega
    rw [Int.toNat_natCast, Int.toNat_natCast] at HE
    clear h hI hc G hr
    go_enter Tryd.func76, Tryd.ntmps76
    go_wp2_with (first
      | (go_at_call 74; refine (areNodes_any _ _ _ _ _ _ hn16).mono ?_; rintro e w1 ⟨rfl, rfl⟩; rw [H.out])
      | (go_at_call 90; refine (has_any _ _ _ hrx16 hy64).mono ?_; rintro e w1 ⟨rfl, rfl⟩))
    go_ret
    exact ⟨by rw [HE.out]; rfl, rfl⟩

end Go.Proofs.YtcpdedgmhpehiaaDoor
