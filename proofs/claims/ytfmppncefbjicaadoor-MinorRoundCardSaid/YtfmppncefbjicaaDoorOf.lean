/- Package minor: Reduce, CheckReduce, yes and no. -/
import Derived.Test.YtfmppncefbjicaaDoorOe
import Derived.Test.YtfmppncefbjicaaDoorMo
namespace Go.Proofs.YtfmppncefbjicaaDoor
set_option linter.unusedSimpArgs false
set_option linter.unusedVariables false
open Go.RowKit Go.Maps
attribute [local go_sem] i64_bit toNat_eq_one toNat_ne_one toNat_eq_zero toNat_ne_zero i64_and i64_or i64_andNot i64_or_pow i64_andNot_pow

/-- The reductions of a graph. -/
def redG (n : Nat) (r : Nat → Nat) : Option (List StZ) := (redT n r n).map fun q => q.2.2
def codS (x : Option (List StZ)) : Int := if x.isSome then 0 else 4
set_option maxRecDepth 20000 in
set_option maxHeartbeats 1000000 in
theorem Reduce_yes {n : Nat} {z : Nat → Int} {a : Option Addr} (cap : Nat) {w : World} (hI : IntsAt w a n z) (hz : InI64 z) (hT : Tab w) (hg : graphB n 8 z = true) :
    Calls Tryd.prog 32 #[.slice a n cap] w fun e w' => ∃ v, e = .returned (.tuple #[v, .int .i64 (codS (redG n (natG z)))]) ∧ StepsOwn 88 w' w.heap.size v ((redG n (natG z)).getD []) ∧ Below w.heap.size w w' := by
  have HN := Lib.hid (newTown_yes cap hI hz hT hg)
  have HT := Lib.hid hT
  have HTN := Lib.hid (Tn.of_graph hI hg)
  clear hI hT hg
  cases ho : redT n (natG z) n with
  | none =>
    have HG : Hid (redG n (natG z) = none) := Lib.hid (by unfold redG; rw [ho]; rfl)
    rw [HG.out]
    go_enter Tryd.func32, Tryd.ntmps32
    go_wp2_with fail
    go_at_call 68
    refine (HN.out).mono ?_
    rintro e w1 ⟨rfl, hb1⟩
    have HB1 := Lib.hid hb1
    clear hb1
    have HOO : Hid (Calls Tryd.prog 69 #[.slice a n cap] w1 fun e w' => e = .returned (.tuple #[.slice none 0 0, .bool false]) ∧ Below w1.heap.size w1 w') := Lib.hid ((reductions_any (HTN.out.below HB1.out) cap (HT.out.below HB1.out)).mono fun e w' ⟨h, hb⟩ => ⟨by unfold RedPost at h; rw [ho] at h; exact h, hb⟩)
    clear ho
    go_wp2_with fail
    go_at_call 69
    refine (HOO.out).mono ?_
    rintro e w2 ⟨rfl, hb2⟩
    have HB2 := Lib.hid (HB1.out.trans (hb2.mono HB1.out.size))
    clear hb2
    go_wp2_with fail
    go_ret2
    exact ⟨_, rfl, StepsOwn.nil _ _ _, HB2.out⟩
  | some q =>
    obtain ⟨f, left, L⟩ := q
    have HG : Hid (redG n (natG z) = some L) := Lib.hid (by unfold redG; rw [ho]; rfl)
    rw [HG.out]
    go_enter Tryd.func32, Tryd.ntmps32
    go_wp2_with fail
    go_at_call 68
    refine (HN.out).mono ?_
    rintro e w1 ⟨rfl, hb1⟩
    have HB1 := Lib.hid hb1
    clear hb1
    have HOO : Hid (Calls Tryd.prog 69 #[.slice a n cap] w1 fun e w' => ∃ v, e = .returned (.tuple #[v, .bool true]) ∧ StepsOwn 88 w' w1.heap.size v L ∧ Below w1.heap.size w1 w') := Lib.hid ((reductions_any (HTN.out.below HB1.out) cap (HT.out.below HB1.out)).mono fun e w' ⟨h, hb⟩ => by unfold RedPost at h; rw [ho] at h; obtain ⟨v, h1, h2⟩ := h; exact ⟨v, h1, h2, hb⟩)
    clear ho
    go_wp2_with fail
    go_at_call 69
    refine (HOO.out).mono ?_
    rintro e w2 ⟨v, rfl, hv, hb2⟩
    have HV := Lib.hid hv
    clear hv HOO
    have HB2 := Lib.hid (HB1.out.trans (hb2.mono HB1.out.size))
    clear hb2
    go_wp2_with fail
    go_ret2
    exact ⟨_, rfl, ownsRow_low HV.out HB1.out.size, HB2.out⟩
set_option maxRecDepth 20000 in
set_option maxHeartbeats 1000000 in
theorem Reduce_no {n : Nat} {z : Nat → Int} {a : Option Addr} (cap : Nat) {w : World} (hI : IntsAt w a n z) (hz : InI64 z) (hT : Tab w) (hg : graphB n 8 z = false) :
    Calls Tryd.prog 32 #[.slice a n cap] w fun e w' => e = .returned (.tuple #[.slice none 0 0, .int .i64 2]) ∧ Below w.heap.size w w' := by
  have HN := Lib.hid (newTown_no cap hI hz hT hg)
  clear hI hT
  go_enter Tryd.func32, Tryd.ntmps32
  go_wp2_with fail
  go_at_call 68
  refine (HN.out).mono ?_
  rintro e w1 ⟨rfl, hb1⟩
  go_wp2_with fail
  go_ret2
  exact ⟨rfl, hb1⟩
set_option maxRecDepth 20000 in
set_option maxHeartbeats 1000000 in
theorem CheckReduce_yes {n : Nat} {z : Nat → Int} {a : Option Addr} (ca : Nat) {w : World} {base : Nat} {v : Value} {L : List StZ} (hI : IntsAt w a n z) (hz : InI64 z) (hT : Tab w) (hg : graphB n 8 z = true) (hL : StepsOwn 88 w base v L) (hlen : L.length ≤ 1000) :
    Calls Tryd.prog 33 #[.slice a n ca, v] w fun e w' => e = .returned (.tuple #[.bool (areT n (natG z) (2 ^ n - 1) L), .int .i64 0]) ∧ Below w.heap.size w w' := by
  have HN := Lib.hid (newTown_yes ca hI hz hT hg)
  have HT := Lib.hid (Tn.of_graph hI hg)
  have HL := Lib.hid hL
  have HTB := Lib.hid hT
  obtain ⟨av, cv, hve⟩ := own_form hL
  clear hI hz hT hg hL
  subst hve
  go_enter Tryd.func33, Tryd.ntmps33
  go_wp2_with fail
  go_at_call 68
  refine (HN.out).mono ?_
  rintro e w1 ⟨rfl, hb1⟩
  have HB1 := Lib.hid hb1
  clear hb1
  go_wp2_with fail
  go_at_call 70
  refine (areReductions_any (HT.out.below HB1.out) ca (HL.out.below HB1.out) hlen (HTB.out.below HB1.out)).mono ?_
  rintro e w2 ⟨rfl, hb2⟩
  have HB2 := Lib.hid (HB1.out.trans (hb2.mono HB1.out.size))
  clear hb2
  go_wp2_with fail
  go_ret2
  exact ⟨rfl, HB2.out⟩
set_option maxRecDepth 20000 in
set_option maxHeartbeats 1000000 in
theorem CheckReduce_no {n : Nat} {z : Nat → Int} {a : Option Addr} (ca : Nat) {w : World} {v : Value} (hI : IntsAt w a n z) (hz : InI64 z) (hT : Tab w) (hg : graphB n 8 z = false) :
    Calls Tryd.prog 33 #[.slice a n ca, v] w fun e w' => e = .returned (.tuple #[.bool false, .int .i64 2]) ∧ Below w.heap.size w w' := by
  have HN := Lib.hid (newTown_no ca hI hz hT hg)
  clear hI hT
  go_enter Tryd.func33, Tryd.ntmps33
  go_wp2_with fail
  go_at_call 68
  refine (HN.out).mono ?_
  rintro e w1 ⟨rfl, hb1⟩
  go_wp2_with fail
  go_ret2
  exact ⟨rfl, hb1⟩

end Go.Proofs.YtfmppncefbjicaaDoor
