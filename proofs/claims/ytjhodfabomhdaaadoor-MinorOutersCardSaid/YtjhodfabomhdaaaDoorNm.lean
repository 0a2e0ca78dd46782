/- Package minor: the contracts of Outer, apex, Apex. -/
import Derived.Test.YtjhodfabomhdaaaDoorNl
namespace Go.Proofs.YtjhodfabomhdaaaDoor
set_option linter.unusedSimpArgs false
set_option linter.unusedVariables false
open Go.RowKit Go.Maps
attribute [local go_sem] i64_bit toNat_eq_one toNat_ne_one toNat_eq_zero toNat_ne_zero i64_and i64_or i64_andNot i64_or_pow i64_andNot_pow

/-- The first outer order of a graph. -/
def outG (n : Nat) (z : Nat → Int) : Option (List Nat) := outL n (natG z) n []
set_option maxRecDepth 20000 in
set_option maxHeartbeats 1000000 in
theorem Outer_yes {n : Nat} {z : Nat → Int} {a : Option Addr} (cap : Nat) {w : World} (hI : IntsAt w a n z) (hz : InI64 z) (hT : Tab w) (hg : graphB n 8 z = true) :
    Calls Tryd.prog 35 #[.slice a n cap] w fun e w' => ∃ v, e = .returned (.tuple #[v, .int .i64 (codE (outG n z))]) ∧ IntsOwn w' w.heap.size v (castL ((outG n z).getD [])) ∧ Below w.heap.size w w' := by
  have HN := Lib.hid (newTown_yes cap hI hz hT hg)
  have HT := Lib.hid hT
  have HTN := Lib.hid (Tn.of_graph hI hg)
  have hs := g_sym hg
  clear hI hT hg
  cases ho : outG n z with
  | none =>
    go_enter Tryd.func35, Tryd.ntmps35
    go_wp2_with fail
    go_at_call 62
    refine (HN.out).mono ?_
    rintro e w1 ⟨rfl, hb1⟩
    have HB1 := Lib.hid hb1
    clear hb1
    have HOO := Lib.hid (outerOrder_any (HTN.out.below HB1.out) cap (HT.out.below HB1.out) hs)
    rw [show outL n (natG z) n [] = none from ho] at HOO
    go_wp2_with fail
    go_at_call 66
    refine (HOO.out).mono ?_
    rintro e w2 ⟨v, rfl, hv, hb2⟩
    obtain ⟨av, cv, rfl⟩ := own_form hv
    clear hv HOO
    have HB2 := Lib.hid (HB1.out.trans (hb2.mono HB1.out.size))
    clear hb2
    go_wp2_with fail
    go_ret2
    exact ⟨_, rfl, IntsOwn.nil _ _, HB2.out⟩
  | some B =>
    go_enter Tryd.func35, Tryd.ntmps35
    go_wp2_with fail
    go_at_call 62
    refine (HN.out).mono ?_
    rintro e w1 ⟨rfl, hb1⟩
    have HB1 := Lib.hid hb1
    clear hb1
    have HOO := Lib.hid (outerOrder_any (HTN.out.below HB1.out) cap (HT.out.below HB1.out) hs)
    rw [show outL n (natG z) n [] = some B from ho] at HOO
    go_wp2_with fail
    go_at_call 66
    refine (HOO.out).mono ?_
    rintro e w2 ⟨v, rfl, hv, hb2⟩
    have HV := Lib.hid hv
    clear hv HOO
    have HB2 := Lib.hid (HB1.out.trans (hb2.mono HB1.out.size))
    clear hb2
    have hs1 := HB1.out.size
    go_wp2_with fail
    go_ret2
    exact ⟨_, rfl, ownsRow_base HV.out hs1, HB2.out⟩
set_option maxRecDepth 20000 in
set_option maxHeartbeats 1000000 in
theorem Outer_no {n : Nat} {z : Nat → Int} {a : Option Addr} (cap : Nat) {w : World} (hI : IntsAt w a n z) (hz : InI64 z) (hT : Tab w) (hg : graphB n 8 z = false) :
    Calls Tryd.prog 35 #[.slice a n cap] w fun e w' => e = .returned (.tuple #[.slice none 0 0, .int .i64 2]) ∧ Below w.heap.size w w' := by
  have HN := Lib.hid (newTown_no cap hI hz hT hg)
  clear hI hT
  go_enter Tryd.func35, Tryd.ntmps35
  go_wp2_with fail
  go_at_call 62
  refine (HN.out).mono ?_
  rintro e w1 ⟨rfl, hb1⟩
  go_wp2_with fail
  go_ret2
  exact ⟨rfl, hb1⟩

/-- Whether there is an outer order without a node; the least such node. -/
def apxB (n : Nat) (z : Nat → Int) (v : Nat) : Bool := (outG (n - 1) (woZ z v)).isSome
def apxL (n : Nat) (z : Nat → Int) : Option Nat := if n = 1 then some 0 else (List.range n).find? (apxB n z)
theorem find_not {p : Nat → Bool} {n : Nat} (h : ∀ i, i < n → p i = false) : (List.range n).find? p = none := by
  rw [List.find?_eq_none]
  intro x hx
  rw [h x (List.mem_range.1 hx)]; simp
theorem find_first {p : Nat → Bool} {n v : Nat} (hv : v < n) (hp : p v = true) (h : ∀ i, i < v → p i = false) : (List.range n).find? p = some v := by
  cases hf : (List.range n).find? p with
  | none =>
    rw [List.find?_eq_none] at hf
    exact absurd hp (hf v (List.mem_range.2 hv))
  | some x =>
    have h1 := List.find?_some hf
    rcases Nat.lt_trichotomy x v with h2 | h2 | h2
    · rw [h x h2] at h1; cases h1
    · rw [h2]
    · exfalso
      have h3 := (List.find?_eq_some_iff_append.1 hf).2
      obtain ⟨la, lb, h4, h5⟩ := h3
      have hm : v ∈ la := by
        have h6 : (List.range n).Pairwise (· < ·) := List.pairwise_lt_range
        have h7 : v ∈ List.range n := List.mem_range.2 hv
        rw [h4] at h6 h7
        rcases List.mem_append.1 h7 with h8 | h8
        · exact h8
        · rcases List.mem_cons.1 h8 with h9 | h9
          · omega
          · have := (List.pairwise_cons.1 (List.pairwise_append.1 h6).2.1).1 v h9
            omega
      have := h5 v hm
      rw [hp] at this
      simp at this

set_option maxRecDepth 20000 in
set_option maxHeartbeats 2000000 in
theorem apex_any {n : Nat} {z : Nat → Int} {a : Option Addr} (cap : Nat) {w : World} (hI : IntsAt w a n z) (hz : InI64 z) (hT : Tab w) (hg : graphB n 8 z = true) :
    Calls Tryd.prog 71 #[.slice a n cap] w fun e w' => e = .returned (.tuple #[.int .i64 ((apxL n z).getD 0 : Nat), .bool (apxL n z).isSome]) ∧ Below w.heap.size w w' := by
  have hn := graphB_le hg
  have hml := hI.1
  unfold maxLen at hml
  have HI := Lib.hid hI
  have HT := Lib.hid hT
  have HG := Lib.hid hg
  clear hI hT hg
  by_cases h1 : n = 1
  · subst h1
    have HX : Hid (apxL 1 z = some 0) := Lib.hid (by unfold apxL; rw [if_pos rfl])
    generalize apxL 1 z = X at *
    go_enter Tryd.func71, Tryd.ntmps71
    go_wp2_with fail
    go_ret2
    rw [HX.out]
    exact ⟨rfl, Below.refl _ _⟩
  · have h2 : 2 ≤ n := by omega
    have hq : ((n : Int) == 1) = false := by rw [beq_eq_false_iff_ne]; omega
    have hq2 : (n == 1) = false := by rw [beq_eq_false_iff_ne]; omega
    have HX : Hid (apxL n z = (List.range n).find? (apxB n z)) := Lib.hid (by unfold apxL; rw [if_neg h1])
    obtain ⟨X, hX⟩ : ∃ X, X = apxL n z := ⟨_, rfl⟩
    rw [← hX] at HX ⊢
    clear hX h1
    go_enter Tryd.func71, Tryd.ntmps71
    go_wp2_with fail
    go_loopw [12] (fun ix wr => ∃ v : Nat, v ≤ n ∧ ix = .int .i64 v ∧ (∀ i, i < v → apxB n z i = false) ∧ Below w.heap.size w wr) (fun ix _ => n - (intOf ix).toNat)
    case atStart => exact ⟨0, Nat.zero_le _, rfl, fun i hi => by omega, Below.refl _ _⟩
    case round =>
      obtain ⟨v, hv, rfl, hno, hb⟩ := hrel
      have HNO := Lib.hid hno
      have HB := Lib.hid hb
      clear hno hb
      by_cases hlt : v < n
      · have hdi : decide ((v : Int) < (n : Int)) = true := decide_eq_true (by omega)
        have hdn : decide (v < n) = true := decide_eq_true hlt
        go_wp2_with fail
        go_at_call 73
        refine (minorWithout_any (HI.out.below HB.out) hlt (by omega) (graph_bd HG.out)).mono ?_
        rintro e w1 ⟨⟨u, rfl, hu⟩, hb1⟩
        obtain ⟨g, c, rfl, _, _⟩ := own_form' hu (by omega)
        have HB1 := Lib.hid (HB.out.trans (hb1.mono HB.out.size))
        have hdg := del_graph HG.out h2 hlt
        have HOO := Lib.hid (outerOrder_any (Tn.of_graph (WoOwn.ints' hu (by omega)) hdg) c (HT.out.below HB1.out) (g_sym hdg))
        rw [show outL (n - 1) (natG (woZ z v)) (n - 1) [] = outG (n - 1) (woZ z v) from rfl] at HOO
        clear hu hb1 hdg
        cases hap : apxB n z v
        · have hap2 := hap
          unfold apxB at hap2
          rw [hap2] at HOO
          have HNX := Lib.hid (show ∀ i, i < v + 1 → apxB n z i = false from fun i hi => by
            by_cases e : i = v
            · subst e; exact hap
            · exact HNO.out i (by omega))
          clear hap hap2
          go_wp2_with fail
          go_at_call 66
          refine (HOO.out).mono ?_
          rintro e w2 ⟨v2, rfl, hv2, hb2⟩
          clear hv2 HOO
          have HB2 := Lib.hid (HB1.out.trans (hb2.mono HB1.out.size))
          clear hb2
          go_wp2_with fail
          go_roundw
          case rel => exact ⟨v + 1, by omega, by go_num, HNX.out, HB2.out⟩
          case measure => simp [intOf]; omega
        · have hap2 := hap
          unfold apxB at hap2
          rw [hap2] at HOO
          have HXX := Lib.hid (HX.out.trans (find_first hlt hap HNO.out))
          clear hap hap2
          go_wp2_with fail
          go_at_call 66
          refine (HOO.out).mono ?_
          rintro e w2 ⟨v2, rfl, hv2, hb2⟩
          clear hv2 HOO
          have HB2 := Lib.hid (HB1.out.trans (hb2.mono HB1.out.size))
          clear hb2
          go_wp2_with fail
          go_ret2
          rw [HXX.out]
          exact ⟨rfl, HB2.out⟩
      · have hve : v = n := by omega
        have HXX := Lib.hid (HX.out.trans (find_not fun i hi => HNO.out i (by omega)))
        clear hve
        go_wp2_with fail
        go_ret2
        rw [HXX.out]
        exact ⟨rfl, HB.out⟩

/-- The code that Apex returns. -/
def codA (o : Option Nat) : Int := match o with | some _ => 0 | none => 4
set_option maxRecDepth 20000 in
set_option maxHeartbeats 1000000 in
theorem Apex_yes {n : Nat} {z : Nat → Int} {a : Option Addr} (cap : Nat) {w : World} (hI : IntsAt w a n z) (hz : InI64 z) (hT : Tab w) (hg : graphB n 8 z = true) :
    Calls Tryd.prog 40 #[.slice a n cap] w fun e w' => e = .returned (.tuple #[.int .i64 ((apxL n z).getD 0 : Nat), .int .i64 (codA (apxL n z))]) ∧ Below w.heap.size w w' := by
  have HN := Lib.hid (newTown_yes cap hI hz hT hg)
  have HT := Lib.hid hT
  have HI := Lib.hid hI
  have HG := Lib.hid hg
  clear hI hT hg
  cases ho : apxL n z with
  | none =>
    go_enter Tryd.func40, Tryd.ntmps40
    go_wp2_with fail
    go_at_call 62
    refine (HN.out).mono ?_
    rintro e w1 ⟨rfl, hb1⟩
    have HB1 := Lib.hid hb1
    clear hb1
    have HOO := Lib.hid (apex_any cap (HI.out.below HB1.out) hz (HT.out.below HB1.out) HG.out)
    rw [ho] at HOO
    go_wp2_with fail
    go_at_call 71
    refine (HOO.out).mono ?_
    rintro e w2 ⟨rfl, hb2⟩
    have HB2 := Lib.hid (HB1.out.trans (hb2.mono HB1.out.size))
    clear hb2
    go_wp2_with fail
    go_ret2
    exact ⟨rfl, HB2.out⟩
  | some v =>
    go_enter Tryd.func40, Tryd.ntmps40
    go_wp2_with fail
    go_at_call 62
    refine (HN.out).mono ?_
    rintro e w1 ⟨rfl, hb1⟩
    have HB1 := Lib.hid hb1
    clear hb1
    have HOO := Lib.hid (apex_any cap (HI.out.below HB1.out) hz (HT.out.below HB1.out) HG.out)
    rw [ho] at HOO
    go_wp2_with fail
    go_at_call 71
    refine (HOO.out).mono ?_
    rintro e w2 ⟨rfl, hb2⟩
    have HB2 := Lib.hid (HB1.out.trans (hb2.mono HB1.out.size))
    clear hb2
    go_wp2_with fail
    go_ret2
    exact ⟨rfl, HB2.out⟩
set_option maxRecDepth 20000 in
set_option maxHeartbeats 1000000 in
theorem Apex_no {n : Nat} {z : Nat → Int} {a : Option Addr} (cap : Nat) {w : World} (hI : IntsAt w a n z) (hz : InI64 z) (hT : Tab w) (hg : graphB n 8 z = false) :
    Calls Tryd.prog 40 #[.slice a n cap] w fun e w' => e = .returned (.tuple #[.int .i64 0, .int .i64 2]) ∧ Below w.heap.size w w' := by
  have HN := Lib.hid (newTown_no cap hI hz hT hg)
  clear hI hT
  go_enter Tryd.func40, Tryd.ntmps40
  go_wp2_with fail
  go_at_call 62
  refine (HN.out).mono ?_
  rintro e w1 ⟨rfl, hb1⟩
  go_wp2_with fail
  go_ret2
  exact ⟨rfl, hb1⟩

end Go.Proofs.YtjhodfabomhdaaaDoor
