/- Package minor: the contracts of bits.TrailingZeros, first, has, all, count, isSet, isNode; the iterator over the nodes of a set (made by mkmi.py). -/
import Derived.Test.YtfmppncefbjicaaDoorRows
import Derived.Test.YtfmppncefbjicaaDoorRa
import Derived.Test.YtfmppncefbjicaaDoorW0
import Derived.Test.YtfmppncefbjicaaDoorW1
import Derived.Lib.LaidTab
import Derived.Lib.SmallJoins
namespace Go.Proofs.YtfmppncefbjicaaDoor
set_option linter.unusedSimpArgs false
set_option linter.unusedVariables false
open Go.RowKit Go.Maps
attribute [local go_sem] i64_bit toNat_eq_one toNat_ne_one toNat_eq_zero toNat_ne_zero i64_and i64_or i64_andNot i64_or_pow i64_andNot_pow

/-- The table of bits.TrailingZeros64, as its initialiser lays it. -/
def dbTab : List Int := [0, 1, 56, 2, 57, 49, 28, 3, 61, 58, 42, 50, 38, 29, 17, 4, 62, 47, 59, 36, 45, 43, 51, 22, 53, 39, 33, 30, 24, 18, 12, 5,
  63, 55, 48, 27, 60, 41, 37, 16, 46, 35, 44, 21, 52, 32, 23, 11, 54, 26, 40, 15, 34, 20, 31, 10, 25, 14, 19, 9, 13, 8, 7, 6]
def HasTab (w : World) : Prop := Lib.TabIs Tryd.prog w "math/bits.deBruijn64tab" .u8 dbTab
theorem gTab : Tryd.prog.globalNamed "math/bits.deBruijn64tab" = some 1 := by kernel_rfl
theorem HasTab.below {w w' : World} (h : HasTab w) (hb : Below w.heap.size w w') : HasTab w' := Joins.tab_stays gTab h hb (Nat.le_refl _)
theorem HasTab.cells {w : World} (h : HasTab w) : ∀ i, i < 64 → w.cell? ⟨1, i, none⟩ = some (.int .u8 (dbTab.getD i 0)) := fun i hi => Lib.TabIs.cell h gTab i hi

/-- The table as cells. -/
def Tab (w : World) : Prop := 1 < w.heap.size ∧ ∀ i, i < 64 → w.cell? ⟨1, i, none⟩ = some (.int .u8 (dbTab.getD i 0))
theorem Tab.of {w : World} (h : HasTab w) : Tab w := ⟨by
  have := h.cells 0 (by omega)
  unfold World.cell? at this
  apply Classical.byContradiction
  intro hn
  simp [show w.heap[1]? = none from by simp; omega] at this, h.cells⟩
theorem Tab.below {w w' : World} (h : Tab w) (hb : Below w.heap.size w w') : Tab w' := ⟨Nat.lt_of_lt_of_le h.1 hb.size, fun i hi => (hb.cell (p := ⟨1, i, none⟩) h.1).trans (h.2 i hi)⟩
theorem Tab.put (W : World) (l : Nat) (o o' : Obj) (hl : W.heap[l]? = some o) (ho : o.isCells = false) (h : Tab W) : Tab (W.putObj l o') := by
  have hne : l ≠ 1 := fun e => by
    subst e
    have := h.2 0 (by omega)
    unfold World.cell? at this
    rw [hl] at this
    cases o <;> simp_all [Obj.isCells]
  refine ⟨by simpa using h.1, fun i hi => ?_⟩
  rw [← h.2 i hi]
  unfold World.cell?
  rw [World.putObj_heap_other (show 1 ≠ l from fun e => hne e.symm)]

theorem dbIx_all : ∀ x : Nat, x < 1024 → 0 ≤ IntKind.u64.wrap (bits BinOp.and IntKind.u64 (x : Int) (IntKind.u64.wrap (-(x : Int))) * 285870213051353865) / 288230376151711744 ∧
    IntKind.u64.wrap (bits BinOp.and IntKind.u64 (x : Int) (IntKind.u64.wrap (-(x : Int))) * 285870213051353865) / 288230376151711744 < 64 := by decide +kernel

set_option maxRecDepth 20000 in
set_option maxHeartbeats 4000000 in
theorem tz64_any (x : Nat) (hx : x < 1024) (h0 : 0 < x) (w : World) (h : Tab w) :
    Calls Tryd.prog 119 #[.int .u64 x] w fun e w' => e = .returned (.int .i64 (lowN x : Nat)) ∧ w = w' := by
  have hc := h.2
  obtain ⟨hi0, hi1⟩ := dbIx_all x hx
  go_enter Tryd.func119, Tryd.ntmps119
  go_wp2_with fail
  go_ret
  refine ⟨?_, rfl⟩
  refine congrArg (fun t => Ending.returned (Value.int IntKind.i64 t)) ?_
  clear hc h hi0 hi1
  revert x
  decide +kernel
set_option maxRecDepth 20000 in
set_option maxHeartbeats 4000000 in
theorem tz_any (x : Nat) (hx : x < 1024) (h0 : 0 < x) (w : World) (h : Tab w) :
    Calls Tryd.prog 114 #[.int .u64 x] w fun e w' => e = .returned (.int .i64 (lowN x : Nat)) ∧ w = w' := by
  go_enter Tryd.func114, Tryd.ntmps114
  go_wp2_with (go_at_call 119; refine (tz64_any x hx h0 _ h).mono ?_; rintro e w1 ⟨rfl, rfl⟩)
  go_ret
  exact ⟨rfl, rfl⟩
theorem first_any (x : Nat) (hx : x < 1024) (h0 : 0 < x) (w : World) (h : Tab w) :
    Calls Tryd.prog 105 #[.int .i64 x] w fun e w' => e = .returned (.int .i64 (lowN x : Nat)) ∧ w = w' := by
  go_enter Tryd.func105, Tryd.ntmps105
  go_wp2_with (go_at_call 114; refine (tz_any x hx h0 _ h).mono ?_; rintro e w1 ⟨rfl, rfl⟩)
  go_ret
  exact ⟨rfl, rfl⟩

theorem has_any (s v : Nat) (w : World) (hs : s < 65536) (hv : v < 64) :
    Calls Tryd.prog 92 #[.int .i64 s, .int .i64 v] w fun e w' => e = .returned (.bool (s.testBit v)) ∧ w = w' := by
  go_enter Tryd.func92, Tryd.ntmps92
  go_wp2
  go_ret
  exact ⟨rfl, rfl⟩
theorem all_any0 (a : Option Addr) (n cap : Nat) (w : World) (hn : n < 16) :
    Calls Tryd.prog 85 #[.slice a n cap] w fun e w' => e = .returned (.int .i64 (2 ^ n - 1)) ∧ w = w' := by
  obtain ⟨h1, h2⟩ := pow_bd n hn
  go_enter Tryd.func85, Tryd.ntmps85
  go_wp2
  go_ret
  exact ⟨rfl, rfl⟩
theorem pow_pred (n : Nat) : ((2 : Int) ^ n - 1) = ((2 ^ n - 1 : Nat) : Int) := by
  rw [pow_cast]
  have h1 : 1 ≤ 2 ^ n := Nat.one_le_two_pow
  generalize 2 ^ n = p at *
  omega
theorem all_any (a : Option Addr) (n cap : Nat) (w : World) (hn : n < 16) :
    Calls Tryd.prog 85 #[.slice a n cap] w fun e w' => e = .returned (.int .i64 (2 ^ n - 1 : Nat)) ∧ w = w' := by
  rw [← pow_pred]; exact all_any0 a n cap w hn

theorem nodes_any (s : Nat) (w : World) :
    Calls Tryd.prog 93 #[.int .i64 s] w fun e w' => e = .returned (.func (.func 109) #[] #[.pointer (some ⟨w.heap.size, 0, none⟩)]) ∧ w' = w.alloc (.cells #[.int .i64 s] 3) := by
  go_enter Tryd.func93, Tryd.ntmps93
  go_wp2
  go_ret
  exact ⟨rfl, rfl⟩

section
attribute [local go_sem] Oper.semAt_some
set_option maxRecDepth 100000 in
set_option maxHeartbeats 2000000 in
theorem nodes_seq (s : Nat) (hs : s < 1024) (B : Nat) (w0 : World) (hB : B < w0.heap.size) (hc : w0.cell? ⟨B, 0, none⟩ = some (.int .i64 s)) (hT : Tab w0) :
    NodeSeq Tryd.prog 109 #[.pointer (some ⟨B, 0, none⟩)] (bitsOf s) Tab w0 := by
  intro l J Jx W hW hJ hJx hY h0
  have hTW := hT.below hW
  have hcW : W.cell? ⟨B, 0, none⟩ = some (.int .i64 s) := (hW.cell (p := ⟨B, 0, none⟩) hB).trans hc
  refine callsIn_of_wp Tryd.func109 rfl trivial ?_ rfl
  simp only [Tryd.ntmps109, List.size_toArray, List.length_cons, List.length_nil, Nat.reduceAdd, Nat.reduceSub, Array.replicate_succ, Array.replicate_zero, List.push_toArray, List.append_toArray, List.nil_append, List.cons_append]
  gi_wp2
  gi_loopw [3] (fun p wr => ∃ (pre : List { v : Nat // v ∈ bitsOf s }) (rest : Nat), p = .int .i64 (rest : Nat) ∧ rest < 1024 ∧ pre.map (·.1) ++ bitsOf rest = bitsOf s ∧ J pre wr ∧ Tab wr) (fun p _ => (intOf p).toNat)
  case atStart => exact ⟨[], s, rfl, hs, rfl, h0, hTW⟩
  case round =>
    obtain ⟨pre, rest, rfl, hr, hL, hJr, hTr⟩ := hrel
    clear hcW hTW
    by_cases h0r : rest = 0
    · subst h0r
      have hL' : pre.map (·.1) = bitsOf s := by have h := hL; rw [bitsOf_zero, List.append_nil] at h; exact h
      gi_wp2
      go_end0
      exact ⟨⟨_, rfl⟩, .inl ⟨pre, hL', hJr⟩⟩
    · have hpos : 0 < rest := by omega
      obtain ⟨hb1, hb2⟩ := bitsOf_all rest hr hpos
      have hmem : lowN rest ∈ bitsOf s := by rw [← hL, hb1]; simp
      have hlen : pre.length < (bitsOf s).length := by have h := congrArg List.length hL; rw [hb1] at h; simp at h; omega
      obtain ⟨fn, tmps, assign, body, hy, hR⟩ := hY pre ⟨lowN rest, hmem⟩ wr hJr hlen
      have hand : bits .and .i64 (rest : Int) ((rest : Int) - 1) = ((rest &&& (rest - 1) : Nat) : Int) := by
        have := i64_and rest (rest - 1) (by omega) (by omega)
        rwa [show ((rest - 1 : Nat) : Int) = (rest : Int) - 1 by omega] at this
      have HL := Lib.hid hL
      have HB1 := Lib.hid hb1
      have HB2 := Lib.hid hb2
      clear hL hb1 hb2
      have hne : decide ((rest : Int) = 0) = false := by simp; omega
      gi_wp2_with (refine ⟨trivial, ?_⟩; gi_at_call 105; refine (callsIn_wide.2 (first_any rest hr hpos _ hTr)).mono ?_; rintro e w1 ⟨rfl, rfl⟩)
      refine hR.mono ?_
      rintro e W3 (⟨rfl, hJ3, hk3⟩ | ⟨rfl, hJx3⟩)
      · gi_wp2
        go_roundw
        case rel => exact ⟨pre ++ [⟨lowN rest, hmem⟩], rest &&& (rest - 1), rfl, Nat.lt_trans HB2.out hr, by have h := HL.out; rw [HB1.out] at h; rw [List.map_append, List.append_assoc]; exact h, hJ3, hk3 hTr⟩
        case measure => simpa [intOf] using HB2.out
      · gi_wp2
        refine bodyPost_ret (results_none rfl _ _ _) rfl ?_
        exact ⟨⟨_, rfl⟩, .inr ⟨pre ++ [⟨lowN rest, hmem⟩], ⟨bitsOf (rest &&& (rest - 1)), by have h := HL.out; rw [HB1.out] at h; rw [List.map_append, List.append_assoc]; exact h⟩, hJx3⟩⟩
end

set_option maxRecDepth 20000 in
set_option maxHeartbeats 4000000 in
theorem ones64_any (x : Nat) (hx : x < 512) (w : World) :
    Calls Tryd.prog 121 #[.int .u64 x] w fun e w' => e = .returned (.int .i64 (szS 9 x : Nat)) ∧ w = w' := by
  go_enter Tryd.func121, Tryd.ntmps121
  go_wp2
  go_ret
  refine ⟨?_, rfl⟩
  refine congrArg (fun t => Ending.returned (Value.int IntKind.i64 t)) ?_
  revert x
  decide +kernel
set_option maxRecDepth 20000 in
set_option maxHeartbeats 4000000 in
theorem ones_any (x : Nat) (hx : x < 512) (w : World) :
    Calls Tryd.prog 115 #[.int .u64 x] w fun e w' => e = .returned (.int .i64 (szS 9 x : Nat)) ∧ w = w' := by
  go_enter Tryd.func115, Tryd.ntmps115
  go_wp2_with (go_at_call 121; refine (ones64_any x hx _).mono ?_; rintro e w1 ⟨rfl, rfl⟩)
  go_ret
  exact ⟨rfl, rfl⟩

theorem szS_more {n T : Nat} (hT : T < 2 ^ n) : ∀ k, szS (n + k) T = szS n T
  | 0 => rfl
  | k + 1 => by
    have ih := szS_more hT k
    have h0 : T.testBit (n + k) = false := Nat.testBit_lt_two_pow (Nat.lt_of_lt_of_le hT (Nat.pow_le_pow_right (by omega) (by omega)))
    show szS (n + k + 1) T = _
    rw [← ih]
    unfold szS
    rw [List.range_succ, List.countP_append]
    simp [h0]
theorem szS_nine {n T : Nat} (hn : n ≤ 9) (hT : T < 2 ^ n) : szS 9 T = szS n T := by
  have := szS_more hT (9 - n)
  rwa [show n + (9 - n) = 9 by omega] at this
theorem pow_le9 {n : Nat} (h : n ≤ 9) : 2 ^ n ≤ 512 := by
  have : 2 ^ n ≤ 2 ^ 9 := Nat.pow_le_pow_right (by omega) h
  simpa using this

set_option maxRecDepth 20000 in
set_option maxHeartbeats 1000000 in
theorem count_any {n : Nat} (hn : n ≤ 9) (x : Nat) (hx : x < 2 ^ n) (w : World) :
    Calls Tryd.prog 108 #[.int .i64 x] w fun e w' => e = .returned (.int .i64 (szS n x : Nat)) ∧ w = w' := by
  have h9 := pow_le9 hn
  have hx9 : x < 512 := by omega
  have HS := Lib.hid (szS_nine hn hx)
  clear hx h9
  go_enter Tryd.func108, Tryd.ntmps108
  go_wp2_with (go_at_call 115; refine (ones_any x hx9 _).mono ?_; rintro e w1 ⟨rfl, rfl⟩)
  go_ret
  exact ⟨by rw [HS.out]; rfl, rfl⟩

set_option maxHeartbeats 400000 in
theorem isSet_any (a : Option Addr) (n cap : Nat) (v : Int) (w : World) (hn : n < 16) :
    Calls Tryd.prog 91 #[.slice a n cap, .int .i64 v] w fun e w' => e = .returned (.bool (inB v (2^n))) ∧ w = w' := by
  obtain ⟨h1, h2⟩ := pow_bd n hn
  by_cases h0 : 0 ≤ v
  · go_enter Tryd.func91, Tryd.ntmps91
    go_wp2_with (go_at_call 85; refine (all_any0 _ _ _ _ hn).mono ?_; rintro e w' ⟨rfl, rfl⟩)
    go_ret
    refine ⟨?_, rfl⟩
    show Ending.returned (Value.bool (decide (v ≤ 2 ^ n - 1))) = _
    unfold inB; congr 2; apply decide_eq_decide.2; omega
  · go_enter Tryd.func91, Tryd.ntmps91
    go_wp2
    go_ret
    refine ⟨?_, rfl⟩
    show Ending.returned (Value.bool false) = _
    rw [inB_false (by omega)]

set_option maxHeartbeats 400000 in
theorem isNode_any (a : Option Addr) (n cap : Nat) (v : Int) (w : World) (hn : n < 16) :
    Calls Tryd.prog 78 #[.slice a n cap, .int .i64 v] w fun e w' => e = .returned (.bool (inB v n)) ∧ w = w' := by
  by_cases h0 : 0 ≤ v
  all_goals
    go_enter Tryd.func78, Tryd.ntmps78
    go_wp2
    go_ret
    refine ⟨?_, rfl⟩
  · show Ending.returned (Value.bool (decide (v < n))) = _
    unfold inB; congr 2; apply decide_eq_decide.2; omega
  · show Ending.returned (Value.bool false) = _
    rw [inB_false (by omega)]

end Go.Proofs.YtfmppncefbjicaaDoor
