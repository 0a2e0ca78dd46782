/- Package minor: the contracts of reaches, of newPair, of the width; the search for a model. -/
import Derived.Test.YtfmppncefbjicaaDoorMc
import Derived.Test.YtfmppncefbjicaaDoorWdW12
import Derived.Deep.RegionLaw
import Derived.Maps.OwnIn
namespace Go.Proofs.YtfmppncefbjicaaDoor
set_option linter.unusedSimpArgs false
set_option linter.unusedVariables false
open Go.RowKit Go.Maps
attribute [local go_sem] i64_bit toNat_eq_one toNat_ne_one toNat_eq_zero toNat_ne_zero i64_and i64_or i64_andNot i64_or_pow i64_andNot_pow

/-! ### numbers of one's own -/

def IntsOwn (w : World) (base : Nat) (v : Value) (L : List Int) : Prop := w.ownsRow base 3 1 v L.length (L.map fun x => Value.int .i64 x)
def castL (M : List Nat) : List Int := M.map fun (m : Nat) => (m : Int)
theorem castL_app (M : List Nat) (x : Nat) : castL (M ++ [x]) = castL M ++ [(x : Int)] := by simp [castL]
theorem castL_len (M : List Nat) : (castL M).length = M.length := by simp [castL]
def natL (B : List Nat) (i : Nat) : Int := ((B.getD i 0 : Nat) : Int)
theorem IntsOwn.at_ {w : World} {base : Nat} {v : Value} {B : List Nat} (h : IntsOwn w base v (castL B)) (hl : B.length ≤ 65536) : ∃ a c, v = .slice a B.length c ∧ IntsAt w a B.length (natL B) := by
  by_cases h0 : B.length = 0
  · obtain ⟨a, c, rfl⟩ := own_form h
    refine ⟨a, c, by rw [castL_len], by unfold maxLen; omega, fun h => absurd h (by omega)⟩
  · obtain ⟨g, c, rfl, _, hlt⟩ := own_form' h (by rw [castL_len]; exact h0)
    refine ⟨_, c, by rw [castL_len], by unfold maxLen; omega, fun _ => ⟨g, 0, rfl, hlt, fun i hi => ?_⟩⟩
    rw [Nat.zero_add, World.ownsRow.cellAt h i (by rw [castL_len]; omega)]
    unfold castL natL
    simp [hi]
theorem IntsOwn.nil (w : World) (base : Nat) : IntsOwn w base (.slice none 0 0) [] := ⟨rfl, .inl ⟨rfl, rfl⟩⟩
theorem IntsOwn.below {w w' : World} {base : Nat} {v : Value} {L : List Int} (h : IntsOwn w base v L) (hb : Below w.heap.size w w') : IntsOwn w' base v L := ownsRow_below h hb (Nat.le_refl _)
theorem grown_of_alloc {w w' : World} {o : Obj} {row : Option Nat} (h : (w.alloc o).grownBy w' row) : w.grownBy w' row :=
  ⟨h.os, h.tape, h.output, Nat.le_trans (by simp) h.size, fun k hk hr => (h.block k (by simp; omega) hr).trans (Below.heap_alloc _ _ _ hk)⟩
theorem below_of_own {w w' : World} {base : Nat} {v : Value} {L : List Int} (h : IntsOwn w base v L) (hb : base ≤ w.heap.size) (hg : w.grownBy w' v.ownBlock) : Below base w w' :=
  (Below.refl base w).grown hg hb fun k hk => (World.ownsRow.lt h k hk).1

section
variable {ops : Array Oper} {rest : List Oper} {o : Oper} {a : Act} {Q : Exit → Act → World → Prop} {w : World}
theorem wpList_app_int (base : Nat) (L : List Int) (x : Int) (v : Value) (hgd : o.guard = none) (s y : Operand)
    (ho : o.op = .call { callee := .builtin .append, args := #[s, y], argTypes := #[22, 22] }) (hs : a.eval s = v) (hown : IntsOwn w base v L) (hx : a.eval y = .slice (some ⟨w.heap.size, 0, none⟩) 1 1)
    (hlen : L.length ≤ 65536) (hbase : base ≤ w.heap.size)
    (h : ∀ v' w', IntsOwn w' base v' (L ++ [x]) → Below base w w' → w.grownBy w' v.ownBlock → wpList Tryd.prog ops Q rest (a.put o.dst v') w') : wpList Tryd.prog ops Q (o :: rest) a (w.alloc (.cells #[.int .i64 x] 3)) := by
  obtain ⟨i0, hi0, hz1, hz2, hz3⟩ := info_parts info_int
  refine wpList_append_own _ hgd s y _ ho base 3 i0 (.int .i64 0) 1 8 Tryd.underlying22 hi0 hz1 hz2 hz3 rfl (by decide) v _ _ hs (World.ownsRow.alloc hown _) ⟨w.heap.size, 0, none⟩ 1 1 [.int .i64 x] hx rfl (cells_new _ _ _) (by intro u hu; simp at hu; subst hu; rfl) (by unfold maxLen; omega) (by omega) (Nat.le_trans hbase (by simp)) ?_
  intro v' w' h1 h2 _
  have hg := grown_of_alloc h2
  refine h v' w' ?_ (below_of_own hown hbase hg) hg
  unfold IntsOwn
  rw [List.length_append, List.map_append]
  exact h1
end
/-- Such a slice cut. -/
theorem IntsOwn.cut {w : World} {base g c : Nat} {L L' : List Int} (h : IntsOwn w base (.slice (some ⟨g, 0, none⟩) (L ++ L').length c) (L ++ L')) : IntsOwn w base (.slice (some ⟨g, 0, none⟩) L.length c) L := by
  refine ⟨by simp, .inr ?_⟩
  rcases h.2 with ⟨hv, _⟩ | ⟨g', c', cur, hv, h1, h2, h3, h4, h5, h6⟩
  · simp at hv
  · simp only [Value.slice.injEq, Option.some.injEq, Addr.mk.injEq] at hv
    obtain ⟨⟨rfl, _⟩, _, rfl⟩ := hv
    refine ⟨g, c, cur, rfl, h1, h2, ?_, h4, h5, ?_⟩
    · rw [List.length_append] at h3; omega
    · have := congrArg (List.take L.length) h6
      rw [List.map_append, List.take_left' (by simp)] at this
      rw [← this, List.take_take]
      congr 1
      rw [List.length_append]; omega

/-! ### reaches -/

/-- Whether a set has a neighbour in each of some sets whose index is in another set. -/
def rchB (r : Nat → Nat) (s near : Nat) (B : List Nat) : Bool := (List.range B.length).all fun i => !near.testBit i || (aroN r s &&& B.getD i 0) != 0
theorem rchB_no {r : Nat → Nat} {s near : Nat} {B : List Nat} {i : Nat} (hi : i < B.length) (h1 : near.testBit i = true) (h2 : aroN r s &&& B.getD i 0 = 0) : rchB r s near B = false := by
  unfold rchB
  rw [List.all_eq_false]
  exact ⟨i, List.mem_range.2 hi, by rw [h1, h2]; simp⟩
theorem rchB_yes {r : Nat → Nat} {s near : Nat} {B : List Nat} (h : ∀ i, i < B.length → near.testBit i = true → aroN r s &&& B.getD i 0 ≠ 0) : rchB r s near B = true := by
  unfold rchB
  rw [List.all_eq_true]
  intro i hi
  cases hb : near.testBit i
  · rfl
  · have := h i (List.mem_range.1 hi) hb
    simpa using this

set_option maxRecDepth 20000 in
set_option maxHeartbeats 2000000 in
theorem reaches_any {n : Nat} {r : Nat → Nat} {a : Option Addr} {w : World} (G : Tn w a n r) (cap s near : Nat) (hs : s < 2 ^ n) (hnear : near < 65536) (hT : Tab w) {B : List Nat} {ab : Option Addr} (cb : Nat) (hI : IntsAt w ab B.length (natL B)) (hB : ∀ x ∈ B, x < 2 ^ n) (hBl : B.length ≤ 60) :
    Calls Tryd.prog 88 #[.slice a n cap, .int .i64 s, .int .i64 near, .slice ab B.length cb] w fun e w' => e = .returned (.bool (rchB r s near B)) ∧ Below w.heap.size w w' := by
  have hn8 := G.le
  have h8 := pow_le8 hn8
  have HAR := Lib.hid (around_any G cap s hs hT)
  have hA16 : aroN r s < 65536 := lt16m hn8 (aroN_lt G.bd hs)
  have HI := Lib.hid hI
  have HBM := Lib.hid hB
  have HNO := Lib.hid (fun i hi h1 h2 => rchB_no (r := r) (s := s) (near := near) (B := B) (i := i) hi h1 h2)
  have HYES := Lib.hid (fun h => rchB_yes (r := r) (s := s) (near := near) (B := B) h)
  generalize rchB r s near B = rb at *
  generalize aroN r s = A at *
  clear G hT hI hB
  go_enter Tryd.func88, Tryd.ntmps88
  go_wp2_with (go_at_call 106; refine HAR.out.mono ?_; rintro e w1 ⟨rfl, hb1⟩; have HB1 := Lib.hid hb1; have HI1 := Lib.hid (HI.out.below hb1); clear hb1)
  go_loopw [17] (fun i wr => ∃ k : Nat, k ≤ B.length ∧ i = .int .i64 k ∧ (∀ i, i < k → near.testBit i = true → A &&& B.getD i 0 ≠ 0) ∧ w1 = wr) (fun i _ => B.length - (intOf i).toNat)
  case atStart => exact ⟨0, Nat.zero_le _, rfl, by omega, rfl⟩
  case round =>
    obtain ⟨k, hk, rfl, hd, rfl⟩ := hrel
    have HD := Lib.hid hd
    clear hd
    by_cases hlt : k < B.length
    · obtain ⟨bB, oB, rfl, hbB, hcB⟩ := HI1.out.2 (by omega)
      have ck := hcB k hlt
      have hx : B.getD k 0 < 2 ^ n := by
        rw [List.getD_eq_getElem?_getD, List.getElem?_eq_getElem hlt]
        exact HBM.out _ (List.getElem_mem hlt)
      have hx16 : B.getD k 0 < 65536 := by omega
      have hk64 : k < 64 := by omega
      have HHA := Lib.hid (fun w => has_any near k w hnear hk64)
      unfold natL at ck
      have hcbq := cast_beq0 (A &&& B.getD k 0)
      have HNOk := Lib.hid (HNO.out k hlt)
      have HST : Hid ((near.testBit k = true → A &&& B.getD k 0 ≠ 0) → ∀ i, i < k + 1 → near.testBit i = true → A &&& B.getD i 0 ≠ 0) := Lib.hid fun h i hi => by
        rcases Nat.lt_succ_iff_lt_or_eq.1 hi with h1 | h1
        · exact HD.out i h1
        · rw [h1]; exact h
      clear hcB HNO
      generalize B.getD k 0 = x at *
      cases hn : near.testBit k
      · rw [hn] at HHA
        have HGO := Lib.hid (HST.out fun h => by rw [hn] at h; cases h)
        clear hn
        go_wp2_with (go_at_call 92; refine (HHA.out _).mono ?_; rintro e w2 ⟨rfl, rfl⟩)
        go_roundw
        case rel => exact ⟨k + 1, by omega, by go_num, HGO.out, by first | trivial | rfl⟩
        case measure => simp [intOf]; omega
      · rw [hn] at HHA
        by_cases h0 : A &&& x = 0
        · have HRB := Lib.hid (HNOk.out hn h0)
          rw [h0] at hcbq
          have hz : (((A &&& x : Nat) : Int) == 0) = true := by rw [h0]; rfl
          clear hn h0 hcbq
          go_wp2_with (go_at_call 92; refine (HHA.out _).mono ?_; rintro e w2 ⟨rfl, rfl⟩)
          go_ret
          exact ⟨by rw [HRB.out]; rfl, HB1.out⟩
        · have HGO := Lib.hid (HST.out fun _ => h0)
          have hz : (((A &&& x : Nat) : Int) == 0) = false := by rw [beq_eq_false_iff_ne]; omega
          clear hn h0 hcbq
          go_wp2_with (go_at_call 92; refine (HHA.out _).mono ?_; rintro e w2 ⟨rfl, rfl⟩)
          go_roundw
          case rel => exact ⟨k + 1, by omega, by go_num, HGO.out, by first | trivial | rfl⟩
          case measure => simp [intOf]; omega
    · have hke : k = B.length := by omega
      have HRB := Lib.hid (HYES.out (by rw [← hke]; exact HD.out))
      clear hke
      go_wp2_with fail
      go_ret
      exact ⟨by rw [HRB.out]; rfl, HB1.out⟩

/-! ### newPair, width -/

/-- Whether a graph and a pattern are valid. -/
def pairB (n q : Nat) (z y : Nat → Int) : Bool := graphB n 8 z && graphB q 6 y
theorem graph_six {q : Nat} {y : Nat → Int} : graphB q 6 y = (graphB q 8 y && decide (q ≤ 6)) := by
  unfold graphB
  by_cases h : q ≤ 6
  · rw [decide_eq_true h, decide_eq_true (show q ≤ 8 by omega), Bool.and_true, Bool.and_true]
  · rw [decide_eq_false h, Bool.and_false, Bool.and_false, Bool.false_and]

set_option maxRecDepth 20000 in
set_option maxHeartbeats 1000000 in
theorem newPair_yes {n q : Nat} {z y : Nat → Int} {a b : Option Addr} (ca cb : Nat) {w : World} (hI : IntsAt w a n z) (hJ : IntsAt w b q y) (hz : InI64 z) (hy : InI64 y) (hT : Tab w) (hg : graphB n 8 z = true) (hp : graphB q 6 y = true) :
    Calls Tryd.prog 58 #[.slice a n ca, .slice b q cb] w fun e w' => e = .returned (.tuple #[.slice a n ca, .slice b q cb, .bool true]) ∧ Below w.heap.size w w' := by
  rw [graph_six, Bool.and_eq_true, decide_eq_true_eq] at hp
  have HI := Lib.hid hI
  have HJ := Lib.hid hJ
  have HZ := Lib.hid hz
  have HY := Lib.hid hy
  have HT := Lib.hid hT
  have HG := Lib.hid hg
  have HP := Lib.hid hp.1
  have hq6 := hp.2
  have hqi : decide ((q : Int) ≤ 6) = true := decide_eq_true (by omega)
  clear hI hJ hz hy hT hg hp
  go_enter Tryd.func58, Tryd.ntmps58
  go_wp2_with fail
  go_at_call 68
  refine (newTown_yes _ HI.out HZ.out HT.out HG.out).mono ?_
  rintro e w1 ⟨rfl, hb1⟩
  have HB1 := Lib.hid hb1
  have HJ1 := Lib.hid (HJ.out.below hb1)
  have HT1 := Lib.hid (HT.out.below hb1)
  clear hb1
  go_wp2_with fail
  go_at_call 68
  refine (newTown_yes _ HJ1.out HY.out HT1.out HP.out).mono ?_
  rintro e w2 ⟨rfl, hb2⟩
  have HB2 := Lib.hid (HB1.out.trans (hb2.mono HB1.out.size))
  clear hb2
  go_wp2_with fail
  go_ret3
  exact ⟨rfl, HB2.out⟩
set_option maxRecDepth 20000 in
set_option maxHeartbeats 1000000 in
theorem minorWidth_any {n : Nat} {z : Nat → Int} {a : Option Addr} (cap : Nat) {w : World} (hI : IntsAt w a n z) (hz : InI64 z) (hg : graphB n 9 z = true) :
    Calls Tryd.prog 84 #[.slice a n cap] w fun e w' => e = .returned (.int .i64 (Wd.widthG n z : Nat)) ∧ Below w.heap.size w w' := by
  have HW := Lib.hid (Wd.Width_yes cap hI hz hg)
  clear hI hz hg
  go_enter Tryd.func84, Tryd.ntmps84
  go_wp2_with fail
  go_at_call 53
  refine (HW.out).mono ?_
  rintro e w1 ⟨rfl, hb1⟩
  go_wp2_with fail
  go_ret
  exact ⟨rfl, hb1⟩

end Go.Proofs.YtfmppncefbjicaaDoor
