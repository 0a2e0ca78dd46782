/- Package minor: the contracts of without, of the reference's Delete (made by gen_mk.py out of width's text about its law's own without). -/
import Derived.Test.YtfmppncefbjicaaDoorMj
import Derived.Deep.RegionLaw
import Derived.Deep.DeepCutAuto
namespace Go.Proofs.YtfmppncefbjicaaDoor
set_option linter.unusedSimpArgs false
set_option linter.unusedVariables false
open Go.RowKit Go.Maps

def unD (v x : Nat) : Nat := if x < v then x else x + 1
/-- A set of nodes when node v is taken away. -/
def wo (v s : Nat) : Nat := (s &&& (2 ^ v - 1)) ||| ((s >>> (v + 1)) <<< v)
def woZ (z : Nat → Int) (v x : Nat) : Int := ((wo v (z (unD v x)).toNat : Nat) : Int)
theorem testBit_wo (v s y : Nat) : (wo v s).testBit y = s.testBit (unD v y) := by
  unfold wo unD
  rw [Nat.testBit_or, Nat.testBit_and, Nat.testBit_two_pow_sub_one, Nat.testBit_shiftLeft, Nat.testBit_shiftRight]
  by_cases h : y < v
  · rw [if_pos h, decide_eq_true h, decide_eq_false (by omega), Bool.and_true, Bool.false_and, Bool.or_false]
  · rw [if_neg h, decide_eq_false h, decide_eq_true (by omega), Bool.and_false, Bool.false_or, Bool.true_and, show v + 1 + (y - v) = y + 1 by omega]
theorem wo_lt {v s m : Nat} (hv : v < m + 1) (hs : s < 2 ^ (m + 1)) : wo v s < 2 ^ m := by
  apply Nat.lt_pow_two_of_testBit
  intro y hy
  rw [testBit_wo]
  apply Nat.testBit_lt_two_pow
  refine Nat.lt_of_lt_of_le hs (Nat.pow_le_pow_right (by omega) ?_)
  unfold unD
  split <;> omega
def woCells (z : Nat → Int) (v L : Nat) : List Value := (List.range L).map fun x => .int .i64 (woZ z v x)
/-- How many of the first k nodes stay. -/
def keepN (v k : Nat) : Nat := if k ≤ v then k else k - 1
def WoOwn (w : World) (base : Nat) (u : Value) (z : Nat → Int) (v L : Nat) : Prop := w.ownsRow base 3 1 u L (woCells z v L)

/-- 'append' onto a slice of one's own, as one step of a region that draws its order. -/
theorem step_append_own {P : Program} {ops : Array Oper} {o : Oper} {a : Act} {w : World} {K : Act → World → Prop} {Q : Exit → Act → World → Prop} {E : Prop}
    (hg : o.guard = none) (s x : Operand) (t : TypeId) (hop : o.op = Op.call { callee := Callee.builtin Builtin.append, args := #[s, x], argTypes := #[t, t] })
    (base : Nat) (e : TypeId) (i : TypeInfo) (z : Value) (size bytes : Nat) (h1 : P.underlying t = some (.slice e)) (h2 : P.info? e = some i) (h3 : i.zero = some z) (h4 : i.size = size) (h5 : i.bytes = bytes) (h6 : z.cells.size = size) (h7 : 0 < size)
    (v : Value) (n : Nat) (olds : List Value) (hs : a.eval s = v) (hown : w.ownsRow base e size v n olds)
    (ad : Addr) (m c : Nat) (news : List Value) (hx : a.eval x = .slice (some ad) m c) (hn : news.length = m * size) (hc : ∀ j u, news[j]? = some u → w.cell? (ad.add j) = some u) (h1c : ∀ u ∈ news, u.oneCell' = true)
    (b1 : n + m ≤ maxLen) (b2 : (n + m) * bytes ≤ 140737488355328) (hbase : base ≤ w.heap.size)
    (hK : ∀ v' w', w'.ownsRow base e size v' (n + m) (olds ++ news) → w.grownBy w' v.ownBlock → K (a.put o.dst v') w') :
    if Region.wanted o (yielded ops a.tmps) = true then Oper.wp P o a w K Q else E := by
  have hw : Region.wanted o (yielded ops a.tmps) = true := by simp [Region.wanted, hg]
  rw [if_pos hw]
  obtain ⟨v', w', hrun, r1, r2, _⟩ := run_append_own (P := P) w base t o.type e i z size bytes h1 h2 h3 h4 h5 h6 h7 v n olds hown ad m c news hn hc h1c b1 b2 hbase
  unfold Oper.wp
  simp [execOp, hop, resolve, invoke, builtin, hs, hx, hrun, Result.andThen]
  exact hK v' w' r1 r2

theorem shr_val (s v : Nat) : ((s : Nat) : Int) / 2 ^ v = ((s >>> v : Nat) : Int) := by
  rw [Nat.shiftRight_eq_div_pow, Int.natCast_ediv, Int.natCast_pow]; rfl
theorem shl_val (s v : Nat) : ((s : Nat) : Int) * 2 ^ v = ((s <<< v : Nat) : Int) := by
  rw [Nat.shiftLeft_eq, Int.natCast_mul, Int.natCast_pow]; rfl
theorem mask_val (v : Nat) : (2 : Int) ^ v - 1 = ((2 ^ v - 1 : Nat) : Int) := by rw [pow_cast]; have := Nat.one_le_two_pow (n := v); omega

set_option maxRecDepth 20000 in
set_option maxHeartbeats 2000000 in
theorem DeleteR_any {n v cap : Nat} {z : Nat → Int} {a : Option Addr} {w : World} (hI : IntsAt w a n z) (hv : v < n) (hm : n ≤ 9) (hz : ∀ i, i < n → 0 ≤ z i ∧ z i < 2 ^ n) :
    Calls Tryd.prog 49 #[.slice a n cap, .int .i64 v] w fun e w' => (∃ u, e = .returned u ∧ WoOwn w' w.heap.size u z v (n - 1)) ∧ Below w.heap.size w w' := by
  obtain ⟨i0, hi0, hz1, hz2, hz3⟩ := info_parts info_int
  obtain ⟨hml, h2⟩ := hI
  obtain ⟨b, off, rfl, hb, hc⟩ := h2 (by omega)
  obtain ⟨p1, p2⟩ := pow_bd v (by omega)
  have HC := Lib.hid hc
  have HZ := Lib.hid hz
  clear hc hz h2 hml
  go_enter Tryd.func49, Tryd.ntmps49
  go_wp2_with fail
  go_loopw [5, 10] (fun u i wr => ∃ k : Nat, k ≤ n ∧ i = .int .i64 k ∧ WoOwn wr w.heap.size u z v (keepN v k) ∧ Below w.heap.size w wr) (fun _ i _ => n - (intOf i).toNat)
  case atStart => exact ⟨0, Nat.zero_le _, rfl, ⟨rfl, Or.inl ⟨rfl, rfl⟩⟩, Below.refl _ _⟩
  case round =>
    obtain ⟨k, hk, rfl, hown, hbel⟩ := hrel
    have HO := Lib.hid hown
    have HB := Lib.hid hbel
    clear hown
    by_cases hlt : k < n
    · have hcell := hbel.cell (p := ⟨b, off + k, none⟩) hb
      rw [HC.out k hlt] at hcell
      clear hbel
      obtain ⟨s, hs⟩ : ∃ s : Nat, z k = s := ⟨(z k).toNat, by have := (HZ.out k hlt).1; omega⟩
      rw [hs] at hcell
      have HS := Lib.hid hs
      clear hs
      by_cases hkv : k = v
      · subst hkv
        have d1 : ((k : Int) != (k : Int)) = false := by simp
        go_wp2_with fail
        go_roundw
        case rel => exact ⟨k + 1, by omega, by go_num, by rw [show keepN k (k + 1) = keepN k k by unfold keepN; split <;> split <;> omega]; exact HO.out, HB.out⟩
        case measure => simp [intOf]; omega
      · have d1 : ((k : Int) != (v : Int)) = true := by simp; omega
        have w1 : IntKind.i64.wrap ((2 : Int) ^ v) = 2 ^ v := IntWalk.i64_in _ (by omega)
        have w2 : IntKind.i64.wrap ((2 : Int) ^ v - 1) = 2 ^ v - 1 := IntWalk.i64_in _ (by omega)
        have w3 : IntKind.i64.wrap ((v : Int) + 1) = v + 1 := IntWalk.i64_in _ (by omega)
        have hp8 := pow_le9 hm
        have hsn : s < 2 ^ n := by have h4 := HZ.out k hlt; rw [HS.out, pow_cast] at h4; omega
        have w4 : bits .and .i64 (s : Int) ((2 : Int) ^ v - 1) = ((s &&& (2 ^ v - 1) : Nat) : Int) := by rw [mask_val, i64_and _ _ (by omega) (by have := pow_cast v; omega)]
        have hL : unD v (keepN v k) = k := by unfold unD keepN; split <;> split <;> omega
        have hkk : keepN v (k + 1) = keepN v k + 1 := by unfold keepN; split <;> split <;> omega
        have hkl : keepN v k ≤ 9 := by unfold keepN; split <;> omega
        have hwl : wo v s < 65536 := Nat.lt_of_lt_of_le (wo_lt (m := n - 1) (by omega) (by rw [show n - 1 + 1 = n by omega]; exact hsn)) (Nat.le_trans (pow_le9 (n := n - 1) (by omega)) (by omega))
        have HE : Hid (bits .or .i64 ((s : Int) % 2 ^ v) (IntKind.i64.wrap ((s : Int) / 2 ^ (v + 1) * 2 ^ v)) = woZ z v (keepN v k)) := Lib.hid (by
          have e1 : (s : Int) % 2 ^ v = ((s &&& (2 ^ v - 1) : Nat) : Int) := by rw [Nat.and_two_pow_sub_one_eq_mod, Int.natCast_emod, Int.natCast_pow]; rfl
          have hw2 : wo v s = s &&& (2 ^ v - 1) ||| s >>> (v + 1) <<< v := rfl
          have l1 : s &&& (2 ^ v - 1) ≤ wo v s := by rw [hw2]; exact Nat.left_le_or
          have l2 : s >>> (v + 1) <<< v ≤ wo v s := by rw [hw2]; exact Nat.right_le_or
          unfold woZ
          rw [e1, shr_val, shl_val, hL, HS.out, Int.toNat_natCast, hw2]
          rw [hw2] at l1 l2 hwl
          clear hw2 e1 w4
          generalize s >>> (v + 1) <<< v = Y at *
          generalize s &&& (2 ^ v - 1) = X at *
          rw [IntWalk.i64_in _ (by omega), i64_or _ _ (by omega) (by omega)])
        have HL := Lib.hid hL
        have HKK := Lib.hid hkk
        clear hL hkk hwl
        go_upto_region 6 with fail
        have hbd : Below wr.heap.size wr wr.drew := below_drewN (Below.refl _ _) 1
        have HO2 := Lib.hid (ownsRow_below HO.out hbd (Nat.le_refl _))
        have HB2 := Lib.hid (HB.out.trans (hbd.mono HB.out.size))
        clear hbd hcell
        go_region_law (refine step_append_own rfl (.tmp 18) (.tmp 31) 23 rfl w.heap.size 3 i0 (.int .i64 0) 1 8 Tryd.underlying23 hi0 hz1 hz2 hz3 rfl (by decide) u5 (keepN v k) _ (by simp [Act.eval, Act.put]) (HO2.out.alloc _) ⟨wr.heap.size, 0, none⟩ 1 1 [.int .i64 (bits .or .i64 ((s : Int) % 2 ^ v) (IntKind.i64.wrap ((s : Int) / 2 ^ (v + 1) * 2 ^ v)))] (by simp [Act.eval, Act.put]) rfl (cells_new wr.drew _ _) (by intro u hu; simp at hu; subst hu; rfl) (by unfold maxLen; omega) (by omega) (by simp; have := HB2.out.size; simp at this; omega) ?_; intro u' w3 hown1 hg1; rw [HE.out] at hown1; have HO3 := Lib.hid hown1; have HG3 := Lib.hid hg1; clear hown1 hg1)
        go_wp2_with fail
        go_roundw
        case rel =>
          refine ⟨k + 1, by omega, by go_num, ?_, (HB2.out.alloc HB2.out.size _).grown HG3.out (by simp; have := HB.out.size; omega) (fun k hk => (World.ownsRow.lt HO2.out k hk).1)⟩
          rw [HKK.out]
          unfold WoOwn woCells
          rw [List.range_succ, List.map_append]
          exact HO3.out
        case measure => simp [intOf]; omega
    · have hke : k = n := by omega
      subst hke
      go_wp2_with fail
      go_ret
      refine ⟨⟨_, rfl, ?_⟩, HB.out⟩
      have : keepN v k = k - 1 := by unfold keepN; split <;> omega
      rw [← this]
      exact HO.out
set_option maxRecDepth 20000 in
set_option maxHeartbeats 2000000 in
theorem minorWithout_any {n v cap : Nat} {z : Nat → Int} {a : Option Addr} {w : World} (hI : IntsAt w a n z) (hv : v < n) (hm : n ≤ 9) (hz : ∀ i, i < n → 0 ≤ z i ∧ z i < 2 ^ n) :
    Calls Tryd.prog 79 #[.slice a n cap, .int .i64 v] w fun e w' => (∃ u, e = .returned u ∧ WoOwn w' w.heap.size u z v (n - 1)) ∧ Below w.heap.size w w' := by
  obtain ⟨i0, hi0, hz1, hz2, hz3⟩ := info_parts info_int
  obtain ⟨hml, h2⟩ := hI
  obtain ⟨b, off, rfl, hb, hc⟩ := h2 (by omega)
  obtain ⟨p1, p2⟩ := pow_bd v (by omega)
  have HC := Lib.hid hc
  have HZ := Lib.hid hz
  clear hc hz h2 hml
  have hmk : ∀ w : World, (Instr.makeSlice 74 (.int .i64 0) (.int .i64 (n : Int))).run Tryd.prog w = .ok (.slice (some ⟨w.heap.size, 0, none⟩) 0 n) (w.alloc (.cells (madeCells #[.int .i64 0] n) 3)) := fun w => by
    have hr := run_make (P := Tryd.prog) w 74 3 i0 (.int .i64 0) Tryd.underlying74 hi0 hz1 .i64 .i64 0 (n : Int) (by omega) (by omega) (by rw [hz3]; omega) (by omega)
    simp only [Int.toNat_natCast, hz2, Nat.mul_one, Int.toNat_zero] at hr
    exact hr
  obtain ⟨w0, hw0⟩ : ∃ x, x = w.alloc (.cells (madeCells #[.int .i64 0] n) 3) := ⟨_, rfl⟩
  have HO0 : Hid (WoOwn w0 w.heap.size (.slice (some ⟨w.heap.size, 0, none⟩) 0 n) z v (keepN v 0)) := Lib.hid (by
    rw [hw0]
    exact World.ownsRow_made w _ n (Nat.le_refl _) (by unfold maxLen; omega) (by simp [madeCells]))
  have HB0 : Hid (Below w.heap.size w w0) := Lib.hid (by rw [hw0]; exact (Below.refl _ _).alloc (Nat.le_refl _) _)
  go_enter Tryd.func79, Tryd.ntmps79
  go_wp2_with fail
  rw [← hw0]
  clear hw0 hmk
  go_loopw [5, 13] (fun u i wr => ∃ k : Nat, k ≤ n ∧ i = .int .i64 k ∧ WoOwn wr w.heap.size u z v (keepN v k) ∧ Below w.heap.size w wr) (fun _ i _ => n - (intOf i).toNat)
  case atStart => exact ⟨0, Nat.zero_le _, rfl, HO0.out, HB0.out⟩
  case round =>
    clear HO0 HB0
    obtain ⟨k, hk, rfl, hown, hbel⟩ := hrel
    have HO := Lib.hid hown
    have HB := Lib.hid hbel
    clear hown
    by_cases hlt : k < n
    · have hcell := hbel.cell (p := ⟨b, off + k, none⟩) hb
      rw [HC.out k hlt] at hcell
      clear hbel
      obtain ⟨s, hs⟩ : ∃ s : Nat, z k = s := ⟨(z k).toNat, by have := (HZ.out k hlt).1; omega⟩
      rw [hs] at hcell
      have HS := Lib.hid hs
      clear hs
      by_cases hkv : k = v
      · subst hkv
        have d1 : ((k : Int) != (k : Int)) = false := by simp
        go_wp2_with fail
        go_roundw
        case rel => exact ⟨k + 1, by omega, by go_num, by rw [show keepN k (k + 1) = keepN k k by unfold keepN; split <;> split <;> omega]; exact HO.out, HB.out⟩
        case measure => simp [intOf]; omega
      · have d1 : ((k : Int) != (v : Int)) = true := by simp; omega
        have w1 : IntKind.i64.wrap ((2 : Int) ^ v) = 2 ^ v := IntWalk.i64_in _ (by omega)
        have w2 : IntKind.i64.wrap ((2 : Int) ^ v - 1) = 2 ^ v - 1 := IntWalk.i64_in _ (by omega)
        have w3 : IntKind.i64.wrap ((v : Int) + 1) = v + 1 := IntWalk.i64_in _ (by omega)
        have hp8 := pow_le9 hm
        have hsn : s < 2 ^ n := by have h4 := HZ.out k hlt; rw [HS.out, pow_cast] at h4; omega
        have w4 : bits .and .i64 (s : Int) ((2 : Int) ^ v - 1) = ((s &&& (2 ^ v - 1) : Nat) : Int) := by rw [mask_val, i64_and _ _ (by omega) (by have := pow_cast v; omega)]
        have hL : unD v (keepN v k) = k := by unfold unD keepN; split <;> split <;> omega
        have hkk : keepN v (k + 1) = keepN v k + 1 := by unfold keepN; split <;> split <;> omega
        have hkl : keepN v k ≤ 9 := by unfold keepN; split <;> omega
        have hwl : wo v s < 65536 := Nat.lt_of_lt_of_le (wo_lt (m := n - 1) (by omega) (by rw [show n - 1 + 1 = n by omega]; exact hsn)) (Nat.le_trans (pow_le9 (n := n - 1) (by omega)) (by omega))
        have HE : Hid (bits .or .i64 ((s : Int) % 2 ^ v) (IntKind.i64.wrap ((s : Int) / 2 ^ (v + 1) * 2 ^ v)) = woZ z v (keepN v k)) := Lib.hid (by
          have e1 : (s : Int) % 2 ^ v = ((s &&& (2 ^ v - 1) : Nat) : Int) := by rw [Nat.and_two_pow_sub_one_eq_mod, Int.natCast_emod, Int.natCast_pow]; rfl
          have hw2 : wo v s = s &&& (2 ^ v - 1) ||| s >>> (v + 1) <<< v := rfl
          have l1 : s &&& (2 ^ v - 1) ≤ wo v s := by rw [hw2]; exact Nat.left_le_or
          have l2 : s >>> (v + 1) <<< v ≤ wo v s := by rw [hw2]; exact Nat.right_le_or
          unfold woZ
          rw [e1, shr_val, shl_val, hL, HS.out, Int.toNat_natCast, hw2]
          rw [hw2] at l1 l2 hwl
          clear hw2 e1 w4
          generalize s >>> (v + 1) <<< v = Y at *
          generalize s &&& (2 ^ v - 1) = X at *
          rw [IntWalk.i64_in _ (by omega), i64_or _ _ (by omega) (by omega)])
        have HL := Lib.hid hL
        have HKK := Lib.hid hkk
        clear hL hkk hwl
        go_upto_region 6 with fail
        have hbd : Below wr.heap.size wr wr.drew := below_drewN (Below.refl _ _) 1
        have HO2 := Lib.hid (ownsRow_below HO.out hbd (Nat.le_refl _))
        have HB2 := Lib.hid (HB.out.trans (hbd.mono HB.out.size))
        clear hbd hcell
        go_region_law (refine step_append_own rfl (.tmp 21) (.tmp 34) 74 rfl w.heap.size 3 i0 (.int .i64 0) 1 8 Tryd.underlying74 hi0 hz1 hz2 hz3 rfl (by decide) u5 (keepN v k) _ (by simp [Act.eval, Act.put]) (HO2.out.alloc _) ⟨wr.heap.size, 0, none⟩ 1 1 [.int .i64 (bits .or .i64 ((s : Int) % 2 ^ v) (IntKind.i64.wrap ((s : Int) / 2 ^ (v + 1) * 2 ^ v)))] (by simp [Act.eval, Act.put]) rfl (cells_new wr.drew _ _) (by intro u hu; simp at hu; subst hu; rfl) (by unfold maxLen; omega) (by omega) (by simp; have := HB2.out.size; simp at this; omega) ?_; intro u' w3 hown1 hg1; rw [HE.out] at hown1; have HO3 := Lib.hid hown1; have HG3 := Lib.hid hg1; clear hown1 hg1)
        go_wp2_with fail
        go_roundw
        case rel =>
          refine ⟨k + 1, by omega, by go_num, ?_, (HB2.out.alloc HB2.out.size _).grown HG3.out (by simp; have := HB.out.size; omega) (fun k hk => (World.ownsRow.lt HO2.out k hk).1)⟩
          rw [HKK.out]
          unfold WoOwn woCells
          rw [List.range_succ, List.map_append]
          exact HO3.out
        case measure => simp [intOf]; omega
    · have hke : k = n := by omega
      subst hke
      go_wp2_with fail
      go_ret
      refine ⟨⟨_, rfl, ?_⟩, HB.out⟩
      have : keepN v k = k - 1 := by unfold keepN; split <;> omega
      rw [← this]
      exact HO.out
end Go.Proofs.YtfmppncefbjicaaDoor
