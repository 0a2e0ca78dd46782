/- The walk of the law SweepParts. -/
import Derived.Test.YthbhhfeiianmcaaDoorQr
import Derived.Test.YthbhhfeiianmcaaDoorQm
import Derived.Test.YthbhhfeiianmcaaDoorQt4
import Derived.Deep.DeepCutAuto
import Derived.Deep.RegionLaw
import Derived.BigRegion
namespace Go.Proofs.YthbhhfeiianmcaaDoor
set_option linter.unusedSimpArgs false
set_option linter.unusedVariables false
open Go.RowKit Go.Maps

theorem pl_graph {n : Nat} {r : Nat → Nat} (h : Pl n r) {z : Nat → Int} (hz : ∀ i, i < n → z i = ((r i : Nat) : Int)) : graphB n 7 z = true := by
  refine graphB_yes h.one h.le fun i hi => ⟨?_, fun j hj => ?_⟩
  · unfold okCellZ
    rw [hz i hi, bitZ_nat, h.loop i hi, inB_true (by omega) (by rw [pow_cast]; have := h.bd i hi; omega)]
    rfl
  · rw [hz i hi, hz j hj, bitZ_nat, bitZ_nat]; exact h.sym i j hi hj
def tru (n : Nat) (r : Nat → Nat) (x : Nat) : Int := if x < n then ((r x : Nat) : Int) else 0
theorem tru_at {n : Nat} {r : Nat → Nat} (i : Nat) (hi : i < n) : tru n r i = ((r i : Nat) : Int) := by unfold tru; rw [if_pos hi]
theorem tru_graph {n : Nat} {r : Nat → Nat} (h : Pl n r) : graphB n 7 (tru n r) = true := pl_graph h tru_at
theorem tru_in {n : Nat} {r : Nat → Nat} (h : Pl n r) : InI64 (tru n r) := by
  intro i
  unfold tru
  split
  · rename_i hi
    have h1 := h.bd i hi
    have h2 := pow_le7 h.le
    omega
  · omega
theorem tru_pw {n : Nat} {r : Nat → Nat} (h : Pl n r) : rst n (tbd n (natG (tru n r))) 0 = pw n r := by
  have e : ∀ x, x < n → natG (tru n r) x = r x := fun x hx => by show (tru n r x).toNat = r x; rw [tru_at x hx, Int.toNat_natCast]
  have hn : n ≤ 10 := by have := h.le; omega
  exact Nat.le_antisymm (pw_sub hn (fun i hi => by rw [e i hi]; exact h.bd i hi) fun u x hu _ hx => by rw [e u hu] at hx; exact hx) (pw_sub hn h.bd fun u x hu _ hx => by rw [e u hu]; exact hx)
theorem ints_congr {w : World} {a : Option Addr} {n : Nat} {z z' : Nat → Int} (h : IntsAt w a n z) (he : ∀ i, i < n → z' i = z i) : IntsAt w a n z' := by
  refine ⟨h.1, fun hn => ?_⟩
  obtain ⟨b, off, h1, h2, h3⟩ := h.2 hn
  exact ⟨b, off, h1, h2, fun i hi => by rw [he i hi]; exact h3 i hi⟩
theorem idx_any (kI : Int) {l : Nat} (h0 : 0 < l) (h1 : l ≤ 65536) : ∃ i : Nat, i < l ∧ wrap64 ((IntKind.u64.wrap kI).tmod (l : Int)) = (i : Int) := by
  have hU : 0 ≤ IntKind.u64.wrap kI := by rw [IntKind.wrap_u64]; omega
  generalize IntKind.u64.wrap kI = U at *
  rw [Int.tmod_eq_emod_of_nonneg hU]
  have a := Int.emod_nonneg U (show (l : Int) ≠ 0 by omega)
  have b := Int.emod_lt_of_pos U (show (0 : Int) < l by omega)
  generalize U % (l : Int) = r at *
  exact ⟨r.toNat, by omega, by rw [IntWalk.wrap64_in _ (by omega)]; omega⟩

def woCells (z : Nat → Int) (v L : Nat) : List Value := (List.range L).map fun x => .int .i64 (woZ z v x)
/-- How many of the first k nodes stay. -/
def keepN (v k : Nat) : Nat := if k ≤ v then k else k - 1
def WoOwn (w : World) (base : Nat) (u : Value) (z : Nat → Int) (v L : Nat) : Prop := w.ownsRow base 3 1 u L (woCells z v L)
theorem WoOwn.ints {w : World} {base : Nat} {u : Value} {n v : Nat} {z : Nat → Int} (h : WoOwn w base u z v (n - 1)) (h2 : 2 ≤ n) (h9 : n ≤ 9) : ∃ a c, u = .slice a (n - 1) c ∧ IntsAt w a (n - 1) (tru (n - 1) (woN (natG z) v)) := by
  obtain ⟨g, c, rfl, _, hlt⟩ := own_form' h (by omega)
  refine ⟨_, c, rfl, by unfold maxLen; omega, fun _ => ⟨g, 0, rfl, hlt, fun i hi => ?_⟩⟩
  rw [Nat.zero_add, World.ownsRow.cellAt h i (by omega), tru_at i hi]
  unfold woCells
  rw [map_range_get _ hi]
  rfl

set_option maxRecDepth 20000 in
set_option maxHeartbeats 1000000 in
theorem CloneG_own (n : Nat) (z : Nat → Int) (v : Value) (w : World) (hn : n ≤ 1000000) (h : SliceArg w v n z) : Calls Tryd.prog 50 #[v] w (OwnPost n z w) := by
  obtain ⟨i0, hi0, hz1, hz2, hz3⟩ := info_parts info_int
  have hq := fun w a n c => Lib.run_eql_slice_nil (P := Tryd.prog) w 23 3 a n c 0 0 Tryd.underlying23
  rcases h with ⟨rfl, rfl⟩ | ⟨x, cap, rfl, h1, h2, h3⟩
  · go_enter Tryd.func50, Tryd.ntmps50
    go_wp2
    go_ret
    exact ⟨_, rfl, ⟨rfl, Or.inl ⟨rfl, rfl⟩⟩, Below.refl _ _⟩
  · go_enter Tryd.func50, Tryd.ntmps50
    unfold maxLen at h2
    have hnews : ∀ j u, ((List.range n).map fun i => Value.int .i64 (z i))[j]? = some u → (w.alloc (.cells #[] 3)).cell? (x.add j) = some u := by
      intro j u hu
      by_cases hj : j < n
      · rw [map_range_get _ hj] at hu
        cases hu
        obtain ⟨b, off, rfl, h4, h5⟩ := h3 (by omega)
        have e1 : (⟨b, off, none⟩ : Addr).add j = ⟨b, off + j, none⟩ := by
          unfold Addr.add
          split
          · rename_i h0; subst h0; rfl
          · rfl
        rw [e1, ((Below.refl w.heap.size w).alloc (Nat.le_refl _) _).cell (p := ⟨b, off + j, none⟩) h4]
        exact h5 j hj
      · simp [hj] at hu
    have HN := Lib.hid hnews
    clear hnews
    go_wp2_with (at_builtin; refine wpList_append_own _ rfl _ _ 23 rfl w.heap.size 3 i0 (.int .i64 0) 1 8 Tryd.underlying23 hi0 hz1 hz2 hz3 rfl (by decide) _ _ _ rfl (World.ownsRow_made w #[] 0 (Nat.le_refl _) (Nat.zero_le _) rfl) x n cap ((List.range n).map fun i => Value.int .i64 (z i)) rfl (by simp) HN.out ?c2 ?c3 ?c4 ?c5 ?_)
    case c2 => intro u hu; obtain ⟨i, _, rfl⟩ := List.mem_map.1 hu; rfl
    case c3 => unfold maxLen; omega
    case c4 => omega
    case c5 => simp
    intro v' w1 hown hgr _
    have HO := Lib.hid hown
    have HG := Lib.hid hgr
    clear hown hgr
    go_wp2_with fail
    go_ret
    have ho := HO.out
    have hb : Below w.heap.size w w1 := ((Below.refl w.heap.size w).alloc (Nat.le_refl _) _).grown HG.out (by simp) (fun k hk => by simp [Value.ownBlock] at hk; omega)
    try simp only [Nat.zero_add, List.nil_append] at ho
    exact ⟨_, rfl, ho, hb⟩

set_option maxRecDepth 20000 in
set_option maxHeartbeats 1000000 in
theorem Few_own (n : Nat) (z : Nat → Int) (v : Value) (w : World) (h : SliceArg w v n z) : Calls Tryd.prog 18 #[v] w (OwnPost (min n 11) z w) := by
  rcases h with ⟨rfl, rfl⟩ | ⟨x, cap, rfl, h1, h2, h3⟩
  · go_enter Tryd.func18, Tryd.ntmps18
    go_wp2_with (go_at_call 50; refine (CloneG_own 0 z _ _ (by omega) (Or.inl ⟨rfl, rfl⟩)).mono ?_; rintro e w1 ⟨a, rfl, hi, hb⟩)
    go_ret
    exact ⟨a, rfl, hi, hb⟩
  · unfold maxLen at h2
    by_cases hn : n ≤ 11
    · have hmin : min n 11 = n := by omega
      have HM := Lib.hid hmin
      clear hmin
      have HA : Hid (SliceArg w (.slice (some x) n cap) n z) := Lib.hid (Or.inr ⟨x, cap, rfl, h1, by unfold maxLen; exact h2, h3⟩)
      clear h3
      go_enter Tryd.func18, Tryd.ntmps18
      go_wp2_with (go_at_call 50; refine (CloneG_own n z _ _ (by omega) HA.out).mono ?_; rintro e w1 ⟨a, rfl, hi, hb⟩; have HI := Lib.hid hi; clear hi)
      go_ret
      rw [HM.out]
      exact ⟨a, rfl, HI.out, hb⟩
    · have hmin : min n 11 = 11 := by omega
      have HM := Lib.hid hmin
      clear hmin
      have HA : Hid (SliceArg w (.slice (some x) 11 cap) 11 z) := Lib.hid (Or.inr ⟨x, cap, rfl, by omega, by unfold maxLen; exact h2, fun _ => by
        obtain ⟨b, off, rfl, h4, h5⟩ := h3 (by omega)
        exact ⟨b, off, rfl, h4, fun i hi => h5 i (by omega)⟩⟩)
      clear h3
      go_enter Tryd.func18, Tryd.ntmps18
      go_wp2_with (go_at_call 50; refine (CloneG_own 11 z _ _ (by omega) HA.out).mono ?_; rintro e w1 ⟨a, rfl, hi, hb⟩; have HI := Lib.hid hi; clear hi)
      go_ret
      rw [HM.out]
      exact ⟨a, rfl, HI.out, hb⟩

set_option maxRecDepth 200000 in
set_option maxHeartbeats 4000000 in
theorem SweepParts_no (n : Nat) (z : Nat → Int) (x y : Int) (v : Value) (w : World) (hA : SliceArg w v n z) (hz : InI64 z) (hTab : HasTab w) (hg : graphB n 7 z = false ∨ n < 2) :
    Calls Tryd.prog 15 #[v, .int .i64 x, .int .i64 y] w (LawTrue w) := by
  have HA := Lib.hid hA
  obtain ⟨a, cap, rfl, hI⟩ := hA.ints
  have HZ := Lib.hid hz
  have HT := Lib.hid (Tab.of hTab)
  clear hA hI hz hTab
  cases hgb : graphB n 7 z
  · have HG : Hid (graphB (min n 11) 7 z = false) := Lib.hid (by rw [graphB_few]; exact hgb)
    clear hg hgb
    go_enter Tryd.func15, Tryd.ntmps15
    go_wp2_with fail
    go_at_call 18
    refine (Few_any n z _ _ HA.out).mono ?_
    rintro e w1 ⟨a1, c1, rfl, hi1, hb1⟩
    have HB1 := Lib.hid hb1
    have HI1 := Lib.hid hi1
    clear hb1 hi1
    go_wp2_with fail
    go_at_call 20
    refine (Layout_none _ HI1.out HZ.out (HT.out.below HB1.out) HG.out).mono ?_
    rintro e w2 ⟨rfl, hb2⟩
    have HB2 := Lib.hid (HB1.out.trans (hb2.mono HB1.out.size))
    clear hb2
    go_wp2_with fail
    go_at_call 22
    refine (awake_any _ (HT.out.below HB2.out)).mono ?_
    rintro e w3 ⟨rfl, hb3⟩
    have HB3 := Lib.hid (HB2.out.trans (hb3.mono HB2.out.size))
    clear hb3
    go_wp2_with fail
    go_ret
    exact ⟨rfl, HB3.out⟩
  · have hn2 : n < 2 := by rcases hg with h | h; rw [h] at hgb; cases hgb; exact h
    have HG : Hid (graphB (min n 11) 7 z = true) := Lib.hid (by rw [graphB_few]; exact hgb)
    clear hg hgb
    go_enter Tryd.func15, Tryd.ntmps15
    go_wp2_with fail
    go_at_call 18
    refine (Few_any n z _ _ HA.out).mono ?_
    rintro e w1 ⟨a1, c1, rfl, hi1, hb1⟩
    have HB1 := Lib.hid hb1
    have HI1 := Lib.hid hi1
    clear hb1 hi1
    go_wp2_with fail
    go_at_call 20
    refine (Layout_yes _ HI1.out HZ.out (HT.out.below HB1.out) HG.out).mono ?_
    rintro e w2 ⟨v2, rfl, -, hb2⟩
    have HB2 := Lib.hid (HB1.out.trans (hb2.mono HB1.out.size))
    clear hb2
    go_wp2_with fail
    go_at_call 22
    refine (awake_any _ (HT.out.below HB2.out)).mono ?_
    rintro e w3 ⟨rfl, hb3⟩
    have HB3 := Lib.hid (HB2.out.trans (hb3.mono HB2.out.size))
    clear hb3
    go_wp2_with fail
    go_ret
    exact ⟨rfl, HB3.out⟩

attribute [local go_sem] i64_bit toNat_eq_one toNat_ne_one toNat_eq_zero toNat_ne_zero i64_andNot i64_andNot_pow
set_option maxRecDepth 200000 in
set_option maxHeartbeats 4000000 in
theorem SweepParts_yes (n : Nat) (z : Nat → Int) (x y : Int) (v : Value) (w : World) (hA : SliceArg w v n z) (hz : InI64 z) (hTab : HasTab w) (hg : graphB n 7 z = true) (hn2 : 2 ≤ n) :
    Calls Tryd.prog 15 #[v, .int .i64 x, .int .i64 y] w (LawTrue w) := by
  have HA := Lib.hid hA
  obtain ⟨a, cap, rfl, hI⟩ := hA.ints
  have HZ := Lib.hid hz
  have HI := Lib.hid hI
  have HT := Lib.hid (Tab.of hTab)
  have hle := (graphB_le hg).2.1
  have HM : Hid (min n 11 = n) := Lib.hid (by omega)
  have HG := Lib.hid hg
  have HP := Lib.hid (pl_of hg)
  have HZN : Hid (∀ i, i < n → z i = ((natG z i : Nat) : Int)) := Lib.hid (fun i hi => by have := ((graphB_le hg).2.2 i hi).1; show z i = ((z i).toNat : Int); omega)
  have HZB : Hid (∀ i, i < n → 0 ≤ z i ∧ z i < 2 ^ n) := Lib.hid (graphB_le hg).2.2
  obtain ⟨W, hW⟩ : ∃ W, W = rst n (tbd n (natG z)) 0 := ⟨_, rfl⟩
  have HW : Hid (rst n (tbd n (natG z)) 0 = W) := Lib.hid hW.symm
  have hW7 : W ≤ 7 := by rw [hW]; exact Nat.le_trans (rst_le (Nat.two_pow_pos n)) hle
  obtain ⟨A, hAn, hRA⟩ := idx_any x (show 0 < n by omega) (by omega)
  obtain ⟨B, hBn, hRB⟩ := idx_any y (show 0 < n by omega) (by omega)
  clear hA hI hz hg hW hTab
  have d0 : ((n : Int) == 0) = false := beq_eq_false_iff_ne.2 (by omega)
  have HRA := Lib.hid hRA
  have HRB := Lib.hid hRB
  go_enter Tryd.func15, Tryd.ntmps15
  go_wp2_with fail
  go_at_call 18
  refine (Few_any n z _ _ HA.out).mono ?_
  rintro e w1 ⟨a1, c1, rfl, hi1, hb1⟩
  rw [HM.out] at hi1
  rw [HM.out]
  have HB1 := Lib.hid hb1
  have HI1 := Lib.hid hi1
  clear hb1 hi1
  go_wp2_with fail
  go_at_call 20
  refine (Layout_yes _ HI1.out HZ.out (HT.out.below HB1.out) HG.out).mono ?_
  rintro e w2 ⟨v2, rfl, -, hb2⟩
  rw [HW.out]
  have HB2 := Lib.hid (HB1.out.trans (hb2.mono HB1.out.size))
  clear hb2
  go_upto_region 4 with fail
  go_cut [1, 2] (fun s1 s2 wx => s1 = .int .i64 (A : Nat) ∧ s2 = .int .i64 (B : Nat) ∧ Below w.heap.size w wx)
  case first =>
    go_wp2_with fail
    go_quiet (fail)
    go_wp2_with fail
    go_meet
    exact ⟨by rw [HRA.out], by rw [HRB.out], below_drewN HB2.out _⟩
  case rest =>
    obtain ⟨rfl, rfl, hbb⟩ := hcut
    obtain ⟨w3, rfl⟩ : ∃ w3 : World, w3 = wc := ⟨_, rfl⟩
    have HB3 := Lib.hid hbb
    clear hbb hRA hRB HRA HRB
    obtain ⟨i0, hi0, hz1, hz2, hz3⟩ := info_parts info_int
    have hi3 := HI.out.below HB3.out
    obtain ⟨hml, h2⟩ := hi3
    obtain ⟨b, off, rfl, hb, hc⟩ := h2 (by omega)
    obtain ⟨p1, p2⟩ := pow_bd A (by omega)
    have HC := Lib.hid hc
    clear hc h2 hml
    go_wp2_with fail
    go_loopw [10, 54] (fun u i wr => ∃ k : Nat, k ≤ n ∧ i = .int .i64 k ∧ WoOwn wr w3.heap.size u z A (keepN A k) ∧ Below w3.heap.size w3 wr) (fun _ i _ => n - (intOf i).toNat)
    case atStart => exact ⟨0, Nat.zero_le _, rfl, ⟨rfl, Or.inl ⟨rfl, rfl⟩⟩, Below.refl _ _⟩
    case round =>
      obtain ⟨k, hk, rfl, hown, hbel⟩ := hrel
      have HO := Lib.hid hown
      have HB := Lib.hid hbel
      clear hown
      by_cases hlt : k < n
      · have hcell := hbel.cell (p := ⟨b, off + k, none⟩) hb
        rw [HC.out k hlt] at hcell
        clear hbel
        obtain ⟨s, hs⟩ : ∃ s : Nat, z k = s := ⟨(z k).toNat, by have := (HZB.out k hlt).1; omega⟩
        rw [hs] at hcell
        have HS := Lib.hid hs
        clear hs
        by_cases hkv : k = A
        · subst hkv
          have d1 : ((k : Int) != (k : Int)) = false := by simp
          go_wp2_with fail
          go_roundw
          case rel => exact ⟨k + 1, by omega, by go_num, by rw [show keepN k (k + 1) = keepN k k by unfold keepN; split <;> split <;> omega]; exact HO.out, HB.out⟩
          case measure => simp [intOf]; omega
        · have d1 : ((k : Int) != (A : Int)) = true := by simp; omega
          have w1 : IntKind.i64.wrap ((2 : Int) ^ A) = 2 ^ A := IntWalk.i64_in _ (by omega)
          have w2 : IntKind.i64.wrap ((2 : Int) ^ A - 1) = 2 ^ A - 1 := IntWalk.i64_in _ (by omega)
          have w3' : IntKind.i64.wrap ((A : Int) + 1) = A + 1 := IntWalk.i64_in _ (by omega)
          have hp8 := pow_le7 hle
          have hsn : s < 2 ^ n := by have h4 := HZB.out k hlt; rw [HS.out, pow_cast] at h4; omega
          have w4 : bits .and .i64 (s : Int) ((2 : Int) ^ A - 1) = ((s &&& (2 ^ A - 1) : Nat) : Int) := by rw [mask_val, i64_and _ _ (by omega) (by have := pow_cast A; omega)]
          have hL : unD A (keepN A k) = k := by unfold unD keepN; split <;> split <;> omega
          have hkk : keepN A (k + 1) = keepN A k + 1 := by unfold keepN; split <;> split <;> omega
          have hkl : keepN A k ≤ 9 := by unfold keepN; split <;> omega
          have hwl : wo A s < 65536 := Nat.lt_of_lt_of_le (wo_lt (m := n - 1) (by omega) (by rw [show n - 1 + 1 = n by omega]; exact hsn)) (Nat.le_trans (pow_le7 (n := n - 1) (by omega)) (by omega))
          have HE : Hid (bits .or .i64 ((s : Int) % 2 ^ A) (IntKind.i64.wrap ((s : Int) / 2 ^ (A + 1) * 2 ^ A)) = woZ z A (keepN A k)) := Lib.hid (by
            have e1 : (s : Int) % 2 ^ A = ((s &&& (2 ^ A - 1) : Nat) : Int) := by rw [Nat.and_two_pow_sub_one_eq_mod, Int.natCast_emod, Int.natCast_pow]; rfl
            have hw2 : wo A s = s &&& (2 ^ A - 1) ||| s >>> (A + 1) <<< A := rfl
            have l1 : s &&& (2 ^ A - 1) ≤ wo A s := by rw [hw2]; exact Nat.left_le_or
            have l2 : s >>> (A + 1) <<< A ≤ wo A s := by rw [hw2]; exact Nat.right_le_or
            unfold woZ
            rw [e1, shr_val, shl_val, hL, HS.out, Int.toNat_natCast, hw2]
            rw [hw2] at l1 l2 hwl
            clear hw2 e1 w4
            generalize s >>> (A + 1) <<< A = Y at *
            generalize s &&& (2 ^ A - 1) = X at *
            rw [IntWalk.i64_in _ (by omega), i64_or _ _ (by omega) (by omega)])
          have HL := Lib.hid hL
          have HKK := Lib.hid hkk
          clear hL hkk hwl
          go_upto_region 10 with fail
          have hbd : Below wr.heap.size wr wr.drew := below_drewN (Below.refl _ _) 1
          have HO2 := Lib.hid (ownsRow_below HO.out hbd (Nat.le_refl _))
          have HBB := Lib.hid (HB.out.trans (hbd.mono HB.out.size))
          clear hbd hcell
          go_region_law (refine step_append_own rfl (.tmp 62) (.tmp 75) 23 rfl w3.heap.size 3 i0 (.int .i64 0) 1 8 Tryd.underlying23 hi0 hz1 hz2 hz3 rfl (by decide) u10 (keepN A k) _ (by simp [Act.eval, Act.put]) (HO2.out.alloc _) ⟨wr.heap.size, 0, none⟩ 1 1 [.int .i64 (bits .or .i64 ((s : Int) % 2 ^ A) (IntKind.i64.wrap ((s : Int) / 2 ^ (A + 1) * 2 ^ A)))] (by simp [Act.eval, Act.put]) rfl (cells_new wr.drew _ _) (by intro u hu; simp at hu; subst hu; rfl) (by unfold maxLen; omega) (by omega) (by simp; have := HBB.out.size; simp at this; omega) ?_; intro u' w5 hown1 hg1; rw [HE.out] at hown1; have HO3 := Lib.hid hown1; have HG3 := Lib.hid hg1; clear hown1 hg1)
          go_wp2_with fail
          go_roundw
          case rel =>
            refine ⟨k + 1, by omega, by go_num, ?_, (HBB.out.alloc HBB.out.size _).grown HG3.out (by simp; have := HB.out.size; omega) (fun k hk => (World.ownsRow.lt HO2.out k hk).1)⟩
            rw [HKK.out]
            unfold WoOwn woCells
            rw [List.range_succ, List.map_append]
            exact HO3.out
          case measure => simp [intOf]; omega
      · have hke : k = n := by omega
        subst hke
        have hkn : keepN A k = k - 1 := by unfold keepN; split <;> omega
        rw [hkn] at HO
        clear hbel hkn
        obtain ⟨ah, ch, rfl, hih⟩ := HO.out.ints hn2 (by omega)
        have HIH := Lib.hid hih
        have HPW := Lib.hid (woN_pl HP.out hn2 hAn)
        have HTP := Lib.hid (tru_pw HPW.out)
        have HWO := Lib.hid (pw_wo HP.out hn2 hAn)
        have HB4 := Lib.hid (HB3.out.trans (HB.out.mono HB3.out.size))
        clear hih
        obtain ⟨N, hN⟩ : ∃ N, N = pw (k - 1) (woN (natG z) A) := ⟨_, rfl⟩
        have HTN : Hid (rst (k - 1) (tbd (k - 1) (natG (tru (k - 1) (woN (natG z) A)))) 0 = N) := Lib.hid (HTP.out.trans hN.symm)
        have hNW : N ≤ W ∧ W ≤ N + 1 := by rw [hN, ← HW.out]; exact HWO.out
        obtain ⟨hN1, hN2⟩ := hNW
        clear hN
        go_wp2_with fail
        go_at_call 20
        refine (Layout_yes _ HIH.out (tru_in HPW.out) (HT.out.below HB4.out) (tru_graph HPW.out)).mono ?_
        rintro e w5 ⟨v5, rfl, -, hb5⟩
        rw [HTN.out]
        have HX5 := Lib.hid (HB.out.trans (hb5.mono HB.out.size))
        have HB5 := Lib.hid (HB4.out.trans (hb5.mono HB4.out.size))
        clear hb5
        have cA := HX5.out.cell (p := ⟨b, off + A, none⟩) hb
        rw [HC.out A hAn, HZN.out A hAn] at cA
        have hA16 : natG z A < 65536 := by have := HP.out.bd A hAn; have := pow_le7 hle; omega
        have hB64 : B < 64 := by omega
        obtain ⟨rA, hrA⟩ : ∃ r : Nat, r = natG z A := ⟨_, rfl⟩
        rw [← hrA] at cA hA16
        have HEA : Hid (natG z A = rA) := Lib.hid hrA.symm
        clear hrA
        have e1 : decide ((N : Int) > (W : Int)) = false := by simp; omega
        have e2 : decide ((N : Int) < (W : Int) - 1) = false := by simp; omega
        cases hq : rA.testBit B
        · go_wp2_with (go_at_call 22; refine (awake_any _ (HT.out.below HB5.out)).mono ?_; rintro e w6 ⟨rfl, hb6⟩; have HB6 := Lib.hid (HB5.out.trans (hb6.mono HB5.out.size)); clear hb6)
          go_ret
          exact ⟨rfl, HB6.out⟩
        · have HQ := Lib.hid hq
          have hAB : A ≠ B := fun e => by
            have := HP.out.loop A hAn
            rw [HEA.out, e, HQ.out] at this; cases this
          have HCP := Lib.hid (cutN_pl HP.out hAn hBn hAB)
          have HTC := Lib.hid (tru_pw HCP.out)
          have HCW := Lib.hid (pw_cut HP.out hn2 hAn hBn hAB)
          obtain ⟨M, hM⟩ : ∃ M, M = pw k (cutN (natG z) A B) := ⟨_, rfl⟩
          have HTM : Hid (rst k (tbd k (natG (tru k (cutN (natG z) A B)))) 0 = M) := Lib.hid (HTC.out.trans hM.symm)
          have hMW : M ≤ W ∧ W ≤ M + 1 := by rw [hM, ← HW.out]; exact HCW.out
          obtain ⟨hM1, hM2⟩ := hMW
          clear hM
          have HMIN : Hid (min k 11 = k) := HM
          go_wp2_with (go_at_call 18; refine (Few_own k z _ _ (HA.out.below HB5.out)).mono ?_; rintro e w6 ⟨u6, rfl, ho6, hb6⟩; rw [HMIN.out] at ho6; obtain ⟨g10, c10, rfl, -, hg10, -, -, m10⟩ := own_mine ho6 (by omega); have HB6 := Lib.hid (HB5.out.trans (hb6.mono HB5.out.size)); clear ho6 hb6)
          have HM10 : Hid (Mine w6 g10 k (fun t => ((natG z t : Nat) : Int))) := Lib.hid (m10.mono (Nat.le_refl _) fun i hi => (HZN.out i hi).symm)
          have hg10' : w.heap.size ≤ g10 := Nat.le_trans HB5.out.size hg10
          have hpA := pow_bd A (by omega)
          have hpB := pow_bd B (by omega)
          have hA15 : A < 16 := by omega
          have hB15 : B < 16 := by omega
          have hA64 : A < 64 := by omega
          obtain ⟨rB, hrB⟩ : ∃ r : Nat, r = natG z B := ⟨_, rfl⟩
          have hB16 : rB < 65536 := by rw [hrB]; have := HP.out.bd B hBn; have := pow_le7 hle; omega
          have HEB : Hid (natG z B = rB) := Lib.hid hrB.symm
          clear hrB m10
          go_upto_region 18 with fail
          go_cut [114] (fun _ wx => Mine wx g10 k (fun t => if t = A then ((diff rA (2 ^ B) : Nat) : Int) else ((natG z t : Nat) : Int)) ∧ Below w.heap.size w wx)
          case first =>
            have c0 : w6.cell? ⟨g10, A, none⟩ = some (.int .i64 ((rA : Nat) : Int)) := by rw [← HEA.out]; exact HM10.out.cell A hAn
            have f0 := HM10.out.free A hAn
            have l0 := HM10.out.lt
            go_wp2_with fail
            go_region
            all_goals
              go_wp2_with fail
              go_meet
              exact ⟨(Mine.drewN HM10.out _).set hAn _, (below_drewN HB6.out _).setCell hg10' _⟩
          case rest =>
            obtain ⟨hx1, hx3⟩ := hcut
            obtain ⟨w8, rfl⟩ : ∃ w8 : World, w8 = wc := ⟨_, rfl⟩
            have HM12 := Lib.hid hx1
            have HX8 := Lib.hid hx3
            clear hx1 hx3 HM10
            go_upto_region 19 with fail
            go_cut [122] (fun _ wx => Mine wx g10 k (fun t => ((cutN (natG z) A B t : Nat) : Int)) ∧ Below w.heap.size w wx)
            case first =>
              have c0 : w8.cell? ⟨g10, B, none⟩ = some (.int .i64 ((rB : Nat) : Int)) := by
                rw [HM12.out.cell B hBn, if_neg (Ne.symm hAB), HEB.out]
              have f0 := HM12.out.free B hBn
              have l0 := HM12.out.lt
              go_wp2_with fail
              go_region
              all_goals
                go_wp2_with fail
                go_meet
                refine ⟨((Mine.drewN HM12.out _).set hBn _).mono (Nat.le_refl _) fun i hi => ?_, (below_drewN HX8.out _).setCell hg10' _⟩
                show ((cutN (natG z) A B i : Nat) : Int) = if i = B then ((diff rB (2 ^ A) : Nat) : Int) else if i = A then ((diff rA (2 ^ B) : Nat) : Int) else ((natG z i : Nat) : Int)
                unfold cutN
                rw [HEA.out, HEB.out]
                by_cases e1 : i = A
                · rw [if_pos e1, if_neg (by rw [e1]; exact hAB), if_pos e1]
                · rw [if_neg e1, if_neg e1]
                  split <;> rfl
            case rest =>
              obtain ⟨hx1, hx3⟩ := hcut
              obtain ⟨w9, rfl⟩ : ∃ w9 : World, w9 = wc := ⟨_, rfl⟩
              have HM14 := Lib.hid hx1
              have HB9 := Lib.hid hx3
              have HI9 := Lib.hid (ints_congr (z' := tru k (cutN (natG z) A B)) (Mine.ints HM14.out (by unfold maxLen; omega)) tru_at)
              clear hx1 hx3 HM12
              go_wp2_with fail
              go_at_call 20
              refine (Layout_yes _ HI9.out (tru_in HCP.out) (HT.out.below HB9.out) (tru_graph HCP.out)).mono ?_
              rintro e w10 ⟨v10, rfl, -, hb10⟩
              rw [HTM.out]
              have HB10 := Lib.hid (HB9.out.trans (hb10.mono HB9.out.size))
              clear hb10
              have e3 : decide ((M : Int) ≤ (W : Int)) = true := by simp; omega
              have e4 : decide ((M : Int) ≥ (W : Int) - 1) = true := by simp; omega
              go_wp2_with fail
              go_at_call 22
              refine (awake_any _ (HT.out.below HB10.out)).mono ?_
              rintro e w11 ⟨rfl, hb11⟩
              have HB11 := Lib.hid (HB10.out.trans (hb11.mono HB10.out.size))
              clear hb11
              go_wp2_with fail
              go_ret
              exact ⟨rfl, HB11.out⟩

theorem SweepParts_walk (n : Nat) (z : Nat → Int) (x y : Int) (v : Value) (w : World) (hA : SliceArg w v n z) (hz : InI64 z) (hTab : HasTab w) :
    Calls Tryd.prog 15 #[v, .int .i64 x, .int .i64 y] w (LawTrue w) := by
  by_cases h : graphB n 7 z = true ∧ 2 ≤ n
  · exact SweepParts_yes n z x y v w hA hz hTab h.1 h.2
  · refine SweepParts_no n z x y v w hA hz hTab ?_
    by_cases h2 : n < 2
    · exact .inr h2
    · exact .inl (Bool.eq_false_iff.2 fun h3 => h ⟨h3, by omega⟩)

end Go.Proofs.YthbhhfeiianmcaaDoor
