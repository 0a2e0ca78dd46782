/- Numbers that may be written; slices.Reverse; the walk of the law SweepTurns. -/
import Derived.Test.YthbhhfeiianmcaaDoorQk
namespace Go.Proofs.YthbhhfeiianmcaaDoor
set_option linter.unusedSimpArgs false
set_option linter.unusedVariables false
open Go.RowKit Go.Maps

def intL (z : Nat → Int) (m : Nat) : List Value := (List.range m).map fun i => Value.int .i64 (z i)

/-- Numbers that may be written. -/
structure Mine (w : World) (g m : Nat) (z : Nat → Int) : Prop where
  lt : g < w.heap.size
  cell : ∀ i, i < m → w.cell? ⟨g, i, none⟩ = some (.int .i64 (z i))
  free : ∀ i, i < m → w.frozen? ⟨g, i, none⟩ = false

theorem Mine.set {w : World} {g m : Nat} {z : Nat → Int} (h : Mine w g m z) {k : Nat} (hk : k < m) (v : Int) : Mine (w.setCell ⟨g, k, none⟩ (.int .i64 v)) g m (fun t => if t = k then v else z t) := by
  refine ⟨by simpa [World.setCell] using h.lt, fun t ht => ?_, fun t ht => ?_⟩
  · by_cases e : t = k
    · subst e
      rw [if_pos rfl]
      exact World.cell?_setCell_same w _ _ (h.cell t ht)
    · rw [if_neg e, World.cell?_setCell_other w ⟨g, k, none⟩ ⟨g, t, none⟩ _ (by intro e2; injection e2; omega)]
      exact h.cell t ht
  · rw [World.frozen?_setCell]; exact h.free t ht
theorem Mine.other {w : World} {g m : Nat} {z : Nat → Int} (h : Mine w g m z) {b : Nat} (hb : g ≠ b) (k : Nat) (v : Value) : Mine (w.setCell ⟨b, k, none⟩ v) g m z := by
  have hh : (w.setCell ⟨b, k, none⟩ v).heap[g]? = w.heap[g]? := Below.heap_setCell _ _ _ _ hb
  exact ⟨by simpa [World.setCell] using h.lt, fun t ht => by rw [World.cell?_of_block (a := ⟨g, t, none⟩) hh]; exact h.cell t ht, fun t ht => by rw [World.frozen?_of_block (a := ⟨g, t, none⟩) hh]; exact h.free t ht⟩
theorem Mine.below {w w' : World} {g m : Nat} {z : Nat → Int} (h : Mine w g m z) (hb : Below w.heap.size w w') : Mine w' g m z :=
  ⟨Nat.lt_of_lt_of_le h.lt hb.size, fun t ht => by rw [hb.cell (p := ⟨g, t, none⟩) h.lt]; exact h.cell t ht, fun t ht => by rw [hb.frozen (p := ⟨g, t, none⟩) h.lt]; exact h.free t ht⟩
theorem Mine.by {w w' : World} {g m : Nat} {z : Nat → Int} {row : Option Nat} (h : Mine w g m z) (hg : w.grownBy w' row) (hr : some g ≠ row) : Mine w' g m z := by
  have hh := hg.block g h.lt hr
  exact ⟨Nat.lt_of_lt_of_le h.lt hg.size, fun t ht => by rw [World.cell?_of_block (a := ⟨g, t, none⟩) hh]; exact h.cell t ht, fun t ht => by rw [World.frozen?_of_block (a := ⟨g, t, none⟩) hh]; exact h.free t ht⟩
theorem Mine.mono {w : World} {g m m' : Nat} {z z' : Nat → Int} (h : Mine w g m z) (hm : m' ≤ m) (he : ∀ i, i < m' → z' i = z i) : Mine w g m' z' :=
  ⟨h.lt, fun t ht => by rw [he t ht]; exact h.cell t (by omega), fun t ht => h.free t (by omega)⟩

theorem Mine.ints {w : World} {g m : Nat} {z : Nat → Int} (h : Mine w g m z) (hm : m ≤ maxLen) : IntsAt w (some ⟨g, 0, none⟩) m z :=
  ⟨hm, fun _ => ⟨g, 0, rfl, h.lt, fun i hi => by rw [Nat.zero_add]; exact h.cell i hi⟩⟩

theorem own_mine {w : World} {base : Nat} {v : Value} {n : Nat} {z : Nat → Int} (h : w.ownsRow base 3 1 v n (intL z n)) (hn : 0 < n) : ∃ g cap, v = .slice (some ⟨g, 0, none⟩) n cap ∧ v.ownBlock = some g ∧ base ≤ g ∧ n ≤ cap ∧ cap ≤ maxLen ∧ Mine w g n z := by
  rcases h.2 with h1 | ⟨g, cap, cur, hv, hg, hh, h1, h2, h3, h4⟩
  · omega
  · subst hv
    refine ⟨g, cap, rfl, rfl, hg, h1, h2, (Array.getElem?_eq_some_iff.1 hh).1, fun i hi => ?_, fun i hi => ?_⟩
    · rw [World.ownsRow.cellAt h i (by omega)]
      exact map_range_get _ hi
    · simp [World.frozen?, hh]
theorem Mine.drewN {w : World} {g m : Nat} {z : Nat → Int} (h : Mine w g m z) (k : Nat) : Mine (w.drewN k) g m z := ⟨h.lt, h.cell, h.free⟩


def OwnPost (n : Nat) (z : Nat → Int) (w : World) (e : Ending) (w' : World) : Prop :=
  ∃ v, e = .returned v ∧ w'.ownsRow w.heap.size 3 1 v n (intL z n) ∧ Below w.heap.size w w'

set_option maxRecDepth 20000 in
set_option maxHeartbeats 1000000 in
theorem CloneI_own (n : Nat) (z : Nat → Int) (v : Value) (w : World) (hn : n ≤ 1000000) (h : SliceArg w v n z) : Calls Tryd.prog 51 #[v] w (OwnPost n z w) := by
  obtain ⟨i0, hi0, hz1, hz2, hz3⟩ := info_parts info_int
  have hq := fun w a n c => Lib.run_eql_slice_nil (P := Tryd.prog) w 22 3 a n c 0 0 Tryd.underlying22
  rcases h with ⟨rfl, rfl⟩ | ⟨x, cap, rfl, h1, h2, h3⟩
  · go_enter Tryd.func51, Tryd.ntmps51
    go_wp2
    go_ret
    exact ⟨_, rfl, ⟨rfl, Or.inl ⟨rfl, rfl⟩⟩, Below.refl _ _⟩
  · go_enter Tryd.func51, Tryd.ntmps51
    unfold maxLen at h2
    have hnews : ∀ j u, ((List.range n).map fun i => Value.int .i64 (z i))[j]? = some u → (w.alloc (.cells #[] 3)).cell? (x.add j) = some u := by
      intro j u hu
      by_cases hj : j < n
      · rw [map_range_get _ hj] at hu
        cases hu
        obtain ⟨b, off, rfl, h4, h5⟩ := h3 (by omega)
        have e1 : (⟨b, off, none⟩ : Addr).add j = ⟨b, off + j, none⟩ := by
          unfold Addr.add
          split
          · rename_i h0; subst h0; rfl
          · rfl
        rw [e1, ((Below.refl w.heap.size w).alloc (Nat.le_refl _) _).cell (p := ⟨b, off + j, none⟩) h4]
        exact h5 j hj
      · simp [hj] at hu
    have HN := Lib.hid hnews
    clear hnews
    go_wp2_with (at_builtin; refine wpList_append_own _ rfl _ _ 22 rfl w.heap.size 3 i0 (.int .i64 0) 1 8 Tryd.underlying22 hi0 hz1 hz2 hz3 rfl (by decide) _ _ _ rfl (World.ownsRow_made w #[] 0 (Nat.le_refl _) (Nat.zero_le _) rfl) x n cap ((List.range n).map fun i => Value.int .i64 (z i)) rfl (by simp) HN.out ?c2 ?c3 ?c4 ?c5 ?_)
    case c2 => intro u hu; obtain ⟨i, _, rfl⟩ := List.mem_map.1 hu; rfl
    case c3 => unfold maxLen; omega
    case c4 => omega
    case c5 => simp
    intro v' w1 hown hgr _
    have HO := Lib.hid hown
    have HG := Lib.hid hgr
    clear hown hgr
    go_wp2_with fail
    go_ret
    have ho := HO.out
    have hb : Below w.heap.size w w1 := ((Below.refl w.heap.size w).alloc (Nat.le_refl _) _).grown HG.out (by simp) (fun k hk => by simp [Value.ownBlock] at hk; omega)
    try simp only [Nat.zero_add, List.nil_append] at ho
    exact ⟨_, rfl, ho, hb⟩

set_option maxRecDepth 20000 in
set_option maxHeartbeats 1000000 in
theorem List_own (n : Nat) (z : Nat → Int) (v : Value) (w : World) (h : SliceArg w v n z) : Calls Tryd.prog 19 #[v] w (OwnPost (min n 140) z w) := by
  rcases h with ⟨rfl, rfl⟩ | ⟨x, cap, rfl, h1, h2, h3⟩
  · go_enter Tryd.func19, Tryd.ntmps19
    go_wp2_with (go_at_call 51; refine (CloneI_own 0 z _ _ (by omega) (Or.inl ⟨rfl, rfl⟩)).mono ?_; rintro e w1 ⟨a, rfl, hi, hb⟩)
    go_ret
    exact ⟨a, rfl, hi, hb⟩
  · unfold maxLen at h2
    by_cases hn : n ≤ 140
    · have hmin : min n 140 = n := by omega
      have HM := Lib.hid hmin
      clear hmin
      have HA : Hid (SliceArg w (.slice (some x) n cap) n z) := Lib.hid (Or.inr ⟨x, cap, rfl, h1, by unfold maxLen; exact h2, h3⟩)
      clear h3
      go_enter Tryd.func19, Tryd.ntmps19
      go_wp2_with (go_at_call 51; refine (CloneI_own n z _ _ (by omega) HA.out).mono ?_; rintro e w1 ⟨a, rfl, hi, hb⟩; have HI := Lib.hid hi; clear hi)
      go_ret
      rw [HM.out]
      exact ⟨a, rfl, HI.out, hb⟩
    · have hmin : min n 140 = 140 := by omega
      have HM := Lib.hid hmin
      clear hmin
      have HA : Hid (SliceArg w (.slice (some x) 140 cap) 140 z) := Lib.hid (Or.inr ⟨x, cap, rfl, by omega, by unfold maxLen; exact h2, fun _ => by
        obtain ⟨b, off, rfl, h4, h5⟩ := h3 (by omega)
        exact ⟨b, off, rfl, h4, fun i hi => h5 i (by omega)⟩⟩)
      clear h3
      go_enter Tryd.func19, Tryd.ntmps19
      go_wp2_with (go_at_call 51; refine (CloneI_own 140 z _ _ (by omega) HA.out).mono ?_; rintro e w1 ⟨a, rfl, hi, hb⟩; have HI := Lib.hid hi; clear hi)
      go_ret
      rw [HM.out]
      exact ⟨a, rfl, HI.out, hb⟩



/-- Numbers whose outer ones have been turned. -/
def rvZ (n : Nat) (z : Nat → Int) (i t : Nat) : Int := if t < i ∨ n ≤ t + i then z (n - 1 - t) else z t

set_option maxRecDepth 20000 in
set_option maxHeartbeats 2000000 in
theorem Reverse_any {n : Nat} {z : Nat → Int} {g : Nat} (cap : Nat) {w : World} (hn : n ≤ 1000000) (h0 : 0 < n) (hM : Mine w g n z) :
    Calls Tryd.prog 46 #[.slice (some ⟨g, 0, none⟩) n cap] w fun e w' => e = .returned (.tuple #[]) ∧ Mine w' g n (backZ n z) ∧ Below g w w' := by
  have HM := Lib.hid hM
  clear hM
  go_enter Tryd.func46, Tryd.ntmps46
  go_wp2_with fail
  go_loopw [2, 3] (fun a b wr => ∃ i : Nat, 2 * i ≤ n ∧ a = .int .i64 i ∧ b = .int .i64 ((n : Int) - 1 - i) ∧ Mine wr g n (rvZ n z i) ∧ Below g w wr) (fun a _ _ => n - (intOf a).toNat)
  case atStart => exact ⟨0, by omega, rfl, by simp, HM.out.mono (Nat.le_refl _) (fun t ht => by unfold rvZ; rw [if_neg (by omega)]), Below.refl _ _⟩
  case round =>
    obtain ⟨i, hi, rfl, rfl, hM, hb⟩ := hrel
    have HM2 := Lib.hid hM
    have HB := Lib.hid hb
    clear hM hb
    by_cases hij : i < n - 1 - i
    · obtain ⟨j, hj⟩ : ∃ j, j = n - 1 - i := ⟨_, rfl⟩
      rw [show (n : Int) - 1 - i = j by omega]
      have hin : i < n := by omega
      have hjn : j < n := by omega
      have hlt : i < j := by omega
      have hfi : rvZ n z i i = z i := by unfold rvZ; rw [if_neg (by omega)]
      have hfj : rvZ n z i j = z j := by unfold rvZ; rw [if_neg (by omega)]
      have MD : Mine wr.drew g n (rvZ n z i) := HM2.out.drewN 1
      have ci := MD.cell i hin
      have cj := MD.cell j hjn
      have fi := MD.free i hin
      have fj := MD.free j hjn
      have gl := MD.lt
      have MD2 := Lib.hid MD
      clear MD
      have HJ := Lib.hid hj
      clear hj hij
      rw [hfi] at ci
      rw [hfj] at cj
      generalize z i = x at *
      generalize z j = y at *
      have cj2 : (wr.drew.setCell ⟨g, i, none⟩ (.int .i64 y)).cell? ⟨g, j, none⟩ = some (.int .i64 y) := by
        rw [World.cell?_setCell_other wr.drew ⟨g, i, none⟩ ⟨g, j, none⟩ _ (by intro e2; injection e2; omega)]; exact cj
      have cj3 : (wr.setCell ⟨g, i, none⟩ (.int .i64 y)).cell? ⟨g, j, none⟩ = some (.int .i64 y) := cj2
      have fj3 : (wr.setCell ⟨g, i, none⟩ (.int .i64 y)).frozen? ⟨g, j, none⟩ = false := by rw [World.frozen?_setCell]; exact fj
      have gl3 : g < (wr.setCell ⟨g, i, none⟩ (.int .i64 y)).heap.size := by simpa [World.setCell] using gl
      go_upto_region 3 with fail
      go_region_law (fail "no")
      all_goals
        have hf : ∀ t, t < n → rvZ n z (i + 1) t = if t = j then x else if t = i then y else rvZ n z i t := fun t ht => by
          have hj := HJ.out
          unfold rvZ at hfi hfj ⊢
          rw [if_neg (by omega)] at hfi hfj
          by_cases e1 : t = j
          · subst e1
            rw [if_pos (by omega), if_pos rfl, ← hfi]; congr 1; omega
          · rw [if_neg e1]
            by_cases e2 : t = i
            · subst e2
              rw [if_pos (by omega), if_pos rfl, ← hfj]; congr 1; omega
            · rw [if_neg e2]
              by_cases e3 : t < i ∨ n ≤ t + i
              · rw [if_pos e3, if_pos (by omega)]
              · rw [if_neg e3, if_neg (by omega)]
        have MF := Lib.hid ((((HM2.out.set hin y).set hjn x).mono (Nat.le_refl _) hf).drewN 1)
        have HBF := Lib.hid (below_drewN ((HB.out.setCell (p := ⟨g, i, none⟩) (Nat.le_refl _) (.int .i64 y)).setCell (p := ⟨g, j, none⟩) (Nat.le_refl _) (.int .i64 x)) 1)
        clear hf
        go_wp2_with fail
        go_roundw
        case rel => exact ⟨i + 1, by have := HJ.out; omega, by go_num, congrArg (Value.int .i64) (by have := HJ.out; omega), MF.out, HBF.out⟩
        case measure => simp [intOf]; omega
    · have d1 : decide ((i : Int) < (n : Int) - 1 - i) = false := by simp; omega
      have MF := Lib.hid (HM2.out.mono (z' := backZ n z) (Nat.le_refl _) (fun t ht => by
        unfold backZ rvZ
        split
        · rfl
        · congr 1; omega))
      go_wp2_with fail
      go_end0
      exact ⟨rfl, MF.out, HB.out⟩

set_option maxRecDepth 20000 in
set_option maxHeartbeats 1000000 in
theorem Reverse_none (a : Option Addr) (cap : Nat) (w : World) :
    Calls Tryd.prog 46 #[.slice a 0 cap] w fun e w' => e = .returned (.tuple #[]) ∧ w = w' := by
  go_enter Tryd.func46, Tryd.ntmps46
  go_wp2_with fail
  go_loopw [2, 3] (fun a b wr => a = .int .i64 0 ∧ b = .int .i64 (-1) ∧ w = wr) (fun _ _ _ => 0)
  case atStart => exact ⟨rfl, rfl, rfl⟩
  case round =>
    obtain ⟨rfl, rfl, rfl⟩ := hrel
    go_wp2_with fail
    go_end0
    exact ⟨rfl, rfl⟩

/-- slices.Reverse over numbers of one's own. -/
theorem Reverse_own {n : Nat} {z : Nat → Int} {v : Value} {base : Nat} {w : World} (hn : n ≤ 1000000) (h : w.ownsRow base 3 1 v n (intL z n)) :
    Calls Tryd.prog 46 #[v] w fun e w' => e = .returned (.tuple #[]) ∧ (∃ a cap, v = .slice a n cap ∧ IntsAt w' a n (backZ n z)) ∧ Below base w w' := by
  by_cases h0 : n = 0
  · subst h0
    obtain ⟨a, cap, rfl⟩ := own_form h
    refine (Reverse_none a cap w).mono ?_
    rintro e w' ⟨rfl, rfl⟩
    exact ⟨rfl, ⟨a, cap, rfl, ⟨by decide, fun h => absurd h (by omega)⟩⟩, Below.refl _ _⟩
  · obtain ⟨g, cap, rfl, _, hg, hc, hc2, hM⟩ := own_mine h (by omega)
    refine (Reverse_any cap hn (by omega) hM).mono ?_
    rintro e w' ⟨rfl, hM2, hb⟩
    exact ⟨rfl, ⟨_, cap, rfl, hM2.ints (by unfold maxLen; omega)⟩, hb.mono hg⟩

set_option maxRecDepth 200000 in
set_option maxHeartbeats 4000000 in
theorem SweepTurns_walk (n m : Nat) (z y : Nat → Int) (v vo : Value) (w : World) (hA : SliceArg w v n z) (hz : InI64 z) (hO : SliceArg w vo m y) (hTab : HasTab w) :
    Calls Tryd.prog 16 #[v, vo] w (LawTrue w) := by
  obtain ⟨a, cap, rfl, hI⟩ := hA.ints
  obtain ⟨o, co, rfl, hL⟩ := hO.ints
  have HA := Lib.hid hA
  have HZ := Lib.hid hz
  have HLA := Lib.hid hO
  have HT := Lib.hid (Tab.of hTab)
  have HMM : Hid (min m 140 ≤ 1000000) := Lib.hid (by omega)
  clear hA hI hz hTab hO hL
  cases hg : graphB n 7 z
  · have HGM : graphB (min n 11) 7 z = false := by rw [graphB_few]; exact hg
    clear hg
    go_enter Tryd.func16, Tryd.ntmps16
    go_wp2_with fail
    go_at_call 18
    refine (Few_any n z _ _ HA.out).mono ?_
    rintro e w1 ⟨a1, c1, rfl, hi1, hb1⟩
    have HB1 := Lib.hid hb1
    have HI1 := Lib.hid hi1
    clear hb1 hi1
    go_wp2_with fail
    go_at_call 19
    refine (List_any m y _ _ (HLA.out.below HB1.out)).mono ?_
    rintro e w2 ⟨a2, c2, rfl, hi2, hb2⟩
    have HX2 := Lib.hid hb2
    have HB2 := Lib.hid (HB1.out.trans (hb2.mono HB1.out.size))
    clear hb2
    clear hi2
    go_wp2_with fail
    go_at_call 29
    refine (Check_none _ _ (HI1.out.below HX2.out) HZ.out (HT.out.below HB2.out) HGM).mono ?_
    rintro e w3 ⟨rfl, hb3⟩
    have HB3 := Lib.hid (HB2.out.trans (hb3.mono HB2.out.size))
    clear hb3
    go_wp2_with fail
    go_at_call 19
    refine (List_own m y _ _ (HLA.out.below HB3.out)).mono ?_
    rintro e w4 ⟨v4, rfl, ho4, hb4⟩
    have HO4 := Lib.hid ho4
    clear ho4
    have HB4 := Lib.hid (HB3.out.trans (hb4.mono HB3.out.size))
    clear hb4
    go_wp2_with fail
    go_at_call 46
    refine (Reverse_own HMM.out HO4.out).mono ?_
    rintro e w5 ⟨rfl, ⟨a5, c5, rfl, hi5⟩, hb5⟩
    have HI5 := Lib.hid hi5
    clear hi5
    have HB5 := Lib.hid (HB4.out.trans (hb5.mono HB3.out.size))
    clear hb5
    go_wp2_with fail
    go_at_call 18
    refine (Few_any n z _ _ (HA.out.below HB5.out)).mono ?_
    rintro e w6 ⟨a6, c6, rfl, hi6, hb6⟩
    have HI6 := Lib.hid hi6
    clear hi6
    have HB6 := Lib.hid (HB5.out.trans (hb6.mono HB5.out.size))
    clear hb6
    go_wp2_with fail
    go_at_call 29
    refine (Check_none _ _ HI6.out HZ.out (HT.out.below HB6.out) HGM).mono ?_
    rintro e w7 ⟨rfl, hb7⟩
    have HB7 := Lib.hid (HB6.out.trans (hb7.mono HB6.out.size))
    clear hb7
    go_wp2_with fail
    go_at_call 22
    refine (awake_any _ (HT.out.below HB7.out)).mono ?_
    rintro e w8 ⟨rfl, hb8⟩
    have HB8 := Lib.hid (HB7.out.trans (hb8.mono HB7.out.size))
    clear hb8
    go_wp2_with fail
    go_ret
    exact ⟨rfl, HB8.out⟩
  · have hP := pl_of hg
    have hn7 := hP.le
    have HM : Hid (min n 11 = n) := Lib.hid (by omega)
    have HG0 := Lib.hid hg
    clear hg hP
    cases hp : pathB n (natG z) (min m 140) y
    · have HP1 := Lib.hid hp
      have HP2 : Hid (pathB n (natG z) (min m 140) (backZ (min m 140) y) = false) := Lib.hid (by rw [path_back]; exact hp)
      clear hp
      go_enter Tryd.func16, Tryd.ntmps16
      go_wp2_with fail
      go_at_call 18
      refine (Few_any n z _ _ HA.out).mono ?_
      rintro e w1 ⟨a1, c1, rfl, hi1, hb1⟩
      rw [HM.out] at hi1
      rw [HM.out]
      have HB1 := Lib.hid hb1
      have HI1 := Lib.hid hi1
      clear hb1 hi1
      go_wp2_with fail
      go_at_call 19
      refine (List_any m y _ _ (HLA.out.below HB1.out)).mono ?_
      rintro e w2 ⟨a2, c2, rfl, hi2, hb2⟩
      have HX2 := Lib.hid hb2
      have HI2 := Lib.hid hi2
      have HB2 := Lib.hid (HB1.out.trans (hb2.mono HB1.out.size))
      clear hb2
      clear hi2
      go_wp2_with fail
      go_at_call 29
      refine (Check_no _ _ (HI1.out.below HX2.out) HZ.out HI2.out (HT.out.below HB2.out) HG0.out HP1.out).mono ?_
      rintro e w3 ⟨rfl, hb3⟩
      have HB3 := Lib.hid (HB2.out.trans (hb3.mono HB2.out.size))
      clear hb3
      go_wp2_with fail
      go_at_call 19
      refine (List_own m y _ _ (HLA.out.below HB3.out)).mono ?_
      rintro e w4 ⟨v4, rfl, ho4, hb4⟩
      have HO4 := Lib.hid ho4
      clear ho4
      have HB4 := Lib.hid (HB3.out.trans (hb4.mono HB3.out.size))
      clear hb4
      go_wp2_with fail
      go_at_call 46
      refine (Reverse_own HMM.out HO4.out).mono ?_
      rintro e w5 ⟨rfl, ⟨a5, c5, rfl, hi5⟩, hb5⟩
      have HI5 := Lib.hid hi5
      clear hi5
      have HB5 := Lib.hid (HB4.out.trans (hb5.mono HB3.out.size))
      clear hb5
      go_wp2_with fail
      go_at_call 18
      refine (Few_any n z _ _ (HA.out.below HB5.out)).mono ?_
      rintro e w6 ⟨a6, c6, rfl, hi6, hb6⟩
      rw [HM.out] at hi6
      rw [HM.out]
      have HI6 := Lib.hid hi6
      have HX6 := Lib.hid hb6
      clear hi6
      have HB6 := Lib.hid (HB5.out.trans (hb6.mono HB5.out.size))
      clear hb6
      go_wp2_with fail
      go_at_call 29
      refine (Check_no _ _ HI6.out HZ.out (HI5.out.below HX6.out) (HT.out.below HB6.out) HG0.out HP2.out).mono ?_
      rintro e w7 ⟨rfl, hb7⟩
      have HB7 := Lib.hid (HB6.out.trans (hb7.mono HB6.out.size))
      clear hb7
      go_wp2_with fail
      go_at_call 22
      refine (awake_any _ (HT.out.below HB7.out)).mono ?_
      rintro e w8 ⟨rfl, hb8⟩
      have HB8 := Lib.hid (HB7.out.trans (hb8.mono HB7.out.size))
      clear hb8
      go_wp2_with fail
      go_ret
      exact ⟨rfl, HB8.out⟩
    · have HP1 := Lib.hid hp
      have HP2 : Hid (pathB n (natG z) (min m 140) (backZ (min m 140) y) = true) := Lib.hid (by rw [path_back]; exact hp)
      have HMB : Hid (mostB n (backZ (min m 140) y) (min m 140) = mostB n y (min m 140)) := Lib.hid mostB_back
      clear hp
      go_enter Tryd.func16, Tryd.ntmps16
      go_wp2_with fail
      go_at_call 18
      refine (Few_any n z _ _ HA.out).mono ?_
      rintro e w1 ⟨a1, c1, rfl, hi1, hb1⟩
      rw [HM.out] at hi1
      rw [HM.out]
      have HB1 := Lib.hid hb1
      have HI1 := Lib.hid hi1
      clear hb1 hi1
      go_wp2_with fail
      go_at_call 19
      refine (List_any m y _ _ (HLA.out.below HB1.out)).mono ?_
      rintro e w2 ⟨a2, c2, rfl, hi2, hb2⟩
      have HX2 := Lib.hid hb2
      have HI2 := Lib.hid hi2
      have HB2 := Lib.hid (HB1.out.trans (hb2.mono HB1.out.size))
      clear hb2
      clear hi2
      go_wp2_with fail
      go_at_call 29
      refine (Check_yes _ _ (HI1.out.below HX2.out) HZ.out HI2.out (HT.out.below HB2.out) HG0.out HP1.out).mono ?_
      rintro e w3 ⟨rfl, hb3⟩
      have HB3 := Lib.hid (HB2.out.trans (hb3.mono HB2.out.size))
      clear hb3
      go_wp2_with fail
      go_at_call 19
      refine (List_own m y _ _ (HLA.out.below HB3.out)).mono ?_
      rintro e w4 ⟨v4, rfl, ho4, hb4⟩
      have HO4 := Lib.hid ho4
      clear ho4
      have HB4 := Lib.hid (HB3.out.trans (hb4.mono HB3.out.size))
      clear hb4
      go_wp2_with fail
      go_at_call 46
      refine (Reverse_own HMM.out HO4.out).mono ?_
      rintro e w5 ⟨rfl, ⟨a5, c5, rfl, hi5⟩, hb5⟩
      have HI5 := Lib.hid hi5
      clear hi5
      have HB5 := Lib.hid (HB4.out.trans (hb5.mono HB3.out.size))
      clear hb5
      go_wp2_with fail
      go_at_call 18
      refine (Few_any n z _ _ (HA.out.below HB5.out)).mono ?_
      rintro e w6 ⟨a6, c6, rfl, hi6, hb6⟩
      rw [HM.out] at hi6
      rw [HM.out]
      have HI6 := Lib.hid hi6
      have HX6 := Lib.hid hb6
      clear hi6
      have HB6 := Lib.hid (HB5.out.trans (hb6.mono HB5.out.size))
      clear hb6
      go_wp2_with fail
      go_at_call 29
      refine (Check_yes _ _ HI6.out HZ.out (HI5.out.below HX6.out) (HT.out.below HB6.out) HG0.out HP2.out).mono ?_
      rintro e w7 ⟨rfl, hb7⟩
      rw [HMB.out]
      have HB7 := Lib.hid (HB6.out.trans (hb7.mono HB6.out.size))
      clear hb7
      go_wp2_with fail
      go_at_call 22
      refine (awake_any _ (HT.out.below HB7.out)).mono ?_
      rintro e w8 ⟨rfl, hb8⟩
      have HB8 := Lib.hid (HB7.out.trans (hb8.mono HB7.out.size))
      clear hb8
      go_wp2_with fail
      go_ret
      exact ⟨rfl, HB8.out⟩

end Go.Proofs.YthbhhfeiianmcaaDoor
