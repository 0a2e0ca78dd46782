/- A slice of numbers as an argument, copies of slices, slices that are compared. -/
import Derived.Test.YtfmppncefbjicaaDoorW0
import Derived.Deep.OwnRows
namespace Go.Proofs.YtfmppncefbjicaaDoor
set_option linter.unusedSimpArgs false
set_option linter.unusedVariables false
open Go.RowKit Go.Maps

theorem info_int : (Tryd.prog.info? 3).map (fun i => (i.zero, i.size, i.bytes)) = some (some (.int .i64 0), 1, 8) := by kernel_rfl
theorem own_form {w : World} {base : Nat} {e : TypeId} {size : Nat} {v : Value} {n : Nat} {xs : List Value} (h : w.ownsRow base e size v n xs) : ∃ a cap, v = .slice a n cap := by
  rcases h.2 with h1 | ⟨g, cap, cur, hv, _⟩
  · exact ⟨none, 0, by rw [h1.1, h1.2]⟩
  · exact ⟨_, cap, hv⟩
theorem own_form' {w : World} {base : Nat} {e : TypeId} {size : Nat} {v : Value} {n : Nat} {xs : List Value} (h : w.ownsRow base e size v n xs) (hn : n ≠ 0) : ∃ g cap, v = .slice (some ⟨g, 0, none⟩) n cap ∧ base ≤ g ∧ g < w.heap.size := by
  rcases h.2 with h1 | ⟨g, cap, cur, hv, hg, hh, _⟩
  · exact absurd h1.2 hn
  · exact ⟨g, cap, hv, hg, (Array.getElem?_eq_some_iff.1 hh).1⟩

/-- A slice of whole numbers as an argument. -/
def SliceArg (w : World) (v : Value) (n : Nat) (z : Nat → Int) : Prop :=
  (v = .slice none 0 0 ∧ n = 0) ∨ ∃ x cap, v = .slice (some x) n cap ∧ n ≤ cap ∧ cap ≤ maxLen ∧ (0 < n → ∃ b off, x = ⟨b, off, none⟩ ∧ b < w.heap.size ∧ ∀ i, i < n → w.cell? ⟨b, off + i, none⟩ = some (.int .i64 (z i)))

theorem SliceArg.ints {w : World} {v : Value} {n : Nat} {z : Nat → Int} (h : SliceArg w v n z) : ∃ a cap, v = .slice a n cap ∧ IntsAt w a n z := by
  rcases h with ⟨rfl, rfl⟩ | ⟨x, cap, rfl, h1, h2, h3⟩
  · exact ⟨none, 0, rfl, by decide, fun h => absurd h (by omega)⟩
  · exact ⟨_, cap, rfl, Nat.le_trans h1 h2, fun hn => by
      obtain ⟨b, off, rfl, h4, h5⟩ := h3 hn
      exact ⟨b, off, rfl, h4, h5⟩⟩

theorem SliceArg.below {w w' : World} {v : Value} {n : Nat} {z : Nat → Int} (h : SliceArg w v n z) (hb : Below w.heap.size w w') : SliceArg w' v n z := by
  rcases h with h | ⟨x, cap, hv, h1, h2, h3⟩
  · exact Or.inl h
  · refine Or.inr ⟨x, cap, hv, h1, h2, fun hn => ?_⟩
    obtain ⟨b, off, hx, h4, h5⟩ := h3 hn
    exact ⟨b, off, hx, Nat.lt_of_lt_of_le h4 hb.size, fun i hi => by rw [hb.cell (p := ⟨b, off + i, none⟩) h4]; exact h5 i hi⟩

/-- What a copy of a slice is: a slice with the same numbers, for which nothing that was there has turned. -/
def CopyPost (n : Nat) (z : Nat → Int) (w : World) (e : Ending) (w' : World) : Prop :=
  ∃ a cap, e = .returned (.slice a n cap) ∧ IntsAt w' a n z ∧ Below w.heap.size w w'

set_option maxRecDepth 20000 in
set_option maxHeartbeats 1000000 in
theorem Clone_any (n : Nat) (z : Nat → Int) (v : Value) (w : World) (hn : n ≤ 1000000) (h : SliceArg w v n z) : Calls Tryd.prog 60 #[v] w (CopyPost n z w) := by
  obtain ⟨i0, hi0, hz1, hz2, hz3⟩ := info_parts info_int
  have hq := fun w a n c => Lib.run_eql_slice_nil (P := Tryd.prog) w 23 3 a n c 0 0 Tryd.underlying23
  rcases h with ⟨rfl, rfl⟩ | ⟨x, cap, rfl, h1, h2, h3⟩
  · go_enter Tryd.func60, Tryd.ntmps60
    go_wp2
    go_ret
    exact ⟨none, 0, rfl, ⟨by decide, fun h => absurd h (by omega)⟩, Below.refl _ _⟩
  · go_enter Tryd.func60, Tryd.ntmps60
    unfold maxLen at h2
    have hnews : ∀ j u, ((List.range n).map fun i => Value.int .i64 (z i))[j]? = some u → (w.alloc (.cells #[] 3)).cell? (x.add j) = some u := by
      intro j u hu
      by_cases hj : j < n
      · rw [map_range_get _ hj] at hu
        cases hu
        obtain ⟨b, off, rfl, h4, h5⟩ := h3 (by omega)
        have e1 : (⟨b, off, none⟩ : Addr).add j = ⟨b, off + j, none⟩ := by
          unfold Addr.add
          split
          · rename_i h0; subst h0; rfl
          · rfl
        rw [e1, ((Below.refl w.heap.size w).alloc (Nat.le_refl _) _).cell (p := ⟨b, off + j, none⟩) h4]
        exact h5 j hj
      · simp [hj] at hu
    have HN := Lib.hid hnews
    clear hnews
    go_wp2_with (at_builtin; refine wpList_append_own _ rfl _ _ 23 rfl w.heap.size 3 i0 (.int .i64 0) 1 8 Tryd.underlying23 hi0 hz1 hz2 hz3 rfl (by decide) _ _ _ rfl (World.ownsRow_made w #[] 0 (Nat.le_refl _) (Nat.zero_le _) rfl) x n cap ((List.range n).map fun i => Value.int .i64 (z i)) rfl (by simp) HN.out ?c2 ?c3 ?c4 ?c5 ?_)
    case c2 => intro u hu; obtain ⟨i, _, rfl⟩ := List.mem_map.1 hu; rfl
    case c3 => unfold maxLen; omega
    case c4 => omega
    case c5 => simp
    intro v' w1 hown hgr _
    have HO := Lib.hid hown
    have HG := Lib.hid hgr
    clear hown hgr
    go_wp2_with fail
    go_ret
    have ho := HO.out
    have hb : Below w.heap.size w w1 := ((Below.refl w.heap.size w).alloc (Nat.le_refl _) _).grown HG.out (by simp) (fun k hk => by simp [Value.ownBlock] at hk; omega)
    try simp only [Nat.zero_add, List.nil_append] at ho
    by_cases h0 : n = 0
    · subst h0
      obtain ⟨a', cap', rfl⟩ := own_form ho
      exact ⟨a', cap', rfl, ⟨by decide, fun h => absurd h (by omega)⟩, hb⟩
    · obtain ⟨g, cap', rfl, hg1, hg2⟩ := own_form' ho h0
      refine ⟨_, cap', rfl, ⟨by unfold maxLen; omega, fun _ => ⟨g, 0, rfl, hg2, fun i hi => ?_⟩⟩, hb⟩
      rw [Nat.zero_add, World.ownsRow.cellAt ho i (by omega)]
      exact map_range_get _ hi

set_option maxRecDepth 20000 in
set_option maxHeartbeats 1000000 in
theorem Few_any (n : Nat) (z : Nat → Int) (v : Value) (w : World) (h : SliceArg w v n z) : Calls Tryd.prog 16 #[v] w (CopyPost (min n 12) z w) := by
  rcases h with ⟨rfl, rfl⟩ | ⟨x, cap, rfl, h1, h2, h3⟩
  · go_enter Tryd.func16, Tryd.ntmps16
    go_wp2_with (go_at_call 60; refine (Clone_any 0 z _ _ (by omega) (Or.inl ⟨rfl, rfl⟩)).mono ?_; rintro e w1 ⟨a, cap, rfl, hi, hb⟩)
    go_ret
    exact ⟨a, cap, rfl, hi, hb⟩
  · unfold maxLen at h2
    by_cases hn : n ≤ 12
    · have hmin : min n 12 = n := by omega
      have HM := Lib.hid hmin
      clear hmin
      have HA : Hid (SliceArg w (.slice (some x) n cap) n z) := Lib.hid (Or.inr ⟨x, cap, rfl, h1, by unfold maxLen; exact h2, h3⟩)
      clear h3
      go_enter Tryd.func16, Tryd.ntmps16
      go_wp2_with (go_at_call 60; refine (Clone_any n z _ _ (by omega) HA.out).mono ?_; rintro e w1 ⟨a, cap', rfl, hi, hb⟩; have HI := Lib.hid hi; clear hi)
      go_ret
      rw [HM.out]
      exact ⟨a, cap', rfl, HI.out, hb⟩
    · have hmin : min n 12 = 12 := by omega
      have HM := Lib.hid hmin
      clear hmin
      have HA : Hid (SliceArg w (.slice (some x) 12 cap) 12 z) := Lib.hid (Or.inr ⟨x, cap, rfl, by omega, by unfold maxLen; exact h2, fun _ => by
        obtain ⟨b, off, rfl, h4, h5⟩ := h3 (by omega)
        exact ⟨b, off, rfl, h4, fun i hi => h5 i (by omega)⟩⟩)
      clear h3
      go_enter Tryd.func16, Tryd.ntmps16
      go_wp2_with (go_at_call 60; refine (Clone_any 12 z _ _ (by omega) HA.out).mono ?_; rintro e w1 ⟨a, cap', rfl, hi, hb⟩; have HI := Lib.hid hi; clear hi)
      go_ret
      rw [HM.out]
      exact ⟨a, cap', rfl, HI.out, hb⟩

/-- What the frame of a law tells of a slice of whole numbers. -/
theorem SliceArg.of_row {w : World} {a : Option Addr} {len cap : Nat} {zs : List Int} (h : (a = none ∧ len = 0 ∧ cap = 0 ∧ zs = []) ∨
    ∃ x, a = some x ∧ len ≤ cap ∧ cap ≤ maxLen ∧ zs.length = cap ∧ (∀ i, i < zs.length → w.cell? (x.add i) = some (.int .i64 (zs.getD i 0))) ∧ ∀ n ∈ zs, (Lit.int .i64 n).wf = true) :
    SliceArg w (.slice a len cap) len (fun i => zs.getD i 0) ∧ ∀ i, -9223372036854775808 ≤ zs.getD i 0 ∧ zs.getD i 0 ≤ 9223372036854775807 := by
  rcases h with ⟨rfl, rfl, rfl, rfl⟩ | ⟨x, rfl, h1, h2, h3, h4, h5⟩
  · exact ⟨Or.inl ⟨rfl, rfl⟩, fun i => by simp⟩
  · refine ⟨Or.inr ⟨x, cap, rfl, h1, h2, fun hn => ?_⟩, fun i => ?_⟩
    · have c0 := h4 0 (by omega)
      have hx0 : x.add 0 = x := by unfold Addr.add; rw [if_pos rfl]
      rw [hx0] at c0
      have hlt := World.block_lt_of_cell? w _ c0
      obtain ⟨b, off, spot⟩ := x
      have hs : spot = none := by
        cases spot with
        | none => rfl
        | some s => simp [World.cell?] at c0; split at c0 <;> cases c0
      subst hs
      refine ⟨b, off, rfl, hlt, fun i hi => ?_⟩
      have ci := h4 i (by omega)
      have e1 : (⟨b, off, none⟩ : Addr).add i = ⟨b, off + i, none⟩ := by
        unfold Addr.add
        split
        · rename_i h0; subst h0; rfl
        · rfl
      rw [e1] at ci
      exact ci
    · by_cases hi : i < zs.length
      · have hm : zs.getD i 0 ∈ zs := by
          rw [List.getD_eq_getElem?_getD, List.getElem?_eq_getElem hi]; exact List.getElem_mem hi
        have := h5 _ hm
        simp only [Lit.wf, IntKind.min, IntKind.max, IntKind.bits, IntKind.signed, Bool.and_eq_true, decide_eq_true_eq] at this
        simpa using this
      · rw [List.getD_eq_getElem?_getD, List.getElem?_eq_none (by omega)]; simp

set_option maxRecDepth 20000 in
set_option maxHeartbeats 1000000 in
theorem CloneI_any (n : Nat) (z : Nat → Int) (v : Value) (w : World) (hn : n ≤ 1000000) (h : SliceArg w v n z) : Calls Tryd.prog 54 #[v] w (CopyPost n z w) := by
  obtain ⟨i0, hi0, hz1, hz2, hz3⟩ := info_parts info_int
  have hq := fun w a n c => Lib.run_eql_slice_nil (P := Tryd.prog) w 22 3 a n c 0 0 Tryd.underlying22
  rcases h with ⟨rfl, rfl⟩ | ⟨x, cap, rfl, h1, h2, h3⟩
  · go_enter Tryd.func54, Tryd.ntmps54
    go_wp2
    go_ret
    exact ⟨none, 0, rfl, ⟨by decide, fun h => absurd h (by omega)⟩, Below.refl _ _⟩
  · go_enter Tryd.func54, Tryd.ntmps54
    unfold maxLen at h2
    have hnews : ∀ j u, ((List.range n).map fun i => Value.int .i64 (z i))[j]? = some u → (w.alloc (.cells #[] 3)).cell? (x.add j) = some u := by
      intro j u hu
      by_cases hj : j < n
      · rw [map_range_get _ hj] at hu
        cases hu
        obtain ⟨b, off, rfl, h4, h5⟩ := h3 (by omega)
        have e1 : (⟨b, off, none⟩ : Addr).add j = ⟨b, off + j, none⟩ := by
          unfold Addr.add
          split
          · rename_i h0; subst h0; rfl
          · rfl
        rw [e1, ((Below.refl w.heap.size w).alloc (Nat.le_refl _) _).cell (p := ⟨b, off + j, none⟩) h4]
        exact h5 j hj
      · simp [hj] at hu
    have HN := Lib.hid hnews
    clear hnews
    go_wp2_with (at_builtin; refine wpList_append_own _ rfl _ _ 22 rfl w.heap.size 3 i0 (.int .i64 0) 1 8 Tryd.underlying22 hi0 hz1 hz2 hz3 rfl (by decide) _ _ _ rfl (World.ownsRow_made w #[] 0 (Nat.le_refl _) (Nat.zero_le _) rfl) x n cap ((List.range n).map fun i => Value.int .i64 (z i)) rfl (by simp) HN.out ?c2 ?c3 ?c4 ?c5 ?_)
    case c2 => intro u hu; obtain ⟨i, _, rfl⟩ := List.mem_map.1 hu; rfl
    case c3 => unfold maxLen; omega
    case c4 => omega
    case c5 => simp
    intro v' w1 hown hgr _
    have HO := Lib.hid hown
    have HG := Lib.hid hgr
    clear hown hgr
    go_wp2_with fail
    go_ret
    have ho := HO.out
    have hb : Below w.heap.size w w1 := ((Below.refl w.heap.size w).alloc (Nat.le_refl _) _).grown HG.out (by simp) (fun k hk => by simp [Value.ownBlock] at hk; omega)
    try simp only [Nat.zero_add, List.nil_append] at ho
    by_cases h0 : n = 0
    · subst h0
      obtain ⟨a', cap', rfl⟩ := own_form ho
      exact ⟨a', cap', rfl, ⟨by decide, fun h => absurd h (by omega)⟩, hb⟩
    · obtain ⟨g, cap', rfl, hg1, hg2⟩ := own_form' ho h0
      refine ⟨_, cap', rfl, ⟨by unfold maxLen; omega, fun _ => ⟨g, 0, rfl, hg2, fun i hi => ?_⟩⟩, hb⟩
      rw [Nat.zero_add, World.ownsRow.cellAt ho i (by omega)]
      exact map_range_get _ hi

set_option maxRecDepth 20000 in
set_option maxHeartbeats 1000000 in
theorem List_any (n : Nat) (z : Nat → Int) (v : Value) (w : World) (h : SliceArg w v n z) : Calls Tryd.prog 18 #[v] w (CopyPost (min n 12) z w) := by
  rcases h with ⟨rfl, rfl⟩ | ⟨x, cap, rfl, h1, h2, h3⟩
  · go_enter Tryd.func18, Tryd.ntmps18
    go_wp2_with (go_at_call 54; refine (CloneI_any 0 z _ _ (by omega) (Or.inl ⟨rfl, rfl⟩)).mono ?_; rintro e w1 ⟨a, cap, rfl, hi, hb⟩)
    go_ret
    exact ⟨a, cap, rfl, hi, hb⟩
  · unfold maxLen at h2
    by_cases hn : n ≤ 12
    · have hmin : min n 12 = n := by omega
      have HM := Lib.hid hmin
      clear hmin
      have HA : Hid (SliceArg w (.slice (some x) n cap) n z) := Lib.hid (Or.inr ⟨x, cap, rfl, h1, by unfold maxLen; exact h2, h3⟩)
      clear h3
      go_enter Tryd.func18, Tryd.ntmps18
      go_wp2_with (go_at_call 54; refine (CloneI_any n z _ _ (by omega) HA.out).mono ?_; rintro e w1 ⟨a, cap', rfl, hi, hb⟩; have HI := Lib.hid hi; clear hi)
      go_ret
      rw [HM.out]
      exact ⟨a, cap', rfl, HI.out, hb⟩
    · have hmin : min n 12 = 12 := by omega
      have HM := Lib.hid hmin
      clear hmin
      have HA : Hid (SliceArg w (.slice (some x) 12 cap) 12 z) := Lib.hid (Or.inr ⟨x, cap, rfl, by omega, by unfold maxLen; exact h2, fun _ => by
        obtain ⟨b, off, rfl, h4, h5⟩ := h3 (by omega)
        exact ⟨b, off, rfl, h4, fun i hi => h5 i (by omega)⟩⟩)
      clear h3
      go_enter Tryd.func18, Tryd.ntmps18
      go_wp2_with (go_at_call 54; refine (CloneI_any 12 z _ _ (by omega) HA.out).mono ?_; rintro e w1 ⟨a, cap', rfl, hi, hb⟩; have HI := Lib.hid hi; clear hi)
      go_ret
      rw [HM.out]
      exact ⟨a, cap', rfl, HI.out, hb⟩


set_option maxRecDepth 20000 in
set_option maxHeartbeats 2000000 in
theorem EqualI_true {m : Nat} {z : Nat → Int} {a b : Option Addr} (ca cb : Nat) {w : World} (hA : IntsAt w a m z) (hB : IntsAt w b m z) :
    Calls Tryd.prog 23 #[.slice a m ca, .slice b m cb] w fun e w' => e = .returned (.bool true) ∧ Below w.heap.size w w' := by
  have hml := hA.1
  unfold maxLen at hml
  have HA := Lib.hid hA
  have HB := Lib.hid hB
  clear hA hB
  have hq : ((m : Int) != (m : Int)) = false := by simp
  go_enter Tryd.func23, Tryd.ntmps23
  go_wp2_with fail
  go_loopw [13] (fun i wr => ∃ k : Nat, k ≤ m ∧ i = .int .i64 k ∧ Below w.heap.size w wr) (fun i _ => m - (intOf i).toNat)
  case atStart => exact ⟨0, Nat.zero_le _, rfl, Below.refl _ _⟩
  case round =>
    obtain ⟨k, hk, rfl, hbel⟩ := hrel
    have HBL := Lib.hid hbel
    clear hbel
    by_cases hlt : k < m
    · obtain ⟨b1, o1, rfl, h1, c1⟩ := (HA.out.below HBL.out).2 (by omega)
      obtain ⟨b2, o2, rfl, h2, c2⟩ := (HB.out.below HBL.out).2 (by omega)
      have d1 := c1 k hlt
      have d2 := c2 k hlt
      have hz : ((z k) != (z k)) = false := by simp
      clear c1 c2
      go_wp2_with fail
      go_quiet (fail)
      go_wp2_with fail
      go_roundw
      case rel => exact ⟨k + 1, by omega, by go_num, below_drewN HBL.out _⟩
      case measure => simp [intOf]; omega
    · have hke : k = m := by omega
      subst hke
      go_wp2_with fail
      go_ret
      exact ⟨rfl, HBL.out⟩

end Go.Proofs.YtfmppncefbjicaaDoor
