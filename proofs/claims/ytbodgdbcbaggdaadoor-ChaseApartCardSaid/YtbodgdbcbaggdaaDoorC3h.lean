/- The contracts of slices.Clone, list and slices.Equal for slices of numbers. (Made by mkdoor.py.) -/
import Derived.Test.YtbodgdbcbaggdaaDoorC1m
namespace Go.Proofs.YtbodgdbcbaggdaaDoor
set_option linter.unusedSimpArgs false
set_option linter.unusedVariables false
open Go.RowKit Go.Maps

set_option maxRecDepth 20000 in
set_option maxHeartbeats 1000000 in
theorem CloneI_any (n : Nat) (z : Nat → Int) (v : Value) (w : World) (hn : n ≤ 1000000) (h : SliceArg w v n z) : Calls Tryd.prog 23 #[v] w (CopyPost n z w) := by
  obtain ⟨i0, hi0, hz1, hz2, hz3⟩ := info_parts info_int
  have hq := fun w a n c => Lib.run_eql_slice_nil (P := Tryd.prog) w 22 3 a n c 0 0 Tryd.underlying22
  rcases h with ⟨rfl, rfl⟩ | ⟨x, cap, rfl, h1, h2, h3⟩
  · go_enter Tryd.func23, Tryd.ntmps23
    go_wp2
    go_ret
    exact ⟨none, 0, rfl, ⟨by decide, fun h => absurd h (by omega)⟩, Below.refl _ _⟩
  · go_enter Tryd.func23, Tryd.ntmps23
    unfold maxLen at h2
    have hnews : ∀ j u, ((List.range n).map fun i => Value.int .i64 (z i))[j]? = some u → (w.alloc (.cells #[] 3)).cell? (x.add j) = some u := by
      intro j u hu
      by_cases hj : j < n
      · rw [map_range_get _ hj] at hu
        cases hu
        obtain ⟨b, off, rfl, h4, h5⟩ := h3 (by omega)
        have e1 : (⟨b, off, none⟩ : Addr).add j = ⟨b, off + j, none⟩ := by
          unfold Addr.add
          split
          · rename_i h0; subst h0; rfl
          · rfl
        rw [e1, ((Below.refl w.heap.size w).alloc (Nat.le_refl _) _).cell (p := ⟨b, off + j, none⟩) h4]
        exact h5 j hj
      · simp [hj] at hu
    have HN := Lib.hid hnews
    clear hnews
    go_wp2_with (at_builtin; refine wpList_append_own _ rfl _ _ 22 rfl w.heap.size 3 i0 (.int .i64 0) 1 8 Tryd.underlying22 hi0 hz1 hz2 hz3 rfl (by decide) _ _ _ rfl (World.ownsRow_made w #[] 0 (Nat.le_refl _) (Nat.zero_le _) rfl) x n cap ((List.range n).map fun i => Value.int .i64 (z i)) rfl (by simp) HN.out ?c2 ?c3 ?c4 ?c5 ?_)
    case c2 => intro u hu; obtain ⟨i, _, rfl⟩ := List.mem_map.1 hu; rfl
    case c3 => unfold maxLen; omega
    case c4 => omega
    case c5 => simp
    intro v' w1 hown hgr _
    have HO := Lib.hid hown
    have HG := Lib.hid hgr
    clear hown hgr
    go_wp2_with fail
    go_ret
    have ho := HO.out
    have hb : Below w.heap.size w w1 := ((Below.refl w.heap.size w).alloc (Nat.le_refl _) _).grown HG.out (by simp) (fun k hk => by simp [Value.ownBlock] at hk; omega)
    try simp only [Nat.zero_add, List.nil_append] at ho
    by_cases h0 : n = 0
    · subst h0
      obtain ⟨a', cap', rfl⟩ := own_form ho
      exact ⟨a', cap', rfl, ⟨by decide, fun h => absurd h (by omega)⟩, hb⟩
    · obtain ⟨g, cap', rfl, hg1, hg2⟩ := own_form' ho h0
      refine ⟨_, cap', rfl, ⟨by unfold maxLen; omega, fun _ => ⟨g, 0, rfl, hg2, fun i hi => ?_⟩⟩, hb⟩
      rw [Nat.zero_add, World.ownsRow.cellAt ho i (by omega)]
      exact map_range_get _ hi

set_option maxRecDepth 20000 in
set_option maxHeartbeats 1000000 in
theorem List_any (n : Nat) (z : Nat → Int) (v : Value) (w : World) (h : SliceArg w v n z) : Calls Tryd.prog 8 #[v] w (CopyPost (min n 13) z w) := by
  rcases h with ⟨rfl, rfl⟩ | ⟨x, cap, rfl, h1, h2, h3⟩
  · go_enter Tryd.func8, Tryd.ntmps8
    go_wp2_with (go_at_call 23; refine (CloneI_any 0 z _ _ (by omega) (Or.inl ⟨rfl, rfl⟩)).mono ?_; rintro e w1 ⟨a, cap, rfl, hi, hb⟩)
    go_ret
    exact ⟨a, cap, rfl, hi, hb⟩
  · unfold maxLen at h2
    by_cases hn : n ≤ 13
    · have hmin : min n 13 = n := by omega
      have HM := Lib.hid hmin
      clear hmin
      have HA : Hid (SliceArg w (.slice (some x) n cap) n z) := Lib.hid (Or.inr ⟨x, cap, rfl, h1, by unfold maxLen; exact h2, h3⟩)
      clear h3
      go_enter Tryd.func8, Tryd.ntmps8
      go_wp2_with (go_at_call 23; refine (CloneI_any n z _ _ (by omega) HA.out).mono ?_; rintro e w1 ⟨a, cap', rfl, hi, hb⟩; have HI := Lib.hid hi; clear hi)
      go_ret
      rw [HM.out]
      exact ⟨a, cap', rfl, HI.out, hb⟩
    · have hmin : min n 13 = 13 := by omega
      have HM := Lib.hid hmin
      clear hmin
      have HA : Hid (SliceArg w (.slice (some x) 13 cap) 13 z) := Lib.hid (Or.inr ⟨x, cap, rfl, by omega, by unfold maxLen; exact h2, fun _ => by
        obtain ⟨b, off, rfl, h4, h5⟩ := h3 (by omega)
        exact ⟨b, off, rfl, h4, fun i hi => h5 i (by omega)⟩⟩)
      clear h3
      go_enter Tryd.func8, Tryd.ntmps8
      go_wp2_with (go_at_call 23; refine (CloneI_any 13 z _ _ (by omega) HA.out).mono ?_; rintro e w1 ⟨a, cap', rfl, hi, hb⟩; have HI := Lib.hid hi; clear hi)
      go_ret
      rw [HM.out]
      exact ⟨a, cap', rfl, HI.out, hb⟩


set_option maxRecDepth 20000 in
set_option maxHeartbeats 2000000 in
theorem EqualI_true {m : Nat} {z : Nat → Int} {a b : Option Addr} (ca cb : Nat) {w : World} (hA : IntsAt w a m z) (hB : IntsAt w b m z) :
    Calls Tryd.prog 13 #[.slice a m ca, .slice b m cb] w fun e w' => e = .returned (.bool true) ∧ Below w.heap.size w w' := by
  have hml := hA.1
  unfold maxLen at hml
  have HA := Lib.hid hA
  have HB := Lib.hid hB
  clear hA hB
  have hq : ((m : Int) != (m : Int)) = false := by simp
  go_enter Tryd.func13, Tryd.ntmps13
  go_wp2_with fail
  go_loopw [13] (fun i wr => ∃ k : Nat, k ≤ m ∧ i = .int .i64 k ∧ Below w.heap.size w wr) (fun i _ => m - (intOf i).toNat)
  case atStart => exact ⟨0, Nat.zero_le _, rfl, Below.refl _ _⟩
  case round =>
    obtain ⟨k, hk, rfl, hbel⟩ := hrel
    have HBL := Lib.hid hbel
    clear hbel
    by_cases hlt : k < m
    · obtain ⟨b1, o1, rfl, h1, c1⟩ := (HA.out.below HBL.out).2 (by omega)
      obtain ⟨b2, o2, rfl, h2, c2⟩ := (HB.out.below HBL.out).2 (by omega)
      have d1 := c1 k hlt
      have d2 := c2 k hlt
      have hz : ((z k) != (z k)) = false := by simp
      clear c1 c2
      go_wp2_with fail
      go_quiet (fail)
      go_wp2_with fail
      go_roundw
      case rel => exact ⟨k + 1, by omega, by go_num, below_drewN HBL.out _⟩
      case measure => simp [intOf]; omega
    · have hke : k = m := by omega
      subst hke
      go_wp2_with fail
      go_ret
      exact ⟨rfl, HBL.out⟩

end Go.Proofs.YtbodgdbcbaggdaaDoor
