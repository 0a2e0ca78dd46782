/- Copies of slices of numbers whose capacity is known to be enough. (Made out of W3.) -/
import Derived.Test.YtbkbliieappkdaaDoorW3
namespace Go.Proofs.YtbkbliieappkdaaDoor
set_option linter.unusedSimpArgs false
set_option linter.unusedVariables false
open Go.RowKit Go.Maps

theorem SliceArg.ints_cap {w : World} {v : Value} {n : Nat} {z : Nat → Int} (h : SliceArg w v n z) : ∃ a cap, v = .slice a n cap ∧ IntsAt w a n z ∧ n ≤ cap := by
  have hi := h.ints
  rcases h with ⟨rfl, rfl⟩ | ⟨x, cap, rfl, h1, h2, h3⟩
  · obtain ⟨a, cap, he, hI⟩ := hi
    exact ⟨a, cap, he, hI, Nat.zero_le _⟩
  · obtain ⟨a, cap', he, hI⟩ := hi
    cases he
    exact ⟨_, _, rfl, hI, h1⟩
theorem own_cap {w : World} {base : Nat} {e : TypeId} {size : Nat} {v : Value} {n : Nat} {xs : List Value} (h : w.ownsRow base e size v n xs) : ∀ a cap, v = .slice a n cap → n ≤ cap := by
  intro a cap hv
  rcases h.2 with h1 | ⟨g, cap', cur, hv', hg, hh, hle, _⟩
  · omega
  · rw [hv] at hv'
    cases hv'
    exact hle
def CopyCap (n : Nat) (z : Nat → Int) (w : World) (e : Ending) (w' : World) : Prop :=
  ∃ a cap, e = .returned (.slice a n cap) ∧ IntsAt w' a n z ∧ n ≤ cap ∧ Below w.heap.size w w'

set_option maxRecDepth 20000 in
set_option maxHeartbeats 1000000 in
theorem CloneC_any (n : Nat) (z : Nat → Int) (v : Value) (w : World) (hn : n ≤ 1000000) (h : SliceArg w v n z) : Calls Tryd.prog 46 #[v] w (CopyCap n z w) := by
  obtain ⟨i0, hi0, hz1, hz2, hz3⟩ := info_parts info_int
  have hq := fun w a n c => Lib.run_eql_slice_nil (P := Tryd.prog) w 22 3 a n c 0 0 Tryd.underlying22
  rcases h with ⟨rfl, rfl⟩ | ⟨x, cap, rfl, h1, h2, h3⟩
  · go_enter Tryd.func46, Tryd.ntmps46
    go_wp2
    go_ret
    exact ⟨none, 0, rfl, ⟨by decide, fun h => absurd h (by omega)⟩, Nat.le_refl _, Below.refl _ _⟩
  · go_enter Tryd.func46, Tryd.ntmps46
    unfold maxLen at h2
    have hnews : ∀ j u, ((List.range n).map fun i => Value.int .i64 (z i))[j]? = some u → (w.alloc (.cells #[] 3)).cell? (x.add j) = some u := by
      intro j u hu
      by_cases hj : j < n
      · rw [map_range_get _ hj] at hu
        cases hu
        obtain ⟨b, off, rfl, h4, h5⟩ := h3 (by omega)
        have e1 : (⟨b, off, none⟩ : Addr).add j = ⟨b, off + j, none⟩ := by
          unfold Addr.add
          split
          · rename_i h0; subst h0; rfl
          · rfl
        rw [e1, ((Below.refl w.heap.size w).alloc (Nat.le_refl _) _).cell (p := ⟨b, off + j, none⟩) h4]
        exact h5 j hj
      · simp [hj] at hu
    have HN := Lib.hid hnews
    clear hnews
    go_wp2_with (at_builtin; refine wpList_append_own _ rfl _ _ 22 rfl w.heap.size 3 i0 (.int .i64 0) 1 8 Tryd.underlying22 hi0 hz1 hz2 hz3 rfl (by decide) _ _ _ rfl (World.ownsRow_made w #[] 0 (Nat.le_refl _) (Nat.zero_le _) rfl) x n cap ((List.range n).map fun i => Value.int .i64 (z i)) rfl (by simp) HN.out ?c2 ?c3 ?c4 ?c5 ?_)
    case c2 => intro u hu; obtain ⟨i, _, rfl⟩ := List.mem_map.1 hu; rfl
    case c3 => unfold maxLen; omega
    case c4 => omega
    case c5 => simp
    intro v' w1 hown hgr _
    have HO := Lib.hid hown
    have HG := Lib.hid hgr
    clear hown hgr
    go_wp2_with fail
    go_ret
    have ho := HO.out
    have hb : Below w.heap.size w w1 := ((Below.refl w.heap.size w).alloc (Nat.le_refl _) _).grown HG.out (by simp) (fun k hk => by simp [Value.ownBlock] at hk; omega)
    try simp only [Nat.zero_add, List.nil_append] at ho
    by_cases h0 : n = 0
    · subst h0
      obtain ⟨a', cap', rfl⟩ := own_form ho
      exact ⟨a', cap', rfl, ⟨by decide, fun h => absurd h (by omega)⟩, Nat.zero_le _, hb⟩
    · have hcap := own_cap ho
      obtain ⟨g, cap', rfl, hg1, hg2⟩ := own_form' ho h0
      refine ⟨_, cap', rfl, ⟨by unfold maxLen; omega, fun _ => ⟨g, 0, rfl, hg2, fun i hi => ?_⟩⟩, hcap _ _ rfl, hb⟩
      rw [Nat.zero_add, World.ownsRow.cellAt ho i (by omega)]
      exact map_range_get _ hi

set_option maxRecDepth 20000 in
set_option maxHeartbeats 1000000 in
theorem List_cap (n : Nat) (z : Nat → Int) (v : Value) (w : World) (h : SliceArg w v n z) : Calls Tryd.prog 19 #[v] w (CopyCap (min n 210) z w) := by
  rcases h with ⟨rfl, rfl⟩ | ⟨x, cap, rfl, h1, h2, h3⟩
  · go_enter Tryd.func19, Tryd.ntmps19
    go_wp2_with (go_at_call 46; refine (CloneC_any 0 z _ _ (by omega) (Or.inl ⟨rfl, rfl⟩)).mono ?_; rintro e w1 ⟨a, cap, rfl, hi, hc, hb⟩)
    go_ret
    exact ⟨a, cap, rfl, hi, hc, hb⟩
  · unfold maxLen at h2
    by_cases hn : n ≤ 210
    · have hmin : min n 210 = n := by omega
      have HM := Lib.hid hmin
      clear hmin
      have HA : Hid (SliceArg w (.slice (some x) n cap) n z) := Lib.hid (Or.inr ⟨x, cap, rfl, h1, by unfold maxLen; exact h2, h3⟩)
      clear h3
      go_enter Tryd.func19, Tryd.ntmps19
      go_wp2_with (go_at_call 46; refine (CloneC_any n z _ _ (by omega) HA.out).mono ?_; rintro e w1 ⟨a, cap', rfl, hi, hc, hb⟩; have HI := Lib.hid hi; clear hi)
      go_ret
      rw [HM.out]
      exact ⟨a, cap', rfl, HI.out, hc, hb⟩
    · have hmin : min n 210 = 210 := by omega
      have HM := Lib.hid hmin
      clear hmin
      have HA : Hid (SliceArg w (.slice (some x) 210 cap) 210 z) := Lib.hid (Or.inr ⟨x, cap, rfl, by omega, by unfold maxLen; exact h2, fun _ => by
        obtain ⟨b, off, rfl, h4, h5⟩ := h3 (by omega)
        exact ⟨b, off, rfl, h4, fun i hi => h5 i (by omega)⟩⟩)
      clear h3
      go_enter Tryd.func19, Tryd.ntmps19
      go_wp2_with (go_at_call 46; refine (CloneC_any 210 z _ _ (by omega) HA.out).mono ?_; rintro e w1 ⟨a, cap', rfl, hi, hc, hb⟩; have HI := Lib.hid hi; clear hi)
      go_ret
      rw [HM.out]
      exact ⟨a, cap', rfl, HI.out, hc, hb⟩


end Go.Proofs.YtbkbliieappkdaaDoor
