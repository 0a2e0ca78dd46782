/- Numbers in a block of one's own that may be written. -/
import Derived.Test.YtcpdedgmhpehiaaDoorE3
namespace Go.Proofs.YtcpdedgmhpehiaaDoor
set_option linter.unusedSimpArgs false
set_option linter.unusedVariables false
open Go.RowKit

def intL (z : Nat → Int) (m : Nat) : List Value := (List.range m).map fun i => Value.int .i64 (z i)

/-- Numbers that may be written. -/
structure Mine (w : World) (g m : Nat) (z : Nat → Int) : Prop where
  lt : g < w.heap.size
  cell : ∀ i, i < m → w.cell? ⟨g, i, none⟩ = some (.int .i64 (z i))
  free : ∀ i, i < m → w.frozen? ⟨g, i, none⟩ = false

theorem Mine.set {w : World} {g m : Nat} {z : Nat → Int} (h : Mine w g m z) {k : Nat} (hk : k < m) (v : Int) : Mine (w.setCell ⟨g, k, none⟩ (.int .i64 v)) g m (fun t => if t = k then v else z t) := by
  refine ⟨by simpa [World.setCell] using h.lt, fun t ht => ?_, fun t ht => ?_⟩
  · by_cases e : t = k
    · subst e
      rw [if_pos rfl]
      exact World.cell?_setCell_same w _ _ (h.cell t ht)
    · rw [if_neg e, World.cell?_setCell_other w ⟨g, k, none⟩ ⟨g, t, none⟩ _ (by intro e2; injection e2; omega)]
      exact h.cell t ht
  · rw [World.frozen?_setCell]; exact h.free t ht
theorem Mine.other {w : World} {g m : Nat} {z : Nat → Int} (h : Mine w g m z) {b : Nat} (hb : g ≠ b) (k : Nat) (v : Value) : Mine (w.setCell ⟨b, k, none⟩ v) g m z := by
  have hh : (w.setCell ⟨b, k, none⟩ v).heap[g]? = w.heap[g]? := Below.heap_setCell _ _ _ _ hb
  exact ⟨by simpa [World.setCell] using h.lt, fun t ht => by rw [World.cell?_of_block (a := ⟨g, t, none⟩) hh]; exact h.cell t ht, fun t ht => by rw [World.frozen?_of_block (a := ⟨g, t, none⟩) hh]; exact h.free t ht⟩
theorem Mine.below {w w' : World} {g m : Nat} {z : Nat → Int} (h : Mine w g m z) (hb : Below w.heap.size w w') : Mine w' g m z :=
  ⟨Nat.lt_of_lt_of_le h.lt hb.size, fun t ht => by rw [hb.cell (p := ⟨g, t, none⟩) h.lt]; exact h.cell t ht, fun t ht => by rw [hb.frozen (p := ⟨g, t, none⟩) h.lt]; exact h.free t ht⟩
theorem Mine.by {w w' : World} {g m : Nat} {z : Nat → Int} {row : Option Nat} (h : Mine w g m z) (hg : w.grownBy w' row) (hr : some g ≠ row) : Mine w' g m z := by
  have hh := hg.block g h.lt hr
  exact ⟨Nat.lt_of_lt_of_le h.lt hg.size, fun t ht => by rw [World.cell?_of_block (a := ⟨g, t, none⟩) hh]; exact h.cell t ht, fun t ht => by rw [World.frozen?_of_block (a := ⟨g, t, none⟩) hh]; exact h.free t ht⟩
theorem Mine.mono {w : World} {g m m' : Nat} {z z' : Nat → Int} (h : Mine w g m z) (hm : m' ≤ m) (he : ∀ i, i < m' → z' i = z i) : Mine w g m' z' :=
  ⟨h.lt, fun t ht => by rw [he t ht]; exact h.cell t (by omega), fun t ht => h.free t (by omega)⟩

theorem Mine.ints {w : World} {g m : Nat} {z : Nat → Int} (h : Mine w g m z) (hm : m ≤ maxLen) : IntsAt w (some ⟨g, 0, none⟩) m z :=
  ⟨hm, fun _ => ⟨g, 0, rfl, h.lt, fun i hi => by rw [Nat.zero_add]; exact h.cell i hi⟩⟩

theorem own_mine {w : World} {base : Nat} {v : Value} {n : Nat} {z : Nat → Int} (h : w.ownsRow base 3 1 v n (intL z n)) (hn : 0 < n) : ∃ g cap, v = .slice (some ⟨g, 0, none⟩) n cap ∧ v.ownBlock = some g ∧ base ≤ g ∧ n ≤ cap ∧ cap ≤ maxLen ∧ Mine w g n z := by
  rcases h.2 with h1 | ⟨g, cap, cur, hv, hg, hh, h1, h2, h3, h4⟩
  · omega
  · subst hv
    refine ⟨g, cap, rfl, rfl, hg, h1, h2, (Array.getElem?_eq_some_iff.1 hh).1, fun i hi => ?_, fun i hi => ?_⟩
    · rw [World.ownsRow.cellAt h i (by omega)]
      exact map_range_get _ hi
    · simp [World.frozen?, hh]
theorem Mine.drewN {w : World} {g m : Nat} {z : Nat → Int} (h : Mine w g m z) (k : Nat) : Mine (w.drewN k) g m z := ⟨h.lt, h.cell, h.free⟩

end Go.Proofs.YtcpdedgmhpehiaaDoor
