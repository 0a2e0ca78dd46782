/- A slice of Places that comes in as an argument: its cells. -/
import Derived.Test.YtmkcnpphdghbaaaC2q
import Derived.Deep.Slices
import Derived.Lib.SmallJoins
namespace Go.Proofs.Ytmkcnpphdghbaaa
set_option linter.unusedSimpArgs false
set_option linter.unusedVariables false
open Go.RowKit Go.ChangeShapes Go.WideShapes Go.Deep

theorem cells_place : Try.prog.cellsOf 25 = 3 := by kernel_rfl
theorem cells_int1 : Try.prog.cellsOf 3 = 1 := by kernel_rfl

theorem len3 {α : Type} {l : List α} (h : l.length = 3) : ∃ a b c, l = [a, b, c] := by
  match l, h with
  | [a, b, c], _ => exact ⟨a, b, c, rfl⟩

set_option maxRecDepth 20000 in
theorem places_of {H : Type} {enc : TypeId × Value → H} {w : World} {base : Nat} {spare : Nat → Bool} {held : Bool} {fuel : Nat} {cs : List Value} {x : DataW H × List MemPlace}
    (h : DataW.trod enc Try.prog w base spare held fuel 51 cs = some x) :
    cs = [.slice none 0 0] ∨ ∃ (a : Addr) (len cap : Nat) (f : Nat → PI), cs = [.slice (some a) len cap] ∧ len ≤ cap ∧ cap ≤ maxLen ∧
      ∀ i, i < len → w.cell? (a.add (i * 3)) = some (.int .i64 (f i).1) ∧ w.cell? (a.add (i * 3 + 1)) = some (.int .i64 (f i).2.1) ∧ w.cell? (a.add (i * 3 + 2)) = some (.int .i64 (f i).2.2) := by
  rcases open_slice Try.underlying51 h with h0 | ⟨a, len, cap, m, n, D, Pl, rfl, hb, hl, hm, hmm, rfl, hx⟩
  · exact Or.inl h0.1
  right
  have hlm : len ≤ m := by rw [hmm]; split <;> omega
  have each : ∀ i, i < len → ∃ q : PI, w.cell? (a.add (i * 3)) = some (.int .i64 q.1) ∧ w.cell? (a.add (i * 3 + 1)) = some (.int .i64 q.2.1) ∧ w.cell? (a.add (i * 3 + 2)) = some (.int .i64 q.2.2) := by
    intro i hi
    obtain ⟨cs', h1, h2⟩ := hx i (by omega)
    rw [cells_place] at h1
    obtain ⟨_, hlen, hcell⟩ := World.cells?_some h1
    obtain ⟨xs, k, hk, hxy, _, hxl, hf⟩ := DataW.trod_struct Try.underlying25 h2
    have hxl3 : xs.length = 3 := hxl.trans (by rfl)
    obtain ⟨y0, y1, y2, rfl⟩ := len3 hxl3
    obtain ⟨v0, v1, v2, rfl⟩ := len3 hlen
    have g0 := hf 0 _ rfl
    have g1 := hf 1 _ rfl
    have g2 := hf 2 _ rfl
    simp [cells_int1] at g0 g1 g2
    have e0 := hcell 0 (by omega)
    have e1 := hcell 1 (by omega)
    have e2 := hcell 2 (by omega)
    rw [add_add] at e0 e1 e2
    obtain ⟨a0, q0, -, -⟩ := DataW.trod_int Try.underlying3 g0
    obtain ⟨a1, q1, -, -⟩ := DataW.trod_int Try.underlying3 g1
    obtain ⟨a2, q2, -, -⟩ := DataW.trod_int Try.underlying3 g2
    simp only [List.cons.injEq, and_true] at q0 q1 q2
    subst q0 q1 q2
    exact ⟨(a0, a1, a2), by simpa using e0, by simpa using e1, by simpa using e2⟩
  obtain ⟨q, hq⟩ := choose_lt each
  exact ⟨a, len, cap, q, rfl, hl, hm, hq⟩

/-- What the frame of a law tells of a slice of Places. -/
theorem PlArg.of_trod {H : Type} {enc : TypeId × Value → H} {w : World} {base : Nat} {spare : Nat → Bool} {held : Bool} {fuel : Nat} {a : Option Addr} {len cap : Nat} {x : DataW H × List MemPlace}
    (h : DataW.trod enc Try.prog w base spare held fuel 51 [.slice a len cap] = some x) : ∃ P, PlArg w (.slice a len cap) P := by
  rcases places_of h with h0 | ⟨b, l, c, f, hcs, hl, hm, hf⟩
  · simp only [List.cons.injEq, and_true] at h0
    exact ⟨[], Or.inl ⟨h0, rfl⟩⟩
  · simp only [List.cons.injEq, and_true, Value.slice.injEq] at hcs
    obtain ⟨rfl, rfl, rfl⟩ := hcs
    refine ⟨(List.range len).map f, Or.inr ⟨b, cap, by simp, by simpa using hl, hm, fun hne => ?_⟩⟩
    have hn : 0 < len := by
      rcases Nat.eq_zero_or_pos len with h | h
      · subst h; exact absurd rfl hne
      · exact h
    have c0 := (hf 0 hn).1
    have hx0 : b.add (0 * 3) = b := by rw [Nat.zero_mul]; unfold Addr.add; rw [if_pos rfl]
    rw [hx0] at c0
    have hlt := World.block_lt_of_cell? w _ c0
    obtain ⟨bb, off, spot⟩ := b
    have hs : spot = none := by
      cases spot with
      | none => rfl
      | some s => simp [World.cell?] at c0; split at c0 <;> cases c0
    subst hs
    have hadd : ∀ j, (⟨bb, off, none⟩ : Addr).add j = ⟨bb, off + j, none⟩ := by
      intro j
      unfold Addr.add
      split
      · rename_i h0; subst h0; rfl
      · rfl
    refine ⟨bb, off, rfl, hlt, fun i p hi => ?_⟩
    have hil := (List.getElem?_eq_some_iff.1 hi).1
    rw [List.length_map, List.length_range] at hil
    rw [map_range_get _ hil] at hi
    cases hi
    obtain ⟨h1, h2, h3⟩ := hf i hil
    rw [hadd] at h1 h2 h3
    exact ⟨h1, h2, h3⟩

end Go.Proofs.Ytmkcnpphdghbaaa
