/- A slice of reductions that comes in as an argument: its cells. -/
import Derived.Test.YtfmppncefbjicaaDoorOk
import Derived.Deep.Slices
import Derived.Lib.SmallJoins
namespace Go.Proofs.YtfmppncefbjicaaDoor
set_option linter.unusedSimpArgs false
set_option linter.unusedVariables false
open Go.RowKit Go.ChangeShapes Go.WideShapes Go.Deep

theorem cells_stepR : Tryd.prog.cellsOf 51 = 4 := by kernel_rfl
theorem cells_int1 : Tryd.prog.cellsOf 3 = 1 := by kernel_rfl

theorem len4 {α : Type} {l : List α} (h : l.length = 4) : ∃ a b c d, l = [a, b, c, d] := by
  match l, h with
  | [a, b, c, d], _ => exact ⟨a, b, c, d, rfl⟩

set_option maxRecDepth 20000 in
theorem steps_of {H : Type} {enc : TypeId × Value → H} {w : World} {base : Nat} {spare : Nat → Bool} {held : Bool} {fuel : Nat} {cs : List Value} {x : DataW H × List MemPlace}
    (h : DataW.trod enc Tryd.prog w base spare held fuel 41 cs = some x) :
    cs = [.slice none 0 0] ∨ ∃ (a : Addr) (len cap : Nat) (f : Nat → StZ), cs = [.slice (some a) len cap] ∧ len ≤ cap ∧ cap ≤ maxLen ∧
      ∀ i, i < len → w.cell? (a.add (i * 4)) = some (.int .i64 (f i).1) ∧ w.cell? (a.add (i * 4 + 1)) = some (.int .i64 (f i).2.1) ∧ w.cell? (a.add (i * 4 + 2)) = some (.int .i64 (f i).2.2.1) ∧ w.cell? (a.add (i * 4 + 3)) = some (.int .i64 (f i).2.2.2) := by
  rcases open_slice Tryd.underlying41 h with h0 | ⟨a, len, cap, m, n, D, Pl, rfl, hb, hl, hm, hmm, rfl, hx⟩
  · exact Or.inl h0.1
  right
  have hlm : len ≤ m := by rw [hmm]; split <;> omega
  have each : ∀ i, i < len → ∃ q : StZ, w.cell? (a.add (i * 4)) = some (.int .i64 q.1) ∧ w.cell? (a.add (i * 4 + 1)) = some (.int .i64 q.2.1) ∧ w.cell? (a.add (i * 4 + 2)) = some (.int .i64 q.2.2.1) ∧ w.cell? (a.add (i * 4 + 3)) = some (.int .i64 q.2.2.2) := by
    intro i hi
    obtain ⟨cs', h1, h2⟩ := hx i (by omega)
    rw [cells_stepR] at h1
    obtain ⟨_, hlen, hcell⟩ := World.cells?_some h1
    obtain ⟨xs, k, hk, hxy, _, hxl, hf⟩ := DataW.trod_struct Tryd.underlying51 h2
    have hxl3 : xs.length = 4 := hxl.trans (by rfl)
    obtain ⟨y0, y1, y2, y3, rfl⟩ := len4 hxl3
    obtain ⟨v0, v1, v2, v3, rfl⟩ := len4 hlen
    have g0 := hf 0 _ rfl
    have g1 := hf 1 _ rfl
    have g2 := hf 2 _ rfl
    have g3 := hf 3 _ rfl
    simp [cells_int1] at g0 g1 g2 g3
    have e0 := hcell 0 (by omega)
    have e1 := hcell 1 (by omega)
    have e2 := hcell 2 (by omega)
    have e3 := hcell 3 (by omega)
    rw [add_add] at e0 e1 e2 e3
    obtain ⟨a0, q0, -, -⟩ := DataW.trod_int Tryd.underlying3 g0
    obtain ⟨a1, q1, -, -⟩ := DataW.trod_int Tryd.underlying3 g1
    obtain ⟨a2, q2, -, -⟩ := DataW.trod_int Tryd.underlying3 g2
    obtain ⟨a3, q3, -, -⟩ := DataW.trod_int Tryd.underlying3 g3
    simp only [List.cons.injEq, and_true] at q0 q1 q2 q3
    subst q0 q1 q2 q3
    exact ⟨(a0, a1, a2, a3), by simpa using e0, by simpa using e1, by simpa using e2, by simpa using e3⟩
  obtain ⟨q, hq⟩ := choose_lt each
  exact ⟨a, len, cap, q, rfl, hl, hm, hq⟩

/-- What the frame of a law tells of a slice of reductions. -/
theorem StepsAt.of_trod {H : Type} {enc : TypeId × Value → H} {w : World} {base : Nat} {spare : Nat → Bool} {held : Bool} {fuel : Nat} {a : Option Addr} {len cap : Nat} {x : DataW H × List MemPlace}
    (h : DataW.trod enc Tryd.prog w base spare held fuel 41 [.slice a len cap] = some x) : ∃ L : List StZ, L.length = len ∧ StepsAt w a L ∧ len ≤ maxLen := by
  rcases steps_of h with h0 | ⟨b, l, c, f, hcs, hl, hm, hf⟩
  · simp only [List.cons.injEq, and_true, Value.slice.injEq] at h0
    obtain ⟨_, h0, _⟩ := h0
    subst h0
    exact ⟨[], rfl, fun h => absurd rfl h, Nat.zero_le _⟩
  · simp only [List.cons.injEq, and_true, Value.slice.injEq] at hcs
    obtain ⟨rfl, rfl, rfl⟩ := hcs
    refine ⟨(List.range len).map f, by simp, fun hne => ?_, Nat.le_trans hl hm⟩
    have hn : 0 < len := by
      rcases Nat.eq_zero_or_pos len with h | h
      · subst h; exact absurd rfl hne
      · exact h
    have c0 := (hf 0 hn).1
    have hx0 : b.add (0 * 4) = b := by rw [Nat.zero_mul]; unfold Addr.add; rw [if_pos rfl]
    rw [hx0] at c0
    have hlt := World.block_lt_of_cell? w _ c0
    obtain ⟨bb, off, spot⟩ := b
    have hs : spot = none := by
      cases spot with
      | none => rfl
      | some s => simp [World.cell?] at c0; split at c0 <;> cases c0
    subst hs
    have hadd : ∀ j, (⟨bb, off, none⟩ : Addr).add j = ⟨bb, off + j, none⟩ := by
      intro j
      unfold Addr.add
      split
      · rename_i h0; subst h0; rfl
      · rfl
    refine ⟨bb, off, rfl, hlt, fun i p hi j u hu => ?_⟩
    have hil := (List.getElem?_eq_some_iff.1 hi).1
    rw [List.length_map, List.length_range] at hil
    have hi' : f i = p := by
      have := (List.getElem?_eq_some_iff.1 hi).2
      simpa using this
    subst hi'
    obtain ⟨h1, h2, h3, h4⟩ := hf i hil
    rw [hadd] at h1 h2 h3 h4
    match j, hu with
    | 0, hu => cases hu; exact h1
    | 1, hu => cases hu; exact h2
    | 2, hu => cases hu; exact h3
    | 3, hu => cases hu; exact h4
    | j + 4, hu => simp [stC] at hu

end Go.Proofs.YtfmppncefbjicaaDoor
