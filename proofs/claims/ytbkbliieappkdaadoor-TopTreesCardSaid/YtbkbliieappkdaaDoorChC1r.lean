/- The contracts of the program's corners and Corners, where the reference's are not reached (C1n, C1o, C1p without them). -/
import Derived.Test.YtbkbliieappkdaaDoorChC1m
import Derived.ChangeKeysEq
namespace Go.Proofs.YtbkbliieappkdaaDoor.Ch
set_option linter.unusedSimpArgs false
set_option linter.unusedVariables false
open Go.RowKit Go.Maps
attribute [local go_sem] i64_bit toNat_eq_one toNat_ne_one toNat_eq_zero toNat_ne_zero i64_and i64_or i64_andNot i64_or_pow i64_andNot_pow

/-- The pairs of a row, and of all rows before one, that meet a test. -/
def rowTo (p : Nat → Bool) (v : Nat) : Nat → List (Nat × Nat)
  | 0 => []
  | u + 1 => if p u then rowTo p v u ++ [(v, u)] else rowTo p v u
def cornTo (p : Nat → Nat → Bool) (n : Nat) : Nat → List (Nat × Nat)
  | 0 => []
  | v + 1 => cornTo p n v ++ rowTo (p v) v n
theorem rowTo_len (p : Nat → Bool) (v n : Nat) : (rowTo p v n).length ≤ n := by
  induction n with
  | zero => simp [rowTo]
  | succ n ih => unfold rowTo; split <;> first | (simp; omega) | omega
theorem cornTo_len (p : Nat → Nat → Bool) (n : Nat) (hn : n < 16) (v : Nat) : (cornTo p n v).length ≤ v * 16 := by
  induction v with
  | zero => simp [cornTo]
  | succ v ih => have := rowTo_len (p v) v n; simp [cornTo]; omega
theorem rowTo_congr {p q : Nat → Bool} {v n : Nat} (h : ∀ u, u < n → p u = q u) : rowTo p v n = rowTo q v n := by
  induction n with
  | zero => rfl
  | succ n ih => unfold rowTo; rw [h n (by omega), ih (fun u hu => h u (by omega))]
theorem cornTo_congr {p q : Nat → Nat → Bool} {n m : Nat} (hm : m ≤ n) (h : ∀ v, v < n → ∀ u, u < n → p v u = q v u) : cornTo p n m = cornTo q n m := by
  induction m with
  | zero => rfl
  | succ m ih => unfold cornTo; rw [ih (by omega), rowTo_congr (h m (by omega))]

def covP (r : Nat → Nat) (set v u : Nat) : Bool := set.testBit v && set.testBit u && covB r u v set

def CornersPost (n : Nat) (z : Nat → Int) (setI : Int) (w : World) (e : Ending) (w' : World) : Prop :=
  Below w.heap.size w w' ∧ (townB n z = true → inB setI (2 ^ n) = true → ∃ v, e = .returned (.tuple #[v, .int .i64 0]) ∧ PairsOwn w' w.heap.size v (cornTo (covP (reachOf z) setI.toNat) n n)) ∧
    (¬ (townB n z = true ∧ inB setI (2 ^ n) = true) → e = .returned (.tuple #[.slice none 0 0, .int .i64 2]))

theorem PairsOwn.cells {w : World} {base : Nat} {a : Option Addr} {c : Nat} {L : List (Nat × Nat)} (h : PairsOwn w base (.slice a L.length c) L) :
    ∀ wx, Below w.heap.size w wx → ∀ i p, L[i]? = some p → ∃ g, a = some ⟨g, 0, none⟩ ∧ wx.cell? ⟨g, i * 2, none⟩ = some (.int .i64 p.1) ∧ wx.cell? ⟨g, i * 2 + 1, none⟩ = some (.int .i64 p.2) := by
  intro wx hb i p hp
  have hlt := (List.getElem?_eq_some_iff.1 hp).1
  obtain ⟨g, cap, hv, hg1, hg2⟩ := own_form' h (by omega)
  simp only [Value.slice.injEq] at hv
  obtain ⟨rfl, _, rfl⟩ := hv
  obtain ⟨p1, p2⟩ := pairCells_get L i p hp
  refine ⟨g, rfl, ?_, ?_⟩
  · rw [hb.cell (p := ⟨g, i * 2, none⟩) hg2, World.ownsRow.cellAt h (i * 2) (by omega)]; exact p1
  · rw [hb.cell (p := ⟨g, i * 2 + 1, none⟩) hg2, World.ownsRow.cellAt h (i * 2 + 1) (by omega)]; exact p2

end Go.Proofs.YtbkbliieappkdaaDoor.Ch
