/- The contract of the reference's layouts: all orders that go on from a beginning, each a slice of its own. -/
import Derived.Test.YtgkpogaahndmoaaDoorQf
import Derived.Test.YtgkpogaahndmoaaDoorQt3
import Derived.Deep.RegionLaw
namespace Go.Proofs.YtgkpogaahndmoaaDoor
set_option linter.unusedSimpArgs false
set_option linter.unusedVariables false
open Go.RowKit Go.Maps

/-- A slice of numbers from the beginning of a block on. -/
def Lay1 (w : World) (x : Value) (l : List Nat) : Prop := ∃ g cap, x = .slice (some ⟨g, 0, none⟩) l.length cap ∧ l.length ≤ cap ∧ 0 < l.length ∧ g < w.heap.size ∧ ∀ i, i < l.length → w.cell? ⟨g, i, none⟩ = some (.int .i64 (listZ l i))
theorem Lay1.below {w w' : World} {x : Value} {l : List Nat} (h : Lay1 w x l) (hb : Below w.heap.size w w') : Lay1 w' x l := by
  obtain ⟨g, cap, h1, hc, h2, h3, h4⟩ := h
  exact ⟨g, cap, h1, hc, h2, Nat.lt_of_lt_of_le h3 hb.size, fun i hi => by rw [hb.cell (p := ⟨g, i, none⟩) h3]; exact h4 i hi⟩
theorem Lay1.ints {w : World} {x : Value} {l : List Nat} (h : Lay1 w x l) (hl : l.length ≤ 65536) : ∃ a cap, x = .slice a l.length cap ∧ IntsAt w a l.length (listZ l) := by
  obtain ⟨g, cap, h1, hc, h2, h3, h4⟩ := h
  exact ⟨_, cap, h1, by unfold maxLen; omega, fun _ => ⟨g, 0, rfl, h3, fun i hi => by rw [Nat.zero_add]; exact h4 i hi⟩⟩
/-- Slices of one's own, each of which lies in a block that holds numbers. -/
def LaysOwn (w : World) (base : Nat) (v : Value) (LL : List (List Nat)) : Prop :=
  (LL = [] → v = .slice none 0 0) ∧ ∃ vs, w.ownsRow base 22 1 v LL.length vs ∧ ∀ (i : Nat) (l : List Nat), LL[i]? = some l → ∃ x, vs[i]? = some x ∧ Lay1 w x l
theorem LaysOwn.nil (w : World) (base : Nat) : LaysOwn w base (.slice none 0 0) [] :=
  ⟨fun _ => rfl, [], World.ownsRow_nil w base _ 1, fun i l h => by simp at h⟩
theorem LaysOwn.below {w w' : World} {base : Nat} {v : Value} {LL : List (List Nat)} (h : LaysOwn w base v LL) (hb : Below w.heap.size w w') : LaysOwn w' base v LL := by
  obtain ⟨h0, vs, h1, h2⟩ := h
  exact ⟨h0, vs, ownsRow_below h1 hb (Nat.le_refl _), fun i l hl => by obtain ⟨x, hx, hy⟩ := h2 i l hl; exact ⟨x, hx, hy.below hb⟩⟩
theorem LaysOwn.base {w : World} {base base' : Nat} {v : Value} {LL : List (List Nat)} (h : LaysOwn w base v LL) (hb : base' ≤ base) : LaysOwn w base' v LL := by
  obtain ⟨h0, vs, h1, h2⟩ := h
  exact ⟨h0, vs, ownsRow_base h1 hb, h2⟩
/-- The block of the slices' slice holds none of the slices. -/
theorem LaysOwn.apart {w : World} {base : Nat} {v x : Value} {LL : List (List Nat)} {l : List Nat} (h : LaysOwn w base v LL) (hx : Lay1 w x l) : ∀ g c, x = .slice (some ⟨g, 0, none⟩) l.length c → some g ≠ v.ownBlock := by
  intro g c he e
  obtain ⟨h0, vs, h1, h2⟩ := h
  obtain ⟨g', c', he', _, hl, hg, hc⟩ := hx
  rw [he] at he'
  simp only [Value.slice.injEq, Option.some.injEq, Addr.mk.injEq] at he'
  obtain ⟨⟨rfl, _, _⟩, _, _⟩ := he'
  cases LL with
  | nil => rw [h0 rfl] at e; cases e
  | cons l0 LL =>
    obtain ⟨y, hy, gy, cy, ey, _⟩ := h2 0 l0 rfl
    obtain ⟨b, cap, hv, _, _⟩ := own_form' h1 (by simp)
    rw [hv] at e
    have e : g = b := by simpa [Value.ownBlock] using e
    subst e
    have c1 := hc 0 hl
    have c2 : w.cell? ⟨g, 0, none⟩ = vs[0]? := by
      rw [hv] at h1
      exact World.ownsRow.cellAt h1 0 (by simp)
    rw [c2, hy, ey] at c1
    cases c1
theorem LaysOwn.append {w w' : World} {b1 b2 : Nat} {v u v' : Value} {L M : List (List Nat)} {vs us : List Value} (h : LaysOwn w b1 v L) (hu : LaysOwn w b2 u M) (hM : M ≠ [])
    (e1 : w.ownsRow b1 22 1 v L.length vs) (e2 : ∀ (i : Nat) (l : List Nat), L[i]? = some l → ∃ x, vs[i]? = some x ∧ Lay1 w x l) (e3 : us.length = M.length) (e4 : ∀ (i : Nat) (l : List Nat), M[i]? = some l → ∃ x, us[i]? = some x ∧ Lay1 w x l)
    (ho : w'.ownsRow b1 22 1 v' (L.length + M.length) (vs ++ us)) (hg : w.grownBy w' v.ownBlock) : LaysOwn w' b1 v' (L ++ M) := by
  have hk : ∀ x l, Lay1 w x l → Lay1 w' x l := by
    intro x l hx
    obtain ⟨g, cap, h1, hc, h2, h3, h4⟩ := hx
    have hne := h.apart ⟨g, cap, h1, hc, h2, h3, h4⟩ g cap h1
    exact ⟨g, cap, h1, hc, h2, Nat.lt_of_lt_of_le h3 hg.size, fun i hi => hg.cell (h4 i hi) hne⟩
  have hvl : vs.length = L.length := by have := e1.1; omega
  refine ⟨fun e => absurd (List.append_eq_nil_iff.1 e).2 hM, vs ++ us, by rw [List.length_append]; exact ho, fun i l hl => ?_⟩
  by_cases hi : i < L.length
  · rw [List.getElem?_append_left hi] at hl
    obtain ⟨x, hx, hy⟩ := e2 i l hl
    exact ⟨x, by rw [List.getElem?_append_left (by omega)]; exact hx, hk x l hy⟩
  · rw [List.getElem?_append_right (by omega)] at hl
    obtain ⟨x, hx, hy⟩ := e4 _ l hl
    exact ⟨x, by rw [List.getElem?_append_right (by omega), hvl]; exact hx, hk x l hy⟩

theorem info_ints : (Tryd.prog.info? 22).map (fun i => (i.zero, i.size, i.bytes)) = some (some (.slice none 0 0), 1, 24) := by kernel_rfl

end Go.Proofs.YtgkpogaahndmoaaDoor
