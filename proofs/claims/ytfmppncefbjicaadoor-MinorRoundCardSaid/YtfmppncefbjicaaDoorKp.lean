/- What a recursive closure keeps: all blocks but two. -/
import Derived.Test.YtfmppncefbjicaaDoorMl
namespace Go.Proofs.YtfmppncefbjicaaDoor
set_option linter.unusedSimpArgs false
set_option linter.unusedVariables false
open Go.RowKit Go.Maps

/-- A world in which of the blocks that were there only a box and a slice's own block have turned. -/
structure Kep (w W : World) (ob : Nat) (v : Value) : Prop where
  size : w.heap.size ≤ W.heap.size
  same : ∀ b, b < w.heap.size → b ≠ ob → some b ≠ v.ownBlock → W.heap[b]? = w.heap[b]?
theorem Kep.refl (w : World) (ob : Nat) (v : Value) : Kep w w ob v := ⟨Nat.le_refl _, fun _ _ _ _ => rfl⟩
/-- A slice in the block of another one, or in a new one. -/
def OwnN (N : Nat) (v v' : Value) : Prop := v'.ownBlock = v.ownBlock ∨ ∀ b, some b = v'.ownBlock → N ≤ b
theorem Kep.trans {w W W' : World} {ob : Nat} {v v' : Value} (h : Kep w W ob v) (h' : Kep W W' ob v') (ho : OwnN w.heap.size v v') : Kep w W' ob v :=
  ⟨Nat.le_trans h.size h'.size, fun b hb hne hv => by
    rw [h'.same b (Nat.lt_of_lt_of_le hb h.size) hne (fun e => by
      rcases ho with ho | ho
      · exact hv (e.trans ho)
      · have := ho b e; omega)]
    exact h.same b hb hne hv⟩
theorem Kep.row {w W : World} {ob b : Nat} {v : Value} {e : TypeId} {xs : List Value} (h : Kep w W ob v) (hr : Row w b e xs) (hne : b ≠ ob) (hv : some b ≠ v.ownBlock) : Row W b e xs := by
  unfold Row at *
  rw [h.same b (Array.getElem?_eq_some_iff.1 hr).1 hne hv]; exact hr
theorem Kep.below {w W W' : World} {ob B : Nat} {v : Value} (h : Kep w W ob v) (hb : Below B W W') (hB : w.heap.size ≤ B) : Kep w W' ob v :=
  ⟨Nat.le_trans h.size hb.size, fun b hk hne hv => by rw [hb.block b (Nat.lt_of_lt_of_le hk hB)]; exact h.same b hk hne hv⟩
theorem Kep.set {w W : World} {ob : Nat} {v : Value} (h : Kep w W ob v) (i : Nat) (x : Value) : Kep w (W.setCell ⟨ob, i, none⟩ x) ob v :=
  ⟨by have := h.size; simpa using this, fun b hk hne hv => by rw [Below.heap_setCell _ _ _ _ hne]; exact h.same b hk hne hv⟩
theorem Kep.setNew {w W : World} {ob g : Nat} {v : Value} (h : Kep w W ob v) (hg : w.heap.size ≤ g) (i : Nat) (x : Value) : Kep w (W.setCell ⟨g, i, none⟩ x) ob v :=
  ⟨by have := h.size; simpa using this, fun b hk hne hv => by rw [Below.heap_setCell _ _ _ _ (show b ≠ g by omega)]; exact h.same b hk hne hv⟩
theorem Kep.grown {w W W' : World} {ob : Nat} {v v' : Value} (h : Kep w W ob v) (hg : W.grownBy W' v'.ownBlock) (ho : OwnN w.heap.size v v') : Kep w W' ob v :=
  ⟨Nat.le_trans h.size hg.size, fun b hk hne hv => by
    rw [hg.block b (Nat.lt_of_lt_of_le hk h.size) (fun e => by
      rcases ho with ho | ho
      · exact hv (e.trans ho)
      · have := ho b e; omega)]
    exact h.same b hk hne hv⟩
theorem Kep.alloc {w W : World} {ob : Nat} {v : Value} (h : Kep w W ob v) (o : Obj) : Kep w (W.alloc o) ob v :=
  ⟨by have := h.size; simp; omega, fun b hk hne hv => by rw [Below.heap_alloc _ _ _ (Nat.lt_of_lt_of_le hk h.size)]; exact h.same b hk hne hv⟩
theorem Kep.drewN {w W : World} {ob : Nat} {v : Value} (h : Kep w W ob v) (n : Nat) : Kep w (W.drewN n) ob v := ⟨h.size, h.same⟩
theorem Kep.keeps {W W' : World} {ob base L B : Nat} {v x : Value} {xs : List Value} {e : TypeId} (h : Kep W W' ob v) (hr : Row W ob e [x]) (ho : W.ownsRow base 3 1 v L xs) : KeepsFrom B W W' :=
  ⟨h.size, fun k o _ hk hc => by
    have hkl := (Array.getElem?_eq_some_iff.1 hk).1
    rw [h.same k hkl (fun e1 => by subst e1; unfold Row at hr; rw [hr] at hk; cases hk; cases hc) (fun e1 => by
      rcases ho.2 with ⟨h1, _⟩ | ⟨g, cap, cur, hv, _, hgb, _⟩
      · rw [h1] at e1; cases e1
      · rw [hv] at e1
        have e2 : k = g := by simpa [Value.ownBlock] using e1
        subst e2
        rw [hgb] at hk; cases hk; cases hc)]
    exact hk⟩
theorem ownFrom_kep {β : Type} {B : Nat} {w : World} {ob : Nat} {v : Value} (h : w.heap.size ≤ B) : OwnFrom B (fun (_ : β) W => Kep w W ob v) := fun s W W' row hk hg hr =>
  ⟨Nat.le_trans hk.size hg.size, fun b hb hne hv => by
    rw [hg.block b (Nat.lt_of_lt_of_le hb hk.size) (fun e => by
      have h2 := (hr b e.symm).1
      omega)]
    exact hk.same b hb hne hv⟩

end Go.Proofs.YtfmppncefbjicaaDoor
