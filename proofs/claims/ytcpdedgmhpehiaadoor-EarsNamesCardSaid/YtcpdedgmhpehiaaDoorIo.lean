/- Slices of numbers of one's own, and an append of one number to them: laws for any seat. -/
import Derived.Test.YtcpdedgmhpehiaaDoorRa
import Derived.Test.YtcpdedgmhpehiaaDoorE3
import Derived.Deep.RegionLaw
import Derived.Maps.OwnIn
namespace Go.Proofs.YtcpdedgmhpehiaaDoor
set_option linter.unusedSimpArgs false
set_option linter.unusedVariables false
open Go.RowKit Go.Maps

/-- A slice of numbers of one's own. -/
def IntsOwn (w : World) (base : Nat) (v : Value) (L : List Int) : Prop := w.ownsRow base 3 1 v L.length (L.map fun x => Value.int .i64 x)
def zListI (L : List Int) (i : Nat) : Int := L.getD i 0
theorem IntsOwn.ints {w : World} {base : Nat} {v : Value} {L : List Int} (h : IntsOwn w base v L) (hL : L.length ≤ 65536) : ∃ a cap, v = .slice a L.length cap ∧ IntsAt w a L.length (zListI L) := by
  by_cases h0 : L.length = 0
  · obtain ⟨a, cap, hv⟩ := own_form h
    exact ⟨a, cap, hv, by unfold maxLen; omega, fun h => by omega⟩
  · unfold IntsOwn at h
    obtain ⟨g, cap, rfl, h1, h2⟩ := own_form' h h0
    refine ⟨_, cap, rfl, by unfold maxLen; omega, fun _ => ⟨g, 0, rfl, h2, fun i hi => ?_⟩⟩
    rw [Nat.zero_add, World.ownsRow.cellAt h i (by omega)]
    unfold zListI
    rw [List.getElem?_map, List.getD_eq_getElem?_getD, List.getElem?_eq_getElem hi]
    rfl
theorem IntsOwn.nil (w : World) (base : Nat) : IntsOwn w base (.slice none 0 0) [] := ⟨rfl, .inl ⟨rfl, rfl⟩⟩
theorem IntsOwn.below {w w' : World} {base : Nat} {v : Value} {L : List Int} (h : IntsOwn w base v L) (hb : Below w.heap.size w w') : IntsOwn w' base v L := ownsRow_below h hb (Nat.le_refl _)
theorem IntsOwn.lit (w : World) (x : Int) : IntsOwn (w.alloc (.cells #[.int .i64 x] 3)) w.heap.size (.slice (some ⟨w.heap.size, 0, none⟩) 1 1) [x] := by
  refine ⟨rfl, Or.inr ⟨w.heap.size, 1, #[.int .i64 x], rfl, Nat.le_refl _, ?_, Nat.le_refl _, by decide, rfl, rfl⟩⟩
  exact Row.new w 3 [.int .i64 x]

theorem grown_of_alloc {w w' : World} {o : Obj} {row : Option Nat} (h : (w.alloc o).grownBy w' row) : w.grownBy w' row :=
  ⟨h.os, h.tape, h.output, Nat.le_trans (by simp) h.size, fun k hk hr => (h.block k (by simp; omega) hr).trans (Below.heap_alloc _ _ _ hk)⟩
theorem below_of_own {w w' : World} {base : Nat} {v : Value} {L : List Int} (h : IntsOwn w base v L) (hb : base ≤ w.heap.size) (hg : w.grownBy w' v.ownBlock) : Below base w w' :=
  (Below.refl base w).grown hg hb fun k hk => (World.ownsRow.lt h k hk).1

section
variable {ops : Array Oper} {rest : List Oper} {o : Oper} {a : Act} {Q : Exit → Act → World → Prop} {w : World}

theorem wpList_app_int (base : Nat) (L : List Int) (x : Int) (v : Value) (hgd : o.guard = none) (s y : Operand)
    (ho : o.op = .call { callee := .builtin .append, args := #[s, y], argTypes := #[22, 22] }) (hs : a.eval s = v) (hown : IntsOwn w base v L) (hx : a.eval y = .slice (some ⟨w.heap.size, 0, none⟩) 1 1)
    (hlen : L.length ≤ 65536) (hbase : base ≤ w.heap.size)
    (h : ∀ v' w', IntsOwn w' base v' (L ++ [x]) → Below base w w' → w.grownBy w' v.ownBlock → wpList Tryd.prog ops Q rest (a.put o.dst v') w') : wpList Tryd.prog ops Q (o :: rest) a (w.alloc (.cells #[.int .i64 x] 3)) := by
  obtain ⟨i0, hi0, hz1, hz2, hz3⟩ := info_parts info_int
  refine wpList_append_own _ hgd s y _ ho base 3 i0 (.int .i64 0) 1 8 Tryd.underlying22 hi0 hz1 hz2 hz3 rfl (by decide) v _ _ hs (World.ownsRow.alloc hown _) ⟨w.heap.size, 0, none⟩ 1 1 [.int .i64 x] hx rfl (cells_new _ _ _) (by intro u hu; simp at hu; subst hu; rfl) (by unfold maxLen; omega) (by omega) (Nat.le_trans hbase (by simp)) ?_
  intro v' w' h1 h2 _
  have hg := grown_of_alloc h2
  refine h v' w' ?_ (below_of_own hown hbase hg) hg
  unfold IntsOwn
  rw [List.length_append, List.map_append]
  exact h1
theorem wpListIn_app_int {F : Fence} {nF : Nat} (base : Nat) (L : List Int) (x : Int) (v : Value) (hgd : o.guard = none) (s y : Operand)
    (ho : o.op = .call { callee := .builtin .append, args := #[s, y], argTypes := #[22, 22] }) (hs : a.eval s = v) (hown : IntsOwn w base v L) (hx : a.eval y = .slice (some ⟨w.heap.size, 0, none⟩) 1 1)
    (hlen : L.length ≤ 65536) (hbase : base ≤ w.heap.size)
    (h : ∀ v' w', IntsOwn w' base v' (L ++ [x]) → Below base w w' → w.grownBy w' v.ownBlock → (v'.ownBlock = v.ownBlock ∨ v'.ownBlock = some (w.heap.size + 1)) → wpListIn F nF Tryd.prog ops Q rest (a.put o.dst v') w') : wpListIn F nF Tryd.prog ops Q (o :: rest) a (w.alloc (.cells #[.int .i64 x] 3)) := by
  obtain ⟨i0, hi0, hz1, hz2, hz3⟩ := info_parts info_int
  refine wpListIn_append_own_at _ hgd s y _ ho base 3 i0 (.int .i64 0) 1 8 Tryd.underlying22 hi0 hz1 hz2 hz3 rfl (by decide) v _ _ hs (World.ownsRow.alloc hown _) ⟨w.heap.size, 0, none⟩ 1 1 [.int .i64 x] hx rfl (cells_new _ _ _) (by intro u hu; simp at hu; subst hu; rfl) (by unfold maxLen; omega) (by omega) (Nat.le_trans hbase (by simp)) ?_
  intro v' w' h1 h2 _ h4
  have hg := grown_of_alloc h2
  refine h v' w' ?_ (below_of_own hown hbase hg) hg (by simpa using h4)
  unfold IntsOwn
  rw [List.length_append, List.map_append]
  exact h1
end

end Go.Proofs.YtcpdedgmhpehiaaDoor
