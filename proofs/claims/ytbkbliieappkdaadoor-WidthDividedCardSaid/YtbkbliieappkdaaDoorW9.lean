/- The contracts of package width's isOrder, along, firstOrder. -/
import Derived.Test.YtbkbliieappkdaaDoorW8
import Derived.Test.YtbkbliieappkdaaDoorW3
namespace Go.Proofs.YtbkbliieappkdaaDoor
set_option linter.unusedSimpArgs false
set_option linter.unusedVariables false
open Go.RowKit Go.Maps
attribute [local go_sem] i64_bit toNat_eq_one toNat_ne_one toNat_eq_zero toNat_ne_zero i64_and i64_or i64_andNot i64_or_pow i64_andNot_pow


/-- A slice of numbers of one's own. -/
def NatsOwn (w : World) (base : Nat) (v : Value) (L : List Nat) : Prop := w.ownsRow base 3 1 v L.length (L.map fun (x : Nat) => Value.int .i64 x)

theorem ownsRow_grown {w w' : World} {base : Nat} {e : TypeId} {size : Nat} {v : Value} {n : Nat} {xs : List Value} {row : Option Nat} (h : w.ownsRow base e size v n xs) (hg : w.grownBy w' row) (hr : ∀ k, row = some k → k < base) : w'.ownsRow base e size v n xs := by
  refine ⟨h.1, ?_⟩
  rcases h.2 with h1 | ⟨g, cap, cur, hv, hgb, hh, r⟩
  · exact Or.inl h1
  · refine Or.inr ⟨g, cap, cur, hv, hgb, ?_, r⟩
    rw [hg.block g (Array.getElem?_eq_some_iff.1 hh).1 (fun e => by have := hr g e.symm; omega)]
    exact hh
/-- All of it lies below a block. -/
structure LowAt (B kb tb lb mb : Nat) (a : Option Addr) : Prop where
  k : kb < B
  t : tb < B
  l : lb < B
  m : mb < B
  a : ∀ x, a = some x → x.block < B
theorem LeastAt.low {w : World} {kb tb lb mb : Nat} {a : Option Addr} {n cap : Nat} {r : Nat → Nat} {F : Nat → Option Nat} (h : LeastAt w kb tb lb mb a n cap r F) : LowAt w.heap.size kb tb lb mb a :=
  ⟨h.kl, h.tl, h.ll, h.mp.lt, fun x hx => by
    obtain ⟨b, off, he, hlt, _⟩ := h.gr.at_.ints.2 h.gr.at_.pos
    rw [hx] at he; cases he; exact hlt⟩
theorem LeastAt.apart {w w' : World} {B kb tb lb mb : Nat} {a : Option Addr} {n cap : Nat} {r : Nat → Nat} {F : Nat → Option Nat} {row : Option Nat} (h : LeastAt w kb tb lb mb a n cap r F) (hl : LowAt B kb tb lb mb a) (hg : w.grownBy w' row) (hr : ∀ k, row = some k → B ≤ k) : LeastAt w' kb tb lb mb a n cap r F where
  gr := h.gr.grown hg (fun x hx e => by have := hl.a x hx; have := hr _ e.symm; omega)
  ga := h.ga
  kl := Nat.lt_of_lt_of_le h.kl hg.size
  tl := Nat.lt_of_lt_of_le h.tl hg.size
  ll := Nat.lt_of_lt_of_le h.ll hg.size
  nk := h.nk
  nt := h.nt
  nl := h.nl
  kc := by rw [World.cell?_of_block (a := ⟨kb, 0, none⟩) (hg.block kb h.kl (fun e => by have := hl.k; have := hr _ e.symm; omega))]; exact h.kc
  tc := by rw [World.cell?_of_block (a := ⟨tb, 0, none⟩) (hg.block tb h.tl (fun e => by have := hl.t; have := hr _ e.symm; omega))]; exact h.tc
  lc := by rw [World.cell?_of_block (a := ⟨lb, 0, none⟩) (hg.block lb h.ll (fun e => by have := hl.l; have := hr _ e.symm; omega))]; exact h.lc
  mp := by
    obtain ⟨es, clock, hb, h2⟩ := h.mp
    exact ⟨es, clock, by rw [hg.block mb h.mp.lt (fun e => by have := hl.m; have := hr _ e.symm; omega)]; exact hb, h2⟩
  good := h.good
  top := h.top

end Go.Proofs.YtbkbliieappkdaaDoor
