/- General lemmas of this verifier: bit sets as naturals, and worlds that stay as they were below a block. -/
import Derived.WalkKit
import Derived.WalkSpells
import Derived.WalkLawsBesides
import Derived.Deep.QuietTactic
import Derived.BigQuiet
import Derived.Lib.Hide
namespace Go.Proofs.YtfmppncefbjicaaDoor
set_option linter.unusedSimpArgs false
set_option linter.unusedVariables false
open Go.RowKit

/-! ### bits -/

theorem toNat_ofInt64 (a : Nat) (ha : a < 9223372036854775808) : (BitVec.ofInt 64 (a : Int)).toNat = a := by
  rw [BitVec.toNat_ofInt]
  omega

theorem wrap_i64_nat (n : Nat) (h : n < 9223372036854775808) : IntKind.i64.wrap (n : Int) = (n : Int) := by
  rw [IntKind.wrap_i64]; omega

theorem lt63_of_le {a b : Nat} (h : a ≤ b) (hb : b < 65536) : a < 9223372036854775808 := by omega

theorem or_lt {a b : Nat} (ha : a < 65536) (hb : b < 65536) : a ||| b < 65536 := Nat.or_lt_two_pow (n := 16) ha hb
theorem and_lt {a b : Nat} (ha : a < 65536) : a &&& b < 65536 := Nat.lt_of_le_of_lt Nat.and_le_left ha
theorem xor_lt {a b : Nat} (ha : a < 65536) (hb : b < 65536) : a ^^^ b < 65536 := Nat.xor_lt_two_pow (n := 16) ha hb

/-- What is in a and not in b. -/
def diff (a b : Nat) : Nat := a ^^^ (a &&& b)

theorem testBit_diff (a b i : Nat) : (diff a b).testBit i = (a.testBit i && !b.testBit i) := by
  unfold diff
  rw [Nat.testBit_xor, Nat.testBit_and]
  cases a.testBit i <;> cases b.testBit i <;> rfl

theorem diff_le (a b : Nat) : diff a b ≤ a := by
  have h : diff a b = a &&& diff a b := by
    apply Nat.eq_of_testBit_eq
    intro i
    rw [Nat.testBit_and, testBit_diff]
    cases a.testBit i <;> simp
  rw [h]; exact Nat.and_le_left

theorem diff_lt {a b : Nat} (ha : a < 65536) : diff a b < 65536 := Nat.lt_of_le_of_lt (diff_le a b) ha

theorem i64_and (a b : Nat) (ha : a < 65536) (hb : b < 65536) : bits .and .i64 (a : Int) (b : Int) = ((a &&& b : Nat) : Int) := by
  have h := and_lt (b := b) ha
  show IntKind.i64.wrap (((BitVec.ofInt 64 (a : Int) &&& BitVec.ofInt 64 (b : Int)).toNat : Nat) : Int) = _
  rw [BitVec.toNat_and, toNat_ofInt64 a (by omega), toNat_ofInt64 b (by omega)]
  exact wrap_i64_nat _ (by omega)

theorem i64_or (a b : Nat) (ha : a < 65536) (hb : b < 65536) : bits .or .i64 (a : Int) (b : Int) = ((a ||| b : Nat) : Int) := by
  have h := or_lt ha hb
  show IntKind.i64.wrap (((BitVec.ofInt 64 (a : Int) ||| BitVec.ofInt 64 (b : Int)).toNat : Nat) : Int) = _
  rw [BitVec.toNat_or, toNat_ofInt64 a (by omega), toNat_ofInt64 b (by omega)]
  exact wrap_i64_nat _ (by omega)

theorem i64_xor (a b : Nat) (ha : a < 65536) (hb : b < 65536) : bits .xor .i64 (a : Int) (b : Int) = ((a ^^^ b : Nat) : Int) := by
  have h := xor_lt ha hb
  show IntKind.i64.wrap (((BitVec.ofInt 64 (a : Int) ^^^ BitVec.ofInt 64 (b : Int)).toNat : Nat) : Int) = _
  rw [BitVec.toNat_xor, toNat_ofInt64 a (by omega), toNat_ofInt64 b (by omega)]
  exact wrap_i64_nat _ (by omega)

theorem i64_andNot (a b : Nat) (ha : a < 65536) (hb : b < 65536) : bits .andNot .i64 (a : Int) (b : Int) = ((diff a b : Nat) : Int) := by
  have h := diff_lt (b := b) ha
  have e : (BitVec.ofInt 64 (a : Int) &&& ~~~(BitVec.ofInt 64 (b : Int))).toNat = diff a b := by
    apply Nat.eq_of_testBit_eq
    intro i
    rw [BitVec.toNat_and, Nat.testBit_and, toNat_ofInt64 a (by omega), testBit_diff]
    by_cases hi : i < 64
    · rw [← BitVec.getLsbD, BitVec.getLsbD_not, BitVec.getLsbD, toNat_ofInt64 b (by omega)]
      simp [hi]
    · have : a.testBit i = false := Nat.testBit_lt_two_pow (Nat.lt_of_lt_of_le (by omega : a < 2^16) (Nat.pow_le_pow_right (by omega) (by omega)))
      simp [this]
  show IntKind.i64.wrap (((BitVec.ofInt 64 (a : Int) &&& ~~~(BitVec.ofInt 64 (b : Int))).toNat : Nat) : Int) = _
  rw [e]
  exact wrap_i64_nat _ (by omega)

theorem i64_bit (s v : Nat) (hs : s < 65536) : bits .and .i64 (((s : Nat) : Int) / 2 ^ v) 1 = (((s.testBit v).toNat : Nat) : Int) := by
  have e : ((s : Nat) : Int) / 2 ^ v = ((s / 2 ^ v : Nat) : Int) := by
    rw [Int.natCast_ediv, Int.natCast_pow]; rfl
  have hl : s / 2 ^ v < 65536 := Nat.lt_of_le_of_lt (Nat.div_le_self _ _) hs
  rw [e, show (1 : Int) = ((1 : Nat) : Int) from rfl, i64_and _ _ hl (by omega), nat_mask1]
  rw [Nat.testBit_eq_decide_div_mod_eq]
  have : s / 2 ^ v % 2 = 0 ∨ s / 2 ^ v % 2 = 1 := by omega
  rcases this with h | h <;> simp [h]

theorem toNat_eq_one (b : Bool) : ((((b.toNat : Nat) : Int)) == 1) = b := by cases b <;> rfl
theorem toNat_ne_one (b : Bool) : ((((b.toNat : Nat) : Int)) != 1) = !b := by cases b <;> rfl
theorem toNat_eq_zero (b : Bool) : ((((b.toNat : Nat) : Int)) == 0) = !b := by cases b <;> rfl
theorem toNat_ne_zero (b : Bool) : ((((b.toNat : Nat) : Int)) != 0) = b := by cases b <;> rfl
theorem toNat_eq_toNat (a b : Bool) : ((((a.toNat : Nat) : Int)) == ((b.toNat : Nat) : Int)) = (a == b) := by cases a <;> cases b <;> rfl
theorem toNat_ne_toNat (a b : Bool) : ((((a.toNat : Nat) : Int)) != ((b.toNat : Nat) : Int)) = (a != b) := by cases a <;> cases b <;> rfl

theorem pow_cast (v : Nat) : ((2 : Int) ^ v) = ((2 ^ v : Nat) : Int) := by rw [Int.natCast_pow]; rfl
theorem pow_lt16 {v : Nat} (hv : v < 16) : 2 ^ v < 65536 := by
  have h : 2 ^ v < 2 ^ 16 := Nat.pow_lt_pow_right (by omega) hv
  simpa using h
theorem i64_or_pow (a v : Nat) (ha : a < 65536) (hv : v < 16) : bits .or .i64 (a : Int) ((2 : Int) ^ v) = ((a ||| 2 ^ v : Nat) : Int) := by
  rw [pow_cast, i64_or a _ ha (pow_lt16 hv)]
theorem i64_andNot_pow (a v : Nat) (ha : a < 65536) (hv : v < 16) : bits .andNot .i64 (a : Int) ((2 : Int) ^ v) = ((diff a (2 ^ v) : Nat) : Int) := by
  rw [pow_cast, i64_andNot a _ ha (pow_lt16 hv)]
theorem pow_bd (n : Nat) (hn : n < 16) : 1 ≤ (2 : Int) ^ n ∧ (2 : Int) ^ n ≤ 32768 := by
  have h : ∀ k : Fin 16, 1 ≤ (2 : Int) ^ k.val ∧ (2 : Int) ^ k.val ≤ 32768 := by decide
  exact h ⟨n, by omega⟩

theorem cast_beq (a b : Nat) : (((a : Nat) : Int) == ((b : Nat) : Int)) = (a == b) := by
  rw [Bool.eq_iff_iff]; simp only [beq_iff_eq]; omega
theorem cast_beq0 (a : Nat) : (((a : Nat) : Int) == 0) = (a == 0) := cast_beq a 0

/-! ### worlds -/

theorem bcell {W w1 : World} (hb : Below W.heap.size W w1) : (∀ b o, b < W.heap.size → w1.cell? ⟨b, o, none⟩ = W.cell? ⟨b, o, none⟩) ∧ (∀ b o, b < W.heap.size → w1.frozen? ⟨b, o, none⟩ = W.frozen? ⟨b, o, none⟩) :=
  ⟨fun b o h => hb.cell (p := ⟨b, o, none⟩) h, fun b o h => hb.frozen (p := ⟨b, o, none⟩) h⟩

theorem below_drewN {B : Nat} {a w : World} (h : Below B a w) (n : Nat) : Below B a (w.drewN n) := ⟨h.os, h.tape, h.output, h.size, h.block⟩

/-- A block of one's own, known whole. -/
def Row (w : World) (b : Nat) (e : TypeId) (xs : List Value) : Prop := w.heap[b]? = some (.cells xs.toArray e (0, 0))

theorem Row.lt {w : World} {b : Nat} {e : TypeId} {xs : List Value} (h : Row w b e xs) : b < w.heap.size := (Array.getElem?_eq_some_iff.1 h).1
theorem Row.cell {w : World} {b : Nat} {e : TypeId} {xs : List Value} (h : Row w b e xs) {i : Nat} {v : Value} (hi : xs[i]? = some v) : w.cell? ⟨b, i, none⟩ = some v := by
  unfold Row at h; simp [World.cell?, h, hi]
theorem Row.free {w : World} {b : Nat} {e : TypeId} {xs : List Value} (h : Row w b e xs) (i : Nat) : w.frozen? ⟨b, i, none⟩ = false := by
  unfold Row at h; simp [World.frozen?, h]
theorem Row.below {w w' : World} {b B : Nat} {e : TypeId} {xs : List Value} (h : Row w b e xs) (hb : Below B w w') (hB : b < B) : Row w' b e xs := by
  unfold Row at *; rw [hb.block b hB]; exact h
theorem Row.new (w : World) (e : TypeId) (xs : List Value) : Row (w.alloc (.cells xs.toArray e)) w.heap.size e xs := by
  show (w.heap.push _)[w.heap.size]? = _
  simp
theorem Row.alloc {w : World} {b : Nat} {e : TypeId} {xs : List Value} (h : Row w b e xs) (o : Obj) : Row (w.alloc o) b e xs := by
  have := h.lt
  unfold Row at *; rw [Below.heap_alloc _ _ _ this]; exact h
theorem new3 (w : World) (e1 e2 e3 : TypeId) (x1 x2 x3 : List Value) : ∃ w0, w0 = ((w.alloc (.cells x1.toArray e1)).alloc (.cells x2.toArray e2)).alloc (.cells x3.toArray e3) ∧
    Row w0 w.heap.size e1 x1 ∧ Row w0 (w.heap.size + 1) e2 x2 ∧ Row w0 (w.heap.size + 1 + 1) e3 x3 ∧ Below w.heap.size w w0 ∧ w.heap.size + 1 + 1 < w0.heap.size := by
  refine ⟨_, rfl, ((Row.new _ _ _).alloc _).alloc _, ?_, ?_, (((Below.refl _ _).alloc (Nat.le_refl _) _).alloc (by simp) _).alloc (by simp; omega) _, by simp⟩
  · have := (Row.new (w.alloc (.cells x1.toArray e1)) e2 x2).alloc (.cells x3.toArray e3)
    simpa using this
  · have := Row.new ((w.alloc (.cells x1.toArray e1)).alloc (.cells x2.toArray e2)) e3 x3
    simpa using this
theorem new2 (w : World) (e1 e2 : TypeId) (x1 x2 : List Value) : ∃ w0, w0 = (w.alloc (.cells x1.toArray e1)).alloc (.cells x2.toArray e2) ∧
    Row w0 w.heap.size e1 x1 ∧ Row w0 (w.heap.size + 1) e2 x2 ∧ Below w.heap.size w w0 ∧ w.heap.size + 1 < w0.heap.size := by
  refine ⟨_, rfl, (Row.new _ _ _).alloc _, ?_, ((Below.refl _ _).alloc (Nat.le_refl _) _).alloc (by simp) _, by simp⟩
  have := Row.new (w.alloc (.cells x1.toArray e1)) e2 x2
  simpa using this
theorem new1 (w : World) (e1 : TypeId) (x1 : List Value) : ∃ w0, w0 = w.alloc (.cells x1.toArray e1) ∧ Row w0 w.heap.size e1 x1 ∧ Below w.heap.size w w0 ∧ w.heap.size < w0.heap.size :=
  ⟨_, rfl, Row.new _ _ _, (Below.refl _ _).alloc (Nat.le_refl _) _, by simp⟩
theorem Row.drewN {w : World} {b : Nat} {e : TypeId} {xs : List Value} (h : Row w b e xs) (n : Nat) : Row (w.drewN n) b e xs := h
theorem Row.other {w : World} {b : Nat} {e : TypeId} {xs : List Value} (h : Row w b e xs) {a : Addr} (ha : b ≠ a.block) (v : Value) : Row (w.setCell a v) b e xs := by
  unfold Row at *; rw [Below.heap_setCell _ _ _ _ ha]; exact h
theorem Row.set {w : World} {b : Nat} {e : TypeId} {xs : List Value} (h : Row w b e xs) (i : Nat) (v : Value) : Row (w.setCell ⟨b, i, none⟩ v) b e (xs.set i v) := by
  unfold Row at *
  simp [World.setCell, Array.getElem?_modify, h]

theorem map_range_set {α : Type} (f : Nat → α) (n k : Nat) (v : α) : ((List.range n).map f).set k v = (List.range n).map fun i => if i = k then v else f i := by
  apply List.ext_getElem?
  intro i
  by_cases hi : i < n
  · by_cases hk : k = i
    · subst hk; simp [List.getElem?_set, hi]
    · have : ¬ i = k := fun h => hk h.symm
      simp [List.getElem?_set, hi, hk, this]
  · simp [List.getElem?_set, hi]
theorem map_range_get {α : Type} (f : Nat → α) {n i : Nat} (h : i < n) : ((List.range n).map f)[i]? = some (f i) := by simp [h]

/-- Whether a number lies from 0 on below another one. -/
def inB (v m : Int) : Bool := decide (0 ≤ v ∧ v < m)
theorem inB_true {v m : Int} (h0 : 0 ≤ v) (h1 : v < m) : inB v m = true := decide_eq_true ⟨h0, h1⟩
theorem inB_false {v m : Int} (h : ¬ (0 ≤ v ∧ v < m)) : inB v m = false := decide_eq_false h
theorem inB_iff {v m : Int} : inB v m = true ↔ 0 ≤ v ∧ v < m := decide_eq_true_iff

theorem cells_new (w : World) (e : TypeId) (xs : List Value) : ∀ j u, xs[j]? = some u → (w.alloc (.cells xs.toArray e)).cell? ((⟨w.heap.size, 0, none⟩ : Addr).add j) = some u := by
  intro j u h
  have e1 : (⟨w.heap.size, 0, none⟩ : Addr).add j = ⟨w.heap.size, j, none⟩ := by
    unfold Addr.add
    split
    · rename_i h0; subst h0; rfl
    · simp
  rw [e1]
  exact (Row.new w e xs).cell h

theorem Row.grown {w w' : World} {b : Nat} {e : TypeId} {xs : List Value} (h : Row w b e xs) {row : Option Nat} (hg : w.grownBy w' row) (hne : some b ≠ row) : Row w' b e xs := by
  have := h.lt
  unfold Row at *; rw [hg.block b this hne]; exact h
theorem not_own {w : World} {base : Nat} {e : TypeId} {size : Nat} {v : Value} {n : Nat} {xs : List Value} (h : w.ownsRow base e size v n xs) {b : Nat} (hb : b < base) : some b ≠ v.ownBlock := by
  intro e1
  have := (h.lt b e1.symm).1
  omega
theorem ownsRow_below {w w' : World} {base B : Nat} {e : TypeId} {size : Nat} {v : Value} {n : Nat} {xs : List Value} (h : w.ownsRow base e size v n xs) (hb : Below B w w') (hB : w.heap.size ≤ B) : w'.ownsRow base e size v n xs := by
  refine ⟨h.1, ?_⟩
  rcases h.2 with h1 | ⟨g, cap, cur, hv, hg, hh, r⟩
  · exact Or.inl h1
  · exact Or.inr ⟨g, cap, cur, hv, hg, by rw [hb.block g (by have := (Array.getElem?_eq_some_iff.1 hh).1; omega)]; exact hh, r⟩

theorem not_own_type {w : World} {base : Nat} {e e' : TypeId} {size : Nat} {v : Value} {n : Nat} {xs ys : List Value} {b : Nat} (h : w.ownsRow base e size v n xs) (hr : Row w b e' ys) (hne : e ≠ e') : some b ≠ v.ownBlock := by
  intro e1
  rcases h.2 with h1 | ⟨g, cap, cur, hv, hg, hh, r⟩
  · rw [h1.1] at e1; cases e1
  · rw [hv] at e1
    have e2 : b = g := by simpa [Value.ownBlock] using e1
    subst e2
    unfold Row at hr
    rw [hr] at hh
    simp only [Option.some.injEq, Obj.cells.injEq] at hh
    exact hne hh.2.1.symm

/-- The first n cells at an address are whole numbers. -/
def IntsAt (w : World) (a : Option Addr) (n : Nat) (z : Nat → Int) : Prop :=
  n ≤ maxLen ∧ (0 < n → ∃ b off, a = some ⟨b, off, none⟩ ∧ b < w.heap.size ∧ ∀ i, i < n → w.cell? ⟨b, off + i, none⟩ = some (.int .i64 (z i)))
theorem IntsAt.below {w w' : World} {a : Option Addr} {n : Nat} {z : Nat → Int} (h : IntsAt w a n z) (hb : Below w.heap.size w w') : IntsAt w' a n z :=
  ⟨h.1, fun hn => by
    obtain ⟨b, off, ha, hlt, hc⟩ := h.2 hn
    exact ⟨b, off, ha, Nat.lt_of_lt_of_le hlt hb.size, fun i hi => by rw [hb.cell (p := ⟨b, off + i, none⟩) hlt]; exact hc i hi⟩⟩
theorem IntsAt.alloc {w : World} {a : Option Addr} {n : Nat} {z : Nat → Int} (h : IntsAt w a n z) (o : Obj) : IntsAt (w.alloc o) a n z := h.below ((Below.refl _ _).alloc (Nat.le_refl _) o)

/-- A world in which below a block all is as it was: the class over which a region that draws its order is walked once. -/
structure BelowW (B : Nat) (w0 : World) where
  w : World
  h : Below B w0 w
instance (B : Nat) (w0 : World) : Nonempty (BelowW B w0) := ⟨⟨w0, Below.refl B w0⟩⟩
theorem wp_region_below {P : Program} {id : Nat} {Q : Exit → Act → World → Prop} {a : Act} {w : World} {l : List Oper} (B : Nat) (w0 : World) (hw : Below B w0 w) (hm : P.follows .mixedOrders = true) (hB : Region.lexB .any l.toArray = true)
    (h : wpQuiet P l.toArray (fun w' => ∃ x : BelowW B w0, w' = x.w) (fun a' => ∀ w', (∃ x : BelowW B w0, w' = x.w) → Q .normal a' w') l a) : (Code.region id l.toArray true).wp P Q a w :=
  wp_region_quiet (C := fun w' => ∃ x : BelowW B w0, w' = x.w) hm hB ⟨⟨_, hw.drew⟩, rfl⟩ (by simpa using h)
theorem calls_below {P : Program} {f : FuncId} {args : Array Value} {B : Nat} {w0 : World} {x : BelowW B w0} {v : Value} (hB : B ≤ w0.heap.size)
    (h : Calls P f args x.w fun e w' => e = .returned v ∧ Below x.w.heap.size x.w w') : Calls P f args x.w fun e w' => e = .returned v ∧ ∃ y : BelowW B w0, w' = y.w :=
  h.mono fun _ w' ⟨he, hb⟩ => ⟨he, ⟨w', x.h.trans (hb.mono (Nat.le_trans hB x.h.size))⟩, rfl⟩

theorem ownsRow_base {w : World} {base base' : Nat} {e : TypeId} {size : Nat} {v : Value} {n : Nat} {xs : List Value} (h : w.ownsRow base e size v n xs) (hb : base' ≤ base) : w.ownsRow base' e size v n xs := by
  refine ⟨h.1, ?_⟩
  rcases h.2 with h1 | ⟨g, cap, cur, hv, hg, r⟩
  · exact Or.inl h1
  · exact Or.inr ⟨g, cap, cur, hv, Nat.le_trans hb hg, r⟩

end Go.Proofs.YtfmppncefbjicaaDoor
