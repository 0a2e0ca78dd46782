/- Package minor: a graph with a node less, or with two neighbours made one, is a minor. Package minor: Delete and Contract of any numbers, the smaller graph's minors; the law's has over it. -/
import Derived.Test.YtfmppncefbjicaaDoorNe
namespace Go.Proofs.YtfmppncefbjicaaDoor
set_option linter.unusedSimpArgs false
set_option linter.unusedVariables false
open Go.RowKit Go.Maps

theorem graph_ofB {n : Nat} {r : Nat → Nat} (h1 : 1 ≤ n) (h8 : n ≤ 8) (hr : ∀ i, i < n → r i < 2 ^ n) (hl : ∀ i, i < n → (r i).testBit i = false) (hs : ∀ u x, u < n → x < n → (r u).testBit x = (r x).testBit u) : graphB n 8 (fun i => ((r i : Nat) : Int)) = true := by
  refine graphB_yes h1 h8 fun i hi => ⟨?_, fun j hj => ?_⟩
  · show (inB ((r i : Nat) : Int) (2 ^ n) && !bitZ ((r i : Nat) : Int) i) = true
    rw [bitZ_nat, hl i hi, inB_true (by omega) (by rw [pow_cast]; have := hr i hi; omega)]
    rfl
  · rw [bitZ_nat, bitZ_nat]; exact hs i j hi hj
theorem lt_graph {n most : Nat} {z : Nat → Int} (hg : graphB n most z = true) : ∀ i, i < n → natG z i < 2 ^ n := fun i hi => by
  have := (graphB_le hg).2.2 i hi
  rw [pow_cast n] at this
  show (z i).toNat < 2 ^ n
  omega

/-- What is a minor of a minor is found. -/
theorem minor_found {n m q : Nat} {z z' y : Nat → Int} {P : Nat → Nat} (hg : graphB n 8 z = true) (hg' : graphB m 8 z' = true) (hp : graphB q 6 y = true) (M : ModelOf n m (natG z) (natG z') P) (h : (modG m q z' y).isSome = true) : (modG n q z y).isSome = true := by
  rw [mod_ref hg' hp] at h
  rw [mod_ref hg hp]
  cases h1 : refM m q (natG z') (natG y) with
  | none => rw [h1] at h; cases h
  | some L =>
    obtain ⟨_, M2, _⟩ := refM_model h1 (graphB_le hg').2.1 (lt_graph hg') (g_sym hg') (g_sym hp) (g_loop hp)
    have h2 := refM_found (M.minor M2 (lt_graph hg')) (graphB_le hg).2.1 (lt_graph hg)
    cases h3 : refM n q (natG z) (natG y) with
    | none => exact absurd h3 h2
    | some _ => rfl

theorem unD_less {n v i : Nat} (h : i < n - 1) : unD v i < n := by unfold unD; split <;> omega
theorem unD_inj {v i j : Nat} (h : unD v i = unD v j) : i = j := by
  unfold unD at h
  by_cases h1 : i < v <;> by_cases h2 : j < v <;> simp [h1, h2] at h <;> omega
theorem unD_ne {v i : Nat} : unD v i ≠ v := by unfold unD; split <;> omega
theorem pow_bit {v x : Nat} : (2 ^ v).testBit x = true ↔ v = x := by rw [Nat.testBit_two_pow, decide_eq_true_eq]

/-- A graph given by plain rows, with a node less. -/
theorem wo_graph {n v : Nat} {f : Nat → Nat} (h2 : 2 ≤ n) (h8 : n ≤ 8) (hv : v < n) (hr : ∀ i, i < n → f i < 2 ^ n) (hl : ∀ i, i < n → (f i).testBit i = false) (hs : ∀ u x, u < n → x < n → (f u).testBit x = (f x).testBit u) : graphB (n - 1) 8 (woZ (fun i => ((f i : Nat) : Int)) v) = true := by
  refine graph_ofB (r := fun x => wo v (f (unD v x))) (by omega) (by omega) (fun i hi => wo_lt (m := n - 1) (by omega) (by rw [show n - 1 + 1 = n by omega]; exact hr _ (unD_less hi))) (fun i hi => ?_) fun u x hu hx => ?_
  · show (wo v _).testBit i = false
    rw [testBit_wo]; exact hl _ (unD_less hi)
  · show (wo v _).testBit x = (wo v _).testBit u
    rw [testBit_wo, testBit_wo]; exact hs _ _ (unD_less hu) (unD_less hx)
theorem woZ_nat {f : Nat → Nat} {v i : Nat} : natG (woZ (fun i => ((f i : Nat) : Int)) v) i = wo v (f (unD v i)) := rfl
theorem woZ_eq {z : Nat → Int} {v : Nat} : woZ z v = woZ (fun i => ((natG z i : Nat) : Int)) v := rfl

theorem del_graph {n v : Nat} {z : Nat → Int} (hg : graphB n 8 z = true) (h2 : 2 ≤ n) (hv : v < n) : graphB (n - 1) 8 (woZ z v) = true := by
  rw [woZ_eq]
  exact wo_graph h2 (graphB_le hg).2.1 hv (lt_graph hg) (g_loop hg) (g_sym hg)
theorem del_model {n v : Nat} {z : Nat → Int} (h2 : 2 ≤ n) (hv : v < n) : ModelOf n (n - 1) (natG z) (natG (woZ z v)) (fun u => 2 ^ unD v u) := by
  refine ⟨fun i hi => two_pow_lt (unD_less hi), fun i hi => ⟨_, pow_bit.2 rfl⟩, fun i j x hi hj h1 h3 => ?_, fun i x y hi h1 h3 => ?_, fun i j hi hj hp => ?_⟩
  · rw [pow_bit] at h1 h3; exact unD_inj (h1.trans h3.symm)
  · rw [pow_bit] at h1 h3; subst h1; subst h3; exact Rch.refl
  · rw [woZ_eq, woZ_nat, testBit_wo] at hp
    exact ⟨_, _, pow_bit.2 rfl, pow_bit.2 rfl, hp⟩

theorem lnkF_bit {f : Nat → Nat} {x y i j : Nat} : (lnkF f x y i).testBit j = true ↔ (f i).testBit j = true ∨ (i = x ∧ j = y) ∨ (i = y ∧ j = x) := by
  unfold lnkF upF
  by_cases h1 : i = y
  · subst h1
    rw [if_pos rfl]
    by_cases h2 : i = x
    · subst h2
      rw [if_pos rfl, Nat.testBit_or, Nat.testBit_or, Bool.or_eq_true, Bool.or_eq_true, pow_bit]
      constructor
      · rintro ((h | h) | h)
        · exact Or.inl h
        · exact Or.inr (Or.inl ⟨rfl, h.symm⟩)
        · exact Or.inr (Or.inl ⟨rfl, h.symm⟩)
      · rintro (h | ⟨_, h⟩ | ⟨_, h⟩)
        · exact Or.inl (Or.inl h)
        · exact Or.inr h.symm
        · exact Or.inr h.symm
    · rw [if_neg h2, Nat.testBit_or, Bool.or_eq_true, pow_bit]
      constructor
      · rintro (h | h)
        · exact Or.inl h
        · exact Or.inr (Or.inr ⟨rfl, h.symm⟩)
      · rintro (h | ⟨h, _⟩ | ⟨_, h⟩)
        · exact Or.inl h
        · exact absurd h h2
        · exact Or.inr h.symm
  · rw [if_neg h1]
    by_cases h2 : i = x
    · subst h2
      rw [if_pos rfl, Nat.testBit_or, Bool.or_eq_true, pow_bit]
      constructor
      · rintro (h | h)
        · exact Or.inl h
        · exact Or.inr (Or.inl ⟨rfl, h.symm⟩)
      · rintro (h | ⟨_, h⟩ | ⟨h, _⟩)
        · exact Or.inl h
        · exact Or.inr h.symm
        · exact absurd h h1
    · rw [if_neg h2]
      constructor
      · exact Or.inl
      · rintro (h | ⟨h, _⟩ | ⟨h, _⟩)
        · exact h
        · exact absurd h h2
        · exact absurd h h1
theorem jnF_bit {a i j : Nat} : ∀ (pre : List Nat) (f : Nat → Nat), (jnF f a pre i).testBit j = true ↔ (f i).testBit j = true ∨ (i = a ∧ j ∈ pre) ∨ (j = a ∧ i ∈ pre) := by
  intro pre
  induction pre with
  | nil => intro f; simp [jnF]
  | cons u pre ih =>
    intro f
    rw [show jnF f a (u :: pre) = jnF (lnkF f a u) a pre from rfl, ih, lnkF_bit]
    constructor
    · rintro ((h | ⟨h1, h2⟩ | ⟨h1, h2⟩) | ⟨h1, h2⟩ | ⟨h1, h2⟩)
      · exact Or.inl h
      · exact Or.inr (Or.inl ⟨h1, by rw [h2]; exact List.mem_cons_self ..⟩)
      · exact Or.inr (Or.inr ⟨h2, by rw [h1]; exact List.mem_cons_self ..⟩)
      · exact Or.inr (Or.inl ⟨h1, List.mem_cons_of_mem _ h2⟩)
      · exact Or.inr (Or.inr ⟨h1, List.mem_cons_of_mem _ h2⟩)
    · rintro (h | ⟨h1, h2⟩ | ⟨h1, h2⟩)
      · exact Or.inl (Or.inl h)
      · rcases List.mem_cons.1 h2 with h3 | h3
        · exact Or.inl (Or.inr (Or.inl ⟨h1, h3⟩))
        · exact Or.inr (Or.inl ⟨h1, h3⟩)
      · rcases List.mem_cons.1 h2 with h3 | h3
        · exact Or.inl (Or.inr (Or.inr ⟨h3, h1⟩))
        · exact Or.inr (Or.inr ⟨h1, h3⟩)

/-- Two neighbours made one. -/
def conF (z : Nat → Int) (x y : Nat) : Nat → Nat := jnF (natG z) x (bitsOf (diff (natG z y) (2 ^ x)))
theorem conF_bit {n x y i j : Nat} {z : Nat → Int} (hg : graphB n 8 z = true) (hy : y < n) : (conF z x y i).testBit j = true ↔ (natG z i).testBit j = true ∨ (i = x ∧ (natG z y).testBit j = true ∧ j ≠ x) ∨ (j = x ∧ (natG z y).testBit i = true ∧ i ≠ x) := by
  have hn8 := (graphB_le hg).2.1
  have hm : ∀ t, t ∈ bitsOf (diff (natG z y) (2 ^ x)) ↔ (natG z y).testBit t = true ∧ t ≠ x := by
    intro t
    rw [mem_bitsOf, testBit_diff, Bool.and_eq_true, Nat.testBit_two_pow]
    constructor
    · rintro ⟨_, h1, h2⟩
      exact ⟨h1, fun e => by rw [e] at h2; simp at h2⟩
    · rintro ⟨h1, h2⟩
      have := bit_lt (lt_graph hg y hy) h1
      exact ⟨by omega, h1, by rw [decide_eq_false (fun e => h2 e.symm)]; rfl⟩
  unfold conF
  rw [jnF_bit, hm, hm]
theorem con_graph {n x y : Nat} {z : Nat → Int} (hg : graphB n 8 z = true) (hxy : x < y) (hy : y < n) : graphB (n - 1) 8 (woZ (fun i => ((conF z x y i : Nat) : Int)) y) = true := by
  have hs := g_sym hg
  have hr := lt_graph hg
  refine wo_graph (by omega) (graphB_le hg).2.1 hy (fun i hi => jnF_lt (by omega) _ _ hr (fun u hu => ?_) i hi) (fun i hi => ?_) fun u t hu ht => ?_
  · rw [mem_bitsOf, testBit_diff, Bool.and_eq_true] at hu
    exact bit_lt (hr y hy) hu.2.1
  · rw [Bool.eq_false_iff]
    intro h
    rcases (conF_bit hg hy).1 h with h | ⟨h1, _, h2⟩ | ⟨h1, _, h2⟩
    · rw [g_loop hg i hi] at h; cases h
    · exact h2 h1
    · exact h2 h1
  · rw [Bool.eq_iff_iff, conF_bit hg hy, conF_bit hg hy, hs u t hu ht]
    constructor
    · rintro (h | h | h)
      · exact Or.inl h
      · exact Or.inr (Or.inr h)
      · exact Or.inr (Or.inl h)
    · rintro (h | h | h)
      · exact Or.inl h
      · exact Or.inr (Or.inr h)
      · exact Or.inr (Or.inl h)
def conP (x y u : Nat) : Nat := if unD y u = x then 2 ^ x ||| 2 ^ y else 2 ^ unD y u
theorem conP_bit {x y u t : Nat} : (conP x y u).testBit t = true ↔ unD y u = t ∨ (unD y u = x ∧ y = t) := by
  unfold conP
  split
  · rename_i h
    rw [Nat.testBit_or, Bool.or_eq_true, pow_bit, pow_bit, h]
    constructor
    · rintro (h1 | h1)
      · exact Or.inl h1
      · exact Or.inr ⟨rfl, h1⟩
    · rintro (h1 | ⟨_, h1⟩)
      · exact Or.inl h1
      · exact Or.inr h1
  · rename_i h
    rw [pow_bit]
    constructor
    · exact Or.inl
    · rintro (h1 | ⟨h1, _⟩)
      · exact h1
      · exact absurd h1 h
theorem con_model {n x y : Nat} {z : Nat → Int} (hg : graphB n 8 z = true) (hxy : x < y) (hy : y < n) (hb : (natG z x).testBit y = true) : ModelOf n (n - 1) (natG z) (natG (woZ (fun i => ((conF z x y i : Nat) : Int)) y)) (conP x y) := by
  have hs := g_sym hg
  have hx : x < n := by omega
  refine ⟨fun i hi => ?_, fun i hi => ⟨_, conP_bit.2 (Or.inl rfl)⟩, fun i j t hi hj h1 h3 => ?_, fun i s t hi h1 h3 => ?_, fun i j hi hj hp => ?_⟩
  · unfold conP
    split
    · exact Nat.or_lt_two_pow (two_pow_lt hx) (two_pow_lt hy)
    · exact two_pow_lt (unD_less hi)
  · rw [conP_bit] at h1 h3
    rcases h1 with h1 | ⟨h1, h4⟩ <;> rcases h3 with h3 | ⟨h3, h5⟩
    · exact unD_inj (h1.trans h3.symm)
    · exact absurd (h1.trans h5.symm) unD_ne
    · exact absurd (h3.trans h4.symm) unD_ne
    · exact unD_inj (h1.trans h3.symm)
  · have h1' := h1
    have h3' := h3
    rw [conP_bit] at h1 h3
    rcases h1 with h1 | ⟨h1, h4⟩ <;> rcases h3 with h3 | ⟨h3, h5⟩
    · rw [← h1, ← h3]; exact Rch.refl
    · have e1 : s = x := h1.symm.trans h3
      subst e1; subst h5
      exact Rch.step Rch.refl hb h3'
    · have e1 : t = x := h3.symm.trans h1
      subst e1; subst h4
      exact Rch.step Rch.refl (by rw [hs y t hy hx]; exact hb) h3'
    · rw [← h4, ← h5]; exact Rch.refl
  · rw [woZ_nat, testBit_wo, conF_bit hg hy] at hp
    rcases hp with h | ⟨h1, h2, _⟩ | ⟨h1, h2, _⟩
    · exact ⟨_, _, conP_bit.2 (Or.inl rfl), conP_bit.2 (Or.inl rfl), h⟩
    · exact ⟨y, _, conP_bit.2 (Or.inr ⟨h1, rfl⟩), conP_bit.2 (Or.inl rfl), h2⟩
    · exact ⟨_, y, conP_bit.2 (Or.inl rfl), conP_bit.2 (Or.inr ⟨h1, rfl⟩), by rw [hs _ _ (unD_less hi) hy]; exact h2⟩

end Go.Proofs.YtfmppncefbjicaaDoor

namespace Go.Proofs.YtfmppncefbjicaaDoor
set_option linter.unusedSimpArgs false
set_option linter.unusedVariables false
open Go.RowKit Go.Maps
attribute [local go_sem] i64_bit toNat_eq_one toNat_ne_one toNat_eq_zero toNat_ne_zero i64_and i64_or i64_andNot i64_or_pow i64_andNot_pow

/-- Numbers up to some place. -/
def tz (m : Nat) (z : Nat → Int) (i : Nat) : Int := if i < m then z i else 0
theorem tz_at {m i : Nat} {z : Nat → Int} (h : i < m) : tz m z i = z i := by unfold tz; rw [if_pos h]
theorem tz_graph {m most : Nat} {z : Nat → Int} (h2 : graphB m most z = true) : graphB m most (tz m z) = true := by
  unfold graphB at h2 ⊢
  simp only [Bool.and_eq_true, decide_eq_true_eq, List.all_eq_true, List.mem_range, beq_iff_eq] at h2 ⊢
  refine ⟨h2.1, fun i hi => ?_⟩
  obtain ⟨h3, h4⟩ := h2.2 i hi
  refine ⟨?_, fun j hj => by rw [tz_at hi, tz_at hj]; exact h4 j hj⟩
  unfold okCellZ at h3 ⊢
  rw [tz_at hi]; exact h3
theorem tz_i64 {m : Nat} {z : Nat → Int} (h : graphB m 8 z = true) : InI64 (tz m z) := by
  intro i
  obtain ⟨_, h8, h1⟩ := graphB_le h
  unfold tz
  split
  · rename_i hi
    have h3 := h1 i hi
    have h4 := pow_le8 h8
    have h5 := pow_cast m
    omega
  · omega
theorem ModelOf.congr {n q : Nat} {r pr pr' B : Nat → Nat} (M : ModelOf n q r pr B) (h : ∀ i, i < q → pr' i = pr i) : ModelOf n q r pr' B :=
  ⟨M.lt, M.some_, M.apart, M.conn, fun i j hi hj hp => M.edge i j hi hj (by rw [← h i hi]; exact hp)⟩

/-- A smaller graph in a slice: what is a minor of it is one of the graph. -/
def LessG (w : World) (u : Value) (n : Nat) (z : Nat → Int) : Prop :=
  ∃ m z', SliceArg w u m z' ∧ InI64 z' ∧ graphB m 8 z' = true ∧ ∀ q y, graphB q 6 y = true → (modG m q z' y).isSome = true → (modG n q z y).isSome = true
theorem WoOwn.arg {w : World} {base v L : Nat} {u : Value} {z : Nat → Int} (h : WoOwn w base u z v L) (hl : L ≤ 1000) : SliceArg w u L (tz L (woZ z v)) := by
  unfold WoOwn at h
  have h' := h
  rcases h.2 with h1 | ⟨g, cap, cur, hv, _, hh, hc, hm, _⟩
  · exact Or.inl h1
  · subst hv
    refine Or.inr ⟨_, cap, rfl, hc, hm, fun hn => ⟨g, 0, rfl, (Array.getElem?_eq_some_iff.1 hh).1, fun i hi => ?_⟩⟩
    obtain ⟨b, off, he, _, hcl⟩ := (WoOwn.ints' (w := w) (base := base) h' hl).2 hn
    cases he
    rw [hcl i hi, tz_at hi]
theorem less_of {w : World} {base n v : Nat} {u : Value} {z f : Nat → Int} {P : Nat → Nat} (hg : graphB n 8 z = true) (hl : graphB (n - 1) 8 (woZ f v) = true) (M : ModelOf n (n - 1) (natG z) (natG (woZ f v)) P) (h : WoOwn w base u f v (n - 1)) : LessG w u n z :=
  ⟨n - 1, _, h.arg (by have := (graphB_le hg).2.1; omega), tz_i64 hl, tz_graph hl, fun q y hp hs => minor_found hg (tz_graph hl) hp (M.congr fun i hi => by
    show (tz (n - 1) (woZ f v) i).toNat = _
    rw [tz_at hi]) hs⟩

theorem Delete_any {n : Nat} {z : Nat → Int} {a : Option Addr} (cap : Nat) {v : Int} {w : World} (hI : IntsAt w a n z) (hz : InI64 z) (hT : Tab w) (hg : graphB n 8 z = true) :
    Calls Tryd.prog 47 #[.slice a n cap, .int .i64 v] w fun e w' => (e = .returned (.tuple #[.slice none 0 0, .int .i64 2]) ∨ ∃ u, e = .returned (.tuple #[u, .int .i64 0]) ∧ LessG w' u n z) ∧ Below w.heap.size w w' := by
  cases hd : delOk n z v
  · refine (Delete_no cap hI hz hT hd).mono ?_
    rintro e w' ⟨he, hb⟩
    exact ⟨Or.inl he, hb⟩
  · unfold delOk at hd
    rw [hg, Bool.true_and, Bool.and_eq_true, decide_eq_true_eq, inB_iff] at hd
    obtain ⟨h2, h0, h1⟩ := hd
    obtain ⟨p, rfl⟩ : ∃ p : Nat, v = p := ⟨v.toNat, by omega⟩
    have hp : p < n := by omega
    refine (Delete_yes cap hI hz hT hg h2 hp).mono ?_
    rintro e w' ⟨u, he, hu, hb⟩
    exact ⟨Or.inr ⟨u, he, less_of hg (del_graph hg h2 hp) (del_model h2 hp) hu⟩, hb⟩
theorem Contract_any {n : Nat} {z : Nat → Int} {a : Option Addr} (cap : Nat) {x y : Int} {w : World} (hI : IntsAt w a n z) (hz : InI64 z) (hT : Tab w) (hg : graphB n 8 z = true) :
    Calls Tryd.prog 48 #[.slice a n cap, .int .i64 x, .int .i64 y] w fun e w' => (e = .returned (.tuple #[.slice none 0 0, .int .i64 2]) ∨ ∃ u, e = .returned (.tuple #[u, .int .i64 0]) ∧ LessG w' u n z) ∧ Below w.heap.size w w' := by
  cases hd : conOk n z x y
  · refine (Contract_no cap hI hz hT hd).mono ?_
    rintro e w' ⟨he, hb⟩
    exact ⟨Or.inl he, hb⟩
  · unfold conOk nbM at hd
    rw [hg, Bool.true_and, Bool.and_eq_true, Bool.and_eq_true, Bool.and_eq_true, decide_eq_true_eq, inB_iff, inB_iff] at hd
    obtain ⟨hxy, ⟨⟨h0, h1⟩, h2, h3⟩, hbit⟩ := hd
    obtain ⟨p, rfl⟩ : ∃ p : Nat, x = p := ⟨x.toNat, by omega⟩
    obtain ⟨q, rfl⟩ : ∃ q : Nat, y = q := ⟨y.toNat, by omega⟩
    rw [Int.toNat_natCast, Int.toNat_natCast] at hbit
    have hpq : p < q := by omega
    have hq : q < n := by omega
    refine (Contract_yes cap hI hz hT hg hpq hq hbit).mono ?_
    rintro e w' ⟨u, he, hu, hb⟩
    exact ⟨Or.inr ⟨u, he, less_of hg (con_graph hg hpq hq) (con_model hg hpq hq hbit) hu⟩, hb⟩
theorem LessG.below {w w' : World} {u : Value} {n : Nat} {z : Nat → Int} (h : LessG w u n z) (hb : Below w.heap.size w w') : LessG w' u n z := by
  obtain ⟨m, z', h1, h2, h3⟩ := h
  exact ⟨m, z', h1.below hb, h2, h3⟩
theorem hasL_less {n q : Nat} {z y : Nat → Int} {u : Value} {b : Option Addr} (cb : Nat) {w : World} (hL : LessG w u n z) (hJ : IntsAt w b q y) (hy : InI64 y) (hT : Tab w) (hp : graphB q 6 y = true) :
    Calls Tryd.prog 52 #[u, .slice b q cb] w fun e w' => (∃ is, e = .returned (.tuple #[.bool is, .bool true]) ∧ (is = true → (modG n q z y).isSome = true)) ∧ Below w.heap.size w w' := by
  obtain ⟨m, z', h1, h2, h3, h4⟩ := hL
  refine (hasL_any cb h1 hJ h2 hy hT h3 hp).mono ?_
  rintro e w' ⟨he, hb⟩
  exact ⟨⟨_, he, h4 q y hp⟩, hb⟩
/-- What lies in a slice of one's own, with its capacity. -/
theorem IntsOwn.atC {w : World} {base : Nat} {v : Value} {B : List Nat} (h : IntsOwn w base v (castL B)) (hl : B.length ≤ 65536) : ∃ a c, v = .slice a B.length c ∧ B.length ≤ c ∧ IntsAt w a B.length (natL B) := by
  obtain ⟨a, c, hv, hI⟩ := h.at_ hl
  obtain ⟨a', c', hv', hc⟩ := own_cap h
  rw [hv] at hv'
  simp only [Value.slice.injEq] at hv'
  obtain ⟨_, _, rfl⟩ := hv'
  exact ⟨a, c, hv, by rw [castL_len] at hc; exact hc, hI⟩

end Go.Proofs.YtfmppncefbjicaaDoor
