/- Package minor: Delete and Contract of any numbers, the smaller graph's minors; the law's has over it. -/
import Derived.Test.YtjhodfabomhdaaaDoorNf
namespace Go.Proofs.YtjhodfabomhdaaaDoor
set_option linter.unusedSimpArgs false
set_option linter.unusedVariables false
open Go.RowKit Go.Maps
attribute [local go_sem] i64_bit toNat_eq_one toNat_ne_one toNat_eq_zero toNat_ne_zero i64_and i64_or i64_andNot i64_or_pow i64_andNot_pow

/-- Numbers up to some place. -/
def tz (m : Nat) (z : Nat → Int) (i : Nat) : Int := if i < m then z i else 0
theorem tz_at {m i : Nat} {z : Nat → Int} (h : i < m) : tz m z i = z i := by unfold tz; rw [if_pos h]
theorem tz_graph {m most : Nat} {z : Nat → Int} (h2 : graphB m most z = true) : graphB m most (tz m z) = true := by
  unfold graphB at h2 ⊢
  simp only [Bool.and_eq_true, decide_eq_true_eq, List.all_eq_true, List.mem_range, beq_iff_eq] at h2 ⊢
  refine ⟨h2.1, fun i hi => ?_⟩
  obtain ⟨h3, h4⟩ := h2.2 i hi
  refine ⟨?_, fun j hj => by rw [tz_at hi, tz_at hj]; exact h4 j hj⟩
  unfold okCellZ at h3 ⊢
  rw [tz_at hi]; exact h3
theorem tz_i64 {m : Nat} {z : Nat → Int} (h : graphB m 8 z = true) : InI64 (tz m z) := by
  intro i
  obtain ⟨_, h8, h1⟩ := graphB_le h
  unfold tz
  split
  · rename_i hi
    have h3 := h1 i hi
    have h4 := pow_le8 h8
    have h5 := pow_cast m
    omega
  · omega
theorem ModelOf.congr {n q : Nat} {r pr pr' B : Nat → Nat} (M : ModelOf n q r pr B) (h : ∀ i, i < q → pr' i = pr i) : ModelOf n q r pr' B :=
  ⟨M.lt, M.some_, M.apart, M.conn, fun i j hi hj hp => M.edge i j hi hj (by rw [← h i hi]; exact hp)⟩

/-- A smaller graph in a slice: what is a minor of it is one of the graph. -/
def LessG (w : World) (u : Value) (n : Nat) (z : Nat → Int) : Prop :=
  ∃ m z', SliceArg w u m z' ∧ InI64 z' ∧ graphB m 8 z' = true ∧ ∀ q y, graphB q 6 y = true → (modG m q z' y).isSome = true → (modG n q z y).isSome = true
theorem WoOwn.arg {w : World} {base v L : Nat} {u : Value} {z : Nat → Int} (h : WoOwn w base u z v L) (hl : L ≤ 1000) : SliceArg w u L (tz L (woZ z v)) := by
  unfold WoOwn at h
  have h' := h
  rcases h.2 with h1 | ⟨g, cap, cur, hv, _, hh, hc, hm, _⟩
  · exact Or.inl h1
  · subst hv
    refine Or.inr ⟨_, cap, rfl, hc, hm, fun hn => ⟨g, 0, rfl, (Array.getElem?_eq_some_iff.1 hh).1, fun i hi => ?_⟩⟩
    obtain ⟨b, off, he, _, hcl⟩ := (WoOwn.ints' (w := w) (base := base) h' hl).2 hn
    cases he
    rw [hcl i hi, tz_at hi]
theorem less_of {w : World} {base n v : Nat} {u : Value} {z f : Nat → Int} {P : Nat → Nat} (hg : graphB n 8 z = true) (hl : graphB (n - 1) 8 (woZ f v) = true) (M : ModelOf n (n - 1) (natG z) (natG (woZ f v)) P) (h : WoOwn w base u f v (n - 1)) : LessG w u n z :=
  ⟨n - 1, _, h.arg (by have := (graphB_le hg).2.1; omega), tz_i64 hl, tz_graph hl, fun q y hp hs => minor_found hg (tz_graph hl) hp (M.congr fun i hi => by
    show (tz (n - 1) (woZ f v) i).toNat = _
    rw [tz_at hi]) hs⟩

theorem Delete_any {n : Nat} {z : Nat → Int} {a : Option Addr} (cap : Nat) {v : Int} {w : World} (hI : IntsAt w a n z) (hz : InI64 z) (hT : Tab w) (hg : graphB n 8 z = true) :
    Calls Tryd.prog 43 #[.slice a n cap, .int .i64 v] w fun e w' => (e = .returned (.tuple #[.slice none 0 0, .int .i64 2]) ∨ ∃ u, e = .returned (.tuple #[u, .int .i64 0]) ∧ LessG w' u n z) ∧ Below w.heap.size w w' := by
  cases hd : delOk n z v
  · refine (Delete_no cap hI hz hT hd).mono ?_
    rintro e w' ⟨he, hb⟩
    exact ⟨Or.inl he, hb⟩
  · unfold delOk at hd
    rw [hg, Bool.true_and, Bool.and_eq_true, decide_eq_true_eq, inB_iff] at hd
    obtain ⟨h2, h0, h1⟩ := hd
    obtain ⟨p, rfl⟩ : ∃ p : Nat, v = p := ⟨v.toNat, by omega⟩
    have hp : p < n := by omega
    refine (Delete_yes cap hI hz hT hg h2 hp).mono ?_
    rintro e w' ⟨u, he, hu, hb⟩
    exact ⟨Or.inr ⟨u, he, less_of hg (del_graph hg h2 hp) (del_model h2 hp) hu⟩, hb⟩
theorem Contract_any {n : Nat} {z : Nat → Int} {a : Option Addr} (cap : Nat) {x y : Int} {w : World} (hI : IntsAt w a n z) (hz : InI64 z) (hT : Tab w) (hg : graphB n 8 z = true) :
    Calls Tryd.prog 44 #[.slice a n cap, .int .i64 x, .int .i64 y] w fun e w' => (e = .returned (.tuple #[.slice none 0 0, .int .i64 2]) ∨ ∃ u, e = .returned (.tuple #[u, .int .i64 0]) ∧ LessG w' u n z) ∧ Below w.heap.size w w' := by
  cases hd : conOk n z x y
  · refine (Contract_no cap hI hz hT hd).mono ?_
    rintro e w' ⟨he, hb⟩
    exact ⟨Or.inl he, hb⟩
  · unfold conOk nbM at hd
    rw [hg, Bool.true_and, Bool.and_eq_true, Bool.and_eq_true, Bool.and_eq_true, decide_eq_true_eq, inB_iff, inB_iff] at hd
    obtain ⟨hxy, ⟨⟨h0, h1⟩, h2, h3⟩, hbit⟩ := hd
    obtain ⟨p, rfl⟩ : ∃ p : Nat, x = p := ⟨x.toNat, by omega⟩
    obtain ⟨q, rfl⟩ : ∃ q : Nat, y = q := ⟨y.toNat, by omega⟩
    rw [Int.toNat_natCast, Int.toNat_natCast] at hbit
    have hpq : p < q := by omega
    have hq : q < n := by omega
    refine (Contract_yes cap hI hz hT hg hpq hq hbit).mono ?_
    rintro e w' ⟨u, he, hu, hb⟩
    exact ⟨Or.inr ⟨u, he, less_of hg (con_graph hg hpq hq) (con_model hg hpq hq hbit) hu⟩, hb⟩
theorem LessG.below {w w' : World} {u : Value} {n : Nat} {z : Nat → Int} (h : LessG w u n z) (hb : Below w.heap.size w w') : LessG w' u n z := by
  obtain ⟨m, z', h1, h2, h3⟩ := h
  exact ⟨m, z', h1.below hb, h2, h3⟩
theorem hasL_less {n q : Nat} {z y : Nat → Int} {u : Value} {b : Option Addr} (cb : Nat) {w : World} (hL : LessG w u n z) (hJ : IntsAt w b q y) (hy : InI64 y) (hT : Tab w) (hp : graphB q 6 y = true) :
    Calls Tryd.prog 48 #[u, .slice b q cb] w fun e w' => (∃ is, e = .returned (.tuple #[.bool is, .bool true]) ∧ (is = true → (modG n q z y).isSome = true)) ∧ Below w.heap.size w w' := by
  obtain ⟨m, z', h1, h2, h3, h4⟩ := hL
  refine (hasL_any cb h1 hJ h2 hy hT h3 hp).mono ?_
  rintro e w' ⟨he, hb⟩
  exact ⟨⟨_, he, h4 q y hp⟩, hb⟩
/-- What lies in a slice of one's own, with its capacity. -/
theorem IntsOwn.atC {w : World} {base : Nat} {v : Value} {B : List Nat} (h : IntsOwn w base v (castL B)) (hl : B.length ≤ 65536) : ∃ a c, v = .slice a B.length c ∧ B.length ≤ c ∧ IntsAt w a B.length (natL B) := by
  obtain ⟨a, c, hv, hI⟩ := h.at_ hl
  obtain ⟨a', c', hv', hc⟩ := own_cap h
  rw [hv] at hv'
  simp only [Value.slice.injEq] at hv'
  obtain ⟨_, _, rfl⟩ := hv'
  exact ⟨a, c, hv, by rw [castL_len] at hc; exact hc, hI⟩

end Go.Proofs.YtjhodfabomhdaaaDoor
