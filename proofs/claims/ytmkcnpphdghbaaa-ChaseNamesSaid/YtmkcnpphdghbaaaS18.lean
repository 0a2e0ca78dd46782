/- A graph turned by some places: its cells while they are filled, and what it keeps. -/
import Derived.Test.YtmkcnpphdghbaaaS16
import Derived.Test.YtmkcnpphdghbaaaS12
namespace Go.Proofs.Ytmkcnpphdghbaaa
set_option linter.unusedSimpArgs false
set_option linter.unusedVariables false
open Go.RowKit

def rot (n b x : Nat) : Nat := (x + b) % n
def unrot (n b x : Nat) : Nat := (x + n - b) % n
theorem rot_eq {n b x : Nat} (hb : b < n) (hx : x < n) : rot n b x = if x + b < n then x + b else x + b - n := by
  unfold rot
  split
  · exact Nat.mod_eq_of_lt (by omega)
  · rw [Nat.mod_eq_sub_mod (by omega), Nat.mod_eq_of_lt (by omega)]
theorem unrot_eq {n b x : Nat} (hb : b < n) (hx : x < n) : unrot n b x = if b ≤ x then x - b else x + n - b := by
  unfold unrot
  split
  · rw [Nat.mod_eq_sub_mod (by omega), Nat.mod_eq_of_lt (by omega)]; omega
  · exact Nat.mod_eq_of_lt (by omega)
theorem rot_lt {n b x : Nat} (hn : 0 < n) : rot n b x < n := Nat.mod_lt _ hn
theorem unrot_lt {n b x : Nat} (hn : 0 < n) : unrot n b x < n := Nat.mod_lt _ hn
theorem unrot_rot {n b x : Nat} (hb : b < n) (hx : x < n) : unrot n b (rot n b x) = x := by
  rw [unrot_eq hb (rot_lt (by omega)), rot_eq hb hx]
  split <;> split <;> omega
theorem rot_unrot {n b x : Nat} (hb : b < n) (hx : x < n) : rot n b (unrot n b x) = x := by
  rw [rot_eq hb (unrot_lt (by omega)), unrot_eq hb hx]
  split <;> split <;> omega

/-- The turned graph's cells behind i rows and j bits of the next one. -/
def hrow (n b : Nat) (z : Nat → Int) (i j x : Nat) : Nat :=
  bitsOf (fun y => (decide (unrot n b x < i) || (decide (unrot n b x = i) && decide (unrot n b y < j))) && (z (unrot n b x)).toNat.testBit (unrot n b y)) n
theorem testBit_hrow (n b : Nat) (z : Nat → Int) (i j x y : Nat) : (hrow n b z i j x).testBit y = (decide (y < n) && ((decide (unrot n b x < i) || (decide (unrot n b x = i) && decide (unrot n b y < j))) && (z (unrot n b x)).toNat.testBit (unrot n b y))) := by
  unfold hrow
  rw [testBit_bitsOf]
theorem hrow_lt (n b : Nat) (z : Nat → Int) (i j x : Nat) : hrow n b z i j x < 2 ^ n := by
  apply Nat.lt_pow_two_of_testBit
  intro y hy
  rw [testBit_hrow, decide_eq_false (by omega)]
  rfl
theorem hrow_zero (n b : Nat) (z : Nat → Int) (x : Nat) : hrow n b z 0 0 x = 0 := by
  apply Nat.eq_of_testBit_eq
  intro y
  rw [testBit_hrow, Nat.zero_testBit]
  simp
theorem hrow_next {n b : Nat} (hb : b < n) (z : Nat → Int) (i x : Nat) : hrow n b z i n x = hrow n b z (i + 1) 0 x := by
  apply Nat.eq_of_testBit_eq
  intro y
  rw [testBit_hrow, testBit_hrow, decide_eq_true (unrot_lt (b := b) (x := y) (show 0 < n by omega))]
  congr 2
  simp only [Nat.not_lt_zero, decide_false, Bool.and_false, Bool.or_false, Bool.and_true]
  rw [Bool.eq_iff_iff, Bool.or_eq_true, decide_eq_true_eq, decide_eq_true_eq, decide_eq_true_eq]
  omega
theorem hrow_other {n b : Nat} (hb : b < n) (z : Nat → Int) {i j x : Nat} (hi : i < n) (hx : x < n) (hne : x ≠ rot n b i) : hrow n b z i (j + 1) x = hrow n b z i j x := by
  apply Nat.eq_of_testBit_eq
  intro y
  have h : unrot n b x ≠ i := fun e => hne (by rw [← e, rot_unrot hb hx])
  rw [testBit_hrow, testBit_hrow, decide_eq_false h]
  simp
/-- One bit more. -/
theorem hrow_step {n b : Nat} (hb : b < n) (z : Nat → Int) {i j : Nat} (hi : i < n) (hj : j < n) :
    hrow n b z i (j + 1) (rot n b i) = hrow n b z i j (rot n b i) ||| (if (z i).toNat.testBit j then 2 ^ rot n b j else 0) := by
  apply Nat.eq_of_testBit_eq
  intro y
  rw [Nat.testBit_or, testBit_hrow, testBit_hrow, unrot_rot hb hi]
  have hz : (if (z i).toNat.testBit j = true then 2 ^ rot n b j else 0).testBit y = ((z i).toNat.testBit j && decide (rot n b j = y)) := by
    split
    · rename_i h; rw [Nat.testBit_two_pow, h, Bool.true_and]
    · rename_i h
      rw [Nat.zero_testBit]
      simp only [Bool.not_eq_true] at h
      rw [h]; rfl
  rw [hz]
  by_cases hy : y < n
  · rw [decide_eq_true hy]
    simp only [Nat.lt_irrefl, decide_false, Bool.false_or, decide_true, Bool.true_and]
    by_cases hyj : unrot n b y = j
    · have : rot n b j = y := by rw [← hyj, rot_unrot hb hy]
      rw [hyj, this]
      simp
    · have h1 : rot n b j ≠ y := fun e => hyj (by rw [← e, unrot_rot hb hj])
      rw [decide_eq_false h1, Bool.and_false, Bool.or_false]
      congr 1
      rw [decide_eq_decide]
      omega
  · rw [decide_eq_false hy, Bool.false_and, Bool.false_and, Bool.false_or]
    have h1 : rot n b j ≠ y := fun e => hy (by rw [← e]; exact rot_lt (by omega))
    rw [decide_eq_false h1, Bool.and_false]

/-- The turned graph. -/
def zrot (n b : Nat) (z : Nat → Int) (x : Nat) : Int := ((hrow n b z n 0 x : Nat) : Int)
theorem testBit_zrot {n b : Nat} (hb : b < n) (z : Nat → Int) (x y : Nat) : (zrot n b z x).toNat.testBit y = (decide (y < n) && (z (unrot n b x)).toNat.testBit (unrot n b y)) := by
  unfold zrot
  rw [Int.toNat_natCast, testBit_hrow, decide_eq_true (unrot_lt (b := b) (x := x) (show 0 < n by omega))]
  simp
theorem turn_rot {n b : Nat} {z : Nat → Int} (hb : b < n) (hz : ∀ i, i < n → 0 ≤ z i ∧ z i < 2 ^ n) : Turn n (reachOf z) (reachOf (zrot n b z)) (rot n b) := by
  refine ⟨fun v _ => rot_lt (by omega), fun v u hv hu e => by rw [← unrot_rot hb hv, e, unrot_rot hb hu], fun w hw => ⟨unrot n b w, unrot_lt (by omega), rot_unrot hb hw⟩, fun v u hv hu => ?_, town_rin hz, fun v u hv h => ?_⟩
  · rw [testBit_reachOf, testBit_reachOf, testBit_zrot hb, unrot_rot hb hv, unrot_rot hb hu, decide_eq_true (rot_lt (b := b) (x := u) (show 0 < n by omega)), Bool.true_and]
    congr 1
    rw [decide_eq_decide]
    exact ⟨fun e => by rw [← unrot_rot hb hv, e, unrot_rot hb hu], fun e => by rw [e]⟩
  · rw [testBit_reachOf, testBit_zrot hb, Bool.or_eq_true, Bool.and_eq_true, decide_eq_true_eq, decide_eq_true_eq] at h
    rcases h with h | h <;> omega
theorem town_rot {n b : Nat} {z : Nat → Int} (hb : b < n) (h : townB n z = true) : townB n (zrot n b z) = true := by
  obtain ⟨h1, h2, h3, h4, h5⟩ := town_iff.1 h
  have T := turn_rot hb (fun i hi => (h3 i hi).1)
  rw [town_iff]
  refine ⟨h1, h2, fun i hi => ⟨⟨by unfold zrot; omega, ?_⟩, ?_⟩, fun v u hv hu => ?_, ?_⟩
  · unfold zrot
    rw [pow_cast]
    have := hrow_lt n b z n 0 i
    omega
  · rw [testBit_zrot hb, (h3 _ (unrot_lt (by omega))).2, Bool.and_false]
  · have e1 := T.bit (unrot n b v) (unrot n b u) (unrot_lt (by omega)) (unrot_lt (by omega))
    have e2 := T.bit (unrot n b u) (unrot n b v) (unrot_lt (by omega)) (unrot_lt (by omega))
    rw [rot_unrot hb hv, rot_unrot hb hu] at e1 e2
    rw [e1, e2]
    exact h4 _ _ (unrot_lt (by omega)) (unrot_lt (by omega))
  · rw [conn_iff h1 T.sin]
    intro S h0 hS v hv
    have := conn_any h1 T.rin h4 h5 (fun x => S (rot n b x)) (unrot_lt (b := b) (x := 0) (by omega)) (show S (rot n b (unrot n b 0)) by rw [rot_unrot hb (by omega)]; exact h0)
      (fun x y hx h6 h7 => hS _ _ (rot_lt (by omega)) h6 (by rw [T.bit x y hx (T.rin x y hx h7)]; exact h7)) (unrot n b v) (unrot_lt (by omega))
    rwa [rot_unrot hb hv] at this

/-- A renaming of all nodes, as one of the whole set. -/
theorem Turn.iso {n : Nat} {r s f : Nat → Nat} (T : Turn n r s f) : Iso n r s (2 ^ n - 1) (2 ^ n - 1) f := by
  have h : ∀ x, (2 ^ n - 1).testBit x = true ↔ x < n := fun x => by rw [Nat.testBit_two_pow_sub_one]; exact decide_eq_true_iff
  refine ⟨fun v hv _ => T.lt v hv, fun v hv _ => (h _).2 (T.lt v hv), fun v u hv hu _ _ e => T.inj v u hv hu e, fun w hw _ => ?_, fun v u hv hu _ _ => T.bit v u hv hu⟩
  obtain ⟨v, hv, e⟩ := T.onto w hw
  exact ⟨v, hv, (h v).2 hv, e⟩

/-! ### the pairs of Corners -/

theorem mem_rowTo {q : Nat → Bool} {v : Nat} {p : Nat × Nat} : ∀ {n : Nat}, p.1 = v → p.2 < n → q p.2 = true → p ∈ rowTo q v n
  | 0, _, h, _ => by omega
  | n + 1, h1, h2, h3 => by
    unfold rowTo
    by_cases h : p.2 = n
    · rw [h] at h3
      rw [if_pos h3]
      refine List.mem_append.2 (.inr ?_)
      rw [List.mem_singleton]
      obtain ⟨a, b⟩ := p
      dsimp only at h h1
      rw [h, h1]
    · have := mem_rowTo (n := n) h1 (by omega) h3
      split
      · exact List.mem_append.2 (.inl this)
      · exact this
theorem mem_cornTo {q : Nat → Nat → Bool} {n : Nat} {p : Nat × Nat} : ∀ {m : Nat}, p ∈ cornTo q n m ↔ p.1 < m ∧ p.2 < n ∧ q p.1 p.2 = true
  | 0 => ⟨fun h => (by cases h), fun h => (by omega)⟩
  | m + 1 => by
    refine ⟨cornTo_mem, fun ⟨h1, h2, h3⟩ => ?_⟩
    unfold cornTo
    rw [List.mem_append]
    by_cases h : p.1 = m
    · right
      rw [h] at h3
      exact mem_rowTo h h2 h3
    · exact .inl (mem_cornTo.2 ⟨by omega, h2, h3⟩)
theorem rowTo_nodup {q : Nat → Bool} {v : Nat} : ∀ n, (rowTo q v n).Nodup
  | 0 => List.nodup_nil
  | n + 1 => by
    unfold rowTo
    split
    · rw [List.nodup_append]
      refine ⟨rowTo_nodup n, by simp, fun a ha b hb => ?_⟩
      rw [List.mem_singleton] at hb
      have := (rowTo_mem ha).2.1
      intro e
      rw [e, hb] at this
      omega
    · exact rowTo_nodup n
theorem cornTo_nodup {q : Nat → Nat → Bool} {n : Nat} : ∀ m, (cornTo q n m).Nodup
  | 0 => List.nodup_nil
  | m + 1 => by
    unfold cornTo
    rw [List.nodup_append]
    refine ⟨cornTo_nodup m, rowTo_nodup n, fun a ha b hb => ?_⟩
    have h1 := (cornTo_mem ha).1
    have h2 := (rowTo_mem hb).1
    intro e
    rw [e] at h1
    omega
theorem covP_iff {r : Nat → Nat} {T v u : Nat} : covP r T v u = true ↔ T.testBit v = true ∧ T.testBit u = true ∧ u ≠ v ∧ ∀ d, (r v).testBit d = true → T.testBit d = true → (r u).testBit d = true := by
  unfold covP covB
  rw [Bool.and_eq_true, Bool.and_eq_true, Bool.and_eq_true, diff_zero, bne_iff_ne, and_assoc]
  refine and_congr Iff.rfl (and_congr Iff.rfl (and_congr Iff.rfl ⟨fun h d h1 h2 => h d (by rw [Nat.testBit_and, h1, h2]; rfl), fun h d hd => ?_⟩))
  rw [Nat.testBit_and, Bool.and_eq_true] at hd
  exact h d hd.1 hd.2
theorem Iso.cov {n : Nat} {r r' : Nat → Nat} {S S' : Nat} {f : Nat → Nat} (I : Iso n r r' S S' f) (hr : ∀ v u, v < n → (r v).testBit u = true → u < n) (hr' : ∀ v u, v < n → (r' v).testBit u = true → u < n) {v u : Nat} (hv : v < n) (hu : u < n) (hvS : S.testBit v = true) (huS : S.testBit u = true) :
    covP r' S' (f v) (f u) = covP r S v u := by
  rw [Bool.eq_iff_iff, covP_iff, covP_iff]
  constructor
  · rintro ⟨-, -, h3, h4⟩
    refine ⟨hvS, huS, fun e => h3 (by rw [e]), fun d hd hS => ?_⟩
    have hdn := hr v d hv hd
    rw [← I.bit u d hu hdn huS hS]
    rw [← I.bit v d hv hdn hvS hS] at hd
    exact h4 _ hd (I.mem d hdn hS)
  · rintro ⟨-, -, h3, h4⟩
    refine ⟨I.mem v hv hvS, I.mem u hu huS, fun e => h3 (I.inj u v hu hv huS hvS e), fun d hd hS => ?_⟩
    obtain ⟨x, hx, hxS, rfl⟩ := I.onto d (hr' _ _ (I.lt v hv hvS) hd) hS
    rw [I.bit v x hv hx hvS hxS] at hd
    rw [I.bit u x hu hx huS hxS]
    exact h4 x hd hxS
/-- Renaming turns pairs into pairs. -/
theorem Turn.corners {n : Nat} {r s f : Nat → Nat} (T : Turn n r s f) :
    (cornTo (covP r (2 ^ n - 1)) n n).length = (cornTo (covP s (2 ^ n - 1)) n n).length ∧ ∀ p, p ∈ cornTo (covP r (2 ^ n - 1)) n n → (f p.1, f p.2) ∈ cornTo (covP s (2 ^ n - 1)) n n := by
  have I := T.iso
  have hf : ∀ x, x < n → (2 ^ n - 1).testBit x = true := fun x hx => by rw [Nat.testBit_two_pow_sub_one]; exact decide_eq_true hx
  have hmem : ∀ p, p ∈ cornTo (covP r (2 ^ n - 1)) n n → (f p.1, f p.2) ∈ cornTo (covP s (2 ^ n - 1)) n n := by
    intro p hp
    obtain ⟨h1, h2, h3⟩ := mem_cornTo.1 hp
    refine mem_cornTo.2 ⟨T.lt _ h1, T.lt _ h2, ?_⟩
    rw [I.cov T.rin T.sin h1 h2 (hf _ h1) (hf _ h2)]
    exact h3
  refine ⟨len_of_map (f := fun p => (f p.1, f p.2)) (cornTo_nodup n) (cornTo_nodup n) (fun x hx y hy e => ?_) (fun b => ⟨fun hb => ?_, ?_⟩), hmem⟩
  · obtain ⟨h1, h2, -⟩ := mem_cornTo.1 hx
    obtain ⟨h3, h4, -⟩ := mem_cornTo.1 hy
    simp only [Prod.mk.injEq] at e
    exact Prod.ext (T.inj _ _ h1 h3 e.1) (T.inj _ _ h2 h4 e.2)
  · obtain ⟨h1, h2, h3⟩ := mem_cornTo.1 hb
    obtain ⟨v, hv, e1⟩ := T.onto _ h1
    obtain ⟨u, hu, e2⟩ := T.onto _ h2
    refine ⟨(v, u), mem_cornTo.2 ⟨hv, hu, ?_⟩, Prod.ext e1 e2⟩
    rw [← I.cov T.rin T.sin hv hu (hf _ hv) (hf _ hu), e1, e2]
    exact h3
  · rintro ⟨p, hp, rfl⟩
    exact hmem p hp

end Go.Proofs.Ytmkcnpphdghbaaa
