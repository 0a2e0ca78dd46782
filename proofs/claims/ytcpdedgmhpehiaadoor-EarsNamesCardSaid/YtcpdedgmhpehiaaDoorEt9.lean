/- Turned graphs: their bridges, cut nodes, blocks and pairs that part (for EarsNames). -/
import Derived.Test.YtcpdedgmhpehiaaDoorEt8
import Derived.Test.YtcpdedgmhpehiaaDoorEt7
import Derived.Test.YtcpdedgmhpehiaaDoorEt4
namespace Go.Proofs.YtcpdedgmhpehiaaDoor
set_option linter.unusedSimpArgs false
set_option linter.unusedVariables false

/-! ### turning -/

def rot (n b x : Nat) : Nat := (x + b) % n
def unrot (n b x : Nat) : Nat := (x + n - b) % n
theorem rot_eq {n b x : Nat} (hb : b < n) (hx : x < n) : rot n b x = if x + b < n then x + b else x + b - n := by
  unfold rot
  split
  · exact Nat.mod_eq_of_lt (by omega)
  · rw [Nat.mod_eq_sub_mod (by omega), Nat.mod_eq_of_lt (by omega)]
theorem unrot_eq {n b x : Nat} (hb : b < n) (hx : x < n) : unrot n b x = if b ≤ x then x - b else x + n - b := by
  unfold unrot
  split
  · rw [Nat.mod_eq_sub_mod (by omega), Nat.mod_eq_of_lt (by omega)]; omega
  · exact Nat.mod_eq_of_lt (by omega)
theorem rot_lt {n b x : Nat} (hn : 0 < n) : rot n b x < n := Nat.mod_lt _ hn
theorem unrot_lt {n b x : Nat} (hn : 0 < n) : unrot n b x < n := Nat.mod_lt _ hn
theorem unrot_rot {n b x : Nat} (hb : b < n) (hx : x < n) : unrot n b (rot n b x) = x := by
  rw [unrot_eq hb (rot_lt (by omega)), rot_eq hb hx]
  split <;> split <;> omega
theorem rot_unrot {n b x : Nat} (hb : b < n) (hx : x < n) : rot n b (unrot n b x) = x := by
  rw [rot_eq hb (unrot_lt (by omega)), unrot_eq hb hx]
  split <;> split <;> omega
/-- A set turned. -/
def turnS (n b s : Nat) : Nat := (s <<< b ||| s >>> (n - b)) &&& (2 ^ n - 1)
theorem turnS_lt {n b s : Nat} : turnS n b s < 2 ^ n := Nat.lt_of_le_of_lt Nat.and_le_right (all_lt n)
theorem testBit_turn {n b s : Nat} (hb : b < n) (hs : s < 2 ^ n) (y : Nat) : (turnS n b s).testBit y = (decide (y < n) && s.testBit (unrot n b y)) := by
  unfold turnS
  rw [Nat.testBit_and, Nat.testBit_or, Nat.testBit_shiftLeft, Nat.testBit_shiftRight, testBit_all]
  by_cases hy : y < n
  · rw [decide_eq_true hy, Bool.and_true, Bool.true_and, unrot_eq hb hy]
    by_cases h : b ≤ y
    · rw [if_pos h, decide_eq_true (show y ≥ b from h), Bool.true_and, Nat.testBit_lt_two_pow (i := n - b + y) (Nat.lt_of_lt_of_le hs (Nat.pow_le_pow_right (by omega) (by omega))), Bool.or_false]
    · rw [if_neg h, decide_eq_false (show ¬ y ≥ b from h), Bool.false_and, Bool.false_or]
      congr 1; omega
  · rw [decide_eq_false hy, Bool.and_false, Bool.false_and]
theorem turn_bit {n b s : Nat} (hb : b < n) (hs : s < 2 ^ n) {x : Nat} (hx : x < n) : (turnS n b s).testBit (rot n b x) = s.testBit x := by
  rw [testBit_turn hb hs, decide_eq_true (rot_lt (by omega)), Bool.true_and, unrot_rot hb hx]
theorem eq_turn {n b s t : Nat} (hb : b < n) (hs : s < 2 ^ n) (ht : t < 2 ^ n) (h : ∀ x, x < n → t.testBit (rot n b x) = s.testBit x) : turnS n b s = t := by
  apply Nat.eq_of_testBit_eq
  intro y
  rw [testBit_turn hb hs]
  by_cases hy : y < n
  · rw [decide_eq_true hy, Bool.true_and, ← h _ (unrot_lt (by omega)), rot_unrot hb hy]
  · rw [decide_eq_false hy, Bool.false_and]
    exact (Nat.testBit_lt_two_pow (Nat.lt_of_lt_of_le ht (Nat.pow_le_pow_right (by omega) (by omega)))).symm
/-- The turned graph. -/
def turnG (n b : Nat) (r : Nat → Nat) (x : Nat) : Nat := turnS n b (r (unrot n b x))
theorem named_turn {n b : Nat} {r : Nat → Nat} (hb : b < n) (h : Pl n r) : Named n r (turnG n b r) (rot n b) (unrot n b) :=
  ⟨fun _ _ => rot_lt (by omega), fun _ _ => unrot_lt (by omega), fun _ hu => rot_unrot hb hu, fun _ hu => unrot_rot hb hu, fun u x hu hx => by
    unfold turnG
    rw [unrot_rot hb hu, turn_bit hb (h.bd u hu) hx]⟩
theorem Named.pl {n : Nat} {r r' f g : Nat → Nat} (N : Named n r r' f g) (h : Pl n r) (hb : ∀ i, i < n → r' i < 2 ^ n) : Pl n r' :=
  ⟨h.one, h.le, hb, fun i hi => by rw [← N.fg i hi, N.adj _ _ (N.gl i hi) (N.gl i hi)]; exact h.loop _ (N.gl i hi), fun u x hu hx => by
    rw [← N.fg u hu, ← N.fg x hx, N.adj _ _ (N.gl u hu) (N.gl x hx), N.adj _ _ (N.gl x hx) (N.gl u hu)]
    exact h.sym _ _ (N.gl u hu) (N.gl x hx)⟩
theorem turnR_pl {n b : Nat} {r : Nat → Nat} (hb : b < n) (h : Pl n r) : Pl n (turnG n b r) := (named_turn hb h).pl h fun _ _ => turnS_lt
theorem cuts_turn {n b : Nat} {r : Nat → Nat} (hb : b < n) (h : Pl n r) : turnS n b (cutsTo n r n) = cutsTo n (turnG n b r) n := by
  refine eq_turn hb (cutsTo_lt n (Nat.le_refl _)) (cutsTo_lt n (Nat.le_refl _)) fun x hx => ?_
  rw [Bool.eq_iff_iff, testBit_cuts, testBit_cuts, cut_named (named_turn hb h) h (turnR_pl hb h) hx]
  exact ⟨fun h => ⟨hx, h.2⟩, fun h => ⟨rot_lt (by omega), h.2⟩⟩

/-! ### as many on both sides -/

theorem len_sub {α : Type} [BEq α] [LawfulBEq α] : ∀ {l l' : List α}, l.Nodup → (∀ x ∈ l, x ∈ l') → l.length ≤ l'.length
  | [], _, _, _ => Nat.zero_le _
  | a :: l, l', hd, hs => by
    have ha := hs a (List.mem_cons_self ..)
    have hd' := List.nodup_cons.1 hd
    have := len_sub (l := l) (l' := l'.erase a) hd'.2 fun x hx => (List.mem_erase_of_ne (fun e => hd'.1 (by rw [← e]; exact hx))).2 (hs x (List.mem_cons_of_mem _ hx))
    rw [List.length_erase_of_mem ha] at this
    have := List.length_pos_of_mem ha
    simp only [List.length_cons]
    omega
theorem nodup_of_map {α β : Type} {f : α → β} : ∀ {l : List α}, l.Nodup → (∀ x ∈ l, ∀ y ∈ l, f x = f y → x = y) → (l.map f).Nodup
  | [], _, _ => List.nodup_nil
  | a :: l, hd, hi => by
    have hd' := List.nodup_cons.1 hd
    rw [List.map_cons, List.nodup_cons]
    refine ⟨fun hm => ?_, nodup_of_map hd'.2 fun x hx y hy => hi x (List.mem_cons_of_mem _ hx) y (List.mem_cons_of_mem _ hy)⟩
    obtain ⟨x, hx, e⟩ := List.mem_map.1 hm
    have := hi x (List.mem_cons_of_mem _ hx) a (List.mem_cons_self ..) e
    exact hd'.1 (this ▸ hx)
theorem len_inj {α β : Type} [BEq β] [LawfulBEq β] {f : α → β} {l : List α} {l' : List β} (hd : l.Nodup) (hi : ∀ x ∈ l, ∀ y ∈ l, f x = f y → x = y) (hm : ∀ x ∈ l, f x ∈ l') : l.length ≤ l'.length := by
  have := len_sub (nodup_of_map hd hi) (l' := l') fun y hy => by
    obtain ⟨x, hx, e⟩ := List.mem_map.1 hy
    exact e ▸ hm x hx
  rwa [List.length_map] at this

/-! ### pairs -/

/-- A pair renamed, in order. -/
def ordP (f : Nat → Nat) (p : Nat × Nat) : Nat × Nat := (min (f p.1) (f p.2), max (f p.1) (f p.2))
theorem ordP_two {f : Nat → Nat} {a b : Nat} : ordP f (a, b) = (f a, f b) ∧ f a ≤ f b ∨ ordP f (a, b) = (f b, f a) ∧ f b < f a := by
  unfold ordP
  dsimp only
  by_cases h : f a ≤ f b
  · exact .inl ⟨by rw [Nat.min_eq_left h, Nat.max_eq_right h], h⟩
  · exact .inr ⟨by rw [Nat.min_eq_right (by omega), Nat.max_eq_left (by omega)], by omega⟩
theorem ordP_inj {n : Nat} {r r' f g : Nat → Nat} (N : Named n r r' f g) {p q : Nat × Nat} (hp : p.1 < p.2 ∧ p.2 < n) (hq : q.1 < q.2 ∧ q.2 < n) (h : ordP f p = ordP f q) : p = q := by
  obtain ⟨a, b⟩ := p
  obtain ⟨c, d⟩ := q
  have i1 := fun h => N.inj (u := a) (x := c) (by omega) (by omega) h
  have i2 := fun h => N.inj (u := a) (x := d) (by omega) (by omega) h
  have i3 := fun h => N.inj (u := b) (x := c) (by omega) (by omega) h
  have i4 := fun h => N.inj (u := b) (x := d) (by omega) (by omega) h
  dsimp only at hp hq
  rcases ordP_two (f := f) (a := a) (b := b) with ⟨e1, _⟩ | ⟨e1, _⟩ <;> rcases ordP_two (f := f) (a := c) (b := d) with ⟨e2, _⟩ | ⟨e2, _⟩ <;> rw [e1, e2] at h <;> simp only [Prod.mk.injEq] at h <;> obtain ⟨h1, h2⟩ := h
  · rw [i1 h1, i4 h2]
  · have := i2 h1; have := i3 h2; omega
  · have := i3 h1; have := i2 h2; omega
  · rw [i1 h2, i4 h1]
theorem mem_bridges {n : Nat} {r : Nat → Nat} (h : Pl n r) {a b : Nat} : (a, b) ∈ (edgesTo r n).filter (brB n r) ↔ a < b ∧ b < n ∧ (r a).testBit b = true ∧ blkTo n r a b n = (2 ^ a ||| 2 ^ b) := by
  rw [List.mem_filter]
  constructor
  · rintro ⟨h1, h2⟩
    have hj := edgesTo_adj n _ h1
    have hl := edgesTo_lt h.bd n (Nat.le_refl _) _ h1
    exact ⟨hj.1, hl.2, hj.2, by unfold brB at h2; rw [beq_iff_eq] at h2; exact h2⟩
  · rintro ⟨h1, h2, h3, h4⟩
    have := h.le
    exact ⟨edgesTo_has (by omega) h1 h3 n (by omega), by unfold brB; rw [beq_iff_eq]; exact h4⟩
theorem two_bits {a b x : Nat} : (2 ^ a ||| 2 ^ b).testBit x = (decide (a = x) || decide (b = x)) := by rw [Nat.testBit_or, Nat.testBit_two_pow, Nat.testBit_two_pow]
theorem two_lt {n a b : Nat} (ha : a < n) (hb : b < n) : (2 ^ a ||| 2 ^ b) < 2 ^ n := Nat.or_lt_two_pow (Nat.pow_lt_pow_right (by omega) ha) (Nat.pow_lt_pow_right (by omega) hb)
theorem br_named {n : Nat} {r r' f g : Nat → Nat} (N : Named n r r' f g) (h : Pl n r) (h' : Pl n r') {p : Nat × Nat} (hp : p ∈ (edgesTo r n).filter (brB n r)) : ordP f p ∈ (edgesTo r' n).filter (brB n r') := by
  obtain ⟨a, b⟩ := p
  obtain ⟨h1, h2, h3, h4⟩ := (mem_bridges h).1 hp
  have ha : a < n := by omega
  have hne : f a ≠ f b := fun e => by have := N.inj ha h2 e; omega
  have key : blkTo n r' (f a) (f b) n = (2 ^ f a ||| 2 ^ f b) := by
    apply Nat.eq_of_testBit_eq
    intro y
    by_cases hy : y < n
    · rw [← N.fg y hy, blk_named N h h' ha h2 (N.gl y hy), h4, two_bits, two_bits]
      congr 1
      · rw [decide_eq_decide]; exact ⟨fun e => by rw [e], fun e => N.inj ha (N.gl y hy) e⟩
      · rw [decide_eq_decide]; exact ⟨fun e => by rw [e], fun e => N.inj h2 (N.gl y hy) e⟩
    · rw [Nat.testBit_lt_two_pow (Nat.lt_of_lt_of_le (blkTo_lt n) (Nat.pow_le_pow_right (by omega) (by omega))), Nat.testBit_lt_two_pow (Nat.lt_of_lt_of_le (two_lt (N.fl a ha) (N.fl b h2)) (Nat.pow_le_pow_right (by omega) (by omega)))]
  have hadj : (r' (f a)).testBit (f b) = true := by rw [N.adj a b ha h2]; exact h3
  rcases ordP_two (f := f) (a := a) (b := b) with ⟨e, hl⟩ | ⟨e, hl⟩
  · rw [e, mem_bridges h']
    exact ⟨by omega, N.fl b h2, hadj, key⟩
  · rw [e, mem_bridges h']
    exact ⟨hl, N.fl a ha, by rw [h'.sym _ _ (N.fl b h2) (N.fl a ha)]; exact hadj, by rw [blk_swap h' (N.fl b h2) (N.fl a ha) (Ne.symm hne) (by rw [h'.sym _ _ (N.fl b h2) (N.fl a ha)]; exact hadj), key, Nat.or_comm]⟩
theorem edges_nodup {n : Nat} {r : Nat → Nat} : ∀ k, (edgesTo r k).Nodup := by
  intro k
  induction k with
  | zero => exact List.nodup_nil
  | succ k ih =>
    unfold edgesTo
    rw [List.nodup_append]
    refine ⟨ih, ?_, ?_⟩
    · unfold rowE
      exact nodup_of_map ((bitsOf_nodup _).filter _) fun x _ y _ e => (Prod.mk.inj e).2
    · intro p hp q hq e
      subst e
      have : p.1 < k := by
        clear ih hq
        induction k with
        | zero => cases hp
        | succ k ih =>
          rcases List.mem_append.1 hp with hp | hp
          · have := ih hp; omega
          · unfold rowE at hp
            obtain ⟨x, _, rfl⟩ := List.mem_map.1 hp
            exact Nat.lt_succ_self k
      unfold rowE at hq
      obtain ⟨x, _, rfl⟩ := List.mem_map.1 hq
      exact Nat.lt_irrefl _ this
theorem br_len {n : Nat} {r r' f g : Nat → Nat} (N : Named n r r' f g) (h : Pl n r) (h' : Pl n r') : ((edgesTo r n).filter (brB n r)).length = ((edgesTo r' n).filter (brB n r')).length := by
  refine Nat.le_antisymm (len_inj (f := ordP f) ((edges_nodup (n := n) n).filter _) (fun p hp q hq e => ?_) fun p hp => br_named N h h' hp) (len_inj (f := ordP g) ((edges_nodup (n := n) n).filter _) (fun p hp q hq e => ?_) fun p hp => br_named N.back h' h hp)
  · have h1 := (mem_bridges h (a := p.1) (b := p.2)).1 hp
    have h2 := (mem_bridges h (a := q.1) (b := q.2)).1 hq
    exact ordP_inj N ⟨h1.1, h1.2.1⟩ ⟨h2.1, h2.2.1⟩ e
  · have h1 := (mem_bridges h' (a := p.1) (b := p.2)).1 hp
    have h2 := (mem_bridges h' (a := q.1) (b := q.2)).1 hq
    exact ordP_inj N.back ⟨h1.1, h1.2.1⟩ ⟨h2.1, h2.2.1⟩ e

/-! ### connected sets -/

theorem conB_iff {n : Nat} {r : Nat → Nat} (h : Pl n r) {s : Nat} (hs : s < 2 ^ n) : conB n r s = true ↔ ∀ x y, s.testBit x = true → s.testBit y = true → Rch r s x y := by
  by_cases h0 : s = 0
  · subst h0
    exact ⟨fun _ x y hx => by simp at hx, fun _ => rfl⟩
  · have hpos := Nat.pos_of_ne_zero h0
    have e : conB n r s = connN n r (s : Int) := by
      rw [connN_nat hpos hs]
      unfold conB
      rw [beq_eq_false_iff_ne.2 h0, Bool.false_or]
    rw [e]
    exact conn_iff h hpos hs
theorem con_named1 {n : Nat} {r r' f g : Nat → Nat} (N : Named n r r' f g) (h : Pl n r) (h' : Pl n r') {s s' : Nat} (hs : s < 2 ^ n) (hs' : s' < 2 ^ n) (hb : ∀ x, x < n → s'.testBit (f x) = s.testBit x) (hc : conB n r s = true) : conB n r' s' = true := by
  rw [conB_iff h hs] at hc
  rw [conB_iff h' hs']
  intro x y hx hy
  have xl := bit_lt hs' hx
  have yl := bit_lt hs' hy
  rw [← N.fg x xl] at hx ⊢
  rw [← N.fg y yl] at hy ⊢
  rw [hb _ (N.gl x xl)] at hx
  rw [hb _ (N.gl y yl)] at hy
  exact (hc _ _ hx hy).named N hs (N.gl x xl) fun i hi h => by rw [hb i hi]; exact h
theorem con_named {n : Nat} {r r' f g : Nat → Nat} (N : Named n r r' f g) (h : Pl n r) (h' : Pl n r') {s s' : Nat} (hs : s < 2 ^ n) (hs' : s' < 2 ^ n) (hb : ∀ x, x < n → s'.testBit (f x) = s.testBit x) : conB n r' s' = conB n r s := by
  rw [Bool.eq_iff_iff]
  exact ⟨con_named1 N.back h' h hs' hs fun x hx => by rw [← hb _ (N.gl x hx), N.fg x hx], con_named1 N h h' hs hs' hb⟩
theorem all_named {n : Nat} {r r' f g : Nat → Nat} (N : Named n r r' f g) (h : Pl n r) (h' : Pl n r') : conB n r' (2 ^ n - 1) = conB n r (2 ^ n - 1) :=
  con_named N h h' (all_lt n) (all_lt n) fun x hx => by rw [testBit_all, testBit_all, decide_eq_true hx, decide_eq_true (N.fl x hx)]
theorem testBit_left {n a b i : Nat} : (leftP n a b).testBit i = (decide (i < n) && !(decide (a = i) || decide (b = i))) := by
  unfold leftP
  rw [testBit_diff, testBit_all, two_bits]
theorem leftP_lt' {n a b : Nat} : leftP n a b < 2 ^ n := Nat.lt_of_le_of_lt (diff_le _ _) (all_lt n)
theorem left_swap {n a b : Nat} : leftP n a b = leftP n b a := by unfold leftP; rw [Nat.or_comm]
theorem part_named {n : Nat} {r r' f g : Nat → Nat} (N : Named n r r' f g) (h : Pl n r) (h' : Pl n r') {a b : Nat} (ha : a < n) (hb : b < n) : partB n r' (f a) (f b) = partB n r a b := by
  unfold partB
  rw [con_named N h h' leftP_lt' leftP_lt' fun x hx => ?_]
  rw [testBit_left, testBit_left, decide_eq_true hx, decide_eq_true (N.fl x hx)]
  congr 2
  congr 1
  · rw [decide_eq_decide]; exact ⟨fun e => N.inj ha hx e, fun e => by rw [e]⟩
  · rw [decide_eq_decide]; exact ⟨fun e => N.inj hb hx e, fun e => by rw [e]⟩
theorem mem_pairsG {n : Nat} {r : Nat → Nat} {p : Nat × Nat} : p ∈ pairsG n r ↔ conB n r (2 ^ n - 1) = true ∧ p.1 < p.2 ∧ p.2 < n ∧ partB n r p.1 p.2 = true := by
  unfold pairsG
  cases conB n r (2 ^ n - 1)
  · simp
  · rw [cond_true, mem_ref]
    exact ⟨fun h => ⟨rfl, h.2.1, h.2.2.1, h.2.2.2⟩, fun h => ⟨by omega, h.2.1, h.2.2.1, h.2.2.2⟩⟩
theorem pr_named {n : Nat} {r r' f g : Nat → Nat} (N : Named n r r' f g) (h : Pl n r) (h' : Pl n r') {p : Nat × Nat} (hp : p ∈ pairsG n r) : ordP f p ∈ pairsG n r' := by
  obtain ⟨a, b⟩ := p
  obtain ⟨h0, h1, h2, h3⟩ := mem_pairsG.1 hp
  dsimp only at h1 h2 h3
  have ha : a < n := by omega
  have hne : f a ≠ f b := fun e => by have := N.inj ha h2 e; omega
  have hpb : partB n r' (f a) (f b) = true := by rw [part_named N h h' ha h2]; exact h3
  rcases ordP_two (f := f) (a := a) (b := b) with ⟨e, hl⟩ | ⟨e, hl⟩
  · rw [e, mem_pairsG]
    exact ⟨by rw [all_named N h h']; exact h0, by dsimp only; omega, N.fl b h2, hpb⟩
  · rw [e, mem_pairsG]
    exact ⟨by rw [all_named N h h']; exact h0, hl, N.fl a ha, by unfold partB at hpb ⊢; rw [left_swap]; exact hpb⟩
theorem pairsG_nodup {n : Nat} {r : Nat → Nat} : (pairsG n r).Nodup := by
  unfold pairsG
  cases conB n r (2 ^ n - 1)
  · exact List.nodup_nil
  · exact ref_nodup n r n
theorem pr_len {n : Nat} {r r' f g : Nat → Nat} (N : Named n r r' f g) (h : Pl n r) (h' : Pl n r') : (pairsG n r).length = (pairsG n r').length := by
  refine Nat.le_antisymm (len_inj (f := ordP f) pairsG_nodup (fun p hp q hq e => ?_) fun p hp => pr_named N h h' hp) (len_inj (f := ordP g) pairsG_nodup (fun p hp q hq e => ?_) fun p hp => pr_named N.back h' h hp)
  · have h1 := mem_pairsG.1 hp
    have h2 := mem_pairsG.1 hq
    exact ordP_inj N ⟨h1.2.1, h1.2.2.1⟩ ⟨h2.2.1, h2.2.2.1⟩ e
  · have h1 := mem_pairsG.1 hp
    have h2 := mem_pairsG.1 hq
    exact ordP_inj N.back ⟨h1.2.1, h1.2.2.1⟩ ⟨h2.2.1, h2.2.2.1⟩ e

/-! ### blocks -/

theorem isoTo_has {r : Nat → Nat} {v : Nat} (h0 : r v = 0) : ∀ k, v < k → 2 ^ v ∈ isoTo r k := by
  intro k
  induction k with
  | zero => intro h; omega
  | succ k ih =>
    intro h
    by_cases e : v = k
    · subst e
      refine List.mem_append_right _ ?_
      rw [if_pos h0]; exact List.mem_singleton.2 rfl
    · exact List.mem_append_left _ (ih (by omega))
theorem blkL_named {n : Nat} {r r' f g : Nat → Nat} (N : Named n r r' f g) (h : Pl n r) (h' : Pl n r') {m m' : Nat} (hm : m ∈ blkL n r) (hl : m' < 2 ^ n) (hb : ∀ x, x < n → m'.testBit (f x) = m.testBit x) : m' ∈ blkL n r' := by
  have same : ∀ t, t < 2 ^ n → (∀ x, x < n → t.testBit (f x) = m.testBit x) → m' = t := fun t ht hx => by
    apply Nat.eq_of_testBit_eq
    intro y
    by_cases hy : y < n
    · rw [← N.fg y hy, hb _ (N.gl y hy), hx _ (N.gl y hy)]
    · rw [Nat.testBit_lt_two_pow (Nat.lt_of_lt_of_le hl (Nat.pow_le_pow_right (by omega) (by omega))), Nat.testBit_lt_two_pow (Nat.lt_of_lt_of_le ht (Nat.pow_le_pow_right (by omega) (by omega)))]
  rcases blkL_cases h hm with ⟨v, hv, rfl, h0⟩ | ⟨a, b, hab, hbn, hadj, rfl⟩
  · have e := same (2 ^ f v) (Nat.pow_lt_pow_right (by omega) (N.fl v hv)) fun x hx => by
      rw [Nat.testBit_two_pow, Nat.testBit_two_pow, decide_eq_decide]
      exact ⟨fun e => N.inj hv hx e, fun e => by rw [e]⟩
    rw [e]
    refine List.mem_append_left _ (isoTo_has ?_ n (N.fl v hv))
    apply Nat.eq_of_testBit_eq
    intro y
    rw [Nat.zero_testBit]
    by_cases hy : y < n
    · rw [← N.fg y hy, N.adj v _ hv (N.gl y hy), h0, Nat.zero_testBit]
    · exact Nat.testBit_lt_two_pow (Nat.lt_of_lt_of_le (h'.bd _ (N.fl v hv)) (Nat.pow_le_pow_right (by omega) (by omega)))
  · have ha : a < n := by omega
    have hne : f a ≠ f b := fun e => by have := N.inj ha hbn e; omega
    have hadj' : (r' (f a)).testBit (f b) = true := by rw [N.adj a b ha hbn]; exact hadj
    rw [same (blkTo n r' (f a) (f b) n) (blkTo_lt n) fun x hx => blk_named N h h' ha hbn hx]
    by_cases hlt : f a < f b
    · exact blkL_edge h' hlt (N.fl b hbn) hadj'
    · rw [blk_swap h' (N.fl a ha) (N.fl b hbn) hne hadj']
      exact blkL_edge h' (by omega) (N.fl a ha) (by rw [h'.sym _ _ (N.fl b hbn) (N.fl a ha)]; exact hadj')
/-- A set back. -/
def backS (n b s : Nat) : Nat := (List.range n).foldl (fun acc x => acc ||| (if s.testBit (rot n b x) then 2 ^ x else 0)) 0
theorem testBit_fold {p : Nat → Bool} : ∀ (k i : Nat), ((List.range k).foldl (fun acc x => acc ||| (if p x then 2 ^ x else 0)) 0).testBit i = (decide (i < k) && p i) := by
  intro k
  induction k with
  | zero => intro i; simp
  | succ k ih =>
    intro i
    rw [List.range_succ, List.foldl_append, List.foldl_cons, List.foldl_nil, Nat.testBit_or, ih]
    by_cases e : i = k
    · subst e
      rw [decide_eq_false (Nat.lt_irrefl i), Bool.false_and, Bool.false_or, decide_eq_true (Nat.lt_succ_self i), Bool.true_and]
      cases hp : p i
      · simp
      · rw [if_pos rfl, bit_pow]
    · have h1 : decide (i < k + 1) = decide (i < k) := by rw [decide_eq_decide]; omega
      rw [h1]
      have h2 : (if p k = true then 2 ^ k else 0).testBit i = false := by
        split
        · rw [Nat.testBit_two_pow, decide_eq_false (fun h => e h.symm)]
        · exact Nat.zero_testBit i
      rw [h2, Bool.or_false]
theorem testBit_back {n b s i : Nat} : (backS n b s).testBit i = (decide (i < n) && s.testBit (rot n b i)) := testBit_fold (p := fun x => s.testBit (rot n b x)) n i
theorem backS_lt {n b s : Nat} : backS n b s < 2 ^ n := by
  apply Nat.lt_pow_two_of_testBit
  intro i hi
  rw [testBit_back, decide_eq_false (by omega)]; rfl
theorem bl_named {n b : Nat} {r : Nat → Nat} (hb : b < n) (h : Pl n r) {m : Nat} (hm : m ∈ blkL n r) : turnS n b m ∈ blkL n (turnG n b r) :=
  blkL_named (named_turn hb h) h (turnR_pl hb h) hm turnS_lt fun _ hx => turn_bit hb (blkL_lt hm) hx
theorem bl_back {n b : Nat} {r : Nat → Nat} (hb : b < n) (h : Pl n r) {m : Nat} (hm : m ∈ blkL n (turnG n b r)) : backS n b m ∈ blkL n r :=
  blkL_named (named_turn hb h).back (turnR_pl hb h) h hm backS_lt fun x hx => by rw [testBit_back, decide_eq_true (unrot_lt (by omega)), Bool.true_and, rot_unrot hb hx]
theorem turnS_inj {n b s t : Nat} (hb : b < n) (hs : s < 2 ^ n) (ht : t < 2 ^ n) (h : turnS n b s = turnS n b t) : s = t := by
  apply Nat.eq_of_testBit_eq
  intro y
  by_cases hy : y < n
  · rw [← turn_bit hb hs hy, h, turn_bit hb ht hy]
  · rw [Nat.testBit_lt_two_pow (Nat.lt_of_lt_of_le hs (Nat.pow_le_pow_right (by omega) (by omega))), Nat.testBit_lt_two_pow (Nat.lt_of_lt_of_le ht (Nat.pow_le_pow_right (by omega) (by omega)))]
theorem backS_inj {n b s t : Nat} (hb : b < n) (hs : s < 2 ^ n) (ht : t < 2 ^ n) (h : backS n b s = backS n b t) : s = t := by
  apply Nat.eq_of_testBit_eq
  intro y
  by_cases hy : y < n
  · have e : ∀ s, s.testBit y = (backS n b s).testBit (unrot n b y) := fun s => by rw [testBit_back, decide_eq_true (unrot_lt (by omega)), Bool.true_and, rot_unrot hb hy]
    rw [e s, e t, h]
  · rw [Nat.testBit_lt_two_pow (Nat.lt_of_lt_of_le hs (Nat.pow_le_pow_right (by omega) (by omega))), Nat.testBit_lt_two_pow (Nat.lt_of_lt_of_le ht (Nat.pow_le_pow_right (by omega) (by omega)))]
theorem blocksI_nodup {n : Nat} {r : Nat → Nat} : (blocksI n r).Nodup := (blocksI_rise n r).imp fun h e => by omega
theorem bl_len {n b : Nat} {r : Nat → Nat} (hb : b < n) (h : Pl n r) : (blocksI n r).length = (blocksI n (turnG n b r)).length := by
  refine Nat.le_antisymm (len_inj (f := fun x : Int => ((turnS n b x.toNat : Nat) : Int)) blocksI_nodup (fun p hp q hq e => ?_) fun p hp => ?_) (len_inj (f := fun x : Int => ((backS n b x.toNat : Nat) : Int)) blocksI_nodup (fun p hp q hq e => ?_) fun p hp => ?_)
  · obtain ⟨m, h1, rfl⟩ := blocksI_mem hp
    obtain ⟨m', h2, rfl⟩ := blocksI_mem hq
    simp only [Int.toNat_natCast, Int.natCast_inj] at e
    rw [turnS_inj hb (blkL_lt h1) (blkL_lt h2) e]
  · obtain ⟨m, h1, rfl⟩ := blocksI_mem hp
    rw [Int.toNat_natCast]
    exact blocksI_has (bl_named hb h h1)
  · obtain ⟨m, h1, rfl⟩ := blocksI_mem hp
    obtain ⟨m', h2, rfl⟩ := blocksI_mem hq
    simp only [Int.toNat_natCast, Int.natCast_inj] at e
    rw [backS_inj hb (blkL_lt h1) (blkL_lt h2) e]
  · obtain ⟨m, h1, rfl⟩ := blocksI_mem hp
    rw [Int.toNat_natCast]
    exact blocksI_has (bl_back hb h h1)

end Go.Proofs.YtcpdedgmhpehiaaDoor
