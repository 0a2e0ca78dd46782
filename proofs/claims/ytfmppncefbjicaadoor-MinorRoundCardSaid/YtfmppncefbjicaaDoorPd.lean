/- Package minor: an order in which no edges cross, by places; where there is one there are no four sets that are all neighbours, and no two that are neighbours of three. Package minor: behind a reduction an order in which no edges cross gives one ahead of it, or there are two sets that are neighbours of three. Package minor: there is an order in which no edges cross exactly if there are neither four sets that are all neighbours nor two that are neighbours of three. Package minor: numbers that may be written; slices.Clone as a row of one's own; slices.Reverse; an order turned, and backward. -/
import Derived.Test.YtfmppncefbjicaaDoorOh
import Derived.Test.YtfmppncefbjicaaDoorNj
import Derived.Test.YtfmppncefbjicaaDoorNp
namespace Go.Proofs.YtfmppncefbjicaaDoor
set_option linter.unusedSimpArgs false
set_option linter.unusedVariables false
open Go.RowKit Go.Maps

/-- Two pairs of places that part each other in a circle. -/
def IL (p s q t : Nat) : Prop := (p < q ∧ q < s ∧ (t < p ∨ s < t)) ∨ (s < q ∧ q < p ∧ (t < s ∨ p < t)) ∨ (p < t ∧ t < s ∧ (q < p ∨ s < q)) ∨ (s < t ∧ t < p ∧ (q < s ∨ p < q))
/-- Places of nodes in which no edges cross. -/
structure OutP (r : Nat → Nat) (left : Nat) (pos : Nat → Nat) : Prop where
  inj : ∀ u x, left.testBit u = true → left.testBit x = true → pos u = pos x → u = x
  no : ∀ u v x y, left.testBit u = true → left.testBit v = true → left.testBit x = true → left.testBit y = true → (r u).testBit v = true → (r x).testBit y = true → ¬ IL (pos u) (pos v) (pos x) (pos y)

theorem Rch.one {r : Nat → Nat} {s v x : Nat} (h : Rch r s v x) : x = v ∨ s.testBit x = true := by
  cases h with
  | refl => exact Or.inl rfl
  | step _ _ h3 => exact Or.inr h3
theorem Rch.exit {r : Nat → Nat} {s v x : Nat} (P : Nat → Prop) (h : Rch r s v x) (hv : P v) (hx : ¬ P x) : ∃ a b, P a ∧ ¬ P b ∧ (r a).testBit b = true ∧ s.testBit b = true ∧ (a = v ∨ s.testBit a = true) := by
  induction h with
  | refl => exact absurd hv hx
  | @step u x h1 h2 h3 ih =>
    by_cases hu : P u
    · exact ⟨u, x, hu, hx, h2, h3, h1.one⟩
    · exact ih hu
theorem OutP.ne {r : Nat → Nat} {left A B x y : Nat} {pos : Nat → Nat} (O : OutP r left pos) (hA : ∀ x, A.testBit x = true → left.testBit x = true) (hB : ∀ x, B.testBit x = true → left.testBit x = true) (hd : Dj A B) (hx : A.testBit x = true) (hy : B.testBit y = true) : pos x ≠ pos y := fun e => by
  have := O.inj x y (hA x hx) (hB y hy) e
  subst this
  exact hd x hx hy
theorem OutP.apart1 {n : Nat} {r : Nat → Nat} {left A B p s q t : Nat} {pos : Nat → Nat} (O : OutP r left pos) (cA : Cs n r A) (cB : Cs n r B) (hA : ∀ x, A.testBit x = true → left.testBit x = true) (hB : ∀ x, B.testBit x = true → left.testBit x = true) (hd : Dj A B)
    (hp : A.testBit p = true) (hs : A.testBit s = true) (hq : B.testBit q = true) (ht : B.testBit t = true)
    (h1 : (pos p < pos q ∧ pos q < pos s) ∨ (pos s < pos q ∧ pos q < pos p)) (h2 : ¬ ((pos p < pos t ∧ pos t < pos s) ∨ (pos s < pos t ∧ pos t < pos p))) : False := by
  obtain ⟨x, y, hx, hy, he, hyB, hxB⟩ := (cB.con q t hq ht).exit (fun z => (pos p < pos z ∧ pos z < pos s) ∨ (pos s < pos z ∧ pos z < pos p)) h1 h2
  have hxB : B.testBit x = true := by
    rcases hxB with e | e
    · rw [e]; exact hq
    · exact e
  have n1 := O.ne hA hB hd hp hyB
  have n2 := O.ne hA hB hd hs hyB
  have fin : ∀ a b, A.testBit a = true → A.testBit b = true → ((pos x < pos a ∧ pos a < pos y) ∨ (pos y < pos a ∧ pos a < pos x)) → ¬ ((pos x < pos b ∧ pos b < pos y) ∨ (pos y < pos b ∧ pos b < pos x)) → False := by
    intro a b ha hb k1 k2
    obtain ⟨u, v, hu, hv, hf, hvA, huA⟩ := (cA.con a b ha hb).exit (fun z => (pos x < pos z ∧ pos z < pos y) ∨ (pos y < pos z ∧ pos z < pos x)) k1 k2
    have huA : A.testBit u = true := by
      rcases huA with e | e
      · rw [e]; exact ha
      · exact e
    have m1 := O.ne hA hB hd hvA hxB
    have m2 := O.ne hA hB hd hvA hyB
    refine O.no x y u v (hB x hxB) (hB y hyB) (hA u huA) (hA v hvA) he hf ?_
    unfold IL
    omega
  by_cases hc : (pos x < pos p ∧ pos p < pos y) ∨ (pos y < pos p ∧ pos p < pos x)
  · exact fin p s hp hs hc (by omega)
  · exact fin s p hs hp (by omega) hc
/-- Sets that hang together and have no node in common do not part each other. -/
theorem OutP.apart {n : Nat} {r : Nat → Nat} {left A B p s q t : Nat} {pos : Nat → Nat} (O : OutP r left pos) (cA : Cs n r A) (cB : Cs n r B) (hA : ∀ x, A.testBit x = true → left.testBit x = true) (hB : ∀ x, B.testBit x = true → left.testBit x = true) (hd : Dj A B)
    (hp : A.testBit p = true) (hs : A.testBit s = true) (hq : B.testBit q = true) (ht : B.testBit t = true) : ¬ IL (pos p) (pos s) (pos q) (pos t) := by
  intro h
  by_cases hc : (pos p < pos q ∧ pos q < pos s) ∨ (pos s < pos q ∧ pos q < pos p)
  · refine O.apart1 cA cB hA hB hd hp hs hq ht hc ?_
    unfold IL at h
    omega
  · refine O.apart1 cA cB hA hB hd hp hs ht hq ?_ hc
    unfold IL at h
    omega
theorem pairs_part {a b c d : Nat} (h1 : a ≠ b) (h2 : a ≠ c) (h3 : a ≠ d) (h4 : b ≠ c) (h5 : b ≠ d) (h6 : c ≠ d) : IL a b c d ∨ IL a c b d ∨ IL a d b c := by
  rcases Nat.lt_or_gt_of_ne h1 with h1 | h1 <;> rcases Nat.lt_or_gt_of_ne h2 with h2 | h2 <;> rcases Nat.lt_or_gt_of_ne h3 with h3 | h3 <;> rcases Nat.lt_or_gt_of_ne h4 with h4 | h4 <;> rcases Nat.lt_or_gt_of_ne h5 with h5 | h5 <;> rcases Nat.lt_or_gt_of_ne h6 with h6 | h6 <;> first
    | (exfalso; omega)
    | (left; unfold IL; omega)
    | (right; left; unfold IL; omega)
    | (right; right; unfold IL; omega)
theorem two_sides {a b c d : Nat} (h1 : a ≠ b) (h2 : a ≠ c) (h3 : a ≠ d) (h4 : b ≠ c) (h5 : b ≠ d) (h6 : c ≠ d) (h : ((a < c ∧ c < b) ∨ (b < c ∧ c < a)) ↔ ((a < d ∧ d < b) ∨ (b < d ∧ d < a))) : IL a c b d ∨ IL a d b c := by
  rcases Nat.lt_or_gt_of_ne h1 with h1 | h1 <;> rcases Nat.lt_or_gt_of_ne h2 with h2 | h2 <;> rcases Nat.lt_or_gt_of_ne h3 with h3 | h3 <;> rcases Nat.lt_or_gt_of_ne h4 with h4 | h4 <;> rcases Nat.lt_or_gt_of_ne h5 with h5 | h5 <;> rcases Nat.lt_or_gt_of_ne h6 with h6 | h6 <;> first
    | (exfalso; omega)
    | (left; unfold IL; omega)
    | (right; unfold IL; omega)

/-- Two sets that are neighbours of three. -/
def Five (n : Nat) (r : Nat → Nat) : Prop := ∃ a b c d e, Fam n r [a, b, c, d, e] ∧ Ad r a c ∧ Ad r a d ∧ Ad r a e ∧ Ad r b c ∧ Ad r b d ∧ Ad r b e

theorem all_in {n A : Nat} (h : A < 2 ^ n) : ∀ x, A.testBit x = true → (2 ^ n - 1).testBit x = true := fun x hx => all_bit (bit_lt h hx)
/-- Two joined pairs do not part each other. -/
theorem OutP.joined {n : Nat} {r : Nat → Nat} {a b c d p s q t : Nat} {pos : Nat → Nat} (G : Gp n r) (O : OutP r (2 ^ n - 1) pos) (ca : Cs n r a) (cb : Cs n r b) (cc : Cs n r c) (cd : Cs n r d) (ab : Ad r a b) (acd : Ad r c d)
    (d1 : Dj a c) (d2 : Dj a d) (d3 : Dj b c) (d4 : Dj b d) (hp : a.testBit p = true) (hs : b.testBit s = true) (hq : c.testBit q = true) (ht : d.testBit t = true) : ¬ IL (pos p) (pos s) (pos q) (pos t) := by
  have c1 := ca.or G cb ab
  have c2 := cc.or G cd acd
  exact O.apart c1 c2 (all_in c1.lt) (all_in c2.lt) (Dj.or (Dj.or d1.symm d2.symm).symm (Dj.or d3.symm d4.symm).symm) (by rw [Nat.testBit_or, hp]; rfl) (by rw [Nat.testBit_or, hs, Bool.or_true]) (by rw [Nat.testBit_or, hq]; rfl) (by rw [Nat.testBit_or, ht, Bool.or_true])
theorem no_four {n : Nat} {r : Nat → Nat} {pos : Nat → Nat} (G : Gp n r) (O : OutP r (2 ^ n - 1) pos) : ¬ Four n r := by
  rintro ⟨a, b, c, d, hF, ab, ac, ad, bc, bd, cd⟩
  have sp := List.pairwise_cons.1 hF.sep
  have sp2 := List.pairwise_cons.1 sp.2
  have sp3 := List.pairwise_cons.1 sp2.2
  have ca := hF.set a (by simp)
  have cb := hF.set b (by simp)
  have cc := hF.set c (by simp)
  have cd' := hF.set d (by simp)
  have dab : Dj a b := sp.1 b (by simp)
  have dac : Dj a c := sp.1 c (by simp)
  have dad : Dj a d := sp.1 d (by simp)
  have dbc : Dj b c := sp2.1 c (by simp)
  have dbd : Dj b d := sp2.1 d (by simp)
  have dcd : Dj c d := sp3.1 d (by simp)
  obtain ⟨p, hp⟩ := ca.ne
  obtain ⟨q, hq⟩ := cb.ne
  obtain ⟨s, hs⟩ := cc.ne
  obtain ⟨t, ht⟩ := cd'.ne
  have la := all_in ca.lt
  have lb := all_in cb.lt
  have lc := all_in cc.lt
  have ld := all_in cd'.lt
  rcases pairs_part (O.ne la lb dab hp hq) (O.ne la lc dac hp hs) (O.ne la ld dad hp ht) (O.ne lb lc dbc hq hs) (O.ne lb ld dbd hq ht) (O.ne lc ld dcd hs ht) with h | h | h
  · exact O.joined G ca cb cc cd' ab cd dac dad dbc dbd hp hq hs ht h
  · exact O.joined G ca cc cb cd' ac bd dab dad dbc.symm dcd hp hs hq ht h
  · exact O.joined G ca cd' cb cc ad bc dab dac dbd.symm dcd.symm hp ht hq hs h
theorem no_five {n : Nat} {r : Nat → Nat} {pos : Nat → Nat} (G : Gp n r) (O : OutP r (2 ^ n - 1) pos) : ¬ Five n r := by
  rintro ⟨a, b, c, d, e, hF, ac, ad, ae, bc, bd, be⟩
  have sp := List.pairwise_cons.1 hF.sep
  have sp2 := List.pairwise_cons.1 sp.2
  have sp3 := List.pairwise_cons.1 sp2.2
  have sp4 := List.pairwise_cons.1 sp3.2
  have ca := hF.set a (by simp)
  have cb := hF.set b (by simp)
  have cc := hF.set c (by simp)
  have cd := hF.set d (by simp)
  have ce := hF.set e (by simp)
  have dab : Dj a b := sp.1 b (by simp)
  have dac : Dj a c := sp.1 c (by simp)
  have dad : Dj a d := sp.1 d (by simp)
  have dae : Dj a e := sp.1 e (by simp)
  have dbc : Dj b c := sp2.1 c (by simp)
  have dbd : Dj b d := sp2.1 d (by simp)
  have dbe : Dj b e := sp2.1 e (by simp)
  have dcd : Dj c d := sp3.1 d (by simp)
  have dce : Dj c e := sp3.1 e (by simp)
  have dde : Dj d e := sp4.1 e (by simp)
  obtain ⟨p, hp⟩ := ca.ne
  obtain ⟨q, hq⟩ := cb.ne
  obtain ⟨x, hx⟩ := cc.ne
  obtain ⟨y, hy⟩ := cd.ne
  obtain ⟨z, hz⟩ := ce.ne
  have la := all_in ca.lt
  have lb := all_in cb.lt
  have lc := all_in cc.lt
  have ld := all_in cd.lt
  have le := all_in ce.lt
  have key : ∀ {c d x y : Nat}, Cs n r c → Cs n r d → Ad r a c → Ad r a d → Ad r b c → Ad r b d → Dj a c → Dj a d → Dj b c → Dj b d → Dj c d → c.testBit x = true → d.testBit y = true →
      (((pos p < pos x ∧ pos x < pos q) ∨ (pos q < pos x ∧ pos x < pos p)) ↔ ((pos p < pos y ∧ pos y < pos q) ∨ (pos q < pos y ∧ pos y < pos p))) → False := by
    intro c d x y cc cd ac ad bc bd dac dad dbc dbd dcd hx hy h
    have lc := all_in cc.lt
    have ld := all_in cd.lt
    rcases two_sides (O.ne la lb dab hp hq) (O.ne la lc dac hp hx) (O.ne la ld dad hp hy) (O.ne lb lc dbc hq hx) (O.ne lb ld dbd hq hy) (O.ne lc ld dcd hx hy) h with h | h
    · exact O.joined G ca cc cb cd ac bd dab dad dbc.symm dcd hp hx hq hy h
    · exact O.joined G ca cd cb cc ad bc dab dac dbd.symm dcd.symm hp hy hq hx h
  by_cases h1 : (pos p < pos x ∧ pos x < pos q) ∨ (pos q < pos x ∧ pos x < pos p) <;> by_cases h2 : (pos p < pos y ∧ pos y < pos q) ∨ (pos q < pos y ∧ pos y < pos p) <;> by_cases h3 : (pos p < pos z ∧ pos z < pos q) ∨ (pos q < pos z ∧ pos z < pos p)
  all_goals first
    | exact key cc cd ac ad bc bd dac dad dbc dbd dcd hx hy ⟨fun _ => h2, fun _ => h1⟩
    | exact key cc cd ac ad bc bd dac dad dbc dbd dcd hx hy ⟨fun h => absurd h h1, fun h => absurd h h2⟩
    | exact key cc ce ac ae bc be dac dae dbc dbe dce hx hz ⟨fun _ => h3, fun _ => h1⟩
    | exact key cc ce ac ae bc be dac dae dbc dbe dce hx hz ⟨fun h => absurd h h1, fun h => absurd h h3⟩
    | exact key cd ce ad ae bd be dad dae dbd dbe dde hy hz ⟨fun _ => h3, fun _ => h2⟩
    | exact key cd ce ad ae bd be dad dae dbd dbe dde hy hz ⟨fun h => absurd h h2, fun h => absurd h h3⟩

/-! ### orders as lists and as places -/

theorem places_of {n : Nat} {r g : Nat → Nat} (G : Gp n r) (O : OutO n r g) : ∃ pos, OutP r (2 ^ n - 1) pos := by
  have hon := onto_of_inj n g O.lt O.inj
  obtain ⟨pos, hpos⟩ : ∃ pos : Nat → Nat, ∀ v, v < n → pos v < n ∧ g (pos v) = v := by
    refine ⟨fun v => ((List.range n).find? fun i => g i == v).getD 0, fun v hv => ?_⟩
    obtain ⟨i, hi, e⟩ := hon v hv
    cases hf : (List.range n).find? fun i => g i == v with
    | none =>
      rw [List.find?_eq_none] at hf
      exact absurd (by simp [e]) (hf i (List.mem_range.2 hi))
    | some k =>
      have h2 := List.find?_some hf
      have h3 := List.mem_range.1 (List.mem_of_find?_eq_some hf)
      have e2 : ((List.range n).find? fun i => g i == v).getD 0 = k := by rw [hf]; rfl
      show ((List.range n).find? fun i => g i == v).getD 0 < n ∧ g (((List.range n).find? fun i => g i == v).getD 0) = v
      rw [e2]
      exact ⟨h3, by simpa using h2⟩
  have lt : ∀ x, (2 ^ n - 1).testBit x = true → x < n := fun x hx => bit_lt (by have := Nat.two_pow_pos n; omega) hx
  have nc : ∀ u v x y, u < n → v < n → x < n → y < n → (r u).testBit v = true → (r x).testBit y = true → pos u < pos x → pos x < pos v → pos v < pos y → False := fun u v x y hu hv hx hy h1 h2 l1 l2 l3 => by
    have h := O.no (pos y) (hpos y hy).1
    rw [Bool.eq_false_iff] at h
    refine h (crB_iff.2 ⟨pos u, pos x, pos v, l1, l2, l3, ?_, ?_⟩)
    · rw [(hpos u hu).2, (hpos v hv).2]; exact h1
    · rw [(hpos x hx).2, (hpos y hy).2]; exact h2
  have sy : ∀ a b, a < n → b < n → (r a).testBit b = true → (r b).testBit a = true := fun a b ha hb h => by rw [G.sym b a hb ha]; exact h
  refine ⟨pos, fun u x hu hx e => ?_, fun u v x y hu hv hx hy h1 h2 h => ?_⟩
  · rw [← (hpos u (lt u hu)).2, ← (hpos x (lt x hx)).2, e]
  · have hu := lt u hu
    have hv := lt v hv
    have hx := lt x hx
    have hy := lt y hy
    have s1 := sy u v hu hv h1
    have s2 := sy x y hx hy h2
    rcases h with ⟨a, b, c | c⟩ | ⟨a, b, c | c⟩ | ⟨a, b, c | c⟩ | ⟨a, b, c | c⟩
    · exact nc y x u v hy hx hu hv s2 h1 c a b
    · exact nc u v x y hu hv hx hy h1 h2 a b c
    · exact nc y x v u hy hx hv hu s2 s1 c a b
    · exact nc v u x y hv hu hx hy s1 h2 a b c
    · exact nc x y u v hx hy hu hv h2 h1 c a b
    · exact nc u v y x hu hv hy hx h1 s2 a b c
    · exact nc x y v u hx hy hv hu h2 s1 c a b
    · exact nc v u y x hv hu hy hx s1 s2 a b c

/-- How many places lie before one. -/
def rnk (n : Nat) (pos : Nat → Nat) (u : Nat) : Nat := (List.range n).countP fun x => decide (pos x < pos u)
theorem countP_lts {α : Type} {p q : α → Bool} : ∀ {l : List α}, (∀ x ∈ l, p x = true → q x = true) → (∃ x ∈ l, p x = false ∧ q x = true) → l.countP p < l.countP q
  | [], _, ⟨_, h, _⟩ => by cases h
  | y :: l, hpq, ⟨x, hx, h1, h2⟩ => by
    have hle : l.countP p ≤ l.countP q := List.countP_mono_left fun z hz => hpq z (List.mem_cons_of_mem _ hz)
    rw [List.countP_cons, List.countP_cons]
    rcases List.mem_cons.1 hx with rfl | hx
    · rw [h1, h2]; simp; omega
    · have := countP_lts (l := l) (fun z hz => hpq z (List.mem_cons_of_mem _ hz)) ⟨x, hx, h1, h2⟩
      have h3 := hpq y (by simp)
      cases hp : p y
      · cases q y <;> simp <;> omega
      · rw [h3 hp]; simp; omega
theorem rnk_lt {n : Nat} {pos : Nat → Nat} {u x : Nat} (hu : u < n) (h : pos u < pos x) : rnk n pos u < rnk n pos x :=
  countP_lts (fun z _ hz => by simp at hz ⊢; omega) ⟨u, List.mem_range.2 hu, by simp, by simpa using h⟩
theorem rnk_le {n : Nat} {pos : Nat → Nat} {u : Nat} (hu : u < n) : rnk n pos u < n := by
  have h := countP_lts (p := fun x => decide (pos x < pos u)) (q := fun _ => true) (l := List.range n) (fun _ _ _ => rfl) ⟨u, List.mem_range.2 hu, by simp, rfl⟩
  have h2 : (List.range n).countP (fun _ => true) = n := by simp
  unfold rnk
  omega
theorem order_of {n : Nat} {r : Nat → Nat} {pos : Nat → Nat} (O : OutP r (2 ^ n - 1) pos) : ∃ g, OutO n r g := by
  have inj : ∀ i j, i < n → j < n → rnk n pos i = rnk n pos j → i = j := fun i j hi hj e => by
    rcases Nat.lt_trichotomy (pos i) (pos j) with h | h | h
    · have := rnk_lt (n := n) hi h; omega
    · exact O.inj i j (all_bit hi) (all_bit hj) h
    · have := rnk_lt (n := n) hj h; omega
  have hon := onto_of_inj n (rnk n pos) (fun i hi => rnk_le hi) inj
  obtain ⟨g, hg⟩ : ∃ g : Nat → Nat, ∀ i, i < n → g i < n ∧ rnk n pos (g i) = i := by
    refine ⟨fun v => ((List.range n).find? fun i => rnk n pos i == v).getD 0, fun v hv => ?_⟩
    obtain ⟨i, hi, e⟩ := hon v hv
    cases hf : (List.range n).find? fun i => rnk n pos i == v with
    | none =>
      rw [List.find?_eq_none] at hf
      exact absurd (by simp [e]) (hf i (List.mem_range.2 hi))
    | some k =>
      have h2 := List.find?_some hf
      have h3 := List.mem_range.1 (List.mem_of_find?_eq_some hf)
      have e2 : ((List.range n).find? fun i => rnk n pos i == v).getD 0 = k := by rw [hf]; rfl
      show ((List.range n).find? fun i => rnk n pos i == v).getD 0 < n ∧ rnk n pos (((List.range n).find? fun i => rnk n pos i == v).getD 0) = v
      rw [e2]
      exact ⟨h3, by simpa using h2⟩
  have mono : ∀ i j, i < j → j < n → pos (g i) < pos (g j) := fun i j h hj => by
    obtain ⟨a1, a2⟩ := hg i (by omega)
    obtain ⟨b1, b2⟩ := hg j hj
    rcases Nat.lt_trichotomy (pos (g i)) (pos (g j)) with k | k | k
    · exact k
    · have := O.inj _ _ (all_bit a1) (all_bit b1) k
      rw [this] at a2; omega
    · have := rnk_lt (n := n) b1 k; omega
  refine ⟨g, fun i hi => (hg i hi).1, fun i j hi hj e => by rw [← (hg i hi).2, ← (hg j hj).2, e], fun m hm => ?_⟩
  rw [Bool.eq_false_iff]
  intro h
  obtain ⟨i, j, k, h1, h2, h3, h4, h5⟩ := crB_iff.1 h
  refine O.no (g i) (g k) (g j) (g m) (all_bit (hg i (by omega)).1) (all_bit (hg k (by omega)).1) (all_bit (hg j (by omega)).1) (all_bit (hg m hm).1) h4 h5 ?_
  have := mono i j h1 (by omega)
  have := mono j k h2 (by omega)
  have := mono k m h3 hm
  unfold IL
  omega

end Go.Proofs.YtfmppncefbjicaaDoor

namespace Go.Proofs.YtfmppncefbjicaaDoor
set_option linter.unusedSimpArgs false
set_option linter.unusedVariables false
open Go.RowKit Go.Maps

/-- The set of the nodes of which something is true. -/
def mkS (n : Nat) (p : Nat → Bool) : Nat := orF (fun u => if p u then 2 ^ u else 0) n
theorem mkS_bit {n : Nat} {p : Nat → Bool} {x : Nat} : (mkS n p).testBit x = true ↔ x < n ∧ p x = true := by
  unfold mkS
  rw [orF_bit]
  constructor
  · rintro ⟨i, h1, h2⟩
    by_cases h : p i = true
    · rw [if_pos h, pow_bit] at h2; subst h2; exact ⟨h1, h⟩
    · rw [if_neg h] at h2; simp at h2
  · rintro ⟨h1, h2⟩
    exact ⟨x, h1, by rw [if_pos h2, pow_bit]⟩
theorem pos_bound (pos : Nat → Nat) : ∀ n, ∃ N, ∀ u, u < n → pos u < N := by
  intro n
  induction n with
  | zero => exact ⟨0, fun u hu => by omega⟩
  | succ n ih =>
    obtain ⟨N, hN⟩ := ih
    refine ⟨N + pos n + 1, fun u hu => ?_⟩
    by_cases e : u = n
    · subst e; omega
    · have := hN u (by omega); omega
theorem IL.map {P l : Nat → Nat} {Z : Nat → Prop} (hm : ∀ z z', Z z → Z z' → P z < P z' → l z < l z') {u w x y : Nat} (hu : Z u) (hw : Z w) (hx : Z x) (hy : Z y) (h : IL (P u) (P w) (P x) (P y)) : IL (l u) (l w) (l x) (l y) := by
  rcases h with ⟨a, b, c | c⟩ | ⟨a, b, c | c⟩ | ⟨a, b, c | c⟩ | ⟨a, b, c | c⟩
  · exact Or.inl ⟨hm _ _ hu hx a, hm _ _ hx hw b, Or.inl (hm _ _ hy hu c)⟩
  · exact Or.inl ⟨hm _ _ hu hx a, hm _ _ hx hw b, Or.inr (hm _ _ hw hy c)⟩
  · exact Or.inr (Or.inl ⟨hm _ _ hw hx a, hm _ _ hx hu b, Or.inl (hm _ _ hy hw c)⟩)
  · exact Or.inr (Or.inl ⟨hm _ _ hw hx a, hm _ _ hx hu b, Or.inr (hm _ _ hu hy c)⟩)
  · exact Or.inr (Or.inr (Or.inl ⟨hm _ _ hu hy a, hm _ _ hy hw b, Or.inl (hm _ _ hx hu c)⟩))
  · exact Or.inr (Or.inr (Or.inl ⟨hm _ _ hu hy a, hm _ _ hy hw b, Or.inr (hm _ _ hw hx c)⟩))
  · exact Or.inr (Or.inr (Or.inr ⟨hm _ _ hw hy a, hm _ _ hy hu b, Or.inl (hm _ _ hx hw c)⟩))
  · exact Or.inr (Or.inr (Or.inr ⟨hm _ _ hw hy a, hm _ _ hy hu b, Or.inr (hm _ _ hu hx c)⟩))
/-- Places turned in a circle. -/
def lft (lo N p : Nat) : Nat := if p < lo then p + N else p
theorem IL.rot {lo N p s q t : Nat} (hp : p < N) (hs : s < N) (hq : q < N) (ht : t < N) (h : IL (lft lo N p) (lft lo N s) (lft lo N q) (lft lo N t)) : IL p s q t := by
  unfold lft at h
  by_cases h1 : p < lo <;> by_cases h2 : s < lo <;> by_cases h3 : q < lo <;> by_cases h4 : t < lo <;> simp only [h1, h2, h3, h4, if_true, if_false] at h <;> unfold IL at * <;> omega
theorem lft_inj {lo N p q : Nat} (hp : p < N) (hq : q < N) (h : lft lo N p = lft lo N q) : p = q := by
  unfold lft at h
  by_cases h1 : p < lo <;> by_cases h2 : q < lo <;> simp only [h1, h2, if_true, if_false] at h <;> omega
theorem OutP.rot {r : Nat → Nat} {left lo N : Nat} {pos : Nat → Nat} (O : OutP r left pos) (hN : ∀ u, left.testBit u = true → pos u < N) : OutP r left (fun u => lft lo N (pos u)) :=
  ⟨fun u x hu hx e => O.inj u x hu hx (lft_inj (hN u hu) (hN x hx) e), fun u v x y hu hv hx hy h1 h2 h => O.no u v x y hu hv hx hy h1 h2 (IL.rot (hN u hu) (hN v hv) (hN x hx) (hN y hy) h)⟩

/-- A node with at most one neighbour is put beside it. -/
theorem ins1 {f f' pos : Nat → Nat} {left v a : Nat} (hsym : ∀ u x, left.testBit u = true → left.testBit x = true → (f u).testBit x = true → (f x).testBit u = true) (hone : ∀ x, (f v).testBit x = true → x = a) (hv : left.testBit v = true)
    (hf' : ∀ u x, left.testBit u = true → left.testBit x = true → u ≠ v → x ≠ v → (f u).testBit x = true → (f' u).testBit x = true) (O : OutP f' (diff left (2 ^ v)) pos) : ∃ P, OutP f left P := by
  obtain ⟨P, hPv, hPo⟩ : ∃ P : Nat → Nat, P v = 2 * pos a + 1 ∧ ∀ u, u ≠ v → P u = 2 * pos u := ⟨fun u => if u = v then 2 * pos a + 1 else 2 * pos u, by simp, fun u hu => by simp [hu]⟩
  refine ⟨P, fun u x hu hx e => ?_, fun u w x y hu hw hx hy h1 h2 h => ?_⟩
  · by_cases e1 : u = v <;> by_cases e2 : x = v
    · rw [e1, e2]
    · subst e1; rw [hPv, hPo x e2] at e; omega
    · subst e2; rw [hPv, hPo u e1] at e; omega
    · rw [hPo u e1, hPo x e2] at e
      exact O.inj u x (left_bits.2 ⟨hu, e1⟩) (left_bits.2 ⟨hx, e2⟩) (by omega)
  · have nb : ∀ z, left.testBit z = true → (f v).testBit z = true → P z = 2 * pos a + 1 ∨ P z = 2 * pos a := fun z hz hb => by
      by_cases e : z = v
      · subst e; exact Or.inl hPv
      · rw [hPo z e, hone z hb]; exact Or.inr rfl
    by_cases e1 : u = v
    · subst e1
      have := nb w hw h1
      unfold IL at h; omega
    · by_cases e2 : w = v
      · subst e2
        have := nb u hu (hsym u w hu hw h1)
        unfold IL at h; omega
      · by_cases e3 : x = v
        · subst e3
          have := nb y hy h2
          rw [hPo u e1, hPo w e2] at h
          unfold IL at h; omega
        · by_cases e4 : y = v
          · subst e4
            have := nb x hx (hsym x y hx hy h2)
            rw [hPo u e1, hPo w e2] at h
            unfold IL at h; omega
          · refine O.no u w x y (left_bits.2 ⟨hu, e1⟩) (left_bits.2 ⟨hw, e2⟩) (left_bits.2 ⟨hx, e3⟩) (left_bits.2 ⟨hy, e4⟩) (hf' u w hu hw e1 e2 h1) (hf' x y hx hy e3 e4 h2) ?_
            rw [hPo u e1, hPo w e2, hPo x e3, hPo y e4] at h
            unfold IL at *; omega

/-- The nodes between two places. -/
def midS (n left : Nat) (pos : Nat → Nat) (a b : Nat) : Nat := mkS n fun u => left.testBit u && (decide (pos a < pos u) && decide (pos u < pos b))
theorem midS_bit {n left a b x : Nat} {pos : Nat → Nat} (hl : left < 2 ^ n) : (midS n left pos a b).testBit x = true ↔ left.testBit x = true ∧ pos a < pos x ∧ pos x < pos b := by
  unfold midS
  rw [mkS_bit, Bool.and_eq_true, Bool.and_eq_true, decide_eq_true_eq, decide_eq_true_eq]
  exact ⟨fun h => h.2, fun h => ⟨bit_lt hl h.1, h⟩⟩

set_option maxHeartbeats 4000000 in
/-- A node with two neighbours is put between them, where those between them don't join them. -/
theorem ins2 {n left v a b : Nat} {f f' pos : Nat → Nat} (hlt : left < 2 ^ n) (hsym : ∀ u x, left.testBit u = true → left.testBit x = true → (f u).testBit x = true → (f x).testBit u = true) (htwo : ∀ x, (f v).testBit x = true → x = a ∨ x = b)
    (hav : a ≠ v) (hbv : b ≠ v) (hv : left.testBit v = true) (ha : left.testBit a = true) (hb : left.testBit b = true)
    (hf' : ∀ u x, left.testBit u = true → left.testBit x = true → u ≠ v → x ≠ v → (f u).testBit x = true → (f' u).testBit x = true) (hab' : (f' a).testBit b = true)
    (hs' : ∀ u x, (diff left (2 ^ v)).testBit u = true → (diff left (2 ^ v)).testBit x = true → (f' u).testBit x = true → (f' x).testBit u = true) (O : OutP f' (diff left (2 ^ v)) pos) (hpab : pos a < pos b)
    (hno : ∀ y z, (midS n (diff left (2 ^ v)) pos a b).testBit y = true → (f' b).testBit y = true → (f' a).testBit z = true → Rch f' (midS n (diff left (2 ^ v)) pos a b) y z → False) : ∃ P, OutP f left P := by
  have hlt' : diff left (2 ^ v) < 2 ^ n := diff_lt' hlt
  have hI : ∀ x, (midS n (diff left (2 ^ v)) pos a b).testBit x = true ↔ (diff left (2 ^ v)).testBit x = true ∧ pos a < pos x ∧ pos x < pos b := fun x => midS_bit hlt'
  generalize midS n (diff left (2 ^ v)) pos a b = I at *
  have hL : ∀ u, (diff left (2 ^ v)).testBit u = true ↔ left.testBit u = true ∧ u ≠ v := fun u => left_bits
  obtain ⟨N, hN⟩ := pos_bound pos n
  have hNl : ∀ u, left.testBit u = true → pos u < N := fun u hu => hN u (bit_lt hlt hu)
  obtain ⟨RB, hRB⟩ : ∃ RB : Nat → Prop, ∀ z, RB z ↔ ∃ y, I.testBit y = true ∧ (f' b).testBit y = true ∧ Rch f' I y z := ⟨_, fun _ => Iff.rfl⟩
  obtain ⟨P, Pv, Pa, Pb, Pi, Pj, Pk, Pl⟩ : ∃ P : Nat → Nat, P v = N + 1 ∧ P a = N ∧ P b = N + 2 ∧ (∀ u, I.testBit u = true → ¬ RB u → P u = pos u) ∧ (∀ u, I.testBit u = true → RB u → P u = N + 3 + pos u) ∧ (∀ u, u ≠ v → pos u < pos a → P u = 3 * N + 3 + pos u) ∧ (∀ u, u ≠ v → pos b < pos u → P u = 2 * N + 3 + pos u) := by
    classical
    have e0 : a ≠ b := fun e => by subst e; omega
    refine ⟨fun u => if u = v then N + 1 else if u = a then N else if u = b then N + 2 else if I.testBit u = true then (if RB u then N + 3 + pos u else pos u) else if pos u < pos a then 3 * N + 3 + pos u else 2 * N + 3 + pos u, ?_, ?_, ?_, ?_, ?_, ?_, ?_⟩
    · simp
    · simp [hav]
    · simp [hbv, Ne.symm e0]
    · intro u hu hr
      obtain ⟨h1, h2, h3⟩ := (hI u).1 hu
      have n1 := ((hL u).1 h1).2
      have n2 : u ≠ a := fun e => by subst e; omega
      have n3 : u ≠ b := fun e => by subst e; omega
      simp [n1, n2, n3, hu, hr]
    · intro u hu hr
      obtain ⟨h1, h2, h3⟩ := (hI u).1 hu
      have n1 := ((hL u).1 h1).2
      have n2 : u ≠ a := fun e => by subst e; omega
      have n3 : u ≠ b := fun e => by subst e; omega
      simp [n1, n2, n3, hu, hr]
    · intro u n1 h
      have n2 : u ≠ a := fun e => by subst e; omega
      have n3 : u ≠ b := fun e => by subst e; omega
      have n4 : ¬ I.testBit u = true := fun e => by have := (hI u).1 e; omega
      simp [n1, n2, n3, n4, h]
    · intro u n1 h
      have n2 : u ≠ a := fun e => by subst e; omega
      have n3 : u ≠ b := fun e => by subst e; omega
      have n4 : ¬ I.testBit u = true := fun e => by have := (hI u).1 e; omega
      have n5 : ¬ pos u < pos a := by omega
      simp [n1, n2, n3, n4, n5]
  have la : (diff left (2 ^ v)).testBit a = true := (hL a).2 ⟨ha, hav⟩
  have lb : (diff left (2 ^ v)).testBit b = true := (hL b).2 ⟨hb, hbv⟩
  have hNa := hNl a ha
  have hNb := hNl b hb
  -- the classes
  have cls : ∀ u, (diff left (2 ^ v)).testBit u = true → u = a ∨ u = b ∨ (I.testBit u = true ∧ ¬ RB u) ∨ (I.testBit u = true ∧ RB u) ∨ pos u < pos a ∨ pos b < pos u := fun u hu => by
    by_cases h1 : u = a
    · exact Or.inl h1
    · by_cases h2 : u = b
      · exact Or.inr (Or.inl h2)
      · have m1 : pos u ≠ pos a := fun e => h1 (O.inj u a hu la e)
        have m2 : pos u ≠ pos b := fun e => h2 (O.inj u b hu lb e)
        by_cases h3 : pos u < pos a
        · exact Or.inr (Or.inr (Or.inr (Or.inr (Or.inl h3))))
        · by_cases h4 : pos b < pos u
          · exact Or.inr (Or.inr (Or.inr (Or.inr (Or.inr h4))))
          · have h5 : I.testBit u = true := (hI u).2 ⟨hu, by omega, by omega⟩
            by_cases h6 : RB u
            · exact Or.inr (Or.inr (Or.inr (Or.inl ⟨h5, h6⟩)))
            · exact Or.inr (Or.inr (Or.inl ⟨h5, h6⟩))
  have rb_step : ∀ z w, RB z → (f' z).testBit w = true → I.testBit w = true → RB w := fun z w h1 h2 h3 => by
    obtain ⟨y, y1, y2, y3⟩ := (hRB z).1 h1
    exact (hRB w).2 ⟨y, y1, y2, .step y3 h2 h3⟩
  have rb_b : ∀ z, I.testBit z = true → (f' b).testBit z = true → RB z := fun z h1 h2 => (hRB z).2 ⟨z, h1, h2, .refl⟩
  have rb_a : ∀ z, RB z → (f' a).testBit z = true → False := fun z h1 h2 => by
    obtain ⟨y, y1, y2, y3⟩ := (hRB z).1 h1
    exact hno y z y1 y2 h2 y3
  have out_ : ∀ z w, I.testBit z = true → (diff left (2 ^ v)).testBit w = true → (pos w < pos a ∨ pos b < pos w) → (f' z).testBit w = true → False := fun z w h1 h2 h3 h4 => by
    obtain ⟨k1, k2, k3⟩ := (hI z).1 h1
    refine O.no z w a b k1 h2 la lb h4 hab' ?_
    unfold IL; omega
  obtain ⟨K1, hK1⟩ : ∃ K : Nat → Prop, ∀ z, K z ↔ z = a ∨ (I.testBit z = true ∧ ¬ RB z) := ⟨_, fun _ => Iff.rfl⟩
  obtain ⟨K2, hK2⟩ : ∃ K : Nat → Prop, ∀ z, K z ↔ z = b ∨ (I.testBit z = true ∧ RB z) := ⟨_, fun _ => Iff.rfl⟩
  obtain ⟨K3, hK3⟩ : ∃ K : Nat → Prop, ∀ z, K z ↔ z = a ∨ z = b ∨ ((diff left (2 ^ v)).testBit z = true ∧ (pos z < pos a ∨ pos b < pos z)) := ⟨_, fun _ => Iff.rfl⟩
  have edge : ∀ u w, (diff left (2 ^ v)).testBit u = true → (diff left (2 ^ v)).testBit w = true → (f' u).testBit w = true → (K1 u ∧ K1 w) ∨ (K2 u ∧ K2 w) ∨ (K3 u ∧ K3 w) := by
    intro u w hu hw he
    have he' := hs' u w hu hw he
    rw [hK1, hK1, hK2, hK2, hK3, hK3]
    rcases cls u hu with c | c | ⟨c1, c2⟩ | ⟨c1, c2⟩ | c | c <;> rcases cls w hw with d | d | ⟨d1, d2⟩ | ⟨d1, d2⟩ | d | d
    · exact Or.inl ⟨Or.inl c, Or.inl d⟩
    · exact Or.inr (Or.inr ⟨Or.inl c, Or.inr (Or.inl d)⟩)
    · exact Or.inl ⟨Or.inl c, Or.inr ⟨d1, d2⟩⟩
    · subst c; exact (rb_a w d2 he).elim
    · exact Or.inr (Or.inr ⟨Or.inl c, Or.inr (Or.inr ⟨hw, Or.inl d⟩)⟩)
    · exact Or.inr (Or.inr ⟨Or.inl c, Or.inr (Or.inr ⟨hw, Or.inr d⟩)⟩)
    · exact Or.inr (Or.inr ⟨Or.inr (Or.inl c), Or.inl d⟩)
    · exact Or.inr (Or.inl ⟨Or.inl c, Or.inl d⟩)
    · subst c; exact absurd (rb_b w d1 he) d2
    · exact Or.inr (Or.inl ⟨Or.inl c, Or.inr ⟨d1, d2⟩⟩)
    · exact Or.inr (Or.inr ⟨Or.inr (Or.inl c), Or.inr (Or.inr ⟨hw, Or.inl d⟩)⟩)
    · exact Or.inr (Or.inr ⟨Or.inr (Or.inl c), Or.inr (Or.inr ⟨hw, Or.inr d⟩)⟩)
    · exact Or.inl ⟨Or.inr ⟨c1, c2⟩, Or.inl d⟩
    · subst d; exact absurd (rb_b u c1 he') c2
    · exact Or.inl ⟨Or.inr ⟨c1, c2⟩, Or.inr ⟨d1, d2⟩⟩
    · exact absurd (rb_step w u d2 he' c1) c2
    · exact (out_ u w c1 hw (Or.inl d) he).elim
    · exact (out_ u w c1 hw (Or.inr d) he).elim
    · subst d; exact (rb_a u c2 he').elim
    · exact Or.inr (Or.inl ⟨Or.inr ⟨c1, c2⟩, Or.inl d⟩)
    · exact absurd (rb_step u w c2 he d1) d2
    · exact Or.inr (Or.inl ⟨Or.inr ⟨c1, c2⟩, Or.inr ⟨d1, d2⟩⟩)
    · exact (out_ u w c1 hw (Or.inl d) he).elim
    · exact (out_ u w c1 hw (Or.inr d) he).elim
    · exact Or.inr (Or.inr ⟨Or.inr (Or.inr ⟨hu, Or.inl c⟩), Or.inl d⟩)
    · exact Or.inr (Or.inr ⟨Or.inr (Or.inr ⟨hu, Or.inl c⟩), Or.inr (Or.inl d)⟩)
    · exact (out_ w u d1 hu (Or.inl c) he').elim
    · exact (out_ w u d1 hu (Or.inl c) he').elim
    · exact Or.inr (Or.inr ⟨Or.inr (Or.inr ⟨hu, Or.inl c⟩), Or.inr (Or.inr ⟨hw, Or.inl d⟩)⟩)
    · exact Or.inr (Or.inr ⟨Or.inr (Or.inr ⟨hu, Or.inl c⟩), Or.inr (Or.inr ⟨hw, Or.inr d⟩)⟩)
    · exact Or.inr (Or.inr ⟨Or.inr (Or.inr ⟨hu, Or.inr c⟩), Or.inl d⟩)
    · exact Or.inr (Or.inr ⟨Or.inr (Or.inr ⟨hu, Or.inr c⟩), Or.inr (Or.inl d)⟩)
    · exact (out_ w u d1 hu (Or.inr c) he').elim
    · exact (out_ w u d1 hu (Or.inr c) he').elim
    · exact Or.inr (Or.inr ⟨Or.inr (Or.inr ⟨hu, Or.inr c⟩), Or.inr (Or.inr ⟨hw, Or.inl d⟩)⟩)
    · exact Or.inr (Or.inr ⟨Or.inr (Or.inr ⟨hu, Or.inr c⟩), Or.inr (Or.inr ⟨hw, Or.inr d⟩)⟩)
  -- where the groups lie
  have p1 : ∀ z, K1 z → (z = a ∧ P z = N ∧ pos z = pos a) ∨ (pos a < pos z ∧ pos z < N ∧ P z = pos z) := fun z hz => by
    rcases (hK1 z).1 hz with e | ⟨h1, h2⟩
    · subst e; exact Or.inl ⟨rfl, Pa, rfl⟩
    · obtain ⟨k1, k2, k3⟩ := (hI z).1 h1
      exact Or.inr ⟨k2, hNl z ((hL z).1 k1).1, Pi z h1 h2⟩
  have p2 : ∀ z, K2 z → (z = b ∧ P z = N + 2 ∧ pos z = pos b) ∨ (pos z < pos b ∧ pos z < N ∧ P z = N + 3 + pos z) := fun z hz => by
    rcases (hK2 z).1 hz with e | ⟨h1, h2⟩
    · subst e; exact Or.inl ⟨rfl, Pb, rfl⟩
    · obtain ⟨k1, k2, k3⟩ := (hI z).1 h1
      exact Or.inr ⟨k3, hNl z ((hL z).1 k1).1, Pj z h1 h2⟩
  have p3 : ∀ z, K3 z → (P z = N ∧ pos z = pos a) ∨ (P z = N + 2 ∧ pos z = pos b) ∨ (pos z < pos a ∧ P z = 3 * N + 3 + pos z) ∨ (pos b < pos z ∧ pos z < N ∧ P z = 2 * N + 3 + pos z) := fun z hz => by
    rcases (hK3 z).1 hz with e | e | ⟨h1, h2 | h2⟩
    · subst e; exact Or.inl ⟨Pa, rfl⟩
    · subst e; exact Or.inr (Or.inl ⟨Pb, rfl⟩)
    · exact Or.inr (Or.inr (Or.inl ⟨h2, Pk z ((hL z).1 h1).2 h2⟩))
    · exact Or.inr (Or.inr (Or.inr ⟨h2, hNl z ((hL z).1 h1).1, Pl z ((hL z).1 h1).2 h2⟩))
  have b1 : ∀ z, K1 z → P z ≤ N := fun z hz => by rcases p1 z hz with h | h <;> omega
  have b2 : ∀ z, K2 z → N + 2 ≤ P z ∧ P z < 2 * N + 3 := fun z hz => by rcases p2 z hz with h | h <;> omega
  have b3 : ∀ z, K3 z → P z = N ∨ P z = N + 2 ∨ 2 * N + 3 ≤ P z := fun z hz => by rcases p3 z hz with h | h | h | h <;> omega
  have m1 : ∀ z z', K1 z → K1 z' → P z < P z' → lft (pos a + 1) N (pos z) < lft (pos a + 1) N (pos z') := fun z z' hz hz' h => by
    unfold lft
    rcases p1 z hz with k | k <;> rcases p1 z' hz' with k' | k' <;> by_cases c1 : pos z < pos a + 1 <;> by_cases c2 : pos z' < pos a + 1 <;> simp only [c1, c2, if_true, if_false] <;> omega
  have m2 : ∀ z z', K2 z → K2 z' → P z < P z' → lft (pos b) N (pos z) < lft (pos b) N (pos z') := fun z z' hz hz' h => by
    unfold lft
    rcases p2 z hz with k | k <;> rcases p2 z' hz' with k' | k' <;> by_cases c1 : pos z < pos b <;> by_cases c2 : pos z' < pos b <;> simp only [c1, c2, if_true, if_false] <;> omega
  have m3 : ∀ z z', K3 z → K3 z' → P z < P z' → lft (pos a) N (pos z) < lft (pos a) N (pos z') := fun z z' hz hz' h => by
    unfold lft
    rcases p3 z hz with k | k | k | k <;> rcases p3 z' hz' with k' | k' | k' | k' <;> by_cases c1 : pos z < pos a <;> by_cases c2 : pos z' < pos a <;> simp only [c1, c2, if_true, if_false] <;> omega
  have nv : ∀ u, (diff left (2 ^ v)).testBit u = true → P u ≠ N + 1 := fun u hu => by
    have h1 := hNl u ((hL u).1 hu).1
    have h2 := ((hL u).1 hu).2
    rcases cls u hu with c | c | ⟨c1, c2⟩ | ⟨c1, c2⟩ | c | c
    · rw [c, Pa]; omega
    · rw [c, Pb]; omega
    · rw [Pi u c1 c2]; omega
    · rw [Pj u c1 c2]; omega
    · rw [Pk u h2 c]; omega
    · rw [Pl u h2 c]; omega
  have val : ∀ u, (diff left (2 ^ v)).testBit u = true → (pos u = pos a ∧ P u = N) ∨ (pos u = pos b ∧ P u = N + 2) ∨ (pos u < N ∧ P u = pos u) ∨ (pos u < N ∧ P u = N + 3 + pos u) ∨ (pos u < N ∧ P u = 3 * N + 3 + pos u) ∨ (pos u < N ∧ P u = 2 * N + 3 + pos u) := fun u hu => by
    have h1 := hNl u ((hL u).1 hu).1
    have h2 := ((hL u).1 hu).2
    rcases cls u hu with c | c | ⟨c1, c2⟩ | ⟨c1, c2⟩ | c | c
    · exact Or.inl ⟨by rw [c], by rw [c]; exact Pa⟩
    · exact Or.inr (Or.inl ⟨by rw [c], by rw [c]; exact Pb⟩)
    · exact Or.inr (Or.inr (Or.inl ⟨h1, Pi u c1 c2⟩))
    · exact Or.inr (Or.inr (Or.inr (Or.inl ⟨h1, Pj u c1 c2⟩)))
    · exact Or.inr (Or.inr (Or.inr (Or.inr (Or.inl ⟨h1, Pk u h2 c⟩))))
    · exact Or.inr (Or.inr (Or.inr (Or.inr (Or.inr ⟨h1, Pl u h2 c⟩))))
  refine ⟨P, fun u x hu hx e => ?_, fun u w x y hu hw hx hy h1 h2 h => ?_⟩
  · by_cases e1 : u = v
    · by_cases e2 : x = v
      · rw [e1, e2]
      · rw [e1, Pv] at e
        exact absurd e.symm (nv x ((hL x).2 ⟨hx, e2⟩))
    · have lu := (hL u).2 ⟨hu, e1⟩
      by_cases e2 : x = v
      · rw [e2, Pv] at e
        exact absurd e (nv u lu)
      · have lx := (hL x).2 ⟨hx, e2⟩
        have hu2 := hNl u hu
        have hx2 := hNl x hx
        refine O.inj u x lu lx ?_
        rcases val u lu with c | c | c | c | c | c <;> rcases val x lx with d | d | d | d | d | d <;> omega
  · have nb : ∀ z, left.testBit z = true → (f v).testBit z = true → P z = N ∨ P z = N + 1 ∨ P z = N + 2 := fun z hz hb => by
      rcases htwo z hb with e | e
      · rw [e, Pa]; exact Or.inl rfl
      · rw [e, Pb]; exact Or.inr (Or.inr rfl)
    by_cases e1 : u = v
    · have := nb w hw (by rw [← e1]; exact h1)
      rw [e1, Pv] at h
      unfold IL at h; omega
    · by_cases e2 : w = v
      · have := nb u hu (by rw [← e2]; exact hsym u w hu hw h1)
        rw [e2, Pv] at h
        unfold IL at h; omega
      · have lu := (hL u).2 ⟨hu, e1⟩
        have lw := (hL w).2 ⟨hw, e2⟩
        have nu := nv u lu
        have nw := nv w lw
        by_cases e3 : x = v
        · have := nb y hy (by rw [← e3]; exact h2)
          rw [e3, Pv] at h
          unfold IL at h; omega
        · by_cases e4 : y = v
          · have := nb x hx (by rw [← e4]; exact hsym x y hx hy h2)
            rw [e4, Pv] at h
            unfold IL at h; omega
          · have lx := (hL x).2 ⟨hx, e3⟩
            have ly := (hL y).2 ⟨hy, e4⟩
            have f1 := hf' u w hu hw e1 e2 h1
            have f2 := hf' x y hx hy e3 e4 h2
            have hu2 := hNl u hu
            have hw2 := hNl w hw
            have hx2 := hNl x hx
            have hy2 := hNl y hy
            have no := O.no u w x y lu lw lx ly f1 f2
            rcases edge u w lu lw f1 with ⟨k1, k2⟩ | ⟨k1, k2⟩ | ⟨k1, k2⟩ <;> rcases edge x y lx ly f2 with ⟨k3, k4⟩ | ⟨k3, k4⟩ | ⟨k3, k4⟩
            · exact no (IL.rot hu2 hw2 hx2 hy2 (IL.map m1 k1 k2 k3 k4 h))
            · have := b1 u k1; have := b1 w k2; have := b2 x k3; have := b2 y k4
              unfold IL at h; omega
            · have := b1 u k1; have := b1 w k2; have := b3 x k3; have := b3 y k4
              unfold IL at h; omega
            · have := b2 u k1; have := b2 w k2; have := b1 x k3; have := b1 y k4
              unfold IL at h; omega
            · exact no (IL.rot hu2 hw2 hx2 hy2 (IL.map m2 k1 k2 k3 k4 h))
            · have := b2 u k1; have := b2 w k2; have := b3 x k3; have := b3 y k4
              unfold IL at h; omega
            · have := b3 u k1; have := b3 w k2; have := b1 x k3; have := b1 y k4
              unfold IL at h; omega
            · have := b3 u k1; have := b3 w k2; have := b2 x k3; have := b2 y k4
              unfold IL at h; omega
            · exact no (IL.rot hu2 hw2 hx2 hy2 (IL.map m3 k1 k2 k3 k4 h))

end Go.Proofs.YtfmppncefbjicaaDoor

namespace Go.Proofs.YtfmppncefbjicaaDoor
set_option linter.unusedSimpArgs false
set_option linter.unusedVariables false
open Go.RowKit Go.Maps

/-- Sets that hang together along nodes that do, together. -/
theorem uni_cs {n left T y : Nat} {r f S : Nat → Nat} (G : Gp n r) (hS : ∀ u, u < n → left.testBit u = true → Cs n r (S u)) (hE : ∀ u x, u < n → left.testBit u = true → (f u).testBit x = true → Ad r (S u) (S x))
    (hT : ∀ x, T.testBit x = true → x < n ∧ left.testBit x = true) (hy : T.testBit y = true) (hc : ∀ x, T.testBit x = true → Rch f T y x) : Cs n r (uniF n S T) := by
  obtain ⟨hyn, hyl⟩ := hT y hy
  have up : ∀ u x, T.testBit u = true → (S u).testBit x = true → (uniF n S T).testBit x = true := fun u x hu hx => uniF_bit.2 ⟨u, (hT u hu).1, hu, hx⟩
  have key : ∀ x, Rch f T y x → T.testBit x = true ∧ ∀ p q, (S y).testBit p = true → (S x).testBit q = true → Rch r (uniF n S T) p q := by
    intro x h
    induction h with
    | refl => exact ⟨hy, fun p q hp hq => ((hS y hyn hyl).con p q hp hq).mono fun z hz => up y z hy hz⟩
    | @step u x h1 h2 h3 ih =>
      obtain ⟨i1, i2⟩ := ih
      obtain ⟨un, ul⟩ := hT u i1
      obtain ⟨xn, xl⟩ := hT x h3
      obtain ⟨c, d, k1, k2, k3⟩ := hE u x un ul h2
      exact ⟨h3, fun p q hp hq => Rch.trans (.step (i2 p c hp k1) k3 (up x d h3 k2)) (((hS x xn xl).con d q k2 hq).mono fun z hz => up x z h3 hz)⟩
  have hlt : uniF n S T < 2 ^ n := orF_lt _ fun u hu => by
    show (if T.testBit u then S u else 0) < 2 ^ n
    by_cases h : T.testBit u = true
    · rw [if_pos h]; exact (hS u hu (hT u h).2).lt
    · rw [if_neg h]; exact Nat.two_pow_pos n
  obtain ⟨p, hp⟩ := (hS y hyn hyl).ne
  refine ⟨hlt, ⟨p, up y p hy hp⟩, fun a b ha hb => ?_⟩
  obtain ⟨u, _, hu, ha⟩ := uniF_bit.1 ha
  obtain ⟨x, _, hx, hb⟩ := uniF_bit.1 hb
  have h1 := (key u (hc u hu)).2 p a hp ha
  have h2 := (key x (hc x hx)).2 p b hp hb
  have hpn := bit_lt (hS y hyn hyl).lt hp
  exact Rch.trans (h1.symm G.bd G.sym hpn (up y p hy hp)).2 h2
/-- What can be reached is reached within what can be reached. -/
theorem part_in {n I y x : Nat} {f : Nat → Nat} (hr : ∀ i, i < n → f i < 2 ^ n) (hyn : y < n) (h : Rch f I y x) : Rch f (partS n f I y) y x := by
  induction h with
  | refl => exact .refl
  | step h1 h2 h3 ih => exact .step ih h2 (rch_part hyn hr (.step h1 h2 h3))
theorem Ad.up {r : Nat → Nat} {s t t' : Nat} (h : Ad r s t) (ht : ∀ x, t.testBit x = true → t'.testBit x = true) : Ad r s t' := by
  obtain ⟨x, y, h1, h2, h3⟩ := h
  exact ⟨x, y, h1, ht y h2, h3⟩

set_option maxHeartbeats 1000000 in
theorem five_of {n left v a b I1 I2 y1 z1 y2 z2 : Nat} {r f : Nat → Nat} (G : Gq n r) (h : Red n r f left) (hv : left.testBit v = true) (ha : left.testBit a = true) (hb : left.testBit b = true) (hab : a ≠ b) (fva : (f v).testBit a = true) (fvb : (f v).testBit b = true)
    (hI1 : ∀ x, I1.testBit x = true → left.testBit x = true ∧ x ≠ v ∧ x ≠ a ∧ x ≠ b) (hI2 : ∀ x, I2.testBit x = true → left.testBit x = true ∧ x ≠ v ∧ x ≠ a ∧ x ≠ b) (hdj : ∀ x, I1.testBit x = true → I2.testBit x = true → False)
    (hy1 : I1.testBit y1 = true) (e1 : (f b).testBit y1 = true) (e2 : (f a).testBit z1 = true) (R1 : Rch f I1 y1 z1) (hy2 : I2.testBit y2 = true) (e3 : (f a).testBit y2 = true) (e4 : (f b).testBit z2 = true) (R2 : Rch f I2 y2 z2) : Five n r := by
  obtain ⟨S, s1, s2, s3⟩ := h.sets
  have lt : ∀ x, left.testBit x = true → x < n := fun x hx => bit_lt h.lt hx
  have hav : a ≠ v := ((h.in_ v (lt v hv) hv a fva)).2
  have hbv : b ≠ v := ((h.in_ v (lt v hv) hv b fvb)).2
  have fav : (f a).testBit v = true := by rw [h.sym a v (lt a ha) (lt v hv) ha hv]; exact fva
  have fbv : (f b).testBit v = true := by rw [h.sym b v (lt b hb) (lt v hv) hb hv]; exact fvb
  have l1 := hI1 y1 hy1
  have l2 := hI2 y2 hy2
  have T1 : ∀ x, (partS n f I1 y1).testBit x = true → I1.testBit x = true := fun x hx => (part_rch hx).in_ hy1
  have T2 : ∀ x, (partS n f I2 y2).testBit x = true → I2.testBit x = true := fun x hx => (part_rch hx).in_ hy2
  have y1n := lt y1 l1.1
  have y2n := lt y2 l2.1
  have m1 : (partS n f I1 y1).testBit y1 = true := rch_part y1n h.bd .refl
  have m2 : (partS n f I2 y2).testBit y2 = true := rch_part y2n h.bd .refl
  have w1 : (partS n f I1 y1).testBit z1 = true := rch_part y1n h.bd R1
  have w2 : (partS n f I2 y2).testBit z2 = true := rch_part y2n h.bd R2
  have c1 := uni_cs G.toGp s1 s3 (fun x hx => ⟨lt x (hI1 x (T1 x hx)).1, (hI1 x (T1 x hx)).1⟩) m1 fun x hx => part_in h.bd y1n (part_rch hx)
  have c2 := uni_cs G.toGp s1 s3 (fun x hx => ⟨lt x (hI2 x (T2 x hx)).1, (hI2 x (T2 x hx)).1⟩) m2 fun x hx => part_in h.bd y2n (part_rch hx)
  have d1 : ∀ u, left.testBit u = true → (∀ x, (partS n f I1 y1).testBit x = true → x ≠ u) → Dj (S u) (uniF n S (partS n f I1 y1)) := fun u hu hne p hp hq => by
    obtain ⟨x, hxn, hx, hb⟩ := uniF_bit.1 hq
    exact s2 u x (lt u hu) hxn hu (hI1 x (T1 x hx)).1 (Ne.symm (hne x hx)) p hp hb
  have d2 : ∀ u, left.testBit u = true → (∀ x, (partS n f I2 y2).testBit x = true → x ≠ u) → Dj (S u) (uniF n S (partS n f I2 y2)) := fun u hu hne p hp hq => by
    obtain ⟨x, hxn, hx, hb⟩ := uniF_bit.1 hq
    exact s2 u x (lt u hu) hxn hu (hI2 x (T2 x hx)).1 (Ne.symm (hne x hx)) p hp hb
  have d3 : Dj (uniF n S (partS n f I1 y1)) (uniF n S (partS n f I2 y2)) := fun p hp hq => by
    obtain ⟨x, hxn, hx, hb⟩ := uniF_bit.1 hp
    obtain ⟨z, hzn, hz, hc⟩ := uniF_bit.1 hq
    exact s2 x z hxn hzn (hI1 x (T1 x hx)).1 (hI2 z (T2 z hz)).1 (fun e => by subst e; exact hdj x (T1 x hx) (T2 x hz)) p hb hc
  have up1 : ∀ x, (partS n f I1 y1).testBit x = true → ∀ p, (S x).testBit p = true → (uniF n S (partS n f I1 y1)).testBit p = true := fun x hx p hp => uniF_bit.2 ⟨x, lt x (hI1 x (T1 x hx)).1, hx, hp⟩
  have up2 : ∀ x, (partS n f I2 y2).testBit x = true → ∀ p, (S x).testBit p = true → (uniF n S (partS n f I2 y2)).testBit p = true := fun x hx p hp => uniF_bit.2 ⟨x, lt x (hI2 x (T2 x hx)).1, hx, hp⟩
  refine ⟨S a, S b, S v, uniF n S (partS n f I1 y1), uniF n S (partS n f I2 y2), ⟨fun s hs => ?_, ?_⟩, s3 a v (lt a ha) ha fav, (s3 a z1 (lt a ha) ha e2).up (up1 z1 w1), (s3 a y2 (lt a ha) ha e3).up (up2 y2 m2), s3 b v (lt b hb) hb fbv, (s3 b y1 (lt b hb) hb e1).up (up1 y1 m1), (s3 b z2 (lt b hb) hb e4).up (up2 z2 w2)⟩
  · simp only [List.mem_cons, List.not_mem_nil, or_false] at hs
    rcases hs with rfl | rfl | rfl | rfl | rfl
    · exact s1 a (lt a ha) ha
    · exact s1 b (lt b hb) hb
    · exact s1 v (lt v hv) hv
    · exact c1
    · exact c2
  · refine List.pairwise_cons.2 ⟨fun s hs => ?_, List.pairwise_cons.2 ⟨fun s hs => ?_, List.pairwise_cons.2 ⟨fun s hs => ?_, List.pairwise_cons.2 ⟨fun s hs => ?_, List.pairwise_singleton _ _⟩⟩⟩⟩
    · simp only [List.mem_cons, List.not_mem_nil, or_false] at hs
      rcases hs with rfl | rfl | rfl | rfl
      · exact s2 a b (lt a ha) (lt b hb) ha hb hab
      · exact s2 a v (lt a ha) (lt v hv) ha hv hav
      · exact d1 a ha fun x hx => (hI1 x (T1 x hx)).2.2.1
      · exact d2 a ha fun x hx => (hI2 x (T2 x hx)).2.2.1
    · simp only [List.mem_cons, List.not_mem_nil, or_false] at hs
      rcases hs with rfl | rfl | rfl
      · exact s2 b v (lt b hb) (lt v hv) hb hv hbv
      · exact d1 b hb fun x hx => (hI1 x (T1 x hx)).2.2.2
      · exact d2 b hb fun x hx => (hI2 x (T2 x hx)).2.2.2
    · simp only [List.mem_cons, List.not_mem_nil, or_false] at hs
      rcases hs with rfl | rfl
      · exact d1 v hv fun x hx => (hI1 x (T1 x hx)).2.1
      · exact d2 v hv fun x hx => (hI2 x (T2 x hx)).2.1
    · simp only [List.mem_singleton] at hs
      subst hs
      exact d3

theorem at_most_one {n T : Nat} (hT : T < 2 ^ n) (h : szS n T ≤ 1) : ∃ a, ∀ x, T.testBit x = true → x = a := by
  by_cases hc : ∃ a, T.testBit a = true
  · obtain ⟨a, ha⟩ := hc
    refine ⟨a, fun x hx => ?_⟩
    apply Classical.byContradiction
    intro hne
    have h1 := szS_add1 (S := diff T (2 ^ a)) (bit_lt hT ha) diff_not
    rw [diff_or ha] at h1
    have h2 := szS_one (T := diff T (2 ^ a)) (bit_lt hT hx) (left_bits.2 ⟨hx, hne⟩)
    omega
  · exact ⟨0, fun x hx => absurd ⟨x, hx⟩ hc⟩

theorem rch_less {f f' : Nat → Nat} {I y z : Nat} (hI : ∀ u x, I.testBit u = true → I.testBit x = true → (f' u).testBit x = true → (f u).testBit x = true) (hy : I.testBit y = true) (h : Rch f' I y z) : Rch f I y z := by
  induction h with
  | refl => exact .refl
  | step h1 h2 h3 ih => exact .step ih (hI _ _ (h1.in_ hy) h3 h2) h3

set_option maxHeartbeats 1000000 in
theorem out_back {n left v : Nat} {r f pos : Nat → Nat} (G : Gq n r) (hn8 : n ≤ 8) (h : Red n r f left) (hv : v < n) (hl : left.testBit v = true) (hk : szS n (f v) ≤ 2) (O : OutP (doF n f v) (diff left (2 ^ v)) pos) : (∃ P, OutP f left P) ∨ Five n r := by
  have hdb : ∀ {u x : Nat}, u < n → left.testBit u = true → u ≠ v → ((doF n f v u).testBit x = true ↔ x ≠ v ∧ ((f u).testBit x = true ∨ ((f v).testBit u = true ∧ (f v).testBit x = true ∧ x ≠ u))) := fun hu hul huv => do_bit hn8 h.bd hv hk hl h.in_ h.sym hu hul huv
  have R' := red_step G hn8 h hv hl hk
  have lt : ∀ x, left.testBit x = true → x < n := fun x hx => bit_lt h.lt hx
  have hsym : ∀ u x, left.testBit u = true → left.testBit x = true → (f u).testBit x = true → (f x).testBit u = true := fun u x hu hx hb => by rw [h.sym x u (lt x hx) (lt u hu) hx hu]; exact hb
  have hf' : ∀ u x, left.testBit u = true → left.testBit x = true → u ≠ v → x ≠ v → (f u).testBit x = true → (doF n f v u).testBit x = true := fun u x hu hx h1 h2 hb => (hdb (lt u hu) hu h1).2 ⟨h2, Or.inl hb⟩
  by_cases h2 : szS n (f v) = 2
  · obtain ⟨a, b, _, _, hab, han, hbn, hall⟩ := two_bits hn8 (h.bd v hv) h2
    have fva : (f v).testBit a = true := (hall a).2 (Or.inl rfl)
    have fvb : (f v).testBit b = true := (hall b).2 (Or.inr rfl)
    obtain ⟨la, hav⟩ := h.in_ v hv hl a fva
    obtain ⟨lb, hbv⟩ := h.in_ v hv hl b fvb
    have eab : (doF n f v a).testBit b = true := (hdb han la hav).2 ⟨hbv, Or.inr ⟨fva, fvb, Ne.symm hab⟩⟩
    have eba : (doF n f v b).testBit a = true := (hdb hbn lb hbv).2 ⟨hav, Or.inr ⟨fvb, fva, hab⟩⟩
    have hL : ∀ u, (diff left (2 ^ v)).testBit u = true ↔ left.testBit u = true ∧ u ≠ v := fun u => left_bits
    have hs' : ∀ u x, (diff left (2 ^ v)).testBit u = true → (diff left (2 ^ v)).testBit x = true → (doF n f v u).testBit x = true → (doF n f v x).testBit u = true := fun u x hu hx hb => by
      rw [R'.sym x u (lt x ((hL x).1 hx).1) (lt u ((hL u).1 hu).1) hx hu]; exact hb
    obtain ⟨N, hN⟩ := pos_bound pos n
    have hNl : ∀ u, (diff left (2 ^ v)).testBit u = true → pos u < N := fun u hu => hN u (lt u ((hL u).1 hu).1)
    have hlt' := diff_lt' (u := v) h.lt
    -- an edge of the next graph is one of this graph, but for that between the two
    have old : ∀ u x, left.testBit u = true → u ≠ v → x ≠ v → ((u ≠ a ∧ u ≠ b) ∨ (x ≠ a ∧ x ≠ b)) → (doF n f v u).testBit x = true → (f u).testBit x = true := fun u x hu h1 h3 h4 hb => by
      rcases ((hdb (lt u hu) hu h1).1 hb).2 with h5 | ⟨h5, h6, _⟩
      · exact h5
      · have := (hall u).1 h5
        have := (hall x).1 h6
        omega
    -- both ways, a before b
    have main : ∀ (a b : Nat) (pos : Nat → Nat), a ≠ b → (∀ x, (f v).testBit x = true ↔ x = a ∨ x = b) → left.testBit a = true → left.testBit b = true → a ≠ v → b ≠ v → (doF n f v a).testBit b = true → (doF n f v b).testBit a = true →
        (∀ u x, left.testBit u = true → u ≠ v → x ≠ v → ((u ≠ a ∧ u ≠ b) ∨ (x ≠ a ∧ x ≠ b)) → (doF n f v u).testBit x = true → (f u).testBit x = true) → OutP (doF n f v) (diff left (2 ^ v)) pos → (∀ u, (diff left (2 ^ v)).testBit u = true → pos u < N) → pos a < pos b → (∃ P, OutP f left P) ∨ Five n r := by
      intro a b pos hab hall la lb hav hbv eab eba old O hNl hpab
      have Lb := (hL b).2 ⟨lb, hbv⟩
      have La := (hL a).2 ⟨la, hav⟩
      have hNa := hNl a La
      have hNb := hNl b Lb
      by_cases hc1 : ∃ y z, (midS n (diff left (2 ^ v)) pos a b).testBit y = true ∧ (doF n f v b).testBit y = true ∧ (doF n f v a).testBit z = true ∧ Rch (doF n f v) (midS n (diff left (2 ^ v)) pos a b) y z
      · -- the other side
        have O2 := O.rot (lo := pos b) (N := N) hNl
        have e1 : lft (pos b) N (pos b) = pos b := by unfold lft; rw [if_neg (by omega)]
        have e2 : lft (pos b) N (pos a) = pos a + N := by unfold lft; rw [if_pos hpab]
        by_cases hc2 : ∃ y z, (midS n (diff left (2 ^ v)) (fun u => lft (pos b) N (pos u)) b a).testBit y = true ∧ (doF n f v a).testBit y = true ∧ (doF n f v b).testBit z = true ∧ Rch (doF n f v) (midS n (diff left (2 ^ v)) (fun u => lft (pos b) N (pos u)) b a) y z
        · right
          obtain ⟨y1, z1, a1, a2, a3, a4⟩ := hc1
          obtain ⟨y2, z2, b1, b2, b3, b4⟩ := hc2
          have I1 : ∀ x, (midS n (diff left (2 ^ v)) pos a b).testBit x = true → (left.testBit x = true ∧ x ≠ v ∧ x ≠ a ∧ x ≠ b) ∧ pos a < pos x ∧ pos x < pos b := fun x hx => by
            obtain ⟨k1, k2, k3⟩ := (midS_bit hlt').1 hx
            exact ⟨⟨((hL x).1 k1).1, ((hL x).1 k1).2, fun e => by subst e; omega, fun e => by subst e; omega⟩, k2, k3⟩
          have I2 : ∀ x, (midS n (diff left (2 ^ v)) (fun u => lft (pos b) N (pos u)) b a).testBit x = true → (left.testBit x = true ∧ x ≠ v ∧ x ≠ a ∧ x ≠ b) ∧ (pos x < pos a ∨ pos b < pos x) := fun x hx => by
            obtain ⟨k1, k2, k3⟩ := (midS_bit hlt').1 hx
            have hNx := hNl x k1
            simp only [e1, e2] at k2 k3
            have k4 : pos x < pos a ∨ pos b < pos x := by
              unfold lft at k2 k3
              by_cases hx : pos x < pos b
              · rw [if_pos hx] at k2 k3; omega
              · rw [if_neg hx] at k2 k3; omega
            exact ⟨⟨((hL x).1 k1).1, ((hL x).1 k1).2, fun e => by subst e; omega, fun e => by subst e; omega⟩, k4⟩
          have r1 := rch_less (f := f) (fun u x hu hx hb => old u x (I1 u hu).1.1 (I1 u hu).1.2.1 (I1 x hx).1.2.1 (Or.inl (I1 u hu).1.2.2) hb) a1 a4
          have r2 := rch_less (f := f) (fun u x hu hx hb => old u x (I2 u hu).1.1 (I2 u hu).1.2.1 (I2 x hx).1.2.1 (Or.inl (I2 u hu).1.2.2) hb) b1 b4
          have i1 := I1 z1 (a4.in_ a1)
          have i2 := I2 z2 (b4.in_ b1)
          have j1 := I1 y1 a1
          have j2 := I2 y2 b1
          exact five_of G h hl la lb hab ((hall a).2 (Or.inl rfl)) ((hall b).2 (Or.inr rfl)) (fun x hx => (I1 x hx).1) (fun x hx => (I2 x hx).1) (fun x h1 h2 => by have := I1 x h1; have := I2 x h2; omega)
            a1 (old b y1 lb hbv j1.1.2.1 (Or.inr j1.1.2.2) a2) (old a z1 la hav i1.1.2.1 (Or.inr i1.1.2.2) a3) r1 b1 (old a y2 la hav j2.1.2.1 (Or.inr j2.1.2.2) b2) (old b z2 lb hbv i2.1.2.1 (Or.inr i2.1.2.2) b3) r2
        · left
          refine ins2 h.lt hsym (fun x hx => ((hall x).1 hx).symm) hbv hav hl lb la hf' eba hs' O2 ?_ fun y z k1 k2 k3 k4 => hc2 ⟨y, z, k1, k2, k3, k4⟩
          show lft (pos b) N (pos b) < lft (pos b) N (pos a)
          rw [e1, e2]; omega
      · left
        exact ins2 h.lt hsym (fun x hx => (hall x).1 hx) hav hbv hl la lb hf' eab hs' O hpab fun y z k1 k2 k3 k4 => hc1 ⟨y, z, k1, k2, k3, k4⟩
    rcases Nat.lt_trichotomy (pos a) (pos b) with hp | hp | hp
    · exact main a b pos hab hall la lb hav hbv eab eba old O hNl hp
    · exact absurd (O.inj a b ((hL a).2 ⟨la, hav⟩) ((hL b).2 ⟨lb, hbv⟩) hp) hab
    · exact main b a pos (Ne.symm hab) (fun x => (hall x).trans ⟨Or.symm, Or.symm⟩) lb la hbv hav eba eab (fun u x h1 h2 h3 h4 => old u x h1 h2 h3 (by omega)) O hNl hp
  · obtain ⟨a, ha⟩ := at_most_one (h.bd v hv) (show szS n (f v) ≤ 1 by omega)
    exact Or.inl (ins1 hsym ha hl hf' O)

theorem out_chain {n : Nat} {r : Nat → Nat} (G : Gq n r) (hn8 : n ≤ 8) : ∀ k f left L, redT n r k = some (f, left, L) → (∃ P, OutP f left P) → (∃ P, OutP r (2 ^ n - 1) P) ∨ Five n r := by
  intro k
  induction k with
  | zero =>
    intro f left L h hO
    unfold redT at h
    simp only [Option.some.injEq, Prod.mk.injEq] at h
    obtain ⟨rfl, rfl, rfl⟩ := h
    exact Or.inl hO
  | succ k ih =>
    intro f left L h hO
    unfold redT at h
    cases hk : redT n r k with
    | none => rw [hk] at h; cases h
    | some q =>
      obtain ⟨f0, l0, L0⟩ := q
      rw [hk] at h
      simp only at h
      cases hf : fstS n f0 l0 with
      | none => rw [hf] at h; cases h
      | some x =>
        rw [hf] at h
        simp only [Option.some.injEq, Prod.mk.injEq] at h
        obtain ⟨rfl, rfl, rfl⟩ := h
        obtain ⟨P, hO⟩ := hO
        obtain ⟨hx, hlx, hkx⟩ := stp_yes (fst_yes hf)
        rcases out_back G hn8 (redT_red G hn8 k f0 l0 L0 hk).1 hx hlx hkx hO with h | h
        · exact ih f0 l0 L0 hk h
        · exact Or.inr h
theorem out_or {n : Nat} {r : Nat → Nat} (G : Gq n r) (hn8 : n ≤ 8) : (∃ g, OutO n r g) ∨ Four n r ∨ Five n r := by
  cases hr : redT n r n with
  | none => exact Or.inr (Or.inl (red_no G hn8 (by unfold redG; rw [hr]; rfl)))
  | some q =>
    obtain ⟨f, left, L⟩ := q
    obtain ⟨h1, h2, _, _⟩ := redT_red G hn8 n f left L hr
    have hl : left = 0 := sz_zero h1.lt (by omega)
    subst hl
    rcases out_chain G hn8 n f 0 L hr ⟨fun _ => 0, fun u x hu => by simp at hu, fun u v x y hu => by simp at hu⟩ with ⟨P, h⟩ | h
    · exact Or.inl (order_of h)
    · exact Or.inr (Or.inr h)

/-! ### as models -/

def zK23 : Nat → Int := natL [28, 28, 3, 3, 3]
theorem k23_graph : graphB 5 6 zK23 = true := by decide +kernel
theorem five_found {n : Nat} {z : Nat → Int} (hg : graphB n 8 z = true) (h : Five n (natG z)) : (modG n 5 z zK23).isSome = true := by
  obtain ⟨a, b, c, d, e, hF, ac, ad, ae, bc, bd, be⟩ := h
  have G := gp_of hg
  rw [mod_ref hg k23_graph]
  have sp := List.pairwise_cons.1 hF.sep
  have sp2 := List.pairwise_cons.1 sp.2
  have sp3 := List.pairwise_cons.1 sp2.2
  have sp4 := List.pairwise_cons.1 sp3.2
  have cs : ∀ i, i < 5 → Cs n (natG z) ([a, b, c, d, e].getD i 0) := fun i hi => hF.set _ (by
    rw [List.getD_eq_getElem?_getD, List.getElem?_eq_getElem hi]
    exact List.getElem_mem hi)
  have dj : ∀ i j, i < 5 → j < 5 → i < j → Dj ([a, b, c, d, e].getD i 0) ([a, b, c, d, e].getD j 0) := fun i j hi hj hij => by
    have h := List.pairwise_iff_getElem.1 hF.sep i j hi hj hij
    rw [List.getD_eq_getElem?_getD, List.getElem?_eq_getElem hi, List.getD_eq_getElem?_getD, List.getElem?_eq_getElem hj]
    exact h
  have five : ∀ i, i < 5 → i = 0 ∨ i = 1 ∨ i = 2 ∨ i = 3 ∨ i = 4 := fun i hi => by omega
  have sy : ∀ i j, i < 5 → j < 5 → Ad (natG z) ([a, b, c, d, e].getD i 0) ([a, b, c, d, e].getD j 0) → Ad (natG z) ([a, b, c, d, e].getD j 0) ([a, b, c, d, e].getD i 0) := fun i j hi hj h => h.symm G (cs i hi).lt (cs j hj).lt
  have M : ModelOf n 5 (natG z) (natG zK23) (fun i => [a, b, c, d, e].getD i 0) := by
    refine ⟨fun i hi => (cs i hi).lt, fun i hi => (cs i hi).ne, fun i j x hi hj h1 h2 => ?_, fun i x y hi h1 h2 => (cs i hi).con x y h1 h2, fun i j hi hj hp => ?_⟩
    · rcases Nat.lt_trichotomy i j with h | h | h
      · exact (dj i j hi hj h x h1 h2).elim
      · exact h
      · exact (dj j i hj hi h x h2 h1).elim
    · rcases five i hi with rfl | rfl | rfl | rfl | rfl <;> rcases five j hj with rfl | rfl | rfl | rfl | rfl <;> first
        | exact absurd hp (by decide)
        | exact ac
        | exact ad
        | exact ae
        | exact bc
        | exact bd
        | exact be
        | exact sy 0 2 (by omega) (by omega) ac
        | exact sy 0 3 (by omega) (by omega) ad
        | exact sy 0 4 (by omega) (by omega) ae
        | exact sy 1 2 (by omega) (by omega) bc
        | exact sy 1 3 (by omega) (by omega) bd
        | exact sy 1 4 (by omega) (by omega) be
  have h2 := refM_found M (graphB_le hg).2.1 (lt_graph hg)
  cases h3 : refM n 5 (natG z) (natG zK23) with
  | none => exact absurd h3 h2
  | some _ => rfl
theorem found_sets {n q : Nat} {z y : Nat → Int} (hg : graphB n 8 z = true) (hp : graphB q 6 y = true) (h : (modG n q z y).isSome = true) :
    ∃ L : List Nat, (∀ i, i < q → Cs n (natG z) (L.getD i 0)) ∧ (∀ i j, i < q → j < q → i ≠ j → Dj (L.getD i 0) (L.getD j 0)) ∧ ∀ i j, i < q → j < q → (natG y i).testBit j = true → Ad (natG z) (L.getD i 0) (L.getD j 0) := by
  rw [mod_ref hg hp] at h
  cases h1 : refM n q (natG z) (natG y) with
  | none => rw [h1] at h; cases h
  | some L =>
    obtain ⟨_, M, _⟩ := refM_model h1 (graphB_le hg).2.1 (lt_graph hg) (g_sym hg) (g_sym hp) (g_loop hp)
    exact ⟨L, fun i hi => ⟨M.lt i hi, M.some_ i hi, fun x y => M.conn i x y hi⟩, fun i j hi hj hne x h1 h2 => hne (M.apart i j x hi hj h1 h2), fun i j hi hj hp => M.edge i j hi hj hp⟩
theorem found_five {n : Nat} {z : Nat → Int} (hg : graphB n 8 z = true) (h : (modG n 5 z zK23).isSome = true) : Five n (natG z) := by
  obtain ⟨L, cs, dj, ad⟩ := found_sets hg k23_graph h
  refine ⟨L.getD 0 0, L.getD 1 0, L.getD 2 0, L.getD 3 0, L.getD 4 0, ⟨fun s hs => ?_, ?_⟩, ad 0 2 (by omega) (by omega) (by decide), ad 0 3 (by omega) (by omega) (by decide), ad 0 4 (by omega) (by omega) (by decide), ad 1 2 (by omega) (by omega) (by decide), ad 1 3 (by omega) (by omega) (by decide), ad 1 4 (by omega) (by omega) (by decide)⟩
  · simp only [List.mem_cons, List.not_mem_nil, or_false] at hs
    rcases hs with rfl | rfl | rfl | rfl | rfl
    · exact cs 0 (by omega)
    · exact cs 1 (by omega)
    · exact cs 2 (by omega)
    · exact cs 3 (by omega)
    · exact cs 4 (by omega)
  · refine List.pairwise_cons.2 ⟨fun s hs => ?_, List.pairwise_cons.2 ⟨fun s hs => ?_, List.pairwise_cons.2 ⟨fun s hs => ?_, List.pairwise_cons.2 ⟨fun s hs => ?_, List.pairwise_singleton _ _⟩⟩⟩⟩
    · simp only [List.mem_cons, List.not_mem_nil, or_false] at hs
      rcases hs with rfl | rfl | rfl | rfl
      · exact dj 0 1 (by omega) (by omega) (by omega)
      · exact dj 0 2 (by omega) (by omega) (by omega)
      · exact dj 0 3 (by omega) (by omega) (by omega)
      · exact dj 0 4 (by omega) (by omega) (by omega)
    · simp only [List.mem_cons, List.not_mem_nil, or_false] at hs
      rcases hs with rfl | rfl | rfl
      · exact dj 1 2 (by omega) (by omega) (by omega)
      · exact dj 1 3 (by omega) (by omega) (by omega)
      · exact dj 1 4 (by omega) (by omega) (by omega)
    · simp only [List.mem_cons, List.not_mem_nil, or_false] at hs
      rcases hs with rfl | rfl
      · exact dj 2 3 (by omega) (by omega) (by omega)
      · exact dj 2 4 (by omega) (by omega) (by omega)
    · simp only [List.mem_singleton] at hs
      subst hs
      exact dj 3 4 (by omega) (by omega) (by omega)
theorem found_four' {n : Nat} {z : Nat → Int} (hg : graphB n 8 z = true) (h : (modG n 4 z (kz 4)).isSome = true) : Four n (natG z) := by
  obtain ⟨L, cs, dj, ad⟩ := found_sets hg (kz_graph 4 (by omega) (by omega)) h
  refine ⟨L.getD 0 0, L.getD 1 0, L.getD 2 0, L.getD 3 0, ⟨fun s hs => ?_, ?_⟩, ad 0 1 (by omega) (by omega) (by decide), ad 0 2 (by omega) (by omega) (by decide), ad 0 3 (by omega) (by omega) (by decide), ad 1 2 (by omega) (by omega) (by decide), ad 1 3 (by omega) (by omega) (by decide), ad 2 3 (by omega) (by omega) (by decide)⟩
  · simp only [List.mem_cons, List.not_mem_nil, or_false] at hs
    rcases hs with rfl | rfl | rfl | rfl
    · exact cs 0 (by omega)
    · exact cs 1 (by omega)
    · exact cs 2 (by omega)
    · exact cs 3 (by omega)
  · refine List.pairwise_cons.2 ⟨fun s hs => ?_, List.pairwise_cons.2 ⟨fun s hs => ?_, List.pairwise_cons.2 ⟨fun s hs => ?_, List.pairwise_singleton _ _⟩⟩⟩
    · simp only [List.mem_cons, List.not_mem_nil, or_false] at hs
      rcases hs with rfl | rfl | rfl
      · exact dj 0 1 (by omega) (by omega) (by omega)
      · exact dj 0 2 (by omega) (by omega) (by omega)
      · exact dj 0 3 (by omega) (by omega) (by omega)
    · simp only [List.mem_cons, List.not_mem_nil, or_false] at hs
      rcases hs with rfl | rfl
      · exact dj 1 2 (by omega) (by omega) (by omega)
      · exact dj 1 3 (by omega) (by omega) (by omega)
    · simp only [List.mem_singleton] at hs
      subst hs
      exact dj 2 3 (by omega) (by omega) (by omega)

/-- What the law asks of an outer order. -/
theorem round_yes {n : Nat} {z : Nat → Int} {L : List Nat} (hg : graphB n 8 z = true) (h : outL n (natG z) n [] = some L) : (modG n 4 z (kz 4)).isSome = false ∧ (modG n 5 z zK23).isSome = false ∧ (redG n (natG z)).isSome = true ∧ L.length = n ∧ OutO n (natG z) (atN L) := by
  have G := gq_of hg
  obtain ⟨i1, i2, i3, i4, _⟩ := outL_good _ _ _ h (fun i hi => by simp at hi) (fun i j hi => by simp at hi) (fun m hm => by simp at hm)
  have hl : L.length = n := by simpa using i1
  rw [hl] at i2 i3 i4
  have O : OutO n (natG z) (atN L) := ⟨i2, i3, i4⟩
  obtain ⟨P, hP⟩ := places_of G.toGp O
  have n4 := no_four G.toGp hP
  refine ⟨?_, ?_, ?_, hl, O⟩
  · cases hm : (modG n 4 z (kz 4)).isSome
    · rfl
    · exact absurd (found_four' hg hm) n4
  · cases hm : (modG n 5 z zK23).isSome
    · rfl
    · exact absurd (found_five hg hm) (no_five G.toGp hP)
  · cases hr : redG n (natG z) with
    | none => exact absurd (red_no G (graphB_le hg).2.1 hr) n4
    | some _ => rfl
theorem round_no {n : Nat} {z : Nat → Int} (hg : graphB n 8 z = true) (h : outL n (natG z) n [] = none) : (!(modG n 4 z (kz 4)).isSome && !(modG n 5 z zK23).isSome) = false := by
  rcases out_or (gq_of hg) (graphB_le hg).2.1 with ⟨g, O⟩ | h4 | h5
  · exact absurd h (outL_found O n 0 (by omega))
  · rw [four_found hg h4]; rfl
  · rw [five_found hg h5]; simp

end Go.Proofs.YtfmppncefbjicaaDoor

namespace Go.Proofs.YtfmppncefbjicaaDoor
set_option linter.unusedSimpArgs false
set_option linter.unusedVariables false
open Go.RowKit Go.Maps

def intL (z : Nat → Int) (m : Nat) : List Value := (List.range m).map fun i => Value.int .i64 (z i)

/-- Numbers that may be written. -/
structure Mine (w : World) (g m : Nat) (z : Nat → Int) : Prop where
  lt : g < w.heap.size
  cell : ∀ i, i < m → w.cell? ⟨g, i, none⟩ = some (.int .i64 (z i))
  free : ∀ i, i < m → w.frozen? ⟨g, i, none⟩ = false

theorem Mine.set {w : World} {g m : Nat} {z : Nat → Int} (h : Mine w g m z) {k : Nat} (hk : k < m) (v : Int) : Mine (w.setCell ⟨g, k, none⟩ (.int .i64 v)) g m (fun t => if t = k then v else z t) := by
  refine ⟨by simpa [World.setCell] using h.lt, fun t ht => ?_, fun t ht => ?_⟩
  · by_cases e : t = k
    · subst e
      rw [if_pos rfl]
      exact World.cell?_setCell_same w _ _ (h.cell t ht)
    · rw [if_neg e, World.cell?_setCell_other w ⟨g, k, none⟩ ⟨g, t, none⟩ _ (by intro e2; injection e2; omega)]
      exact h.cell t ht
  · rw [World.frozen?_setCell]; exact h.free t ht
theorem Mine.other {w : World} {g m : Nat} {z : Nat → Int} (h : Mine w g m z) {b : Nat} (hb : g ≠ b) (k : Nat) (v : Value) : Mine (w.setCell ⟨b, k, none⟩ v) g m z := by
  have hh : (w.setCell ⟨b, k, none⟩ v).heap[g]? = w.heap[g]? := Below.heap_setCell _ _ _ _ hb
  exact ⟨by simpa [World.setCell] using h.lt, fun t ht => by rw [World.cell?_of_block (a := ⟨g, t, none⟩) hh]; exact h.cell t ht, fun t ht => by rw [World.frozen?_of_block (a := ⟨g, t, none⟩) hh]; exact h.free t ht⟩
theorem Mine.below {w w' : World} {g m : Nat} {z : Nat → Int} (h : Mine w g m z) (hb : Below w.heap.size w w') : Mine w' g m z :=
  ⟨Nat.lt_of_lt_of_le h.lt hb.size, fun t ht => by rw [hb.cell (p := ⟨g, t, none⟩) h.lt]; exact h.cell t ht, fun t ht => by rw [hb.frozen (p := ⟨g, t, none⟩) h.lt]; exact h.free t ht⟩
theorem Mine.by {w w' : World} {g m : Nat} {z : Nat → Int} {row : Option Nat} (h : Mine w g m z) (hg : w.grownBy w' row) (hr : some g ≠ row) : Mine w' g m z := by
  have hh := hg.block g h.lt hr
  exact ⟨Nat.lt_of_lt_of_le h.lt hg.size, fun t ht => by rw [World.cell?_of_block (a := ⟨g, t, none⟩) hh]; exact h.cell t ht, fun t ht => by rw [World.frozen?_of_block (a := ⟨g, t, none⟩) hh]; exact h.free t ht⟩
theorem Mine.mono {w : World} {g m m' : Nat} {z z' : Nat → Int} (h : Mine w g m z) (hm : m' ≤ m) (he : ∀ i, i < m' → z' i = z i) : Mine w g m' z' :=
  ⟨h.lt, fun t ht => by rw [he t ht]; exact h.cell t (by omega), fun t ht => h.free t (by omega)⟩

theorem Mine.ints {w : World} {g m : Nat} {z : Nat → Int} (h : Mine w g m z) (hm : m ≤ maxLen) : IntsAt w (some ⟨g, 0, none⟩) m z :=
  ⟨hm, fun _ => ⟨g, 0, rfl, h.lt, fun i hi => by rw [Nat.zero_add]; exact h.cell i hi⟩⟩

theorem own_mine {w : World} {base : Nat} {v : Value} {n : Nat} {z : Nat → Int} (h : w.ownsRow base 3 1 v n (intL z n)) (hn : 0 < n) : ∃ g cap, v = .slice (some ⟨g, 0, none⟩) n cap ∧ v.ownBlock = some g ∧ base ≤ g ∧ n ≤ cap ∧ cap ≤ maxLen ∧ Mine w g n z := by
  rcases h.2 with h1 | ⟨g, cap, cur, hv, hg, hh, h1, h2, h3, h4⟩
  · omega
  · subst hv
    refine ⟨g, cap, rfl, rfl, hg, h1, h2, (Array.getElem?_eq_some_iff.1 hh).1, fun i hi => ?_, fun i hi => ?_⟩
    · rw [World.ownsRow.cellAt h i (by omega)]
      exact map_range_get _ hi
    · simp [World.frozen?, hh]
theorem Mine.drewN {w : World} {g m : Nat} {z : Nat → Int} (h : Mine w g m z) (k : Nat) : Mine (w.drewN k) g m z := ⟨h.lt, h.cell, h.free⟩


def OwnPost (n : Nat) (z : Nat → Int) (w : World) (e : Ending) (w' : World) : Prop :=
  ∃ v, e = .returned v ∧ w'.ownsRow w.heap.size 3 1 v n (intL z n) ∧ Below w.heap.size w w'

set_option maxRecDepth 20000 in
set_option maxHeartbeats 1000000 in
theorem CloneI_own (n : Nat) (z : Nat → Int) (v : Value) (w : World) (hn : n ≤ 1000000) (h : SliceArg w v n z) : Calls Tryd.prog 54 #[v] w (OwnPost n z w) := by
  obtain ⟨i0, hi0, hz1, hz2, hz3⟩ := info_parts info_int
  have hq := fun w a n c => Lib.run_eql_slice_nil (P := Tryd.prog) w 22 3 a n c 0 0 Tryd.underlying22
  rcases h with ⟨rfl, rfl⟩ | ⟨x, cap, rfl, h1, h2, h3⟩
  · go_enter Tryd.func54, Tryd.ntmps54
    go_wp2
    go_ret
    exact ⟨_, rfl, ⟨rfl, Or.inl ⟨rfl, rfl⟩⟩, Below.refl _ _⟩
  · go_enter Tryd.func54, Tryd.ntmps54
    unfold maxLen at h2
    have hnews : ∀ j u, ((List.range n).map fun i => Value.int .i64 (z i))[j]? = some u → (w.alloc (.cells #[] 3)).cell? (x.add j) = some u := by
      intro j u hu
      by_cases hj : j < n
      · rw [map_range_get _ hj] at hu
        cases hu
        obtain ⟨b, off, rfl, h4, h5⟩ := h3 (by omega)
        have e1 : (⟨b, off, none⟩ : Addr).add j = ⟨b, off + j, none⟩ := by
          unfold Addr.add
          split
          · rename_i h0; subst h0; rfl
          · rfl
        rw [e1, ((Below.refl w.heap.size w).alloc (Nat.le_refl _) _).cell (p := ⟨b, off + j, none⟩) h4]
        exact h5 j hj
      · simp [hj] at hu
    have HN := Lib.hid hnews
    clear hnews
    go_wp2_with (at_builtin; refine wpList_append_own _ rfl _ _ 22 rfl w.heap.size 3 i0 (.int .i64 0) 1 8 Tryd.underlying22 hi0 hz1 hz2 hz3 rfl (by decide) _ _ _ rfl (World.ownsRow_made w #[] 0 (Nat.le_refl _) (Nat.zero_le _) rfl) x n cap ((List.range n).map fun i => Value.int .i64 (z i)) rfl (by simp) HN.out ?c2 ?c3 ?c4 ?c5 ?_)
    case c2 => intro u hu; obtain ⟨i, _, rfl⟩ := List.mem_map.1 hu; rfl
    case c3 => unfold maxLen; omega
    case c4 => omega
    case c5 => simp
    intro v' w1 hown hgr _
    have HO := Lib.hid hown
    have HG := Lib.hid hgr
    clear hown hgr
    go_wp2_with fail
    go_ret
    have ho := HO.out
    have hb : Below w.heap.size w w1 := ((Below.refl w.heap.size w).alloc (Nat.le_refl _) _).grown HG.out (by simp) (fun k hk => by simp [Value.ownBlock] at hk; omega)
    try simp only [Nat.zero_add, List.nil_append] at ho
    exact ⟨_, rfl, ho, hb⟩

def backZ (m : Nat) (z : Nat → Int) (k : Nat) : Int := z (m - 1 - k)
/-- Numbers whose outer ones have been turned. -/
def rvZ (n : Nat) (z : Nat → Int) (i t : Nat) : Int := if t < i ∨ n ≤ t + i then z (n - 1 - t) else z t

set_option maxRecDepth 20000 in
set_option maxHeartbeats 2000000 in
theorem Reverse_any {n : Nat} {z : Nat → Int} {g : Nat} (cap : Nat) {w : World} (hn : n ≤ 1000000) (h0 : 0 < n) (hM : Mine w g n z) :
    Calls Tryd.prog 55 #[.slice (some ⟨g, 0, none⟩) n cap] w fun e w' => e = .returned (.tuple #[]) ∧ Mine w' g n (backZ n z) ∧ Below g w w' := by
  have HM := Lib.hid hM
  clear hM
  go_enter Tryd.func55, Tryd.ntmps55
  go_wp2_with fail
  go_loopw [2, 3] (fun a b wr => ∃ i : Nat, 2 * i ≤ n ∧ a = .int .i64 i ∧ b = .int .i64 ((n : Int) - 1 - i) ∧ Mine wr g n (rvZ n z i) ∧ Below g w wr) (fun a _ _ => n - (intOf a).toNat)
  case atStart => exact ⟨0, by omega, rfl, by simp, HM.out.mono (Nat.le_refl _) (fun t ht => by unfold rvZ; rw [if_neg (by omega)]), Below.refl _ _⟩
  case round =>
    obtain ⟨i, hi, rfl, rfl, hM, hb⟩ := hrel
    have HM2 := Lib.hid hM
    have HB := Lib.hid hb
    clear hM hb
    by_cases hij : i < n - 1 - i
    · obtain ⟨j, hj⟩ : ∃ j, j = n - 1 - i := ⟨_, rfl⟩
      rw [show (n : Int) - 1 - i = j by omega]
      have hin : i < n := by omega
      have hjn : j < n := by omega
      have hlt : i < j := by omega
      have hfi : rvZ n z i i = z i := by unfold rvZ; rw [if_neg (by omega)]
      have hfj : rvZ n z i j = z j := by unfold rvZ; rw [if_neg (by omega)]
      have MD : Mine wr.drew g n (rvZ n z i) := HM2.out.drewN 1
      have ci := MD.cell i hin
      have cj := MD.cell j hjn
      have fi := MD.free i hin
      have fj := MD.free j hjn
      have gl := MD.lt
      have MD2 := Lib.hid MD
      clear MD
      have HJ := Lib.hid hj
      clear hj hij
      rw [hfi] at ci
      rw [hfj] at cj
      generalize z i = x at *
      generalize z j = y at *
      have cj2 : (wr.drew.setCell ⟨g, i, none⟩ (.int .i64 y)).cell? ⟨g, j, none⟩ = some (.int .i64 y) := by
        rw [World.cell?_setCell_other wr.drew ⟨g, i, none⟩ ⟨g, j, none⟩ _ (by intro e2; injection e2; omega)]; exact cj
      have cj3 : (wr.setCell ⟨g, i, none⟩ (.int .i64 y)).cell? ⟨g, j, none⟩ = some (.int .i64 y) := cj2
      have fj3 : (wr.setCell ⟨g, i, none⟩ (.int .i64 y)).frozen? ⟨g, j, none⟩ = false := by rw [World.frozen?_setCell]; exact fj
      have gl3 : g < (wr.setCell ⟨g, i, none⟩ (.int .i64 y)).heap.size := by simpa [World.setCell] using gl
      go_upto_region 3 with fail
      go_region_law (fail "no")
      all_goals
        have hf : ∀ t, t < n → rvZ n z (i + 1) t = if t = j then x else if t = i then y else rvZ n z i t := fun t ht => by
          have hj := HJ.out
          unfold rvZ at hfi hfj ⊢
          rw [if_neg (by omega)] at hfi hfj
          by_cases e1 : t = j
          · subst e1
            rw [if_pos (by omega), if_pos rfl, ← hfi]; congr 1; omega
          · rw [if_neg e1]
            by_cases e2 : t = i
            · subst e2
              rw [if_pos (by omega), if_pos rfl, ← hfj]; congr 1; omega
            · rw [if_neg e2]
              by_cases e3 : t < i ∨ n ≤ t + i
              · rw [if_pos e3, if_pos (by omega)]
              · rw [if_neg e3, if_neg (by omega)]
        have MF := Lib.hid ((((HM2.out.set hin y).set hjn x).mono (Nat.le_refl _) hf).drewN 1)
        have HBF := Lib.hid (below_drewN ((HB.out.setCell (p := ⟨g, i, none⟩) (Nat.le_refl _) (.int .i64 y)).setCell (p := ⟨g, j, none⟩) (Nat.le_refl _) (.int .i64 x)) 1)
        clear hf
        go_wp2_with fail
        go_roundw
        case rel => exact ⟨i + 1, by have := HJ.out; omega, by go_num, congrArg (Value.int .i64) (by have := HJ.out; omega), MF.out, HBF.out⟩
        case measure => simp [intOf]; omega
    · have d1 : decide ((i : Int) < (n : Int) - 1 - i) = false := by simp; omega
      have MF := Lib.hid (HM2.out.mono (z' := backZ n z) (Nat.le_refl _) (fun t ht => by
        unfold backZ rvZ
        split
        · rfl
        · congr 1; omega))
      go_wp2_with fail
      go_end0
      exact ⟨rfl, MF.out, HB.out⟩

set_option maxRecDepth 20000 in
set_option maxHeartbeats 1000000 in
theorem Reverse_none (a : Option Addr) (cap : Nat) (w : World) :
    Calls Tryd.prog 55 #[.slice a 0 cap] w fun e w' => e = .returned (.tuple #[]) ∧ w = w' := by
  go_enter Tryd.func55, Tryd.ntmps55
  go_wp2_with fail
  go_loopw [2, 3] (fun a b wr => a = .int .i64 0 ∧ b = .int .i64 (-1) ∧ w = wr) (fun _ _ _ => 0)
  case atStart => exact ⟨rfl, rfl, rfl⟩
  case round =>
    obtain ⟨rfl, rfl, rfl⟩ := hrel
    go_wp2_with fail
    go_end0
    exact ⟨rfl, rfl⟩

/-- slices.Reverse over numbers of one's own. -/
theorem Reverse_own {n : Nat} {z : Nat → Int} {v : Value} {base : Nat} {w : World} (hn : n ≤ 1000000) (h : w.ownsRow base 3 1 v n (intL z n)) :
    Calls Tryd.prog 55 #[v] w fun e w' => e = .returned (.tuple #[]) ∧ (∃ a cap, v = .slice a n cap ∧ IntsAt w' a n (backZ n z)) ∧ Below base w w' := by
  by_cases h0 : n = 0
  · subst h0
    obtain ⟨a, cap, rfl⟩ := own_form h
    refine (Reverse_none a cap w).mono ?_
    rintro e w' ⟨rfl, rfl⟩
    exact ⟨rfl, ⟨a, cap, rfl, ⟨by decide, fun h => absurd h (by omega)⟩⟩, Below.refl _ _⟩
  · obtain ⟨g, cap, rfl, _, hg, hc, hc2, hM⟩ := own_mine h (by omega)
    refine (Reverse_any cap hn (by omega) hM).mono ?_
    rintro e w' ⟨rfl, hM2, hb⟩
    exact ⟨rfl, ⟨_, cap, rfl, hM2.ints (by unfold maxLen; omega)⟩, hb.mono hg⟩

/-- An order backward. -/
def backF (n : Nat) (g : Nat → Nat) (i : Nat) : Nat := g (n - 1 - i)
theorem OutO.back {n : Nat} {r g : Nat → Nat} (O : OutO n r g) (hs : ∀ u x, u < n → x < n → (r u).testBit x = (r x).testBit u) : OutO n r (backF n g) := by
  refine ⟨fun i hi => O.lt _ (by omega), fun i j hi hj h => ?_, fun m hm => ?_⟩
  · have := O.inj _ _ (by omega) (by omega) h; omega
  · rw [Bool.eq_false_iff]
    intro h
    obtain ⟨i, j, k, h1, h2, h3, h5, h6⟩ := crB_iff.1 h
    unfold backF at h5 h6
    have hno := O.no (n - 1 - i) (by omega)
    rw [Bool.eq_false_iff] at hno
    refine hno (crB_iff.2 ⟨n - 1 - m, n - 1 - k, n - 1 - j, by omega, by omega, by omega, ?_, ?_⟩)
    · rw [hs _ _ (O.lt _ (by omega)) (O.lt _ (by omega))]; exact h6
    · rw [hs _ _ (O.lt _ (by omega)) (O.lt _ (by omega))]; exact h5
theorem metO_some {x : Nat → Int} {v : Nat} : ∀ k, (metO x k).testBit v = true → ∃ i, i < k ∧ (x i).toNat = v := by
  intro k
  induction k with
  | zero => intro h; simp [metO] at h
  | succ k ih =>
    intro h
    rw [show metO x (k + 1) = metO x k ||| 2 ^ (x k).toNat from rfl, Nat.testBit_or, Bool.or_eq_true, Nat.testBit_two_pow, decide_eq_true_eq] at h
    rcases h with h | h
    · obtain ⟨i, h1, h2⟩ := ih h
      exact ⟨i, by omega, h2⟩
    · exact ⟨k, by omega, h⟩
theorem isO_of {n : Nat} {r g : Nat → Nat} {x : Nat → Int} (O : OutO n r g) (hx : ∀ i, i < n → x i = (g i : Nat)) : isO n r n x = true := by
  have ht : ∀ i, i < n → (x i).toNat = g i := fun i hi => by rw [hx i hi, Int.toNat_natCast]
  refine isO_good (ordB_good fun k hk => ?_) fun e he => ?_
  · unfold okO
    rw [Bool.and_eq_true]
    refine ⟨inB_true (by rw [hx k hk]; omega) (by rw [hx k hk]; have := O.lt k hk; omega), ?_⟩
    rw [Bool.not_eq_true', Bool.eq_false_iff]
    intro h
    obtain ⟨i, hi, e⟩ := metO_some k h
    rw [ht i (by omega), ht k hk] at e
    have := O.inj i k (by omega) hk e
    omega
  · rw [crB_congr (g' := g) fun i hi => ht i (by omega)]
    exact O.no e he

end Go.Proofs.YtfmppncefbjicaaDoor
