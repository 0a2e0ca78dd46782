/- Package minor: families of sets in a graph; where each has three neighbours there are four that are all neighbours of each other. -/
import Derived.Test.YtfmppncefbjicaaDoorNc
namespace Go.Proofs.YtfmppncefbjicaaDoor
set_option linter.unusedSimpArgs false
set_option linter.unusedVariables false
open Go.RowKit Go.Maps

/-- Two sets of nodes with an edge between them. -/
def Ad (r : Nat → Nat) (s t : Nat) : Prop := ∃ x y, s.testBit x = true ∧ t.testBit y = true ∧ (r x).testBit y = true
/-- A set that hangs together. -/
structure Cs (n : Nat) (r : Nat → Nat) (s : Nat) : Prop where
  lt : s < 2 ^ n
  ne : ∃ x, s.testBit x = true
  con : ∀ x y, s.testBit x = true → s.testBit y = true → Rch r s x y
def Dj (s t : Nat) : Prop := ∀ x, s.testBit x = true → t.testBit x = true → False
theorem Dj.symm {s t : Nat} (h : Dj s t) : Dj t s := fun x a b => h x b a
/-- A graph in plain words. -/
structure Gp (n : Nat) (r : Nat → Nat) : Prop where
  bd : ∀ i, i < n → r i < 2 ^ n
  sym : ∀ u x, u < n → x < n → (r u).testBit x = (r x).testBit u
theorem Ad.symm {n : Nat} {r : Nat → Nat} (G : Gp n r) {s t : Nat} (hs : s < 2 ^ n) (ht : t < 2 ^ n) (h : Ad r s t) : Ad r t s := by
  obtain ⟨x, y, h1, h2, h3⟩ := h
  exact ⟨y, x, h2, h1, by rw [G.sym y x (bit_lt ht h2) (bit_lt hs h1)]; exact h3⟩
theorem Cs.or {n : Nat} {r : Nat → Nat} (G : Gp n r) {s t : Nat} (hs : Cs n r s) (ht : Cs n r t) (h : Ad r s t) : Cs n r (s ||| t) := by
  have h' := h.symm G hs.lt ht.lt
  have ms : ∀ x, s.testBit x = true → (s ||| t).testBit x = true := fun x hx => by rw [Nat.testBit_or, hx]; rfl
  have mt : ∀ x, t.testBit x = true → (s ||| t).testBit x = true := fun x hx => by rw [Nat.testBit_or, hx, Bool.or_true]
  refine ⟨Nat.or_lt_two_pow hs.lt ht.lt, by obtain ⟨x, hx⟩ := hs.ne; exact ⟨x, ms x hx⟩, fun x y hx hy => ?_⟩
  rw [Nat.testBit_or, Bool.or_eq_true] at hx hy
  obtain ⟨a, b, h1, h2, h3⟩ := h
  obtain ⟨c, d, k1, k2, k3⟩ := h'
  rcases hx with hx | hx <;> rcases hy with hy | hy
  · exact (hs.con x y hx hy).mono ms
  · exact Rch.trans (.step ((hs.con x a hx h1).mono ms) h3 (mt b h2)) ((ht.con b y h2 hy).mono mt)
  · exact Rch.trans (.step ((ht.con x c hx k1).mono mt) k3 (ms d k2)) ((hs.con d y k2 hy).mono ms)
  · exact (ht.con x y hx hy).mono mt
theorem Ad.left {r : Nat → Nat} {s t u : Nat} (h : Ad r s u) : Ad r (s ||| t) u := by
  obtain ⟨x, y, h1, h2, h3⟩ := h
  exact ⟨x, y, by rw [Nat.testBit_or, h1]; rfl, h2, h3⟩
theorem Ad.right {r : Nat → Nat} {s t u : Nat} (h : Ad r t u) : Ad r (s ||| t) u := by
  obtain ⟨x, y, h1, h2, h3⟩ := h
  exact ⟨x, y, by rw [Nat.testBit_or, h1, Bool.or_true], h2, h3⟩
theorem Ad.of_or {r : Nat → Nat} {s t u : Nat} (h : Ad r u (s ||| t)) : Ad r u s ∨ Ad r u t := by
  obtain ⟨x, y, h1, h2, h3⟩ := h
  rw [Nat.testBit_or, Bool.or_eq_true] at h2
  rcases h2 with h2 | h2
  · exact Or.inl ⟨x, y, h1, h2, h3⟩
  · exact Or.inr ⟨x, y, h1, h2, h3⟩
theorem Dj.or {s t u : Nat} (h1 : Dj s u) (h2 : Dj t u) : Dj (s ||| t) u := fun x a b => by
  rw [Nat.testBit_or, Bool.or_eq_true] at a
  rcases a with a | a
  · exact h1 x a b
  · exact h2 x a b

/-- A family of such sets, no two with a node in common. -/
structure Fam (n : Nat) (r : Nat → Nat) (l : List Nat) : Prop where
  set : ∀ s ∈ l, Cs n r s
  sep : l.Pairwise Dj
theorem Fam.perm {n : Nat} {r : Nat → Nat} {l l' : List Nat} (h : Fam n r l) (hp : l.Perm l') : Fam n r l' :=
  ⟨fun s hs => h.set s (hp.mem_iff.2 hs), (hp.pairwise_iff (fun h => Dj.symm h)).1 h.sep⟩
theorem Fam.tail {n : Nat} {r : Nat → Nat} {s : Nat} {l : List Nat} (h : Fam n r (s :: l)) : Fam n r l :=
  ⟨fun t ht => h.set t (List.mem_cons_of_mem _ ht), (List.pairwise_cons.1 h.sep).2⟩
theorem Fam.head {n : Nat} {r : Nat → Nat} {s t : Nat} {l : List Nat} (h : Fam n r (s :: l)) (ht : t ∈ l) : Dj s t := (List.pairwise_cons.1 h.sep).1 t ht
theorem Fam.join {n : Nat} {r : Nat → Nat} (G : Gp n r) {s t : Nat} {l : List Nat} (h : Fam n r (s :: t :: l)) (ha : Ad r s t) : Fam n r ((s ||| t) :: l) := by
  refine ⟨fun u hu => ?_, List.pairwise_cons.2 ⟨fun u hu => ?_, h.tail.tail.sep⟩⟩
  · rcases List.mem_cons.1 hu with rfl | hu
    · exact (h.set s (by simp)).or G (h.set t (by simp)) ha
    · exact h.set u (by simp [hu])
  · exact (h.head (by simp [hu])).or (h.tail.head hu)
theorem Fam.sub {n : Nat} {r : Nat → Nat} {l l' : List Nat} (h : Fam n r l) (hs : l'.Sublist l) : Fam n r l' :=
  ⟨fun s hm => h.set s (hs.subset hm), h.sep.sublist hs⟩

open Classical in
/-- How many of a family a set has an edge to. -/
noncomputable def dg (r : Nat → Nat) (l : List Nat) (s : Nat) : Nat := l.countP fun t => decide (Ad r s t)
open Classical in
theorem dg_cons {r : Nat → Nat} {l : List Nat} {s t : Nat} : dg r (t :: l) s = dg r l s + if Ad r s t then 1 else 0 := by
  unfold dg
  rw [List.countP_cons]
  by_cases h : Ad r s t
  · simp [h]
  · simp [h]
theorem dg_yes {r : Nat → Nat} {l : List Nat} {s t : Nat} (h : Ad r s t) : dg r (t :: l) s = dg r l s + 1 := by rw [dg_cons, if_pos h]
theorem dg_no {r : Nat → Nat} {l : List Nat} {s t : Nat} (h : ¬ Ad r s t) : dg r (t :: l) s = dg r l s := by rw [dg_cons, if_neg h]; rfl
theorem dg_perm {r : Nat → Nat} {l l' : List Nat} {s : Nat} (h : l.Perm l') : dg r l s = dg r l' s := h.countP_eq _
theorem dg_pos {r : Nat → Nat} {l : List Nat} {s : Nat} (h : 0 < dg r l s) : ∃ t ∈ l, Ad r s t := by
  unfold dg at h
  obtain ⟨t, h1, h2⟩ := List.countP_pos_iff.1 h
  exact ⟨t, h1, by simpa using h2⟩
theorem dg_le {r : Nat → Nat} {l : List Nat} {s : Nat} : dg r l s ≤ l.length := List.countP_le_length
theorem perm_of_mem {s : Nat} {l : List Nat} (h : s ∈ l) : ∃ l', l.Perm (s :: l') := ⟨l.erase s, List.perm_cons_erase h⟩

/-- Four sets that are all neighbours of each other. -/
def Four (n : Nat) (r : Nat → Nat) : Prop := ∃ a b c d, Fam n r [a, b, c, d] ∧ Ad r a b ∧ Ad r a c ∧ Ad r a d ∧ Ad r b c ∧ Ad r b d ∧ Ad r c d
def Three (n : Nat) (r : Nat → Nat) : Prop := ∃ a b c, Fam n r [a, b, c] ∧ Ad r a b ∧ Ad r a c ∧ Ad r b c

theorem dg_or {r : Nat → Nat} {s t : Nat} : ∀ (l : List Nat), (∀ u ∈ l, Ad r s u → Ad r t u → False) → dg r l s + dg r l t ≤ dg r l (s ||| t) := by
  intro l
  induction l with
  | nil => intro _; exact Nat.zero_le _
  | cons u l ih =>
    intro h
    have := ih fun v hv => h v (List.mem_cons_of_mem _ hv)
    by_cases h1 : Ad r s u
    · have h2 : ¬ Ad r t u := fun h2 => h u (by simp) h1 h2
      rw [dg_yes h1, dg_no h2, dg_yes h1.left]; omega
    · by_cases h2 : Ad r t u
      · rw [dg_no h1, dg_yes h2, dg_yes h2.right]; omega
      · rw [dg_no h1, dg_no h2, dg_cons]; omega
theorem perm_split {u w : Nat} {l l3 : List Nat} (h : (w :: l).Perm (u :: l3)) : (u = w ∧ l.Perm l3) ∨ ∃ l4, l.Perm (u :: l4) ∧ l3.Perm (w :: l4) := by
  by_cases e : u = w
  · subst e; exact Or.inl ⟨rfl, h.cons_inv⟩
  · have hu : u ∈ l := by
      rcases List.mem_cons.1 (h.mem_iff.2 (by simp : u ∈ u :: l3)) with h1 | h1
      · exact absurd h1 e
      · exact h1
    obtain ⟨l4, h4⟩ := perm_of_mem hu
    refine Or.inr ⟨l4, h4, ?_⟩
    have h5 : (u :: l3).Perm (u :: w :: l4) := h.symm.trans ((List.Perm.cons w h4).trans (List.Perm.swap u w l4))
    exact h5.cons_inv
/-- A joined neighbour counts as much as the two, unless both are neighbours. -/
theorem dg_join {n : Nat} {r : Nat → Nat} {s t u : Nat} {l : List Nat} (h : Ad r u s → Ad r u t → False) : dg r (s :: t :: l) u ≤ dg r ((s ||| t) :: l) u := by
  by_cases h1 : Ad r u s
  · have h2 : ¬ Ad r u t := h h1
    have h3 : Ad r u (s ||| t) := by
      obtain ⟨x, y, a, b, c⟩ := h1
      exact ⟨x, y, a, by rw [Nat.testBit_or, b]; rfl, c⟩
    rw [dg_yes h1, dg_no h2, dg_yes h3]; omega
  · by_cases h2 : Ad r u t
    · have h3 : Ad r u (s ||| t) := by
        obtain ⟨x, y, a, b, c⟩ := h2
        exact ⟨x, y, a, by rw [Nat.testBit_or, b, Bool.or_true], c⟩
      rw [dg_no h1, dg_yes h2, dg_yes h3]; omega
    · rw [dg_no h1, dg_no h2, dg_cons]; omega

/-- Where each of a family has two neighbours there are three that are all neighbours of each other. -/
theorem three_of {n : Nat} {r : Nat → Nat} (G : Gp n r) : ∀ k (l : List Nat), l.length = k → l ≠ [] → Fam n r l → (∀ s l', l.Perm (s :: l') → 2 ≤ dg r l' s) → Three n r := by
  intro k
  induction k with
  | zero => intro l h1 h2; exact absurd (List.eq_nil_of_length_eq_zero h1) h2
  | succ k ih =>
    intro l hk hne hF hd
    obtain ⟨s, hs⟩ := List.exists_mem_of_ne_nil l hne
    obtain ⟨l1, hp1⟩ := perm_of_mem hs
    have hd1 := hd s l1 hp1
    obtain ⟨t, ht, hst⟩ := dg_pos (show 0 < dg r l1 s by omega)
    obtain ⟨l2, hp2⟩ := perm_of_mem ht
    have hp : l.Perm (s :: t :: l2) := hp1.trans (List.Perm.cons s hp2)
    have hF2 := hF.perm hp
    have htl : t ∈ l := hp.mem_iff.2 (by simp)
    have lts := (hF.set s hs).lt
    have ltt := (hF.set t htl).lt
    have hts := hst.symm G lts ltt
    by_cases hc : ∃ u ∈ l2, Ad r s u ∧ Ad r t u
    · obtain ⟨u, hu, h1, h2⟩ := hc
      exact ⟨s, t, u, hF2.sub (((List.singleton_sublist.2 hu).cons_cons t).cons_cons s), hst, h1, h2⟩
    · have hno : ∀ u ∈ l2, Ad r s u → Ad r t u → False := fun u hu h1 h2 => hc ⟨u, hu, h1, h2⟩
      have hlen : l.length = l2.length + 2 := by rw [hp.length_eq]; rfl
      refine ih ((s ||| t) :: l2) (by simp; omega) (by simp) (hF2.join G hst) fun u l3 h3 => ?_
      rcases perm_split h3 with ⟨rfl, h4⟩ | ⟨l4, h4, h5⟩
      · have a1 := hd s (t :: l2) hp
        have a2 := hd t (s :: l2) (hp.trans (List.Perm.swap t s l2))
        rw [dg_yes hst] at a1
        rw [dg_yes hts] at a2
        have := dg_or l2 hno
        rw [← dg_perm h4]
        omega
      · have hu : u ∈ l2 := h4.mem_iff.2 (by simp)
        have hul : u ∈ l := hp.mem_iff.2 (by simp [hu])
        have ltu := (hF.set u hul).lt
        have h6 : l.Perm (u :: s :: t :: l4) := hp.trans ((List.Perm.cons s ((List.Perm.cons t h4).trans (List.Perm.swap u t l4))).trans (List.Perm.swap u s (t :: l4)))
        have a1 := hd u _ h6
        rw [dg_perm h5]
        exact Nat.le_trans a1 (dg_join (n := n) fun h1 h2 => hno u hu (h1.symm G ltu lts) (h2.symm G ltu ltt))

/-! ### four -/

def orL (l : List Nat) : Nat := l.foldr (fun s t => s ||| t) 0
theorem orL_bit {l : List Nat} {x : Nat} : (orL l).testBit x = true ↔ ∃ s ∈ l, s.testBit x = true := by
  induction l with
  | nil => simp [orL]
  | cons a l ih =>
    show (a ||| orL l).testBit x = true ↔ _
    rw [Nat.testBit_or, Bool.or_eq_true, ih]
    constructor
    · rintro (h | ⟨s, h1, h2⟩)
      · exact ⟨a, by simp, h⟩
      · exact ⟨s, by simp [h1], h2⟩
    · rintro ⟨s, h1, h2⟩
      rcases List.mem_cons.1 h1 with rfl | h1
      · exact Or.inl h2
      · exact Or.inr ⟨s, h1, h2⟩
/-- What can be reached within some nodes hangs together. -/
theorem part_cs {n : Nat} {r : Nat → Nat} (G : Gp n r) {W y : Nat} (hW : W < 2 ^ n) (hy : W.testBit y = true) : Cs n r (partS n r W y) := by
  have hyn := bit_lt hW hy
  have inQ : ∀ x, Rch r W y x → Rch r (partS n r W y) y x := by
    intro x h
    induction h with
    | refl => exact .refl
    | step h1 h2 h3 ih => exact .step ih h2 (rch_part hyn G.bd (.step h1 h2 h3))
  refine ⟨partS_lt hyn G.bd, ⟨y, rch_part hyn G.bd .refl⟩, fun a b ha hb => ?_⟩
  have h1 := inQ a (part_rch ha)
  have h2 := inQ b (part_rch hb)
  have hyQ : (partS n r W y).testBit y = true := rch_part hyn G.bd .refl
  exact Rch.trans (h1.symm G.bd G.sym hyn hyQ).2 h2

theorem four_of {n : Nat} {r : Nat → Nat} (G : Gp n r) : ∀ k (l : List Nat) (a b : Nat), l.length = k → l ≠ [] → Fam n r (a :: b :: l) → Ad r a b → (∀ s l', l.Perm (s :: l') → 3 ≤ dg r (a :: b :: l') s) → Four n r := by
  intro k
  induction k using Nat.strongRecOn with
  | _ k ih =>
  intro l a b hk hne hF hab hd
  have ca := hF.set a (by simp)
  have cb := hF.set b (by simp)
  have cl : ∀ s ∈ l, Cs n r s := fun s hs => hF.set s (by simp [hs])
  have hsy : ∀ {s t : Nat}, s ∈ a :: b :: l → t ∈ a :: b :: l → Ad r s t → Ad r t s := fun h1 h2 h => h.symm G (hF.set _ h1).lt (hF.set _ h2).lt
  by_cases hc2 : ∃ c1 c2 l2, l.Perm (c1 :: c2 :: l2) ∧ Ad r a c1 ∧ Ad r b c1 ∧ Ad r a c2 ∧ Ad r b c2
  · obtain ⟨c1, c2, l2, hp, a1, b1, a2, b2⟩ := hc2
    have hF2 : Fam n r (a :: b :: c1 :: c2 :: l2) := hF.perm (List.Perm.cons a (List.Perm.cons b hp))
    have m1 : c1 ∈ l := hp.mem_iff.2 (by simp)
    have m2 : c2 ∈ l := hp.mem_iff.2 (by simp)
    have cc1 := cl c1 m1
    have cc2 := cl c2 m2
    obtain ⟨y0, hy0⟩ := cc2.ne
    have hWl : orL (c2 :: l2) < 2 ^ n := Nat.lt_pow_two_of_testBit _ fun i hi => by
      rw [Bool.eq_false_iff]
      intro h
      obtain ⟨s, hs, hb⟩ := orL_bit.1 h
      have := bit_lt (hF2.set s (by simp only [List.mem_cons] at hs ⊢; exact Or.inr (Or.inr (Or.inr hs)))).lt hb
      omega
    have hyW : (orL (c2 :: l2)).testBit y0 = true := orL_bit.2 ⟨c2, by simp, hy0⟩
    obtain ⟨Q, hQ⟩ : ∃ Q, Q = partS n r (orL (c2 :: l2)) y0 := ⟨_, rfl⟩
    have hyn := bit_lt hWl hyW
    have cQ : Cs n r Q := by rw [hQ]; exact part_cs G hWl hyW
    have QW : ∀ x, Q.testBit x = true → (orL (c2 :: l2)).testBit x = true := fun x hx => by rw [hQ] at hx; exact (part_rch hx).in_ hyW
    have Qcl : ∀ x y, Q.testBit x = true → (r x).testBit y = true → (orL (c2 :: l2)).testBit y = true → Q.testBit y = true := fun x y hx h1 h2 => by rw [hQ] at hx ⊢; exact rch_part hyn G.bd (.step (part_rch hx) h1 h2)
    have c2Q : ∀ x, c2.testBit x = true → Q.testBit x = true := fun x hx => by
      rw [hQ]
      exact rch_part hyn G.bd ((cc2.con y0 x hy0 hx).mono fun z hz => orL_bit.2 ⟨c2, by simp, hz⟩)
    by_cases hQc : Ad r c1 Q
    · have dQ : ∀ s, (∀ t ∈ c2 :: l2, Dj s t) → Dj s Q := fun s h x hx hq => by
        obtain ⟨t, ht, hb⟩ := orL_bit.1 (QW x hq)
        exact h t ht x hx hb
      have ad2 : ∀ s, Ad r s c2 → Ad r s Q := fun s h => by
        obtain ⟨x, y, h1, h2, h3⟩ := h
        exact ⟨x, y, h1, c2Q y h2, h3⟩
      have sp := List.pairwise_cons.1 hF2.sep
      have sp2 := List.pairwise_cons.1 sp.2
      have sp3 := List.pairwise_cons.1 sp2.2
      refine ⟨a, b, c1, Q, ⟨fun s hs => ?_, ?_⟩, hab, a1, ad2 a a2, b1, ad2 b b2, hQc⟩
      · simp only [List.mem_cons, List.not_mem_nil, or_false] at hs
        rcases hs with rfl | rfl | rfl | rfl
        · exact ca
        · exact cb
        · exact cc1
        · exact cQ
      · refine List.pairwise_cons.2 ⟨fun s hs => ?_, List.pairwise_cons.2 ⟨fun s hs => ?_, List.pairwise_cons.2 ⟨fun s hs => ?_, List.pairwise_singleton _ _⟩⟩⟩
        · simp only [List.mem_cons, List.not_mem_nil, or_false] at hs
          rcases hs with rfl | rfl | rfl
          · exact sp.1 _ (by simp)
          · exact sp.1 _ (by simp)
          · exact dQ a fun t ht => sp.1 t (by simp only [List.mem_cons] at ht ⊢; exact Or.inr (Or.inr ht))
        · simp only [List.mem_cons, List.not_mem_nil, or_false] at hs
          rcases hs with rfl | rfl
          · exact sp2.1 _ (by simp)
          · exact dQ b fun t ht => sp2.1 t (by simp only [List.mem_cons] at ht ⊢; exact Or.inr ht)
        · simp only [List.mem_singleton] at hs
          subst hs
          exact dQ c1 fun t ht => sp3.1 t ht
    · have cm : ∀ s ∈ c2 :: l2, s ∈ l := fun s hs => hp.mem_iff.2 (List.mem_cons_of_mem _ hs)
      let q : Nat → Bool := fun s => (s &&& Q) != 0
      have qin : ∀ s ∈ c2 :: l2, q s = true → ∀ x, s.testBit x = true → Q.testBit x = true := fun s hs hq x hx => by
        obtain ⟨y, hy⟩ := some_bit (show s &&& Q ≠ 0 by simpa [q] using hq)
        rw [Nat.testBit_and, Bool.and_eq_true] at hy
        have cs := cl s (cm s hs)
        have : ∀ z, Rch r s y z → Q.testBit z = true := by
          intro z h
          induction h with
          | refl => exact hy.2
          | step h1 h2 h3 ih => exact Qcl _ _ ih h2 (orL_bit.2 ⟨s, hs, h3⟩)
        exact this x (cs.con y x hy.1 hx)
      have hsplit : (c2 :: l2).Perm ((c2 :: l2).filter q ++ (c2 :: l2).filter fun s => !q s) := (List.filter_append_perm q _).symm
      have hqc2 : q c2 = true := by
        have : c2 &&& Q ≠ 0 := fun h0 => by
          have := congrArg (fun t => t.testBit y0) h0
          simp [Nat.testBit_and, hy0, c2Q y0 hy0] at this
        simpa [q] using this
      have hDl : ((c2 :: l2).filter q).length ≤ (c2 :: l2).length := List.length_filter_le _ _
      have hlk : l.length = (c2 :: l2).length + 1 := by rw [hp.length_eq]; rfl
      refine ih _ (by omega) ((c2 :: l2).filter q) a b rfl (fun h => ?_) (hF2.sub ?_) hab fun s D' hD => ?_
      · have : c2 ∈ (c2 :: l2).filter q := List.mem_filter.2 ⟨by simp, hqc2⟩
        rw [h] at this; cases this
      · exact ((List.filter_sublist.trans (List.sublist_cons_self c1 _)).cons_cons b).cons_cons a
      · have hsD : s ∈ (c2 :: l2).filter q := hD.mem_iff.2 (by simp)
        obtain ⟨hs1, hs2⟩ := List.mem_filter.1 hsD
        have sQ := qin s hs1 hs2
        have hps : l.Perm (s :: (c1 :: (D' ++ (c2 :: l2).filter fun s => !q s))) :=
          hp.trans ((List.Perm.cons c1 (hsplit.trans (hD.append_right _))).trans (List.Perm.swap s c1 _))
        have h3 := hd s _ hps
        have n1 : ¬ Ad r s c1 := fun h => by
          have h' := hsy (by simp [cm s hs1]) (by simp [m1]) h
          obtain ⟨x, y, k1, k2, k3⟩ := h'
          exact hQc ⟨x, y, k1, sQ y k2, k3⟩
        have n2 : dg r ((c2 :: l2).filter fun s => !q s) s = 0 := by
          apply Classical.byContradiction
          intro h0
          obtain ⟨e, he, hae⟩ := dg_pos (show 0 < dg r ((c2 :: l2).filter fun s => !q s) s by omega)
          obtain ⟨he1, he2⟩ := List.mem_filter.1 he
          obtain ⟨x, y, k1, k2, k3⟩ := hae
          have hyQ := Qcl x y (sQ x k1) k3 (orL_bit.2 ⟨e, he1, k2⟩)
          have : e &&& Q ≠ 0 := fun h0 => by
            have := congrArg (fun t => t.testBit y) h0
            simp [Nat.testBit_and, k2, hyQ] at this
          simp [q, this] at he2
        have n3 : dg r (c1 :: (D' ++ (c2 :: l2).filter fun s => !q s)) s = dg r D' s := by
          rw [dg_no n1]
          unfold dg at n2 ⊢
          rw [List.countP_append, n2, Nat.add_zero]
        rw [dg_cons, dg_cons, n3] at h3
        rw [dg_cons, dg_cons]
        exact h3
  · have nc : ∀ s t l3, l.Perm (s :: t :: l3) → Ad r a s → Ad r b s → Ad r a t → Ad r b t → False := fun s t l3 h h1 h2 h3 h4 => hc2 ⟨s, t, l3, h, h1, h2, h3, h4⟩
    by_cases hc : ∃ c ∈ l, Ad r a c ∧ Ad r b c
    · obtain ⟨c, hcl, hac, hbc⟩ := hc
      obtain ⟨l2, hp⟩ := perm_of_mem hcl
      have hF2 : Fam n r (a :: b :: c :: l2) := hF.perm (List.Perm.cons a (List.Perm.cons b hp))
      have hlk : l.length = l2.length + 1 := by rw [hp.length_eq]; rfl
      have h3 := hd c l2 hp
      rw [dg_cons, dg_cons] at h3
      refine ih l2.length (by omega) l2 (a ||| b) c rfl (fun h => ?_) (hF2.join G hab) (hac.left) fun s l3 h4 => ?_
      · subst h
        have : dg r [] c = 0 := rfl
        rw [this] at h3
        split at h3 <;> split at h3 <;> omega
      · have hs : s ∈ l := hp.mem_iff.2 (by rw [List.mem_cons]; exact Or.inr (h4.mem_iff.2 (by simp)))
        have h5 := hd s (c :: l3) (hp.trans ((List.Perm.cons c h4).trans (List.Perm.swap s c l3)))
        exact Nat.le_trans h5 (dg_join (n := n) fun k1 k2 => nc c s l3 (hp.trans (List.Perm.cons c h4)) hac hbc (hsy (by simp [hs]) (by simp) k1) (hsy (by simp [hs]) (by simp) k2))
    · have hno : ∀ s ∈ l, Ad r s a → Ad r s b → False := fun s hs h1 h2 => hc ⟨s, hs, hsy (by simp [hs]) (by simp) h1, hsy (by simp [hs]) (by simp) h2⟩
      by_cases hx : ∃ x ∈ l, Ad r (a ||| b) x
      · obtain ⟨x, hxl, hax⟩ := hx
        obtain ⟨l2, hp⟩ := perm_of_mem hxl
        have hF2 : Fam n r (a :: b :: x :: l2) := hF.perm (List.Perm.cons a (List.Perm.cons b hp))
        have hlk : l.length = l2.length + 1 := by rw [hp.length_eq]; rfl
        have h3 := Nat.le_trans (hd x l2 hp) (dg_join (n := n) (hno x hxl))
        rw [dg_cons] at h3
        refine ih l2.length (by omega) l2 (a ||| b) x rfl (fun h => ?_) (hF2.join G hab) hax fun s l3 h4 => ?_
        · subst h
          have : dg r [] x = 0 := rfl
          rw [this] at h3
          split at h3 <;> omega
        · have hs : s ∈ l := hp.mem_iff.2 (by rw [List.mem_cons]; exact Or.inr (h4.mem_iff.2 (by simp)))
          have h5 := hd s (x :: l3) (hp.trans ((List.Perm.cons x h4).trans (List.Perm.swap s x l3)))
          exact Nat.le_trans h5 (dg_join (n := n) (hno s hs))
      · have hna : ∀ s ∈ l, ¬ Ad r s a ∧ ¬ Ad r s b := fun s hs => ⟨fun h => hx ⟨s, hs, (hsy (by simp [hs]) (by simp) h).left⟩, fun h => hx ⟨s, hs, (hsy (by simp [hs]) (by simp) h).right⟩⟩
        obtain ⟨x, hxl⟩ := List.exists_mem_of_ne_nil l hne
        obtain ⟨l2, hp⟩ := perm_of_mem hxl
        have h3 := hd x l2 hp
        rw [dg_no (hna x hxl).1, dg_no (hna x hxl).2] at h3
        obtain ⟨y, hy, hxy⟩ := dg_pos (show 0 < dg r l2 x by omega)
        obtain ⟨l3, hp3⟩ := perm_of_mem hy
        have hpp : l.Perm (x :: y :: l3) := hp.trans (List.Perm.cons x hp3)
        have hFl : Fam n r (x :: y :: l3) := hF.tail.tail.perm hpp
        have hlk : l.length = l3.length + 2 := by rw [hpp.length_eq]; rfl
        have hl2 : l2.length = l3.length + 1 := by rw [hp3.length_eq]; rfl
        have h4 := dg_le (r := r) (l := l2) (s := x)
        refine ih l3.length (by omega) l3 x y rfl (fun h => by rw [h] at hl2; simp at hl2; omega) hFl hxy fun s l4 h5 => ?_
        have hs : s ∈ l := hpp.mem_iff.2 (by simp only [List.mem_cons]; exact Or.inr (Or.inr (h5.mem_iff.2 (by simp))))
        have h6 := hd s (x :: y :: l4) (hpp.trans ((List.Perm.cons x ((List.Perm.cons y h5).trans (List.Perm.swap s y l4))).trans (List.Perm.swap s x _)))
        rw [dg_no (hna s hs).1, dg_no (hna s hs).2] at h6
        exact h6

end Go.Proofs.YtfmppncefbjicaaDoor
