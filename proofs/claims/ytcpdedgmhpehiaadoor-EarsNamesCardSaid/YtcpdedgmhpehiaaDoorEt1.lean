/- Ways in a graph, its bridges and its cut nodes, in plain words. -/
import Derived.Test.YtcpdedgmhpehiaaDoorEe
namespace Go.Proofs.YtcpdedgmhpehiaaDoor
set_option linter.unusedSimpArgs false
set_option linter.unusedVariables false

inductive Rch (r : Nat → Nat) (s v : Nat) : Nat → Prop
  | refl : Rch r s v v
  | step {u x : Nat} : Rch r s v u → (r u).testBit x = true → s.testBit x = true → Rch r s v x
theorem bit_lt {x n i : Nat} (h : x < 2 ^ n) (hb : x.testBit i = true) : i < n := by
  apply Classical.byContradiction
  intro hn
  have := Nat.testBit_lt_two_pow (i := i) (Nat.lt_of_lt_of_le h (Nat.pow_le_pow_right (by omega) (by omega)))
  rw [this] at hb; cases hb
theorem met_rch {r : Nat → Nat} {s v f : Nat} (hf : ∀ i, f.testBit i = true → Rch r s v i) : ∀ j i, (metTo r s f j).testBit i = true → Rch r s v i := by
  intro j
  induction j with
  | zero => exact hf
  | succ j ih =>
    intro i
    unfold metTo
    split
    · rename_i hb
      rw [Nat.testBit_or, Bool.or_eq_true, Nat.testBit_and, Bool.and_eq_true]
      rintro (h | ⟨h1, h2⟩)
      · exact ih i h
      · exact .step (ih j hb) h1 h2
    · exact ih i
theorem part_rch {n : Nat} {r : Nat → Nat} {s v i : Nat} : (partS n r s v).testBit i = true → Rch r s v i := by
  have key : ∀ k i, (metIn n r s (2 ^ v) k).testBit i = true → Rch r s v i := by
    intro k
    induction k with
    | zero =>
      intro i h
      have h : (2 ^ v).testBit i = true := h
      rw [Nat.testBit_two_pow] at h
      have : v = i := of_decide_eq_true h
      subst this; exact .refl
    | succ k ih => exact met_rch ih n
  exact key n i
theorem rch_part {n : Nat} {r : Nat → Nat} {s v i : Nat} (hv : v < n) (hr : ∀ i, i < n → r i < 2 ^ n) (h : Rch r s v i) : (partS n r s v).testBit i = true := by
  induction h with
  | refl => exact partS_self
  | @step u x _ h1 h2 ih => exact partS_closed hv hr u (bit_lt (partS_lt hv hr) ih) ih x h1 h2
theorem or_bit {g v u : Nat} : (g ||| 2 ^ v).testBit u = (g.testBit u || decide (v = u)) := by rw [Nat.testBit_or, Nat.testBit_two_pow]
theorem all_of {n g : Nat} (hg : g < 2 ^ n) (h : ∀ u, u < n → g.testBit u = true) : g = 2 ^ n - 1 := by
  apply Nat.eq_of_testBit_eq
  intro i
  rw [Nat.testBit_two_pow_sub_one]
  by_cases hi : i < n
  · rw [h i hi, decide_eq_true hi]
  · rw [decide_eq_false hi]
    exact Nat.testBit_lt_two_pow (Nat.lt_of_lt_of_le hg (Nat.pow_le_pow_right (by omega) (by omega)))
theorem all_bit {n u : Nat} (h : u < n) : (2 ^ n - 1).testBit u = true := by rw [Nat.testBit_two_pow_sub_one, decide_eq_true h]

/-- Fewer edges. -/
def cutN (r : Nat → Nat) (a b x : Nat) : Nat := if x = a then diff (r a) (2 ^ b) else if x = b then diff (r b) (2 ^ a) else r x
theorem cutN_bit {r : Nat → Nat} {a b : Nat} (hab : a ≠ b) (x y : Nat) : (cutN r a b x).testBit y = ((r x).testBit y && !(decide (x = a) && decide (y = b)) && !(decide (x = b) && decide (y = a))) := by
  unfold cutN
  split
  · rename_i e
    subst e
    rw [testBit_diff, Nat.testBit_two_pow, decide_eq_false (p := x = b) hab, decide_eq_true (p := x = x) rfl]
    by_cases e2 : b = y
    · subst e2; simp
    · simp [e2, Ne.symm e2]
  · rename_i e
    split
    · rename_i e2
      subst e2
      rw [testBit_diff, Nat.testBit_two_pow, decide_eq_false (p := x = a) e, decide_eq_true (p := x = x) rfl]
      by_cases e3 : a = y
      · subst e3; simp
      · simp [e3, Ne.symm e3]
    · rename_i e2
      simp [e, e2]

/-- The graph in natural numbers. -/
abbrev natG (z : Nat → Int) (i : Nat) : Nat := (z i).toNat
theorem g_sym {n most : Nat} {g : Nat → Int} (h : graphB n most g = true) : ∀ u x, u < n → x < n → (natG g u).testBit x = (natG g x).testBit u := by
  intro u x hu hx
  have h3 := (graphB_le h).2.2
  unfold graphB at h
  simp only [Bool.and_eq_true, decide_eq_true_eq, List.all_eq_true, List.mem_range, beq_iff_eq] at h
  have := (h.2 u hu).2 x hx
  rw [show g u = ((natG g u : Nat) : Int) by have := (h3 u hu).1; show g u = ((g u).toNat : Int); omega, bitZ_nat, show g x = ((natG g x : Nat) : Int) by have := (h3 x hx).1; show g x = ((g x).toNat : Int); omega, bitZ_nat] at this
  exact this
theorem g_loop {n most : Nat} {g : Nat → Int} (h : graphB n most g = true) : ∀ u, u < n → (natG g u).testBit u = false := by
  intro u hu
  have h3 := (graphB_le h).2.2
  unfold graphB at h
  simp only [Bool.and_eq_true, decide_eq_true_eq, List.all_eq_true, List.mem_range, beq_iff_eq] at h
  have := (h.2 u hu).1
  unfold okCellZ at this
  rw [Bool.and_eq_true, show g u = ((natG g u : Nat) : Int) by have := (h3 u hu).1; show g u = ((g u).toNat : Int); omega, bitZ_nat] at this
  simpa using this.2

/-- What a graph is. -/
structure Pl (n : Nat) (r : Nat → Nat) : Prop where
  one : 1 ≤ n
  le : n ≤ 10
  bd : ∀ i, i < n → r i < 2 ^ n
  loop : ∀ i, i < n → (r i).testBit i = false
  sym : ∀ u x, u < n → x < n → (r u).testBit x = (r x).testBit u
theorem pl_of {n : Nat} {z : Nat → Int} (h : graphB n 10 z = true) : Pl n (natG z) := by
  have h3 := graphB_le h
  exact ⟨h3.1, h3.2.1, fun i hi => nat_pow_cast (h3.2.2 i hi).2 (h3.2.2 i hi).1, g_loop h, g_sym h⟩
theorem cutN_pl {n a b : Nat} {r : Nat → Nat} (h : Pl n r) (ha : a < n) (hb : b < n) (hab : a ≠ b) : Pl n (cutN r a b) := by
  refine ⟨h.one, h.le, fun i hi => ?_, fun i hi => ?_, fun u x hu hx => ?_⟩
  · unfold cutN
    split
    · exact Nat.lt_of_le_of_lt (diff_le _ _) (h.bd a ha)
    · split
      · exact Nat.lt_of_le_of_lt (diff_le _ _) (h.bd b hb)
      · exact h.bd i hi
  · rw [cutN_bit hab, h.loop i hi]; rfl
  · rw [cutN_bit hab, cutN_bit hab, h.sym u x hu hx, Bool.and_assoc, Bool.and_assoc]
    congr 1
    rw [Bool.and_comm, Bool.and_comm (decide (u = a)), Bool.and_comm (decide (u = b))]

/-! ### ways -/

theorem Rch.trans {r : Nat → Nat} {s v u x : Nat} (h1 : Rch r s v u) (h2 : Rch r s u x) : Rch r s v x := by
  induction h2 with
  | refl => exact h1
  | step _ a b ih => exact .step ih a b
theorem Rch.mono {r : Nat → Nat} {s s' v u : Nat} (hs : ∀ i, s.testBit i = true → s'.testBit i = true) (h : Rch r s v u) : Rch r s' v u := by
  induction h with
  | refl => exact .refl
  | step _ a b ih => exact .step ih a (hs _ b)
theorem Rch.mem {r : Nat → Nat} {s v u : Nat} (h : Rch r s v u) : u = v ∨ s.testBit u = true := by
  cases h with
  | refl => exact .inl rfl
  | step _ _ b => exact .inr b
theorem Rch.lt {n : Nat} {r : Nat → Nat} {s v u : Nat} (hs : s < 2 ^ n) (hv : v < n) (h : Rch r s v u) : u < n := by
  rcases h.mem with rfl | h
  · exact hv
  · exact bit_lt hs h
theorem Rch.symm {n : Nat} {r : Nat → Nat} (hr : ∀ u x, u < n → x < n → (r u).testBit x = (r x).testBit u) {s v u : Nat} (hs : s < 2 ^ n) (hv : v < n) (hvs : s.testBit v = true) (h : Rch r s v u) : Rch r s u v := by
  induction h with
  | refl => exact .refl
  | step h a b ih =>
    have hx := bit_lt hs b
    have hu := h.lt hs hv
    rw [hr _ _ hu hx] at a
    have hus := h.mem
    rcases hus with rfl | hus
    · exact Rch.trans (.step .refl a hvs) ih
    · exact Rch.trans (.step .refl a hus) ih
theorem part_iff {n : Nat} {r : Nat → Nat} (hr : ∀ i, i < n → r i < 2 ^ n) {s v i : Nat} (hv : v < n) : (partS n r s v).testBit i = true ↔ Rch r s v i := ⟨part_rch, rch_part hv hr⟩

theorem testBit_all {n i : Nat} : (2 ^ n - 1).testBit i = decide (i < n) := Nat.testBit_two_pow_sub_one n i
theorem testBit_but {n v i : Nat} : (butS n v).testBit i = (decide (i < n) && !decide (v = i)) := by
  rw [testBit_diff, testBit_all, Nat.testBit_two_pow]
theorem but_true {n v i : Nat} (hi : i < n) (h : i ≠ v) : (butS n v).testBit i = true := by
  rw [testBit_but, decide_eq_true hi, decide_eq_false (fun e => h e.symm)]; rfl
theorem but_iff {n v i : Nat} : (butS n v).testBit i = true ↔ i < n ∧ i ≠ v := by
  rw [testBit_but, Bool.and_eq_true, decide_eq_true_eq]
  simp only [Bool.not_eq_true', decide_eq_false_iff_not]
  exact ⟨fun h => ⟨h.1, fun e => h.2 e.symm⟩, fun h => ⟨h.1, fun e => h.2 e.symm⟩⟩
theorem all_lt (n : Nat) : 2 ^ n - 1 < 2 ^ n := Nat.sub_lt (Nat.two_pow_pos n) (by omega)

/-! ### bridges -/

theorem testBit_blk {n : Nat} {r : Nat → Nat} {a b : Nat} : ∀ k x, (blkTo n r a b k).testBit x = true ↔ x < n ∧ ∀ v, v < k → x = v ∨ (partS n r (butS n v) (if a = v then b else a)).testBit x = true := by
  intro k
  induction k with
  | zero => intro x; unfold blkTo; rw [testBit_all]; simp
  | succ k ih =>
    intro x
    unfold blkTo
    rw [Nat.testBit_and, Bool.and_eq_true, ih, Nat.testBit_or, Bool.or_eq_true, Nat.testBit_two_pow, decide_eq_true_eq]
    constructor
    · rintro ⟨⟨h1, h2⟩, h3⟩
      refine ⟨h1, fun v hv => ?_⟩
      rcases Nat.lt_succ_iff_lt_or_eq.1 hv with h | rfl
      · exact h2 v h
      · rcases h3 with h3 | h3
        · exact .inr h3
        · exact .inl h3.symm
    · rintro ⟨h1, h2⟩
      refine ⟨⟨h1, fun v hv => h2 v (by omega)⟩, ?_⟩
      rcases h2 k (by omega) with h3 | h3
      · exact .inr h3.symm
      · exact .inl h3

theorem bridge_is {n : Nat} {r : Nat → Nat} (h : Pl n r) {a b : Nat} (ha : a < n) (hb : b < n) (hab : a ≠ b) (hadj : (r a).testBit b = true) :
    brB n r (a, b) = !(partS n (cutN r a b) (2 ^ n - 1) a).testBit b := by
  have hc := cutN_pl h ha hb hab
  have hin : ∀ x, (blkTo n r a b n).testBit x = true ↔ x < n ∧ ∀ v, v < n → x = v ∨ Rch r (butS n v) (if a = v then b else a) x := fun x => by
    rw [testBit_blk]
    constructor
    · rintro ⟨h1, h2⟩; exact ⟨h1, fun v hv => (h2 v hv).imp_right fun h3 => part_rch h3⟩
    · rintro ⟨h1, h2⟩; exact ⟨h1, fun v hv => (h2 v hv).imp_right fun h3 => rch_part (by split <;> assumption) h.bd h3⟩
  have hadj' : (r b).testBit a = true := by rw [h.sym b a hb ha]; exact hadj
  have ina : (blkTo n r a b n).testBit a = true := (hin a).2 ⟨ha, fun v hv => by
    by_cases e : a = v
    · exact .inl e
    · rw [if_neg e]; exact .inr .refl⟩
  have inb : (blkTo n r a b n).testBit b = true := (hin b).2 ⟨hb, fun v hv => by
    by_cases e : a = v
    · rw [if_pos e]; exact .inr .refl
    · rw [if_neg e]
      by_cases e2 : b = v
      · exact .inl e2
      · exact .inr (.step .refl hadj (but_true hb e2))⟩
  have hset : brB n r (a, b) = true ↔ ∀ x, (blkTo n r a b n).testBit x = true → x = a ∨ x = b := by
    unfold brB
    rw [beq_iff_eq]
    constructor
    · intro e x hx
      rw [e, Nat.testBit_or, Nat.testBit_two_pow, Nat.testBit_two_pow] at hx
      simp only [Bool.or_eq_true, decide_eq_true_eq] at hx
      rcases hx with hx | hx
      · exact .inl hx.symm
      · exact .inr hx.symm
    · intro hall
      apply Nat.eq_of_testBit_eq
      intro x
      rw [Bool.eq_iff_iff, Nat.testBit_or, Nat.testBit_two_pow, Nat.testBit_two_pow]
      simp only [Bool.or_eq_true, decide_eq_true_eq]
      constructor
      · intro hx
        rcases hall x hx with rfl | rfl
        · exact .inl rfl
        · exact .inr rfl
      · rintro (rfl | rfl)
        · exact ina
        · exact inb
  have hcut : ∀ u y, (r u).testBit y = true → ¬ (u = a ∧ y = b) → ¬ (u = b ∧ y = a) → (cutN r a b u).testBit y = true := fun u y h1 h2 h3 => by
    rw [cutN_bit hab, h1]
    by_cases e1 : u = a <;> by_cases e2 : y = b <;> by_cases e3 : u = b <;> by_cases e4 : y = a <;> simp [e1, e2, e3, e4] <;> simp_all
  rw [Bool.eq_iff_iff, hset]
  simp only [Bool.not_eq_true', Bool.eq_false_iff]
  constructor
  · intro hall hp
    have hR := part_rch hp
    -- no neighbour of a but b is reached from b without a
    have hno : ∀ c, c < n → c ≠ b → (r a).testBit c = true → ¬ Rch r (butS n a) b c := fun c hc' hcb hac hRc => by
      have hca : c ≠ a := fun e => by subst e; rw [h.loop c ha] at hac; cases hac
      rcases hall c ((hin c).2 ⟨hc', fun v hv => by
        by_cases e : c = v
        · exact .inl e
        · by_cases e2 : a = v
          · subst e2; rw [if_pos rfl]; exact .inr hRc
          · rw [if_neg e2]; exact .inr (.step .refl hac (but_true hc' e))⟩) with e | e
      · exact hca e
      · exact hcb e
    have key : ∀ y, Rch (cutN r a b) (2 ^ n - 1) a y → y = a ∨ ¬ Rch r (butS n a) b y := fun y hy => by
      induction hy with
      | refl => exact .inl rfl
      | @step u y hu e1 e2 ih =>
        by_cases hya : y = a
        · exact .inl hya
        · refine .inr fun hRy => ?_
          have hyn : y < n := bit_lt (all_lt n) e2
          have hun : u < n := hu.lt (all_lt n) ha
          have e3 : (r u).testBit y = true := by
            rw [cutN_bit hab] at e1
            simp only [Bool.and_eq_true] at e1
            exact e1.1.1
          by_cases hua : u = a
          · subst hua
            have hyb : y ≠ b := fun e => by
              subst e
              rw [cutN_bit hab] at e1
              simp at e1
            exact hno y hyn hyb e3 hRy
          · rcases ih with rfl | ih
            · exact hua rfl
            · rw [h.sym u y hun hyn] at e3
              exact ih (.step hRy e3 (but_true hun hua))
    rcases key b hR with e | e
    · exact hab e.symm
    · exact e .refl
  · intro hp x hx
    apply Classical.byContradiction
    intro hne
    have hxa : x ≠ a := fun e => hne (.inl e)
    have hxb : x ≠ b := fun e => hne (.inr e)
    obtain ⟨hxn, hall⟩ := (hin x).1 hx
    have h1 : Rch r (butS n a) b x := by
      rcases hall a ha with e | e
      · exact absurd e hxa
      · rwa [if_pos rfl] at e
    have h2 : Rch r (butS n b) a x := by
      rcases hall b hb with e | e
      · exact absurd e hxb
      · rwa [if_neg hab] at e
    have lift : ∀ {p q y : Nat}, p ≠ q → (p = a ∧ q = b ∨ p = b ∧ q = a) → Rch r (butS n p) q y → y ≠ p ∧ Rch (cutN r a b) (2 ^ n - 1) q y := by
      intro p q y hpq hor hy
      induction hy with
      | refl => exact ⟨fun e => hpq e.symm, .refl⟩
      | @step u y hu e1 e2 ih =>
        obtain ⟨hyn, hyp⟩ := but_iff.1 e2
        refine ⟨hyp, .step ih.2 (hcut u y e1 ?_ ?_) (by rw [testBit_all]; exact decide_eq_true hyn)⟩
        · rintro ⟨e3, e4⟩
          rcases hor with ⟨h5, h6⟩ | ⟨h5, h6⟩
          · exact ih.1 (by rw [e3, h5])
          · exact hyp (by rw [e4, h5])
        · rintro ⟨e3, e4⟩
          rcases hor with ⟨h5, h6⟩ | ⟨h5, h6⟩
          · exact hyp (by rw [e4, h5])
          · exact ih.1 (by rw [e3, h5])
    have h3 := (lift hab (.inl ⟨rfl, rfl⟩) h1).2
    have h4 := (lift (Ne.symm hab) (.inr ⟨rfl, rfl⟩) h2).2
    have h5 := Rch.symm hc.sym (all_lt n) hb (by rw [testBit_all]; exact decide_eq_true hb) h3
    exact hp (rch_part ha hc.bd (h4.trans h5))

/-! ### cut nodes -/

/-- Whether a set is connected, as the reference asks it. -/
def connN (n : Nat) (r : Nat → Nat) (v : Int) : Bool := inB v (2 ^ n) && decide (0 < v) && partS n r v.toNat (lowN v.toNat) == v.toNat
theorem connN_nat {n : Nat} {r : Nat → Nat} {s : Nat} (h0 : 0 < s) (h : s < 2 ^ n) : connN n r (s : Int) = (partS n r s (lowN s) == s) := by
  unfold connN
  rw [inB_true (by omega) (by rw [pow_cast]; omega), decide_eq_true (by omega), Int.toNat_natCast]; rfl
/-- A set in which each node is reached from each is connected. -/
theorem conn_iff {n : Nat} {r : Nat → Nat} (h : Pl n r) {s : Nat} (h0 : 0 < s) (hs : s < 2 ^ n) : connN n r (s : Int) = true ↔ ∀ x y, s.testBit x = true → s.testBit y = true → Rch r s x y := by
  have hl := lowN_lt h.le h0 hs
  have h10 := pow_le10 h.le
  obtain ⟨_, l2, _⟩ := lowN_all s (by omega) h0
  rw [connN_nat h0 hs, beq_iff_eq]
  constructor
  · intro e x y hx hy
    have gx : Rch r s (lowN s) x := part_rch (n := n) (by rw [e]; exact hx)
    have gy : Rch r s (lowN s) y := part_rch (n := n) (by rw [e]; exact hy)
    exact (Rch.symm h.sym hs hl l2 gx).trans gy
  · intro hall
    apply Nat.eq_of_testBit_eq
    intro i
    rw [Bool.eq_iff_iff]
    constructor
    · intro hi
      rcases (part_rch hi).mem with rfl | h1
      · exact l2
      · exact h1
    · intro hi
      exact rch_part hl h.bd (hall _ _ l2 hi)

/-- The others that are connected with a node; whether they are not, without it. -/
def othersN (n : Nat) (r : Nat → Nat) (set v : Nat) : Nat := diff (partS n r set v) (2 ^ v)
def cutRB (n : Nat) (r : Nat → Nat) (set v : Nat) : Bool := set.testBit v && othersN n r set v != 0 && !connN n r (othersN n r set v : Nat)
theorem cut_is {n : Nat} {r : Nat → Nat} (h : Pl n r) {v : Nat} (hv : v < n) : isCutP n r v = cutRB n r (2 ^ n - 1) v := by
  have h10 := pow_le10 h.le
  have hO : ∀ i, (othersN n r (2 ^ n - 1) v).testBit i = true ↔ i ≠ v ∧ Rch r (2 ^ n - 1) v i := fun i => by
    unfold othersN
    rw [testBit_diff, Bool.and_eq_true, part_iff h.bd hv, Nat.testBit_two_pow]
    simp only [Bool.not_eq_true', decide_eq_false_iff_not]
    exact ⟨fun h => ⟨fun e => h.2 e.symm, h.1⟩, fun h => ⟨h.2, fun e => h.1 e.symm⟩⟩
  have hOlt : othersN n r (2 ^ n - 1) v < 2 ^ n := Nat.lt_of_le_of_lt (diff_le _ _) (partS_lt hv h.bd)
  have hvall : (2 ^ n - 1).testBit v = true := by rw [testBit_all]; exact decide_eq_true hv
  have nb_in : ∀ c, (r v).testBit c = true → (othersN n r (2 ^ n - 1) v).testBit c = true := fun c hc => by
    have hcn := bit_lt (h.bd v hv) hc
    exact (hO c).2 ⟨fun e => (by subst e; rw [h.loop c hv] at hc; cases hc), Rch.step .refl hc (by rw [testBit_all]; exact decide_eq_true hcn)⟩
  unfold isCutP cutRB
  rw [hvall, Bool.true_and]
  by_cases h0 : r v = 0
  · have : othersN n r (2 ^ n - 1) v = 0 := by
      apply Nat.eq_of_testBit_eq
      intro i
      rw [Nat.zero_testBit, Bool.eq_false_iff]
      intro hi
      obtain ⟨h1, h2⟩ := (hO i).1 hi
      have key : ∀ y, Rch r (2 ^ n - 1) v y → y = v := fun y hy => by
        induction hy with
        | refl => rfl
        | step _ e1 _ ih => subst ih; rw [h0, Nat.zero_testBit] at e1; cases e1
      exact h1 (key i h2)
    rw [h0, this]; rfl
  · have hrv := h.bd v hv
    have hpos : 0 < r v := by omega
    obtain ⟨_, l2, _⟩ := lowN_all (r v) (by omega) hpos
    have hl := lowN_lt h.le hpos hrv
    generalize hlo : lowN (r v) = l at *
    have hlO := nb_in l l2
    have hOpos : 0 < othersN n r (2 ^ n - 1) v := by
      apply Nat.pos_of_ne_zero
      intro e
      rw [e, Nat.zero_testBit] at hlO; cases hlO
    have hlv : l ≠ v := ((hO l).1 hlO).1
    have e1 : (r v != 0) = true := by simpa using h0
    have e2 : (othersN n r (2 ^ n - 1) v != 0) = true := by rw [bne_iff_ne]; omega
    rw [e1, e2, Bool.true_and, Bool.true_and]
    congr 1
    rw [Bool.eq_iff_iff, conn_iff h hOpos hOlt, beq_iff_eq]
    have hsub : diff (r v) (partS n r (butS n v) l) = 0 ↔ ∀ c, (r v).testBit c = true → Rch r (butS n v) l c := by
      constructor
      · intro e c hc
        have := congrArg (fun t => t.testBit c) e
        simp only [testBit_diff, Nat.zero_testBit, hc, Bool.true_and] at this
        exact part_rch (by simpa using this)
      · intro hall
        apply Nat.eq_of_testBit_eq
        intro c
        rw [testBit_diff, Nat.zero_testBit]
        cases hc : (r v).testBit c
        · rfl
        · rw [rch_part hl h.bd (hall c hc)]; rfl
    rw [hsub]
    have hOC : ∀ y, Rch r (butS n v) l y → (othersN n r (2 ^ n - 1) v).testBit y = true := fun y hy => by
      refine (hO y).2 ⟨?_, ((hO l).1 hlO).2.trans (hy.mono fun i hi => by rw [testBit_all]; exact decide_eq_true (but_iff.1 hi).1)⟩
      rcases hy.mem with rfl | h1
      · exact hlv
      · exact (but_iff.1 h1).2
    constructor
    · intro hall x y hx hy
      have key : ∀ y, Rch r (2 ^ n - 1) v y → y = v ∨ Rch r (butS n v) l y := fun y hy => by
        induction hy with
        | refl => exact .inl rfl
        | @step u y hu a1 a2 ih =>
          by_cases hyv : y = v
          · exact .inl hyv
          · have hyn := bit_lt (all_lt n) a2
            rcases ih with rfl | ih
            · exact .inr (hall y a1)
            · exact .inr (.step ih a1 (but_true hyn hyv))
      have toC : ∀ y, (othersN n r (2 ^ n - 1) v).testBit y = true → Rch r (butS n v) l y := fun y hy => by
        obtain ⟨a1, a2⟩ := (hO y).1 hy
        exact (key y a2).resolve_left a1
      have up : ∀ x y, Rch r (butS n v) l x → Rch r (butS n v) x y → Rch r (othersN n r (2 ^ n - 1) v) x y := fun x y h1 h2 => by
        induction h2 with
        | refl => exact .refl
        | step h3 a1 a2 ih => exact .step ih a1 (hOC _ ((h1.trans h3).trans (.step .refl a1 a2)))
      have gx := toC x hx
      have hbl : (butS n v).testBit l = true := but_true hl hlv
      exact up x y gx ((Rch.symm h.sym butS_lt hl hbl gx).trans (toC y hy))
    · intro hall c hc
      refine (hall l c hlO (nb_in c hc)).mono fun i hi => ?_
      exact but_true (bit_lt hOlt hi) ((hO i).1 hi).1

end Go.Proofs.YtcpdedgmhpehiaaDoor
