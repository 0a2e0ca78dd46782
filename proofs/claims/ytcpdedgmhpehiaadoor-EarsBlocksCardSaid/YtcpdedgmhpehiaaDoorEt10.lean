/- The reference's blocks: the greatest connected sets without a cut node are the blocks of the edges (for EarsBlocks). -/
import Derived.Test.YtcpdedgmhpehiaaDoorEt7
import Derived.Test.YtcpdedgmhpehiaaDoorEt9
namespace Go.Proofs.YtcpdedgmhpehiaaDoor
set_option linter.unusedSimpArgs false
set_option linter.unusedVariables false

/-- A neighbour of a block's node, in the part of the others in which the block lies, is in the block. -/
theorem blk_nb {n : Nat} {r : Nat → Nat} (h : Pl n r) {a b : Nat} (ha : a < n) (hb : b < n) {v u : Nat} (hv : (blkTo n r a b n).testBit v = true) (hu : u < n) (hvu : (r v).testBit u = true) (hR : Rch r (butS n v) (if a = v then b else a) u) : (blkTo n r a b n).testBit u = true :=
  (blk_in h ha hb u).2 ⟨hu, fun x hx => by
    by_cases e : u = x
    · exact .inl e
    · right
      by_cases e2 : x = v
      · subst e2; exact hR
      · rcases ((blk_in h ha hb v).1 hv).2 x hx with e3 | e3
        · exact absurd e3.symm e2
        · exact .step e3 hvu (but_true hu e)⟩
/-- Within a block, too, its nodes hang together outside each one. -/
theorem blk_within {n : Nat} {r : Nat → Nat} (h : Pl n r) {a b : Nat} (ha : a < n) (hb : b < n) (hab : a ≠ b) (hadj : (r a).testBit b = true) {v x : Nat} (hv : v < n) (hx : (blkTo n r a b n).testBit x = true) (hxv : x ≠ v) :
    Rch r (diff (blkTo n r a b n) (2 ^ v)) (if a = v then b else a) x := by
  have hends := blk_ends h ha hb hab hadj
  have hin : ∀ y, (blkTo n r a b n).testBit y = true → y ≠ v → (diff (blkTo n r a b n) (2 ^ v)).testBit y = true := fun y h1 h2 => by
    rw [testBit_diff, h1, Nat.testBit_two_pow, decide_eq_false (fun e => h2 e.symm)]; rfl
  have key : ∀ y, Rch r (butS n v) (if a = v then b else a) y →
      ((blkTo n r a b n).testBit y = true ∧ Rch r (diff (blkTo n r a b n) (2 ^ v)) (if a = v then b else a) y) ∨
      ((blkTo n r a b n).testBit y = false ∧ ∃ c p, (blkTo n r a b n).testBit c = true ∧ Rch r (diff (blkTo n r a b n) (2 ^ v)) (if a = v then b else a) c ∧ p < n ∧ (r c).testBit p = true ∧ (blkTo n r a b n).testBit p = false ∧ Rch r (butS n c) p y) := by
    intro y hy
    induction hy with
    | refl => exact .inl ⟨by split; exact hends.2; exact hends.1, .refl⟩
    | @step u x hu e1 e2 ih =>
      have hxn := (but_iff.1 e2).1
      have hxv := (but_iff.1 e2).2
      cases hbx : (blkTo n r a b n).testBit x
      · right
        rcases ih with ⟨i1, i2⟩ | ⟨i1, c, p, i2, i3, i4, i5, i6, i7⟩
        · exact ⟨rfl, u, x, i1, i2, hxn, e1, hbx, .refl⟩
        · exact ⟨rfl, c, p, i2, i3, i4, i5, i6, .step i7 e1 (but_true hxn fun e => by subst e; rw [i2] at hbx; cases hbx)⟩
      · left
        refine ⟨rfl, ?_⟩
        rcases ih with ⟨i1, i2⟩ | ⟨i1, c, p, i2, i3, i4, i5, i6, i7⟩
        · exact .step i2 e1 (hin x hbx hxv)
        · by_cases hxc : x = c
          · subst hxc; exact i3
          · exfalso
            have hcn := ((blk_in h ha hb c).1 i2).1
            have hpx : Rch r (butS n c) p x := .step i7 e1 (but_true hxn hxc)
            have hpc : p ≠ c := fun e => by subst e; rw [i2] at i6; cases i6
            rcases ((blk_in h ha hb x).1 hbx).2 c hcn with e3 | e3
            · exact hxc e3
            · have := blk_nb h ha hb i2 i4 i5 (e3.trans (Rch.symm h.sym butS_lt i4 (but_true i4 hpc) hpx))
              rw [this] at i6; cases i6
  rcases ((blk_in h ha hb x).1 hx).2 v hv with e | e
  · exact absurd e hxv
  · rcases key x e with ⟨_, k⟩ | ⟨k, _⟩
    · exact k
    · rw [hx] at k; cases k
theorem rch_with {n : Nat} {r : Nat → Nat} (h : Pl n r) {s e x y : Nat} (hs : s < 2 ^ n) (he : s.testBit e = true) (h1 : Rch r s e x) (h2 : Rch r s e y) : Rch r s x y :=
  (Rch.symm h.sym hs (bit_lt hs he) he h1).trans h2

/-- What the reference asks of a set: connected, and no node of it is a cut node of it. -/
def okB (n : Nat) (r : Nat → Nat) (s : Nat) : Bool := connN n r (s : Int) && cutsRTo n r s n == 0
theorem cutsRTo_zero {n : Nat} {r : Nat → Nat} {s : Nat} : ∀ k, cutsRTo n r s k = 0 ↔ ∀ v, v < k → cutRB n r s v = false := by
  intro k
  induction k with
  | zero => exact ⟨fun _ v hv => by omega, fun _ => rfl⟩
  | succ k ih =>
    unfold cutsRTo
    constructor
    · intro h0 v hv
      cases hk : cutRB n r s k
      · rw [hk] at h0
        rcases Nat.lt_succ_iff_lt_or_eq.1 hv with h | h
        · exact (ih.1 h0) v h
        · rw [h]; exact hk
      · rw [hk, if_pos rfl] at h0
        have := Nat.testBit_or (cutsRTo n r s k) (2 ^ k) k
        rw [h0, bit_pow, Nat.zero_testBit, Bool.or_true] at this
        cases this
    · intro hall
      rw [hall k (by omega), if_neg (by decide)]
      exact ih.2 fun v hv => hall v (by omega)
theorem others_bit {n : Nat} {r : Nat → Nat} (h : Pl n r) {s v : Nat} (hv : v < n) (i : Nat) : (othersN n r s v).testBit i = true ↔ i ≠ v ∧ Rch r s v i := by
  unfold othersN
  rw [testBit_diff, Bool.and_eq_true, part_iff h.bd hv, Nat.testBit_two_pow]
  simp only [Bool.not_eq_true', decide_eq_false_iff_not]
  exact ⟨fun h => ⟨fun e => h.2 e.symm, h.1⟩, fun h => ⟨h.2, fun e => h.1 e.symm⟩⟩
theorem others_lt {n : Nat} {r : Nat → Nat} (h : Pl n r) {s v : Nat} (hv : v < n) : othersN n r s v < 2 ^ n := by
  unfold othersN
  exact Nat.lt_of_le_of_lt (diff_le _ _) (partS_lt hv h.bd)
/-- An edge's block is connected, and has no cut node. -/
theorem blk_ok {n : Nat} {r : Nat → Nat} (h : Pl n r) {a b : Nat} (ha : a < n) (hb : b < n) (hab : a ≠ b) (hadj : (r a).testBit b = true) : okB n r (blkTo n r a b n) = true ∧ 2 ≤ szS n (blkTo n r a b n) := by
  have hends := blk_ends h ha hb hab hadj
  have hlt : blkTo n r a b n < 2 ^ n := blkTo_lt n
  have hpos : 0 < blkTo n r a b n := Nat.pos_of_ne_zero fun e => by rw [e] at hends; simp at hends
  have hfrom : ∀ x, (blkTo n r a b n).testBit x = true → Rch r (blkTo n r a b n) a x := fun x hx => by
    by_cases e : x = a
    · subst e; exact .refl
    · have := blk_within h ha hb hab hadj ha hx e
      rw [if_pos rfl] at this
      refine (Rch.step .refl hadj hends.2).trans (this.mono fun i hi => ?_)
      rw [testBit_diff, Bool.and_eq_true] at hi
      exact hi.1
  refine ⟨?_, szS_two ha hb hab hends.1 hends.2⟩
  unfold okB
  rw [Bool.and_eq_true]
  refine ⟨(conn_iff h hpos hlt).2 fun x y hx hy => rch_with h hlt hends.1 (hfrom x hx) (hfrom y hy), ?_⟩
  rw [beq_iff_eq, cutsRTo_zero]
  intro v hv
  unfold cutRB
  cases hbv : (blkTo n r a b n).testBit v
  · rfl
  · rw [Bool.true_and]
    by_cases h0 : othersN n r (blkTo n r a b n) v = 0
    · rw [h0]; rfl
    · rw [bne_iff_ne.2 h0, Bool.true_and, Bool.not_eq_false']
      have hmem : ∀ i, (othersN n r (blkTo n r a b n) v).testBit i = true → (blkTo n r a b n).testBit i = true ∧ i ≠ v := fun i hi => by
        obtain ⟨h1, h2⟩ := (others_bit h hv i).1 hi
        rcases h2.mem with e | e
        · exact absurd e h1
        · exact ⟨e, h1⟩
      have hsub : ∀ i, (diff (blkTo n r a b n) (2 ^ v)).testBit i = true → (othersN n r (blkTo n r a b n) v).testBit i = true := fun i hi => by
        rw [testBit_diff, Bool.and_eq_true, Nat.testBit_two_pow] at hi
        simp only [Bool.not_eq_true', decide_eq_false_iff_not] at hi
        exact (others_bit h hv i).2 ⟨fun e => hi.2 e.symm, rch_with h hlt hends.1 (hfrom v hbv) (hfrom i hi.1)⟩
      refine (conn_iff h (Nat.pos_of_ne_zero h0) (others_lt h hv)).2 fun x y hx hy => ?_
      obtain ⟨x1, x2⟩ := hmem x hx
      obtain ⟨y1, y2⟩ := hmem y hy
      refine rch_with h (others_lt h hv) (hsub _ (?_ : (diff (blkTo n r a b n) (2 ^ v)).testBit (if a = v then b else a) = true)) ((blk_within h ha hb hab hadj hv x1 x2).mono hsub) ((blk_within h ha hb hab hadj hv y1 y2).mono hsub)
      rw [testBit_diff, Nat.testBit_two_pow]
      split
      · rename_i e
        rw [hends.2, decide_eq_false (fun e2 => hab (e.trans e2))]; rfl
      · rename_i e
        rw [hends.1, decide_eq_false (fun e2 => e e2.symm)]; rfl
/-- A connected set of two nodes or more without a cut node lies in an edge's block. -/
theorem ok_blk {n : Nat} {r : Nat → Nat} (h : Pl n r) {s : Nat} (hs : s < 2 ^ n) (h2 : 2 ≤ szS n s) (hok : okB n r s = true) :
    ∃ a b, a < b ∧ b < n ∧ (r a).testBit b = true ∧ ∀ x, s.testBit x = true → (blkTo n r a b n).testBit x = true := by
  unfold okB at hok
  rw [Bool.and_eq_true, beq_iff_eq, cutsRTo_zero] at hok
  have hpos : 0 < s := Nat.pos_of_ne_zero fun e => by
    subst e
    have := szS_none (n := n) (T := 0) fun i _ => Nat.zero_testBit i
    omega
  have hc := (conn_iff h hpos hs).1 hok.1
  -- two nodes, and so an edge within
  obtain ⟨p, hp⟩ := Nat.exists_testBit_of_ne_zero (Nat.ne_of_gt hpos)
  have hq : ∃ q, s.testBit q = true ∧ q ≠ p := by
    apply Classical.byContradiction
    intro hno
    have h1 := szS_drop (n := n) (T := s) (p := p)
    have h3 : szS n (diff s (2 ^ p)) = 0 := szS_none fun i hi => by
      rw [testBit_diff, Nat.testBit_two_pow]
      apply Classical.byContradiction
      intro hne
      rw [Bool.not_eq_false, Bool.and_eq_true] at hne
      exact hno ⟨i, hne.1, fun e => by subst e; simp at hne⟩
    omega
  obtain ⟨q, hq, hqp⟩ := hq
  have hpn := bit_lt hs hp
  have hfirst : ∃ y, (r p).testBit y = true ∧ s.testBit y = true := by
    have : ∀ z, Rch r s p z → z = p ∨ ∃ y, (r p).testBit y = true ∧ s.testBit y = true := fun z hz => by
      induction hz with
      | refl => exact .inl rfl
      | @step u x _ e1 e2 ih =>
        rcases ih with e | e
        · subst e; exact .inr ⟨x, e1, e2⟩
        · exact .inr e
    rcases this q (hc p q hp hq) with e | e
    · exact absurd e hqp
    · exact e
  obtain ⟨y, hpy, hy⟩ := hfirst
  have hyn := bit_lt hs hy
  have hyp : p ≠ y := fun e => by subst e; rw [h.loop p hpn] at hpy; cases hpy
  have hall : ∀ x, s.testBit x = true → (blkTo n r p y n).testBit x = true := fun x hx => (blk_in h hpn hyn x).2 ⟨bit_lt hs hx, fun v hv => by
    by_cases e : x = v
    · exact .inl e
    right
    have hend : s.testBit (if p = v then y else p) = true ∧ (if p = v then y else p) ≠ v := by
      split
      · rename_i q; exact ⟨hy, fun e => hyp (q.trans e.symm)⟩
      · rename_i q; exact ⟨hp, q⟩
    by_cases hsv : s.testBit v = true
    · have hno := hok.2 v hv
      unfold cutRB at hno
      rw [hsv, Bool.true_and] at hno
      have ex : (othersN n r s v).testBit x = true := (others_bit h hv x).2 ⟨e, hc v x hsv hx⟩
      have ee : (othersN n r s v).testBit (if p = v then y else p) = true := (others_bit h hv _).2 ⟨hend.2, hc v _ hsv hend.1⟩
      have h0 : othersN n r s v ≠ 0 := fun e0 => by rw [e0] at ex; simp at ex
      rw [bne_iff_ne.2 h0, Bool.true_and, Bool.not_eq_false'] at hno
      refine ((conn_iff h (Nat.pos_of_ne_zero h0) (others_lt h hv)).1 hno _ _ ee ex).mono fun i hi => ?_
      obtain ⟨i1, i2⟩ := (others_bit h hv i).1 hi
      exact but_true (i2.lt hs hv) i1
    · exact (hc _ _ hend.1 hx).mono fun i hi => but_true (bit_lt hs hi) fun e2 => by subst e2; exact hsv hi⟩
  by_cases hlt : p < y
  · exact ⟨p, y, hlt, hyn, hpy, hall⟩
  · exact ⟨y, p, by omega, hpn, by rw [h.sym y p hyn hpn]; exact hpy, by rw [blk_swap h hyn hpn hyp.symm (by rw [h.sym y p hyn hpn]; exact hpy)]; exact hall⟩

/-- The blocks of the edges. -/
def edgeB (n : Nat) (r : Nat → Nat) (s : Nat) : Prop := ∃ a b, a < b ∧ b < n ∧ (r a).testBit b = true ∧ s = blkTo n r a b n
theorem edgeB_lt {n : Nat} {r : Nat → Nat} {s : Nat} (he : edgeB n r s) : s < 2 ^ n := by obtain ⟨a, b, _, _, _, rfl⟩ := he; exact blkTo_lt n
theorem edgeB_ok {n : Nat} {r : Nat → Nat} (h : Pl n r) {s : Nat} (he : edgeB n r s) : okB n r s = true ∧ 2 ≤ szS n s := by
  obtain ⟨a, b, h1, h2, h3, rfl⟩ := he
  exact blk_ok h (by omega) h2 (by omega) h3
theorem edgeB_mem {n : Nat} {r : Nat → Nat} (h : Pl n r) {s : Nat} (he : edgeB n r s) : s ∈ blkL n r := by
  obtain ⟨a, b, h1, h2, h3, rfl⟩ := he
  exact blkL_edge h h1 h2 h3
theorem two_of {n s : Nat} (hs : s < 2 ^ n) (h2 : 2 ≤ szS n s) : ∃ p q, p ≠ q ∧ s.testBit p = true ∧ s.testBit q = true := by
  have hpos : s ≠ 0 := fun e => by
    subst e
    have := szS_none (n := n) (T := 0) fun i _ => Nat.zero_testBit i
    omega
  obtain ⟨p, hp⟩ := Nat.exists_testBit_of_ne_zero hpos
  apply Classical.byContradiction
  intro hno
  have h1 := szS_drop (n := n) (T := s) (p := p)
  have h3 : szS n (diff s (2 ^ p)) = 0 := szS_none fun i hi => by
    rw [testBit_diff, Nat.testBit_two_pow]
    apply Classical.byContradiction
    intro hne
    rw [Bool.not_eq_false, Bool.and_eq_true] at hne
    exact hno ⟨p, i, fun e => by subst e; simp at hne, hp, hne.1⟩
  omega
/-- A set with two nodes or more lies in one edge's block at most. -/
theorem edgeB_one {n : Nat} {r : Nat → Nat} (h : Pl n r) {s x y : Nat} (hs : s < 2 ^ n) (h2 : 2 ≤ szS n s) (hx : edgeB n r x) (hy : edgeB n r y) (h3 : diff s x = 0) (h4 : diff s y = 0) : x = y := by
  obtain ⟨p, q, hpq, hp, hq⟩ := two_of hs h2
  have sub : ∀ {t i : Nat}, diff s t = 0 → s.testBit i = true → t.testBit i = true := fun {t i} h0 hi => by
    have := testBit_diff s t i
    rw [h0, Nat.zero_testBit, hi, Bool.true_and] at this
    cases ht : t.testBit i
    · rw [ht] at this; cases this
    · rfl
  exact blkL_two h (edgeB_mem h hx) (edgeB_mem h hy) hpq (sub h3 hp) (sub h4 hp) (sub h3 hq) (sub h4 hq)
theorem diff_zero {s t : Nat} : diff s t = 0 ↔ ∀ i, s.testBit i = true → t.testBit i = true := by
  constructor
  · intro h0 i hi
    have := testBit_diff s t i
    rw [h0, Nat.zero_testBit, hi, Bool.true_and] at this
    cases ht : t.testBit i
    · rw [ht] at this; cases this
    · rfl
  · intro hall
    apply Nat.eq_of_testBit_eq
    intro i
    rw [testBit_diff, Nat.zero_testBit]
    cases hi : s.testBit i
    · rfl
    · rw [hall i hi]; rfl
theorem ok_sub {n : Nat} {r : Nat → Nat} (h : Pl n r) {s : Nat} (hs : s < 2 ^ n) (h2 : 2 ≤ szS n s) (hok : okB n r s = true) : ∃ x, edgeB n r x ∧ diff s x = 0 := by
  obtain ⟨a, b, h1, h3, h4, h5⟩ := ok_blk h hs h2 hok
  exact ⟨_, ⟨a, b, h1, h3, h4, rfl⟩, diff_zero.2 h5⟩

/-- What is found when all sets of more than m nodes were looked at, and those of m nodes below j. -/
structure Fnd (n : Nat) (r : Nat → Nat) (m j : Nat) (F : List Nat) : Prop where
  nd : F.Nodup
  mem : ∀ x, x ∈ F ↔ edgeB n r x ∧ (m < szS n x ∨ szS n x = m ∧ x < j)
theorem Fnd.len {n : Nat} {r : Nat → Nat} {m j : Nat} {F : List Nat} (h : Pl n r) (f : Fnd n r m j F) : F.length ≤ 200 := by
  have h1 := len_sub f.nd fun x hx => edgeB_mem h ((f.mem x).1 hx).1
  have h2 := isoTo_len r n
  have h3 := edgesTo_len r n
  have := h.le
  unfold blkL at h1
  rw [List.length_append, List.length_map] at h1
  omega
theorem Fnd.start {n : Nat} {r : Nat → Nat} : Fnd n r n 0 [] := ⟨List.nodup_nil, fun x => ⟨fun h => (by cases h), fun h => (by have := szS_le n x; omega)⟩⟩
theorem Fnd.next {n : Nat} {r : Nat → Nat} {m : Nat} {F : List Nat} (hm : 1 ≤ m) (f : Fnd n r m (2 ^ n) F) : Fnd n r (m - 1) 0 F := ⟨f.nd, fun x => by
  rw [f.mem x]
  constructor
  · rintro ⟨h1, h2⟩; exact ⟨h1, by omega⟩
  · rintro ⟨h1, h2⟩; have := edgeB_lt h1; exact ⟨h1, by omega⟩⟩
theorem Fnd.skip {n : Nat} {r : Nat → Nat} {m j : Nat} {F : List Nat} (f : Fnd n r m j F) (hno : ¬ (edgeB n r j ∧ szS n j = m)) : Fnd n r m (j + 1) F := ⟨f.nd, fun x => by
  rw [f.mem x]
  constructor
  · rintro ⟨h1, h2⟩; exact ⟨h1, by omega⟩
  · rintro ⟨h1, h2⟩
    refine ⟨h1, ?_⟩
    rcases h2 with h2 | ⟨h2, h3⟩
    · exact .inl h2
    · rcases Nat.lt_succ_iff_lt_or_eq.1 h3 with h4 | h4
      · exact .inr ⟨h2, h4⟩
      · subst h4; exact absurd ⟨h1, h2⟩ hno⟩
/-- A set that is asked for, and a part of none before. -/
theorem Fnd.take {n : Nat} {r : Nat → Nat} (h : Pl n r) {m j : Nat} {F : List Nat} (hm : 2 ≤ m) (f : Fnd n r m j F) (hj : j < 2 ^ n) (hsz : szS n j = m) (hok : okB n r j = true) (hno : ∀ x, x ∈ F → diff j x ≠ 0) : Fnd n r m (j + 1) (F ++ [j]) := by
  obtain ⟨x, hx, hd⟩ := ok_sub h hj (by omega) hok
  have hjx : j = x := by
    apply Classical.byContradiction
    intro hne
    have hsub := diff_zero.1 hd
    have hlt : szS n j < szS n x := by
      obtain ⟨i, hi⟩ : ∃ i, x.testBit i = true ∧ j.testBit i = false := by
        apply Classical.byContradiction
        intro hno
        refine hne (Nat.eq_of_testBit_eq fun i => ?_)
        cases hji : j.testBit i
        · cases hxi : x.testBit i
          · rfl
          · exact absurd ⟨i, hxi, hji⟩ hno
        · rw [hsub i hji]
      exact szS_lt (fun i _ hi => hsub i hi) (bit_lt (edgeB_lt hx) hi.1) hi.2 hi.1
    exact hno x ((f.mem x).2 ⟨hx, .inl (by omega)⟩) hd
  subst hjx
  refine ⟨?_, fun x => ?_⟩
  · rw [List.nodup_append]
    refine ⟨f.nd, List.nodup_cons.2 ⟨by simp, List.nodup_nil⟩, fun y hy z hz e => ?_⟩
    rw [List.mem_singleton] at hz
    subst hz; subst e
    have := ((f.mem y).1 hy).2
    omega
  · rw [List.mem_append, List.mem_singleton, f.mem x]
    constructor
    · rintro (⟨h1, h2⟩ | rfl)
      · exact ⟨h1, by omega⟩
      · exact ⟨hx, .inr ⟨hsz, Nat.lt_succ_self _⟩⟩
    · rintro ⟨h1, h2⟩
      rcases h2 with h2 | ⟨h2, h3⟩
      · exact .inl ⟨h1, .inl h2⟩
      · rcases Nat.lt_succ_iff_lt_or_eq.1 h3 with h4 | h4
        · exact .inl ⟨h1, .inr ⟨h2, h4⟩⟩
        · exact .inr h4
/-- A part of one before is not asked for, whether or not it is an edge's block. -/
theorem Fnd.part {n : Nat} {r : Nat → Nat} (h : Pl n r) {m j : Nat} {F : List Nat} (hm : 2 ≤ m) (f : Fnd n r m j F) (hj : j < 2 ^ n) {x : Nat} (hx : x ∈ F) (hd : diff j x = 0) : Fnd n r m (j + 1) F := by
  refine f.skip fun hh => ?_
  obtain ⟨h1, h2⟩ := (f.mem x).1 hx
  have : j = x := edgeB_one h hj (by omega) hh.1 h1 (diff_zero.2 fun i hi => hi) hd
  subst this
  omega
theorem Fnd.bad {n : Nat} {r : Nat → Nat} (h : Pl n r) {m j : Nat} {F : List Nat} (f : Fnd n r m j F) (hbad : szS n j = m → okB n r j = false) : Fnd n r m (j + 1) F :=
  f.skip fun hh => by
    have := (edgeB_ok h hh.1).1
    rw [hbad hh.2] at this; cases this
/-- At the end, with the nodes alone. -/
theorem Fnd.all {n : Nat} {r : Nat → Nat} (h : Pl n r) {F : List Nat} (f : Fnd n r 1 0 F) : (F ++ isoTo r n).Nodup ∧ ∀ x, x ∈ F ++ isoTo r n ↔ x ∈ blkL n r := by
  have hF : ∀ x, x ∈ F ↔ edgeB n r x := fun x => by
    rw [f.mem x]
    exact ⟨fun h => h.1, fun h1 => ⟨h1, .inl (by have := (edgeB_ok h h1).2; omega)⟩⟩
  have iso1 : ∀ x, x ∈ isoTo r n → szS n x ≤ 1 := fun x hx => by
    obtain ⟨v, hv, rfl, _⟩ := isoTo_iso n hx
    have h1 := szS_drop (n := n) (T := 2 ^ v) (p := v)
    have h2 : szS n (diff (2 ^ v) (2 ^ v)) = 0 := szS_none fun i _ => by rw [testBit_diff]; cases (2 ^ v).testBit i <;> rfl
    omega
  have ndi : ∀ k, (isoTo r k).Nodup := by
    intro k
    induction k with
    | zero => exact List.nodup_nil
    | succ k ih =>
      unfold isoTo
      rw [List.nodup_append]
      refine ⟨ih, by split; exact List.nodup_cons.2 ⟨by simp, List.nodup_nil⟩; exact List.nodup_nil, fun x hx y hy e => ?_⟩
      subst e
      obtain ⟨v, hv, rfl, _⟩ := isoTo_iso k hx
      split at hy
      · rw [List.mem_singleton] at hy
        have := (Nat.pow_right_inj (a := 2) (by omega)).1 hy
        omega
      · cases hy
  refine ⟨?_, fun x => ?_⟩
  · rw [List.nodup_append]
    refine ⟨f.nd, ndi n, fun x hx y hy e => ?_⟩
    subst e
    have := (edgeB_ok h ((hF x).1 hx)).2
    have := iso1 x hy
    omega
  · rw [List.mem_append, hF]
    unfold blkL
    rw [List.mem_append]
    constructor
    · rintro (h1 | h1)
      · have := edgeB_mem h h1
        unfold blkL at this
        rw [List.mem_append] at this; exact this
      · exact .inl h1
    · rintro (h1 | h1)
      · exact .inr h1
      · left
        obtain ⟨e, he, rfl⟩ := List.mem_map.1 h1
        have hl := edgesTo_lt h.bd n (Nat.le_refl _) e he
        have hj := edgesTo_adj n e he
        exact ⟨e.1, e.2, hj.1, hl.2, hj.2, rfl⟩

/-- The list as the reference makes it in the end: set by set, those that were found. -/
def outTo (F : List Nat) (j : Nat) : List Nat := (List.range j).filter fun x => decide (x ∈ F)
theorem outTo_succ (F : List Nat) (j : Nat) : outTo F (j + 1) = outTo F j ++ (if j ∈ F then [j] else []) := by
  unfold outTo
  rw [List.range_succ, List.filter_append]
  by_cases h : j ∈ F
  · rw [if_pos h, List.filter_cons, if_pos (decide_eq_true h)]; rfl
  · rw [if_neg h, List.filter_cons, if_neg (by simpa using h)]; rfl
theorem outTo_len {F : List Nat} {j : Nat} : (outTo F j).length ≤ F.length :=
  len_sub (List.nodup_range.filter _) fun x hx => of_decide_eq_true (List.mem_filter.1 hx).2
theorem rising_eq {l l' : List Int} (h : l.Pairwise (fun x y => x < y)) (h' : l'.Pairwise (fun x y => x < y)) (hm : ∀ x, x ∈ l ↔ x ∈ l') : l = l' := by
  have nd : ∀ {l : List Int}, l.Pairwise (fun x y => x < y) → l.Nodup := fun h => h.imp fun h e => by omega
  exact List.Perm.eq_of_pairwise (le := fun x y => x ≤ y) (fun a b _ _ h1 h2 => by omega) (h.imp fun h => by omega) (h'.imp fun h => by omega) ((List.perm_ext_iff_of_nodup (nd h) (nd h')).2 hm)
theorem out_blocks {n : Nat} {r : Nat → Nat} {F : List Nat} (hm : ∀ x, x ∈ F ↔ x ∈ blkL n r) : castL (outTo F (2 ^ n)) = blocksI n r := by
  refine rising_eq ?_ (blocksI_rise n r) fun x => ?_
  · unfold castL
    rw [List.pairwise_map]
    have : (List.range (2 ^ n)).Pairwise (fun x y => x < y) := List.pairwise_lt_range
    exact (this.filter _).imp fun h => by omega
  · unfold castL outTo
    rw [List.mem_map]
    constructor
    · rintro ⟨m, h1, rfl⟩
      exact blocksI_has ((hm m).1 (of_decide_eq_true (List.mem_filter.1 h1).2))
    · intro hx
      obtain ⟨m, h1, rfl⟩ := blocksI_mem hx
      exact ⟨m, List.mem_filter.2 ⟨List.mem_range.2 (blkL_lt h1), decide_eq_true ((hm m).2 h1)⟩, rfl⟩

end Go.Proofs.YtcpdedgmhpehiaaDoor
