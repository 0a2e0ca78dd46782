/- Two blocks that have two nodes in common are one; one node that two blocks have in common is a cut node (for EarsParts). -/
import Derived.Test.YtcpdedgmhpehiaaDoorEt5
import Derived.Test.YtcpdedgmhpehiaaDoorEt2
namespace Go.Proofs.YtcpdedgmhpehiaaDoor
set_option linter.unusedSimpArgs false
set_option linter.unusedVariables false

/-- A node in the block of an edge: outside each other node it hangs together with the edge. -/
theorem blk_in {n : Nat} {r : Nat → Nat} (h : Pl n r) {a b : Nat} (ha : a < n) (hb : b < n) (x : Nat) :
    (blkTo n r a b n).testBit x = true ↔ x < n ∧ ∀ v, v < n → x = v ∨ Rch r (butS n v) (if a = v then b else a) x := by
  rw [testBit_blk]
  constructor
  · rintro ⟨h1, h2⟩; exact ⟨h1, fun v hv => (h2 v hv).imp_right fun h3 => part_rch h3⟩
  · rintro ⟨h1, h2⟩; exact ⟨h1, fun v hv => (h2 v hv).imp_right fun h3 => rch_part (by split <;> assumption) h.bd h3⟩
theorem end_but {n a b v : Nat} (ha : a < n) (hb : b < n) (hab : a ≠ b) : (butS n v).testBit (if a = v then b else a) = true := by
  split
  · rename_i q; exact but_true hb (by rw [← q]; exact hab.symm)
  · rename_i q; exact but_true ha q
theorem end_lt {n a b v : Nat} (ha : a < n) (hb : b < n) : (if a = v then b else a) < n := by split <;> assumption

/-- Where the parts outside each node are one, the blocks are. -/
theorem blk_of_ends {n : Nat} {r : Nat → Nat} (h : Pl n r) {a b c d : Nat} (ha : a < n) (hb : b < n) (hab : a ≠ b) (hc : c < n) (hd : d < n) (hcd : c ≠ d)
    (hR : ∀ v, v < n → Rch r (butS n v) (if a = v then b else a) (if c = v then d else c)) : blkTo n r a b n = blkTo n r c d n := by
  apply Nat.eq_of_testBit_eq
  intro x
  rw [Bool.eq_iff_iff, blk_in h ha hb, blk_in h hc hd]
  constructor
  · rintro ⟨h1, h2⟩
    exact ⟨h1, fun v hv => (h2 v hv).imp_right fun h3 => (Rch.symm h.sym butS_lt (end_lt ha hb) (end_but ha hb hab) (hR v hv)).trans h3⟩
  · rintro ⟨h1, h2⟩
    exact ⟨h1, fun v hv => (h2 v hv).imp_right fun h3 => (hR v hv).trans h3⟩
/-- A node other than v that is in both blocks joins their parts outside v. -/
theorem ends_join {n : Nat} {r : Nat → Nat} (h : Pl n r) {a b c d : Nat} (ha : a < n) (hb : b < n) (hc : c < n) (hd : d < n) (hcd : c ≠ d) {v p : Nat} (hv : v < n) (hpv : p ≠ v)
    (h1 : (blkTo n r a b n).testBit p = true) (h2 : (blkTo n r c d n).testBit p = true) : Rch r (butS n v) (if a = v then b else a) (if c = v then d else c) := by
  rcases ((blk_in h ha hb p).1 h1).2 v hv with e | e1
  · exact absurd e hpv
  rcases ((blk_in h hc hd p).1 h2).2 v hv with e | e2
  · exact absurd e hpv
  exact e1.trans (Rch.symm h.sym butS_lt (end_lt hc hd) (end_but hc hd hcd) e2)
theorem blk_eq {n : Nat} {r : Nat → Nat} (h : Pl n r) {a b c d : Nat} (ha : a < n) (hb : b < n) (hab : a ≠ b) (hc : c < n) (hd : d < n) (hcd : c ≠ d) {p q : Nat} (hpq : p ≠ q)
    (p1 : (blkTo n r a b n).testBit p = true) (p2 : (blkTo n r c d n).testBit p = true) (q1 : (blkTo n r a b n).testBit q = true) (q2 : (blkTo n r c d n).testBit q = true) : blkTo n r a b n = blkTo n r c d n := by
  refine blk_of_ends h ha hb hab hc hd hcd fun v hv => ?_
  by_cases e : p = v
  · exact ends_join h ha hb hc hd hcd hv (fun e2 => hpq (e.trans e2.symm)) q1 q2
  · exact ends_join h ha hb hc hd hcd hv e p1 p2
theorem blk_ends {n : Nat} {r : Nat → Nat} (h : Pl n r) {a b : Nat} (ha : a < n) (hb : b < n) (hab : a ≠ b) (hadj : (r a).testBit b = true) : (blkTo n r a b n).testBit a = true ∧ (blkTo n r a b n).testBit b = true := by
  constructor
  · refine (blk_in h ha hb a).2 ⟨ha, fun v hv => ?_⟩
    by_cases e : a = v
    · exact .inl e
    · rw [if_neg e]; exact .inr .refl
  · refine (blk_in h ha hb b).2 ⟨hb, fun v hv => ?_⟩
    by_cases e : a = v
    · rw [if_pos e]; exact .inr .refl
    · rw [if_neg e]
      by_cases e2 : b = v
      · exact .inl e2
      · exact .inr (.step .refl hadj (but_true hb e2))
/-- A node of a block has a neighbour in the part of the others in which the block lies. -/
theorem blk_near {n : Nat} {r : Nat → Nat} (h : Pl n r) {a b : Nat} (ha : a < n) (hb : b < n) (hab : a ≠ b) (hadj : (r a).testBit b = true) {v : Nat} (hv : (blkTo n r a b n).testBit v = true) :
    ∃ u, u < n ∧ u ≠ v ∧ (r v).testBit u = true ∧ Rch r (butS n v) (if a = v then b else a) u := by
  have hvn := ((blk_in h ha hb v).1 hv).1
  by_cases eva : a = v
  · subst eva
    exact ⟨b, hb, hab.symm, hadj, by rw [if_pos rfl]; exact .refl⟩
  by_cases evb : b = v
  · subst evb
    exact ⟨a, ha, hab, by rw [h.sym b a hb ha]; exact hadj, by rw [if_neg hab]; exact .refl⟩
  rw [if_neg eva]
  rcases ((blk_in h ha hb v).1 hv).2 a ha with e | e
  · exact absurd e.symm eva
  rw [if_pos rfl] at e
  obtain ⟨u, hu, huv⟩ := e.first evb
  have hun : u < n ∧ u ≠ v := by
    rcases hu.mem with rfl | hm
    · exact ⟨hb, evb⟩
    · exact ⟨(diff_but hm).1, (diff_but hm).2.2⟩
  exact ⟨u, hun.1, hun.2, by rw [h.sym v u hvn hun.1]; exact huv, (Rch.step .refl hadj (but_true hb evb)).trans (hu.mono fun i hi => but_true (diff_but hi).1 (diff_but hi).2.2)⟩
/-- A node that two blocks have in common is a cut node. -/
theorem blk_cut {n : Nat} {r : Nat → Nat} (h : Pl n r) {a b c d : Nat} (ha : a < n) (hb : b < n) (hab : a ≠ b) (hadj : (r a).testBit b = true) (hc : c < n) (hd : d < n) (hcd : c ≠ d) (hadc : (r c).testBit d = true) {v : Nat}
    (h1 : (blkTo n r a b n).testBit v = true) (h2 : (blkTo n r c d n).testBit v = true) (hne : blkTo n r a b n ≠ blkTo n r c d n) : isCutP n r v = true := by
  have hvn := ((blk_in h ha hb v).1 h1).1
  apply Classical.byContradiction
  intro hno
  obtain ⟨u, u1, u2, u3, u4⟩ := blk_near h ha hb hab hadj h1
  obtain ⟨x, x1, x2, x3, x4⟩ := blk_near h hc hd hcd hadc h2
  have hr0 : r v ≠ 0 := fun e => by rw [e] at u3; simp at u3
  have hlo := lowN_lt h.le (Nat.pos_of_ne_zero hr0) (h.bd v hvn)
  have hb10 : r v < 1024 := Nat.lt_of_lt_of_le (h.bd v hvn) (pow_le10 h.le)
  have hlb := (lowN_all (r v) hb10 (Nat.pos_of_ne_zero hr0)).2.1
  have hlv : lowN (r v) ≠ v := fun e => by rw [e, h.loop v hvn] at hlb; cases hlb
  -- all neighbours of v hang together with the least one outside v
  have hall : ∀ y, (r v).testBit y = true → Rch r (butS n v) (lowN (r v)) y := by
    intro y hy
    apply Classical.byContradiction
    intro hny
    refine hno ?_
    unfold isCutP
    have hne : (diff (r v) (partS n r (butS n v) (lowN (r v))) == 0) = false := by
      rw [beq_eq_false_iff_ne]
      intro e0
      have : (diff (r v) (partS n r (butS n v) (lowN (r v)))).testBit y = true := by
        rw [testBit_diff, hy, Bool.true_and, Bool.not_eq_true']
        rw [Bool.eq_false_iff]
        exact fun e => hny (part_rch e)
      rw [e0] at this; simp at this
    rw [hne, bne_iff_ne.2 hr0]; rfl
  have hux : Rch r (butS n v) u x := (Rch.symm h.sym butS_lt hlo (but_true hlo hlv) (hall u u3)).trans (hall x x3)
  refine hne (blk_of_ends h ha hb hab hc hd hcd fun y hy => ?_)
  by_cases e : v = y
  · subst e
    exact (u4.trans hux).trans (Rch.symm h.sym butS_lt (end_lt hc hd) (end_but hc hd hcd) x4)
  · exact ends_join h ha hb hc hd hcd hy e h1 h2
/-- A node alone is in no edge's block. -/
theorem blk_alone {n : Nat} {r : Nat → Nat} (h : Pl n r) {a b : Nat} (ha : a < n) (hb : b < n) (hab : a ≠ b) (hadj : (r a).testBit b = true) {v : Nat} (hv : (blkTo n r a b n).testBit v = true) : r v ≠ 0 := by
  obtain ⟨u, _, _, u3, _⟩ := blk_near h ha hb hab hadj hv
  intro e
  rw [e] at u3; simp at u3

theorem isoTo_iso {r : Nat → Nat} {x : Nat} : ∀ k, x ∈ isoTo r k → ∃ v, v < k ∧ x = 2 ^ v ∧ r v = 0 := by
  intro k
  induction k with
  | zero => intro h; cases h
  | succ k ih =>
    intro h
    rcases List.mem_append.1 h with h | h
    · obtain ⟨v, h1, h2⟩ := ih h
      exact ⟨v, by omega, h2⟩
    · split at h
      · rename_i hz; exact ⟨k, by omega, by simpa using h, hz⟩
      · cases h
theorem edgesTo_has {r : Nat → Nat} {a b : Nat} (hb10 : b < 10) (hab : a < b) (hadj : (r a).testBit b = true) : ∀ k, a < k → (a, b) ∈ edgesTo r k := by
  intro k
  induction k with
  | zero => intro h; omega
  | succ k ih =>
    intro h
    by_cases e : a = k
    · subst e
      refine List.mem_append_right _ ?_
      unfold rowE
      exact List.mem_map.2 ⟨b, List.mem_filter.2 ⟨mem_bitsOf.2 ⟨hb10, hadj⟩, decide_eq_true hab⟩, rfl⟩
    · exact List.mem_append_left _ (ih (by omega))
/-- A set of the list is a node alone or an edge's block. -/
theorem blkL_cases {n : Nat} {r : Nat → Nat} (h : Pl n r) {s : Nat} (hs : s ∈ blkL n r) : (∃ v, v < n ∧ s = 2 ^ v ∧ r v = 0) ∨ ∃ a b, a < b ∧ b < n ∧ (r a).testBit b = true ∧ s = blkTo n r a b n := by
  rcases List.mem_append.1 hs with hm | hm
  · exact .inl (isoTo_iso n hm)
  · obtain ⟨e, he, rfl⟩ := List.mem_map.1 hm
    have hl := edgesTo_lt h.bd n (Nat.le_refl _) e he
    have hj := edgesTo_adj n e he
    exact .inr ⟨e.1, e.2, hj.1, hl.2, hj.2, rfl⟩
/-- Two sets of the list with two nodes in common are one. -/
theorem blkL_two {n : Nat} {r : Nat → Nat} (h : Pl n r) {s t p q : Nat} (hs : s ∈ blkL n r) (ht : t ∈ blkL n r) (hpq : p ≠ q) (p1 : s.testBit p = true) (p2 : t.testBit p = true) (q1 : s.testBit q = true) (q2 : t.testBit q = true) : s = t := by
  rcases blkL_cases h hs with ⟨v, _, rfl, _⟩ | ⟨a, b, hab, hb, hadj, rfl⟩
  · rw [Nat.testBit_two_pow, decide_eq_true_eq] at p1 q1
    omega
  rcases blkL_cases h ht with ⟨v, _, rfl, _⟩ | ⟨c, d, hcd, hd, hadc, rfl⟩
  · rw [Nat.testBit_two_pow, decide_eq_true_eq] at p2 q2
    omega
  exact blk_eq h (by omega) hb (by omega) (by omega) hd (by omega) hpq p1 p2 q1 q2
/-- A node in two sets of the list is a cut node. -/
theorem blkL_cut {n : Nat} {r : Nat → Nat} (h : Pl n r) {s t v : Nat} (hs : s ∈ blkL n r) (ht : t ∈ blkL n r) (hne : s ≠ t) (h1 : s.testBit v = true) (h2 : t.testBit v = true) : isCutP n r v = true := by
  rcases blkL_cases h hs with ⟨x, _, rfl, hx⟩ | ⟨a, b, hab, hb, hadj, rfl⟩
  · rw [Nat.testBit_two_pow, decide_eq_true_eq] at h1
    subst h1
    rcases blkL_cases h ht with ⟨y, _, rfl, hy⟩ | ⟨c, d, hcd, hd, hadc, rfl⟩
    · rw [Nat.testBit_two_pow, decide_eq_true_eq] at h2
      subst h2; exact absurd rfl hne
    · exact absurd hx (blk_alone h (by omega) hd (by omega) hadc h2)
  · rcases blkL_cases h ht with ⟨y, _, rfl, hy⟩ | ⟨c, d, hcd, hd, hadc, rfl⟩
    · rw [Nat.testBit_two_pow, decide_eq_true_eq] at h2
      subst h2
      exact absurd hy (blk_alone h (by omega) hb (by omega) hadj h1)
    · exact blk_cut h (by omega) hb (by omega) hadj (by omega) hd (by omega) hadc h1 h2 hne
/-- An edge's block is in the list; and a set of two nodes that is in the list is an edge's. -/
theorem blkL_edge {n : Nat} {r : Nat → Nat} (h : Pl n r) {a b : Nat} (hab : a < b) (hb : b < n) (hadj : (r a).testBit b = true) : blkTo n r a b n ∈ blkL n r := by
  have := h.le
  exact List.mem_append_right _ (List.mem_map.2 ⟨(a, b), edgesTo_has (by omega) hab hadj n (by omega), rfl⟩)
theorem blkL_pair {n : Nat} {r : Nat → Nat} (h : Pl n r) {a b : Nat} (hab : a < b) : (2 ^ a ||| 2 ^ b) ∈ blkL n r ↔ (a, b) ∈ (edgesTo r n).filter (brB n r) := by
  constructor
  · intro hm
    have ba : (2 ^ a ||| 2 ^ b).testBit a = true := by rw [Nat.testBit_or, bit_pow]; rfl
    have bb : (2 ^ a ||| 2 ^ b).testBit b = true := by rw [Nat.testBit_or, bit_pow, Bool.or_true]
    rcases blkL_cases h hm with ⟨v, _, e, _⟩ | ⟨c, d, hcd, hd, hadc, e⟩
    · rw [e, Nat.testBit_two_pow, decide_eq_true_eq] at ba bb
      omega
    · have hce := blk_ends h (show c < n by omega) hd (by omega) hadc
      rw [← e, Nat.testBit_or, Nat.testBit_or, Nat.testBit_two_pow, Nat.testBit_two_pow, Nat.testBit_two_pow, Nat.testBit_two_pow] at hce
      simp only [Bool.or_eq_true, decide_eq_true_eq] at hce
      have : a = c ∧ b = d := by omega
      obtain ⟨rfl, rfl⟩ := this
      have := h.le
      refine List.mem_filter.2 ⟨edgesTo_has (by omega) hab hadc n (by omega), ?_⟩
      unfold brB
      rw [← e]; exact beq_self_eq_true _
  · intro hm
    obtain ⟨h1, h2⟩ := List.mem_filter.1 hm
    have hj := edgesTo_adj n _ h1
    have hl := edgesTo_lt h.bd n (Nat.le_refl _) _ h1
    unfold brB at h2
    rw [beq_iff_eq] at h2
    have := blkL_edge h hj.1 hl.2 hj.2
    rw [h2] at this
    exact this

end Go.Proofs.YtcpdedgmhpehiaaDoor
