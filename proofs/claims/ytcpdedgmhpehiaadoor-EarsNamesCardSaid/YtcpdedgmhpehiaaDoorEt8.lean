/- Renaming the nodes: ways, blocks, cut nodes and bridges of a renamed graph (for EarsNames). -/
import Derived.Test.YtcpdedgmhpehiaaDoorEt6
namespace Go.Proofs.YtcpdedgmhpehiaaDoor
set_option linter.unusedSimpArgs false
set_option linter.unusedVariables false

/-- A graph whose nodes bear other names. -/
structure Named (n : Nat) (r r' : Nat → Nat) (f g : Nat → Nat) : Prop where
  fl : ∀ u, u < n → f u < n
  gl : ∀ u, u < n → g u < n
  fg : ∀ u, u < n → f (g u) = u
  gf : ∀ u, u < n → g (f u) = u
  adj : ∀ u x, u < n → x < n → (r' (f u)).testBit (f x) = (r u).testBit x
theorem Named.back {n : Nat} {r r' f g : Nat → Nat} (N : Named n r r' f g) : Named n r' r g f :=
  ⟨N.gl, N.fl, N.gf, N.fg, fun u x hu hx => by
    rw [← N.adj (g u) (g x) (N.gl u hu) (N.gl x hx), N.fg u hu, N.fg x hx]⟩
theorem Named.inj {n : Nat} {r r' f g : Nat → Nat} (N : Named n r r' f g) {u x : Nat} (hu : u < n) (hx : x < n) (h : f u = f x) : u = x := by
  rw [← N.gf u hu, h, N.gf x hx]
theorem Rch.named {n : Nat} {r r' f g : Nat → Nat} (N : Named n r r' f g) {s s' v : Nat} (hs : s < 2 ^ n) (hv : v < n) (hss : ∀ i, i < n → s.testBit i = true → s'.testBit (f i) = true) {u : Nat} (h : Rch r s v u) : Rch r' s' (f v) (f u) := by
  induction h with
  | refl => exact .refl
  | @step u x hu a b ih => exact .step ih (by rw [N.adj u x (hu.lt hs hv) (bit_lt hs b)]; exact a) (hss x (bit_lt hs b) b)
theorem Named.but {n : Nat} {r r' f g : Nat → Nat} (N : Named n r r' f g) {v : Nat} (hv : v < n) : ∀ i, i < n → (butS n v).testBit i = true → (butS n (f v)).testBit (f i) = true := fun i hi h =>
  but_true (N.fl i hi) fun e => (but_iff.1 h).2 (N.inj hi hv e)
theorem Named.ends {n : Nat} {r r' f g : Nat → Nat} (N : Named n r r' f g) {a b v : Nat} (ha : a < n) (hv : v < n) : (if f a = f v then f b else f a) = f (if a = v then b else a) := by
  by_cases e : a = v
  · rw [if_pos e, if_pos (by rw [e])]
  · rw [if_neg e, if_neg fun h => e (N.inj ha hv h)]
theorem blk_named1 {n : Nat} {r r' f g : Nat → Nat} (N : Named n r r' f g) (h : Pl n r) (h' : Pl n r') {a b x : Nat} (ha : a < n) (hb : b < n) (hx : x < n) (hin : (blkTo n r a b n).testBit x = true) : (blkTo n r' (f a) (f b) n).testBit (f x) = true := by
  refine (blk_in h' (N.fl a ha) (N.fl b hb) (f x)).2 ⟨N.fl x hx, fun v hv => ?_⟩
  have hg := N.gl v hv
  have hvf : v = f (g v) := (N.fg v hv).symm
  rcases ((blk_in h ha hb x).1 hin).2 (g v) hg with e | e
  · left; rw [e, N.fg v hv]
  · right
    rw [hvf, N.ends ha hg]
    exact e.named N butS_lt (end_lt ha hb) (N.but hg)
theorem blk_named {n : Nat} {r r' f g : Nat → Nat} (N : Named n r r' f g) (h : Pl n r) (h' : Pl n r') {a b x : Nat} (ha : a < n) (hb : b < n) (hx : x < n) : (blkTo n r' (f a) (f b) n).testBit (f x) = (blkTo n r a b n).testBit x := by
  rw [Bool.eq_iff_iff]
  constructor
  · intro hin
    have := blk_named1 N.back h' h (N.fl a ha) (N.fl b hb) (N.fl x hx) hin
    rwa [N.gf a ha, N.gf b hb, N.gf x hx] at this
  · exact blk_named1 N h h' ha hb hx
/-- An edge's block hangs not on which end is said first. -/
theorem blk_swap {n : Nat} {r : Nat → Nat} (h : Pl n r) {a b : Nat} (ha : a < n) (hb : b < n) (hab : a ≠ b) (hadj : (r a).testBit b = true) : blkTo n r a b n = blkTo n r b a n := by
  refine blk_of_ends h ha hb hab hb ha hab.symm fun v hv => ?_
  by_cases e : a = v
  · rw [if_pos e, if_neg (fun e2 => hab (e.trans e2.symm))]; exact .refl
  · rw [if_neg e]
    by_cases e2 : b = v
    · rw [if_pos e2]; exact .refl
    · rw [if_neg e2]; exact .step .refl hadj (but_true hb e2)
/-- A cut node: two of its neighbours don't hang together without it. -/
theorem cut_two {n : Nat} {r : Nat → Nat} (h : Pl n r) {v : Nat} (hv : v < n) : isCutP n r v = true ↔ ∃ p q, p < n ∧ q < n ∧ (r v).testBit p = true ∧ (r v).testBit q = true ∧ ¬ Rch r (butS n v) p q := by
  have hb10 : r v < 1024 := Nat.lt_of_lt_of_le (h.bd v hv) (pow_le10 h.le)
  constructor
  · intro hc
    unfold isCutP at hc
    rw [Bool.and_eq_true, bne_iff_ne] at hc
    have hpos := Nat.pos_of_ne_zero hc.1
    have hlo := lowN_lt h.le hpos (h.bd v hv)
    have hlb := (lowN_all (r v) hb10 hpos).2.1
    have hne : diff (r v) (partS n r (butS n v) (lowN (r v))) ≠ 0 := by
      intro e; rw [e] at hc; simp at hc
    obtain ⟨q, hq⟩ := Nat.exists_testBit_of_ne_zero hne
    rw [testBit_diff, Bool.and_eq_true] at hq
    refine ⟨lowN (r v), q, hlo, bit_lt (h.bd v hv) hq.1, hlb, hq.1, fun hR => ?_⟩
    have := rch_part hlo h.bd hR
    rw [this] at hq; simp at hq
  · rintro ⟨p, q, hp, hq, hpv, hqv, hno⟩
    have hr0 : r v ≠ 0 := fun e => by rw [e] at hpv; simp at hpv
    have hpos := Nat.pos_of_ne_zero hr0
    have hlo := lowN_lt h.le hpos (h.bd v hv)
    have hlb := (lowN_all (r v) hb10 hpos).2.1
    have hlv : lowN (r v) ≠ v := fun e => by rw [e, h.loop v hv] at hlb; cases hlb
    apply Classical.byContradiction
    intro hc
    have hall : ∀ y, (r v).testBit y = true → Rch r (butS n v) (lowN (r v)) y := by
      intro y hy
      apply Classical.byContradiction
      intro hny
      refine hc ?_
      unfold isCutP
      have hne : (diff (r v) (partS n r (butS n v) (lowN (r v))) == 0) = false := by
        rw [beq_eq_false_iff_ne]
        intro e0
        have : (diff (r v) (partS n r (butS n v) (lowN (r v)))).testBit y = true := by
          rw [testBit_diff, hy, Bool.true_and, Bool.not_eq_true', Bool.eq_false_iff]
          exact fun e => hny (part_rch e)
        rw [e0] at this; simp at this
      rw [hne, bne_iff_ne.2 hr0]; rfl
    exact hno ((Rch.symm h.sym butS_lt hlo (but_true hlo hlv) (hall p hpv)).trans (hall q hqv))
theorem cut_named1 {n : Nat} {r r' f g : Nat → Nat} (N : Named n r r' f g) (h : Pl n r) (h' : Pl n r') {v : Nat} (hv : v < n) (hc : isCutP n r v = true) : isCutP n r' (f v) = true := by
  obtain ⟨p, q, hp, hq, h1, h2, h3⟩ := (cut_two h hv).1 hc
  refine (cut_two h' (N.fl v hv)).2 ⟨f p, f q, N.fl p hp, N.fl q hq, by rw [N.adj v p hv hp]; exact h1, by rw [N.adj v q hv hq]; exact h2, fun hR => h3 ?_⟩
  have := hR.named N.back (butS_lt) (N.fl p hp) (N.back.but (N.fl v hv))
  rwa [N.gf v hv, N.gf p hp, N.gf q hq] at this
theorem cut_named {n : Nat} {r r' f g : Nat → Nat} (N : Named n r r' f g) (h : Pl n r) (h' : Pl n r') {v : Nat} (hv : v < n) : isCutP n r' (f v) = isCutP n r v := by
  rw [Bool.eq_iff_iff]
  constructor
  · intro hc
    have := cut_named1 N.back h' h (N.fl v hv) hc
    rwa [N.gf v hv] at this
  · exact cut_named1 N h h' hv

end Go.Proofs.YtcpdedgmhpehiaaDoor
