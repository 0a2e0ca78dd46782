/- Package minor: what reductions say of the width and of a minor of four nodes. Package minor: reductions, the width and a minor of four nodes, together. -/
import Derived.Test.YtfmppncefbjicaaDoorOe
import Derived.Test.YtfmppncefbjicaaDoorNt
import Derived.Test.YtfmppncefbjicaaDoorOf
namespace Go.Proofs.YtfmppncefbjicaaDoor
set_option linter.unusedSimpArgs false
set_option linter.unusedVariables false
open Go.RowKit Go.Maps

/-! ### one reduction, in plain words -/

theorem cut_bit {v : Nat} : ∀ (pre : List Nat) (f : Nat → Nat) (t x : Nat), (cutF f v pre t).testBit x = true ↔ (f t).testBit x = true ∧ (t ∈ pre → x ≠ v) := by
  intro pre
  induction pre with
  | nil => intro f t x; simp [cutF]
  | cons u pre ih =>
    intro f t x
    have e : cutF f v (u :: pre) = cutF (cut1 f v u) v pre := rfl
    rw [e, ih]
    unfold cut1
    by_cases ht : t = u
    · subst ht
      rw [if_pos rfl, testBit_diff, Nat.testBit_two_pow, Bool.and_eq_true]
      constructor
      · rintro ⟨⟨h1, h2⟩, h3⟩
        exact ⟨h1, fun _ e => by subst e; simp at h2⟩
      · rintro ⟨h1, h2⟩
        have := h2 (by simp)
        exact ⟨⟨h1, by simp; exact fun e => this e.symm⟩, fun _ => this⟩
    · rw [if_neg ht]
      constructor
      · rintro ⟨h1, h2⟩
        exact ⟨h1, fun hm => h2 (by rcases List.mem_cons.1 hm with h | h; exact absurd h ht; exact h)⟩
      · rintro ⟨h1, h2⟩
        exact ⟨h1, fun hm => h2 (List.mem_cons_of_mem _ hm)⟩
/-- A set of two nodes. -/
theorem two_bits {n s : Nat} (hn8 : n ≤ 8) (hs : s < 2 ^ n) (h : szS n s = 2) : ∃ a b, a = lowN s ∧ b = lowN (diff s (2 ^ lowN s)) ∧ a ≠ b ∧ a < n ∧ b < n ∧ ∀ x, s.testBit x = true ↔ x = a ∨ x = b := by
  have h8 := pow_le8 hn8
  have hpos : 0 < s := by
    apply Nat.pos_of_ne_zero
    intro h0
    have h9 : szS n 0 = 0 := by unfold szS; rw [List.countP_eq_zero]; simp
    rw [h0, h9] at h; cases h
  have ha := (lowN_all s (by omega) hpos).2.1
  have han := lowN_ltm hn8 hpos hs
  have hd : szS n (diff s (2 ^ lowN s)) + 1 = 2 := by
    have e : diff s (2 ^ lowN s) ||| 2 ^ lowN s = s := diff_or ha
    have := szS_add1 (S := diff s (2 ^ lowN s)) han diff_not
    rw [e] at this; omega
  have hdl : diff s (2 ^ lowN s) < 2 ^ n := diff_lt' hs
  have hdp : 0 < diff s (2 ^ lowN s) := by
    apply Nat.pos_of_ne_zero
    intro h0
    have h9 : szS n 0 = 0 := by unfold szS; rw [List.countP_eq_zero]; simp
    rw [h0, h9] at hd; cases hd
  have hb := (lowN_all _ (by omega) hdp).2.1
  have hbn := lowN_ltm hn8 hdp hdl
  have hb2 := hb
  rw [testBit_diff, Nat.testBit_two_pow, Bool.and_eq_true] at hb2
  have hne : lowN s ≠ lowN (diff s (2 ^ lowN s)) := fun e => by
    have := hb2.2
    rw [← e] at this
    simp at this
  refine ⟨_, _, rfl, rfl, hne, han, hbn, fun x => ⟨fun hx => ?_, ?_⟩⟩
  · apply Classical.byContradiction
    intro hno
    have h1 : x ≠ lowN s := fun e => hno (Or.inl e)
    have h2 : x ≠ lowN (diff s (2 ^ lowN s)) := fun e => hno (Or.inr e)
    have h3 : (diff s (2 ^ lowN s)).testBit x = true := by rw [testBit_diff, hx, Nat.testBit_two_pow, decide_eq_false (Ne.symm h1)]; rfl
    have := two_szS h2 (bit_lt hs hx) hbn h3 hb
    omega
  · rintro (rfl | rfl)
    · exact ha
    · exact hb2.1
/-- What a reduction leaves of a node's neighbours. -/
theorem do_bit {n left v : Nat} {f : Nat → Nat} (hn8 : n ≤ 8) (hf : ∀ i, i < n → f i < 2 ^ n) (hv : v < n) (hk : szS n (f v) ≤ 2) (hvl : left.testBit v = true)
    (J1 : ∀ u, u < n → left.testBit u = true → ∀ x, (f u).testBit x = true → left.testBit x = true ∧ x ≠ u) (J2 : ∀ u x, u < n → x < n → left.testBit u = true → left.testBit x = true → (f u).testBit x = (f x).testBit u)
    {u x : Nat} (hu : u < n) (hul : left.testBit u = true) (huv : u ≠ v) : (doF n f v u).testBit x = true ↔ x ≠ v ∧ ((f u).testBit x = true ∨ ((f v).testBit u = true ∧ (f v).testBit x = true ∧ x ≠ u)) := by
  have hbits : ∀ y, (f v).testBit y = true → y ≠ v := fun y hy => (J1 v hv hvl y hy).2
  have hsym : (f u).testBit v = (f v).testBit u := J2 u v hu hv hul hvl
  by_cases h2 : szS n (f v) = 2
  · obtain ⟨a, b, ea, eb, hab, han, hbn, hall⟩ := two_bits hn8 (hf v hv) h2
    have hav := hbits a ((hall a).2 (Or.inl rfl))
    have hbv := hbits b ((hall b).2 (Or.inr rfl))
    have hD : doL n f v = lnkF f a b := by unfold doL; rw [if_pos h2, ← eb, ← ea]
    have hL : ∀ t y, (lnkF f a b t).testBit y = true ↔ (f t).testBit y = true ∨ (t = a ∧ y = b) ∨ (t = b ∧ y = a) := fun t y => by
      unfold lnkF upF
      by_cases e1 : t = b
      · subst e1
        rw [if_pos rfl, if_neg (Ne.symm hab), Nat.testBit_or, Nat.testBit_two_pow, Bool.or_eq_true, decide_eq_true_eq]
        constructor
        · rintro (h | h)
          · exact Or.inl h
          · exact Or.inr (Or.inr ⟨rfl, h.symm⟩)
        · rintro (h | ⟨h, _⟩ | ⟨_, h⟩)
          · exact Or.inl h
          · exact absurd h.symm hab
          · exact Or.inr h.symm
      · rw [if_neg e1]
        by_cases e2 : t = a
        · subst e2
          rw [if_pos rfl, Nat.testBit_or, Nat.testBit_two_pow, Bool.or_eq_true, decide_eq_true_eq]
          constructor
          · rintro (h | h)
            · exact Or.inl h
            · exact Or.inr (Or.inl ⟨rfl, h.symm⟩)
          · rintro (h | ⟨_, h⟩ | ⟨h, _⟩)
            · exact Or.inl h
            · exact Or.inr h.symm
            · exact absurd h e1
        · rw [if_neg e2]
          constructor
          · exact Or.inl
          · rintro (h | ⟨h, _⟩ | ⟨h, _⟩)
            · exact h
            · exact absurd h e2
            · exact absurd h e1
    have hv1 : lnkF f a b v = f v := by
      unfold lnkF upF
      rw [if_neg (Ne.symm hbv), if_neg (Ne.symm hav)]
    unfold doF
    rw [hD, hv1, cut_bit, hL, mem_bitsOf]
    constructor
    · rintro ⟨h1, h3⟩
      have key : (f u).testBit x = true ∨ ((f v).testBit u = true ∧ (f v).testBit x = true ∧ x ≠ u) := by
        rcases h1 with h1 | ⟨rfl, rfl⟩ | ⟨rfl, rfl⟩
        · exact Or.inl h1
        · exact Or.inr ⟨(hall u).2 (Or.inl rfl), (hall x).2 (Or.inr rfl), Ne.symm hab⟩
        · exact Or.inr ⟨(hall u).2 (Or.inr rfl), (hall x).2 (Or.inl rfl), hab⟩
      refine ⟨?_, key⟩
      rintro rfl
      rcases key with k | ⟨_, k, _⟩
      · exact h3 ⟨by omega, by rw [← hsym]; exact k⟩ rfl
      · exact hbits _ k rfl
    · rintro ⟨h1, h3⟩
      refine ⟨?_, fun _ => h1⟩
      rcases h3 with h3 | ⟨h4, h5, h6⟩
      · exact Or.inl h3
      · rcases (hall u).1 h4 with rfl | rfl <;> rcases (hall x).1 h5 with rfl | rfl
        · exact absurd rfl h6
        · exact Or.inr (Or.inl ⟨rfl, rfl⟩)
        · exact Or.inr (Or.inr ⟨rfl, rfl⟩)
        · exact absurd rfl h6
  · have hD : doL n f v = f := by unfold doL; rw [if_neg h2]
    unfold doF
    rw [hD, cut_bit, mem_bitsOf]
    constructor
    · rintro ⟨h1, h3⟩
      refine ⟨?_, Or.inl h1⟩
      rintro rfl
      exact h3 ⟨by omega, by rw [← hsym]; exact h1⟩ rfl
    · rintro ⟨h1, h3⟩
      refine ⟨?_, fun _ => h1⟩
      rcases h3 with h3 | ⟨h4, h5, h6⟩
      · exact h3
      · exfalso
        have := two_szS h6 (bit_lt (hf v hv) h5) hu h5 h4
        omega

/-! ### what stays true along reductions -/

structure Red (n : Nat) (r f : Nat → Nat) (left : Nat) : Prop where
  lt : left < 2 ^ n
  bd : ∀ i, i < n → f i < 2 ^ n
  in_ : ∀ u, u < n → left.testBit u = true → ∀ x, (f u).testBit x = true → left.testBit x = true ∧ x ≠ u
  sym : ∀ u x, u < n → x < n → left.testBit u = true → left.testBit x = true → (f u).testBit x = (f x).testBit u
  led : ∀ u, u < n → left.testBit u = true → ∀ x, (leftS n r (diff (2 ^ n - 1) left) u).testBit x = true → (f u).testBit x = true
  sets : ∃ S : Nat → Nat, (∀ u, u < n → left.testBit u = true → Cs n r (S u)) ∧ (∀ u x, u < n → x < n → left.testBit u = true → left.testBit x = true → u ≠ x → Dj (S u) (S x)) ∧ ∀ u x, u < n → left.testBit u = true → (f u).testBit x = true → Ad r (S u) (S x)
theorem red_start {n : Nat} {r : Nat → Nat} (G : Gq n r) : Red n r r (2 ^ n - 1) where
  lt := by have := Nat.two_pow_pos n; omega
  bd := G.bd
  in_ := fun u hu _ x hx => ⟨all_bit (bit_lt (G.bd u hu) hx), fun e => by rw [e, G.loop u hu] at hx; cases hx⟩
  sym := fun u x hu hx _ _ => G.sym u x hu hx
  led := fun u hu _ x hx => by
    have e : diff (2 ^ n - 1) (2 ^ n - 1) = 0 := by
      apply Nat.eq_of_testBit_eq
      intro i
      rw [testBit_diff]
      cases (2 ^ n - 1).testBit i <;> simp
    rw [e] at hx
    exact plain_zero G u x hu (by simp) hx
  sets := ⟨fun u => 2 ^ u, fun u hu _ => single_cs hu, fun u x _ _ _ _ h => pow_dj h, fun u x _ _ h => ad_single.2 h⟩
theorem gone_next {n left v : Nat} (hv : v < n) (hl : left.testBit v = true) : diff (2 ^ n - 1) (diff left (2 ^ v)) = diff (2 ^ n - 1) left ||| 2 ^ v := by
  apply Nat.eq_of_testBit_eq
  intro i
  rw [Nat.testBit_or, testBit_diff, testBit_diff, testBit_diff, Nat.testBit_two_pow]
  by_cases e : v = i
  · subst e; simp [all_bit hv]
  · simp [e]
theorem left_bits {left v u : Nat} : (diff left (2 ^ v)).testBit u = true ↔ left.testBit u = true ∧ u ≠ v := by
  rw [testBit_diff, Nat.testBit_two_pow, Bool.and_eq_true]
  constructor
  · rintro ⟨h1, h2⟩
    exact ⟨h1, fun e => by subst e; simp at h2⟩
  · rintro ⟨h1, h2⟩
    exact ⟨h1, by simp; exact fun e => h2 e.symm⟩
theorem red_step {n left v : Nat} {r f : Nat → Nat} (G : Gq n r) (hn8 : n ≤ 8) (h : Red n r f left) (hv : v < n) (hl : left.testBit v = true) (hk : szS n (f v) ≤ 2) : Red n r (doF n f v) (diff left (2 ^ v)) := by
  have hdb : ∀ {u x : Nat}, u < n → left.testBit u = true → u ≠ v → ((doF n f v u).testBit x = true ↔ x ≠ v ∧ ((f u).testBit x = true ∨ ((f v).testBit u = true ∧ (f v).testBit x = true ∧ x ≠ u))) := fun hu hul huv => do_bit hn8 h.bd hv hk hl h.in_ h.sym hu hul huv
  refine ⟨diff_lt' h.lt, doF_lt hn8 h.bd hv, ?_, ?_, ?_, ?_⟩
  · intro u hu hul x hx
    obtain ⟨h1, h2⟩ := left_bits.1 hul
    obtain ⟨h3, h4⟩ := (hdb hu h1 h2).1 hx
    rcases h4 with h4 | ⟨_, h5, h6⟩
    · obtain ⟨k1, k2⟩ := h.in_ u hu h1 x h4
      exact ⟨left_bits.2 ⟨k1, h3⟩, k2⟩
    · exact ⟨left_bits.2 ⟨(h.in_ v hv hl x h5).1, h3⟩, h6⟩
  · intro u x hu hx hul hxl
    obtain ⟨h1, h2⟩ := left_bits.1 hul
    obtain ⟨k1, k2⟩ := left_bits.1 hxl
    rw [Bool.eq_iff_iff, hdb hu h1 h2, hdb hx k1 k2, h.sym u x hu hx h1 k1]
    constructor
    · rintro ⟨_, p | ⟨p1, p2, p3⟩⟩
      · exact ⟨h2, Or.inl p⟩
      · exact ⟨h2, Or.inr ⟨p2, p1, Ne.symm p3⟩⟩
    · rintro ⟨_, p | ⟨p1, p2, p3⟩⟩
      · exact ⟨k2, Or.inl p⟩
      · exact ⟨k2, Or.inr ⟨p2, p1, Ne.symm p3⟩⟩
  · intro u hu hul x hx
    obtain ⟨hul1, huv⟩ := left_bits.1 hul
    rw [gone_next hv hl] at hx
    have hgo : ∀ y, (diff (2 ^ n - 1) left).testBit y = false → y < n → left.testBit y = true := fun y h1 h2 => by
      rw [testBit_diff, all_bit h2, Bool.true_and] at h1
      simpa using h1
    have hgn : ∀ y, left.testBit y = true → (diff (2 ^ n - 1) left).testBit y = false := fun y h1 => by
      rw [testBit_diff, h1]; simp
    have hled := h.led
    obtain ⟨g, hg⟩ : ∃ g, g = diff (2 ^ n - 1) left := ⟨_, rfl⟩
    rw [← hg] at hx hgo hgn hled
    obtain ⟨⟨j, hj, h1, h2⟩, h3, h4⟩ := (left_iff G.bd hu).1 hx
    rw [or_bit, Bool.or_eq_false_iff, decide_eq_false_iff_not] at h3
    have hxn := bit_lt (G.bd j hj) h2
    have key : ∀ j, Rch r (g ||| 2 ^ v ||| 2 ^ u) u j → j < n ∧ (Rch r (g ||| 2 ^ u) u j ∨ ((f u).testBit v = true ∧ Rch r (g ||| 2 ^ v) v j)) := by
      intro j hR
      induction hR with
      | refl => exact ⟨hu, Or.inl .refl⟩
      | @step s t q1 q2 q3 ih =>
        obtain ⟨i1, i2⟩ := ih
        have htn := bit_lt (G.bd s i1) q2
        refine ⟨htn, ?_⟩
        rw [or_bit, or_bit, Bool.or_eq_true, Bool.or_eq_true, decide_eq_true_eq, decide_eq_true_eq] at q3
        rcases i2 with i2 | ⟨i3, i2⟩
        · rcases q3 with (q3 | q3) | q3
          · exact Or.inl (.step i2 q2 (by rw [or_bit, q3]; rfl))
          · subst q3
            have : (leftS n r g u).testBit v = true := (left_iff G.bd hu).2 ⟨⟨s, i1, i2, q2⟩, hgn v hl, fun e => huv e.symm⟩
            exact Or.inr ⟨hled u hu hul1 v this, .refl⟩
          · subst q3; exact Or.inl .refl
        · rcases q3 with (q3 | q3) | q3
          · exact Or.inr ⟨i3, .step i2 q2 (by rw [or_bit, q3]; rfl)⟩
          · subst q3; exact Or.inr ⟨i3, .refl⟩
          · subst q3; exact Or.inl .refl
    have hxv : x ≠ v := fun e => h3.2 e.symm
    refine (hdb hu hul1 huv).2 ⟨hxv, ?_⟩
    rcases (key j h1).2 with k1 | ⟨k1, k2⟩
    · exact Or.inl (hled u hu hul1 x ((left_iff G.bd hu).2 ⟨⟨j, hj, k1, h2⟩, h3.1, h4⟩))
    · have hb : (leftS n r g v).testBit x = true := (left_iff G.bd hv).2 ⟨⟨j, hj, k2, h2⟩, h3.1, hxv⟩
      exact Or.inr ⟨by rw [← h.sym u v hu hv hul1 hl]; exact k1, hled v hv hl x hb, h4⟩
  · obtain ⟨S, S1, S2, S3⟩ := h.sets
    have hsy : ∀ {a b : Nat}, a < n → b < n → left.testBit a = true → left.testBit b = true → Ad r (S a) (S b) → Ad r (S b) (S a) := fun ha hb hla hlb h => h.symm G.toGp (S1 _ ha hla).lt (S1 _ hb hlb).lt
    by_cases h2 : szS n (f v) = 2
    · obtain ⟨a, b, _, _, hab, han, hbn, hall⟩ := two_bits hn8 (h.bd v hv) h2
      have fa := (hall a).2 (Or.inl rfl)
      have fb := (hall b).2 (Or.inr rfl)
      obtain ⟨la, hav⟩ := h.in_ v hv hl a fa
      obtain ⟨lb, hbv⟩ := h.in_ v hv hl b fb
      have Aav := hsy hv han hl la (S3 v a hv hl fa)
      have Avb := S3 v b hv hl fb
      refine ⟨fun t => if t = a then S a ||| S v else S t, ?_, ?_, ?_⟩
      · intro u hu hul
        obtain ⟨h1, h3⟩ := left_bits.1 hul
        dsimp only
        split
        · exact (S1 a han la).or G.toGp (S1 v hv hl) Aav
        · exact S1 u hu h1
      · intro u x hu hx hul hxl hne
        obtain ⟨h1, h3⟩ := left_bits.1 hul
        obtain ⟨k1, k3⟩ := left_bits.1 hxl
        dsimp only
        by_cases e1 : u = a
        · subst e1
          rw [if_pos rfl, if_neg (Ne.symm hne)]
          exact (S2 u x hu hx h1 k1 hne).or (S2 v x hv hx hl k1 (Ne.symm k3))
        · rw [if_neg e1]
          by_cases e2 : x = a
          · subst e2
            rw [if_pos rfl]
            exact ((S2 x u hx hu k1 h1 (Ne.symm hne)).or (S2 v u hv hu hl h1 (Ne.symm h3))).symm
          · rw [if_neg e2]
            exact S2 u x hu hx h1 k1 hne
      · intro u x hu hul hux
        obtain ⟨h1, h3⟩ := left_bits.1 hul
        obtain ⟨hxv, h4⟩ := (hdb hu h1 h3).1 hux
        have hxl : left.testBit x = true := by
          rcases h4 with h4 | ⟨_, h5, _⟩
          · exact (h.in_ u hu h1 x h4).1
          · exact (h.in_ v hv hl x h5).1
        have hxn := bit_lt h.lt hxl
        have up : ∀ {s t t' : Nat}, Ad r s t → (∀ y, t.testBit y = true → t'.testBit y = true) → Ad r s t' := fun ⟨p, q, a1, a2, a3⟩ hm => ⟨p, q, a1, hm q a2, a3⟩
        have sub : ∀ t y, (S t).testBit y = true → ((if t = a then S a ||| S v else S t)).testBit y = true := fun t y hy => by
          split
          · rename_i e; rw [← e, Nat.testBit_or, hy]; rfl
          · exact hy
        dsimp only
        have lift : Ad r (S u) (S x) → Ad r (if u = a then S a ||| S v else S u) (if x = a then S a ||| S v else S x) := fun ⟨p, q, a1, a2, a3⟩ => ⟨p, q, sub u p a1, sub x q a2, a3⟩
        rcases h4 with h4 | ⟨h4, h5, h6⟩
        · exact lift (S3 u x hu h1 h4)
        · rcases (hall u).1 h4 with rfl | rfl <;> rcases (hall x).1 h5 with rfl | rfl
          · exact absurd rfl h6
          · rw [if_pos rfl, if_neg h6]
            exact Avb.right
          · rw [if_neg (Ne.symm h6), if_pos rfl]
            have := hsy hv hu hl h1 Avb
            exact up this fun y hy => by rw [Nat.testBit_or, hy, Bool.or_true]
          · exact absurd rfl h6
    · refine ⟨S, fun u hu hul => S1 u hu (left_bits.1 hul).1, fun u x hu hx hul hxl hne => S2 u x hu hx (left_bits.1 hul).1 (left_bits.1 hxl).1 hne, fun u x hu hul hux => ?_⟩
      obtain ⟨h1, h3⟩ := left_bits.1 hul
      obtain ⟨hxv, h4⟩ := (hdb hu h1 h3).1 hux
      rcases h4 with h4 | ⟨h4, h5, h6⟩
      · exact S3 u x hu h1 h4
      · exfalso
        have := two_szS h6 (bit_lt (h.bd v hv) h5) hu h5 h4
        omega

end Go.Proofs.YtfmppncefbjicaaDoor

namespace Go.Proofs.YtfmppncefbjicaaDoor
set_option linter.unusedSimpArgs false
set_option linter.unusedVariables false
open Go.RowKit Go.Maps

theorem szS_three {n T : Nat} (h : 3 ≤ szS n T) : ∃ a b c, a ≠ b ∧ a ≠ c ∧ b ≠ c ∧ T.testBit a = true ∧ T.testBit b = true ∧ T.testBit c = true := by
  obtain ⟨a, _, _, ha, _, h1, _⟩ := szS_two (T := T) (n := n) (by omega)
  have e := diff_or h1
  have := szS_add1 (S := diff T (2 ^ a)) ha diff_not
  rw [e] at this
  obtain ⟨b, c, hbc, _, _, h2, h3⟩ := szS_two (T := diff T (2 ^ a)) (n := n) (by omega)
  obtain ⟨h2, k2⟩ := left_bits.1 h2
  obtain ⟨h3, k3⟩ := left_bits.1 h3
  exact ⟨a, b, c, Ne.symm k2, Ne.symm k3, hbc, h1, h2, h3⟩
/-- Where no node can be reduced there are four sets that are all neighbours of each other. -/
theorem stuck_four {n left : Nat} {r f : Nat → Nat} (G : Gq n r) (h : Red n r f left) (h0 : left ≠ 0) (h3 : ∀ u, u < n → left.testBit u = true → 3 ≤ szS n (f u)) : Four n r := by
  obtain ⟨S, S1, S2, S3⟩ := h.sets
  have inj : ∀ a b, a < n → b < n → left.testBit a = true → left.testBit b = true → a ≠ b → S a ≠ S b := fun a b ha hb la lb hne e => by
    obtain ⟨x, hx⟩ := (S1 a ha la).ne
    exact S2 a b ha hb la lb hne x hx (by rw [← e]; exact hx)
  obtain ⟨u0, hl0⟩ := some_bit h0
  have hu0 := bit_lt h.lt hl0
  obtain ⟨x0, c0, _, hxc, _, _, hx0, hc0, _⟩ := szS_three (h3 u0 hu0 hl0)
  obtain ⟨lx0, nx0⟩ := h.in_ u0 hu0 hl0 x0 hx0
  obtain ⟨lc0, nc0⟩ := h.in_ u0 hu0 hl0 c0 hc0
  have hxn0 := bit_lt h.lt lx0
  obtain ⟨N, hN⟩ : ∃ N, N = (List.range n).filter fun u => left.testBit u && (u != u0 && u != x0) := ⟨_, rfl⟩
  have memN : ∀ u, u ∈ N ↔ u < n ∧ left.testBit u = true ∧ u ≠ u0 ∧ u ≠ x0 := fun u => by
    rw [hN, List.mem_filter, List.mem_range]
    simp
  have hF : Fam n r (S u0 :: S x0 :: N.map S) := by
    refine ⟨fun s hs => ?_, List.pairwise_cons.2 ⟨fun s hs => ?_, List.pairwise_cons.2 ⟨fun s hs => ?_, ?_⟩⟩⟩
    · rcases List.mem_cons.1 hs with rfl | hs
      · exact S1 u0 hu0 hl0
      · rcases List.mem_cons.1 hs with rfl | hs
        · exact S1 x0 hxn0 lx0
        · obtain ⟨u, hu, rfl⟩ := List.mem_map.1 hs
          obtain ⟨h1, h2, _⟩ := (memN u).1 hu
          exact S1 u h1 h2
    · rcases List.mem_cons.1 hs with rfl | hs
      · exact S2 u0 x0 hu0 hxn0 hl0 lx0 (Ne.symm nx0)
      · obtain ⟨u, hu, rfl⟩ := List.mem_map.1 hs
        obtain ⟨h1, h2, h4, _⟩ := (memN u).1 hu
        exact S2 u0 u hu0 h1 hl0 h2 (Ne.symm h4)
    · obtain ⟨u, hu, rfl⟩ := List.mem_map.1 hs
      obtain ⟨h1, h2, _, h4⟩ := (memN u).1 hu
      exact S2 x0 u hxn0 h1 lx0 h2 (Ne.symm h4)
    · rw [List.pairwise_map]
      have hp : N.Pairwise (· ≠ ·) := by rw [hN]; exact (range_ne n).filter _
      refine hp.imp_of_mem fun {a b} ha hb hne => ?_
      obtain ⟨h1, h2, _⟩ := (memN a).1 ha
      obtain ⟨k1, k2, _⟩ := (memN b).1 hb
      exact S2 a b h1 k1 h2 k2 hne
  have memW : ∀ u, u < n → left.testBit u = true → S u ∈ S u0 :: S x0 :: N.map S := fun u hu hul => by
    by_cases e1 : u = u0
    · subst e1; simp
    · by_cases e2 : u = x0
      · subst e2; simp
      · exact List.mem_cons_of_mem _ (List.mem_cons_of_mem _ (List.mem_map.2 ⟨u, (memN u).2 ⟨hu, hul, e1, e2⟩, rfl⟩))
  refine four_of G.toGp (N.map S).length (N.map S) (S u0) (S x0) rfl (fun e => ?_) hF (S3 u0 x0 hu0 hl0 hx0) fun s l' hp => ?_
  · have : S c0 ∈ N.map S := List.mem_map.2 ⟨c0, (memN c0).2 ⟨bit_lt h.lt lc0, lc0, nc0, Ne.symm hxc⟩, rfl⟩
    rw [e] at this; cases this
  · have hs : s ∈ N.map S := hp.mem_iff.2 (by simp)
    obtain ⟨t, ht, rfl⟩ := List.mem_map.1 hs
    obtain ⟨htn, htl, _⟩ := (memN t).1 ht
    obtain ⟨a, b, c, hab, hac, hbc, ha, hb, hc⟩ := szS_three (h3 t htn htl)
    obtain ⟨la, na⟩ := h.in_ t htn htl a ha
    obtain ⟨lb, nb⟩ := h.in_ t htn htl b hb
    obtain ⟨lc, nc⟩ := h.in_ t htn htl c hc
    have han := bit_lt h.lt la
    have hbn := bit_lt h.lt lb
    have hcn := bit_lt h.lt lc
    have hpw : (S u0 :: S x0 :: N.map S).Perm (S t :: S u0 :: S x0 :: l') :=
      ((hp.cons (S x0)).cons (S u0)).trans (((List.Perm.swap (S t) (S x0) l').cons (S u0)).trans (List.Perm.swap (S t) (S u0) (S x0 :: l')))
    obtain ⟨l1, p1⟩ := perm_of_mem (mem_rest hpw (memW a han la) (inj a t han htn la htl na))
    obtain ⟨l2, p2⟩ := perm_of_mem (mem_rest p1 (mem_rest hpw (memW b hbn lb) (inj b t hbn htn lb htl nb)) (inj b a hbn han lb la (Ne.symm hab)))
    obtain ⟨l3, p3⟩ := perm_of_mem (mem_rest p2 (mem_rest p1 (mem_rest hpw (memW c hcn lc) (inj c t hcn htn lc htl nc)) (inj c a hcn han lc la (Ne.symm hac))) (inj c b hcn hbn lc lb (Ne.symm hbc)))
    rw [dg_perm p1, dg_yes (S3 t a htn htl ha), dg_perm p2, dg_yes (S3 t b htn htl hb), dg_perm p3, dg_yes (S3 t c htn htl hc)]
    omega

theorem stp_yes {n left x : Nat} {f : Nat → Nat} (h : stpB n f left (x : Nat) = true) : x < n ∧ left.testBit x = true ∧ szS n (f x) ≤ 2 := by
  unfold stpB at h
  rw [Int.toNat_natCast, Bool.and_eq_true, Bool.and_eq_true, decide_eq_true_eq] at h
  obtain ⟨_, h1⟩ := inB_iff.1 h.1
  exact ⟨by omega, h.2.1, h.2.2⟩
theorem fst_yes {n left x : Nat} {f : Nat → Nat} (h : fstS n f left = some x) : stpB n f left (x : Nat) = true := by
  unfold fstS at h
  rw [List.find?_range_eq_some] at h
  exact h.1
theorem fst_no {n left : Nat} {f : Nat → Nat} (h : fstS n f left = none) (u : Nat) (hu : u < n) (hl : left.testBit u = true) : 3 ≤ szS n (f u) := by
  unfold fstS at h
  rw [List.find?_eq_none] at h
  have h1 := h u (List.mem_range.2 hu)
  apply Classical.byContradiction
  intro h2
  apply h1
  unfold stpB
  rw [Int.toNat_natCast, hl, decide_eq_true (show szS n (f u) ≤ 2 by omega), inB_iff.2 ⟨by omega, by omega⟩]
  rfl
/-- What is true behind some reductions of the first node each time. -/
theorem redT_red {n : Nat} {r : Nat → Nat} (G : Gq n r) (hn8 : n ≤ 8) : ∀ k f left L, redT n r k = some (f, left, L) →
    Red n r f left ∧ szS n left + k = n ∧ rst n (Wd.tn n r) 0 ≤ max 2 (rst n (Wd.tn n r) (diff (2 ^ n - 1) left)) ∧ ∀ M, areT n r (2 ^ n - 1) (L ++ M) = areT n f left M := by
  have hz0 : diff (2 ^ n - 1) (2 ^ n - 1) = 0 := by
    apply Nat.eq_of_testBit_eq
    intro i
    rw [testBit_diff]
    cases (2 ^ n - 1).testBit i <;> simp
  intro k
  induction k with
  | zero =>
    intro f left L h
    unfold redT at h
    simp only [Option.some.injEq, Prod.mk.injEq] at h
    obtain ⟨rfl, rfl, rfl⟩ := h
    refine ⟨red_start G, ?_, ?_, fun M => rfl⟩
    · have : szS n (2 ^ n - 1) = n := by
        unfold szS
        rw [List.countP_eq_length.2 fun u hu => all_bit (List.mem_range.1 hu), List.length_range]
      omega
    · rw [hz0]; omega
  | succ k ih =>
    intro f left L h
    unfold redT at h
    cases hk : redT n r k with
    | none => rw [hk] at h; cases h
    | some q =>
      obtain ⟨f0, l0, L0⟩ := q
      rw [hk] at h
      simp only at h
      cases hf : fstS n f0 l0 with
      | none => rw [hf] at h; cases h
      | some x =>
        rw [hf] at h
        simp only [Option.some.injEq, Prod.mk.injEq] at h
        obtain ⟨rfl, rfl, rfl⟩ := h
        obtain ⟨i1, i2, i3, i4⟩ := ih _ _ _ hk
        have hst := fst_yes hf
        obtain ⟨hx, hlx, hkx⟩ := stp_yes hst
        refine ⟨red_step G hn8 i1 hx hlx hkx, ?_, ?_, fun M => ?_⟩
        · have e := diff_or hlx
          have := szS_add1 (S := diff l0 (2 ^ x)) hx diff_not
          rw [e] at this
          omega
        · rw [gone_next hx hlx]
          have hgx : (diff (2 ^ n - 1) l0).testBit x = false := by rw [testBit_diff, hlx]; simp
          have hgl : diff (2 ^ n - 1) l0 < 2 ^ n := Nat.lt_of_le_of_lt (diff_le _ _) (by have := Nat.two_pow_pos n; omega)
          have hne : diff (2 ^ n - 1) l0 ≠ 2 ^ n - 1 := fun e => by rw [e, all_bit hx] at hgx; cases hgx
          have h5 : Wd.tn n r (diff (2 ^ n - 1) l0) x ≤ 2 := Nat.le_trans (szS_mono fun i hi hy => i1.led x hx hlx i hy) hkx
          have h6 := rst_best (t := Wd.tn n r) hgl hne
          have := bestW_at (n := n) (t := Wd.tn n r) (gone := diff (2 ^ n - 1) l0) n x hx hgx
          omega
        · rw [List.append_assoc, i4]
          show (stpB n f0 l0 ((x : Nat) : Int) && (decide (stZ n f0 ((x : Nat) : Int).toNat = stZ n f0 x) && areT n (doF n f0 ((x : Nat) : Int).toNat) (diff l0 (2 ^ ((x : Nat) : Int).toNat)) M)) = _
          rw [Int.toNat_natCast, hst, decide_eq_true rfl]
          rfl
theorem red_yes {n : Nat} {r : Nat → Nat} {L : List StZ} (G : Gq n r) (hn8 : n ≤ 8) (h : redG n r = some L) : rst n (Wd.tn n r) 0 ≤ 2 ∧ L.length = n ∧ areT n r (2 ^ n - 1) L = true := by
  unfold redG at h
  cases hr : redT n r n with
  | none => rw [hr] at h; cases h
  | some q =>
    obtain ⟨f, left, L'⟩ := q
    rw [hr] at h
    simp only [Option.map_some, Option.some.injEq] at h
    subst h
    obtain ⟨h1, h2, h3, h4⟩ := redT_red G hn8 n f left L' hr
    have hl : left = 0 := sz_zero h1.lt (by omega)
    subst hl
    have e : diff (2 ^ n - 1) 0 = 2 ^ n - 1 := by
      apply Nat.eq_of_testBit_eq
      intro i
      rw [testBit_diff]; simp
    rw [e, rst_all] at h3
    refine ⟨by omega, redT_len _ _ _ _ hr, ?_⟩
    have := h4 []
    rw [List.append_nil] at this
    rw [this]; rfl
theorem red_no {n : Nat} {r : Nat → Nat} (G : Gq n r) (hn8 : n ≤ 8) (h : redG n r = none) : Four n r := by
  have key : ∀ m, redT n r m = none → ∃ k f left L, k < m ∧ redT n r k = some (f, left, L) ∧ fstS n f left = none := by
    intro m
    induction m with
    | zero => intro h; cases h
    | succ m ih =>
      intro h
      cases hm : redT n r m with
      | none =>
        obtain ⟨k, f, left, L, h1, h2⟩ := ih hm
        exact ⟨k, f, left, L, by omega, h2⟩
      | some q =>
        obtain ⟨f, left, L⟩ := q
        refine ⟨m, f, left, L, by omega, hm, ?_⟩
        unfold redT at h
        rw [hm] at h
        simp only at h
        cases hf : fstS n f left with
        | none => rfl
        | some x => rw [hf] at h; cases h
  have hr : redT n r n = none := by
    unfold redG at h
    cases hr : redT n r n with
    | none => rfl
    | some q => rw [hr] at h; cases h
  obtain ⟨k, f, left, L, hk, h1, h2⟩ := key n hr
  obtain ⟨h3, h4, _, _⟩ := redT_red G hn8 k f left L h1
  refine stuck_four G h3 (fun e => ?_) (fst_no h2)
  rw [e] at h4
  have h9 : szS n 0 = 0 := by unfold szS; rw [List.countP_eq_zero]; simp
  omega

theorem found_four {n : Nat} {z : Nat → Int} (hg : graphB n 8 z = true) (h : (modG n 4 z (kz 4)).isSome = true) : 3 ≤ Wd.widthG n z := by
  have hpk := kz_graph 4 (by omega) (by omega)
  rw [mod_ref hg hpk] at h
  cases h1 : refM n 4 (natG z) (natG (kz 4)) with
  | none => rw [h1] at h; cases h
  | some L =>
    obtain ⟨_, M, _⟩ := refM_model h1 (graphB_le hg).2.1 (lt_graph hg) (g_sym hg) (g_sym hpk) (g_loop hpk)
    have hw := rst_minor (lt_graph hg) (lt_graph hpk) M
    have hk := kz_width 4 (by omega) (by omega)
    have : Wd.widthG 4 (kz 4) ≤ Wd.widthG n z := hw
    omega
/-- What the law asks of reductions. -/
theorem series_yes {n : Nat} {z : Nat → Int} {L : List StZ} (hg : graphB n 8 z = true) (h : redG n (natG z) = some L) : Wd.widthG n z ≤ 2 ∧ (modG n 4 z (kz 4)).isSome = false ∧ L.length = n ∧ areT n (natG z) (2 ^ n - 1) L = true := by
  obtain ⟨h1, h2, h3⟩ := red_yes (gq_of hg) (graphB_le hg).2.1 h
  have hw : Wd.widthG n z ≤ 2 := h1
  refine ⟨hw, ?_, h2, h3⟩
  cases hm : (modG n 4 z (kz 4)).isSome
  · rfl
  · have := found_four hg hm
    omega
theorem series_no {n : Nat} {z : Nat → Int} (hg : graphB n 8 z = true) (h : redG n (natG z) = none) : 3 ≤ Wd.widthG n z ∧ (modG n 4 z (kz 4)).isSome = true := by
  have h4 := four_found hg (red_no (gq_of hg) (graphB_le hg).2.1 h)
  exact ⟨found_four hg h4, h4⟩

end Go.Proofs.YtfmppncefbjicaaDoor
