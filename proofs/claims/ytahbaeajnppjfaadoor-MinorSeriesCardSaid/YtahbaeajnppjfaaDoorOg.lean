/- Package minor: what reductions say of the width and of a minor of four nodes. -/
import Derived.Test.YtahbaeajnppjfaaDoorOd
import Derived.Test.YtahbaeajnppjfaaDoorNt
namespace Go.Proofs.YtahbaeajnppjfaaDoor
set_option linter.unusedSimpArgs false
set_option linter.unusedVariables false
open Go.RowKit Go.Maps

/-! ### one reduction, in plain words -/

theorem cut_bit {v : Nat} : ∀ (pre : List Nat) (f : Nat → Nat) (t x : Nat), (cutF f v pre t).testBit x = true ↔ (f t).testBit x = true ∧ (t ∈ pre → x ≠ v) := by
  intro pre
  induction pre with
  | nil => intro f t x; simp [cutF]
  | cons u pre ih =>
    intro f t x
    have e : cutF f v (u :: pre) = cutF (cut1 f v u) v pre := rfl
    rw [e, ih]
    unfold cut1
    by_cases ht : t = u
    · subst ht
      rw [if_pos rfl, testBit_diff, Nat.testBit_two_pow, Bool.and_eq_true]
      constructor
      · rintro ⟨⟨h1, h2⟩, h3⟩
        exact ⟨h1, fun _ e => by subst e; simp at h2⟩
      · rintro ⟨h1, h2⟩
        have := h2 (by simp)
        exact ⟨⟨h1, by simp; exact fun e => this e.symm⟩, fun _ => this⟩
    · rw [if_neg ht]
      constructor
      · rintro ⟨h1, h2⟩
        exact ⟨h1, fun hm => h2 (by rcases List.mem_cons.1 hm with h | h; exact absurd h ht; exact h)⟩
      · rintro ⟨h1, h2⟩
        exact ⟨h1, fun hm => h2 (List.mem_cons_of_mem _ hm)⟩
/-- A set of two nodes. -/
theorem two_bits {n s : Nat} (hn8 : n ≤ 8) (hs : s < 2 ^ n) (h : szS n s = 2) : ∃ a b, a = lowN s ∧ b = lowN (diff s (2 ^ lowN s)) ∧ a ≠ b ∧ a < n ∧ b < n ∧ ∀ x, s.testBit x = true ↔ x = a ∨ x = b := by
  have h8 := pow_le8 hn8
  have hpos : 0 < s := by
    apply Nat.pos_of_ne_zero
    intro h0
    have h9 : szS n 0 = 0 := by unfold szS; rw [List.countP_eq_zero]; simp
    rw [h0, h9] at h; cases h
  have ha := (lowN_all s (by omega) hpos).2.1
  have han := lowN_ltm hn8 hpos hs
  have hd : szS n (diff s (2 ^ lowN s)) + 1 = 2 := by
    have e : diff s (2 ^ lowN s) ||| 2 ^ lowN s = s := diff_or ha
    have := szS_add1 (S := diff s (2 ^ lowN s)) han diff_not
    rw [e] at this; omega
  have hdl : diff s (2 ^ lowN s) < 2 ^ n := diff_lt' hs
  have hdp : 0 < diff s (2 ^ lowN s) := by
    apply Nat.pos_of_ne_zero
    intro h0
    have h9 : szS n 0 = 0 := by unfold szS; rw [List.countP_eq_zero]; simp
    rw [h0, h9] at hd; cases hd
  have hb := (lowN_all _ (by omega) hdp).2.1
  have hbn := lowN_ltm hn8 hdp hdl
  have hb2 := hb
  rw [testBit_diff, Nat.testBit_two_pow, Bool.and_eq_true] at hb2
  have hne : lowN s ≠ lowN (diff s (2 ^ lowN s)) := fun e => by
    have := hb2.2
    rw [← e] at this
    simp at this
  refine ⟨_, _, rfl, rfl, hne, han, hbn, fun x => ⟨fun hx => ?_, ?_⟩⟩
  · apply Classical.byContradiction
    intro hno
    have h1 : x ≠ lowN s := fun e => hno (Or.inl e)
    have h2 : x ≠ lowN (diff s (2 ^ lowN s)) := fun e => hno (Or.inr e)
    have h3 : (diff s (2 ^ lowN s)).testBit x = true := by rw [testBit_diff, hx, Nat.testBit_two_pow, decide_eq_false (Ne.symm h1)]; rfl
    have := two_szS h2 (bit_lt hs hx) hbn h3 hb
    omega
  · rintro (rfl | rfl)
    · exact ha
    · exact hb2.1
/-- What a reduction leaves of a node's neighbours. -/
theorem do_bit {n left v : Nat} {f : Nat → Nat} (hn8 : n ≤ 8) (hf : ∀ i, i < n → f i < 2 ^ n) (hv : v < n) (hk : szS n (f v) ≤ 2) (hvl : left.testBit v = true)
    (J1 : ∀ u, u < n → left.testBit u = true → ∀ x, (f u).testBit x = true → left.testBit x = true ∧ x ≠ u) (J2 : ∀ u x, u < n → x < n → left.testBit u = true → left.testBit x = true → (f u).testBit x = (f x).testBit u)
    {u x : Nat} (hu : u < n) (hul : left.testBit u = true) (huv : u ≠ v) : (doF n f v u).testBit x = true ↔ x ≠ v ∧ ((f u).testBit x = true ∨ ((f v).testBit u = true ∧ (f v).testBit x = true ∧ x ≠ u)) := by
  have hbits : ∀ y, (f v).testBit y = true → y ≠ v := fun y hy => (J1 v hv hvl y hy).2
  have hsym : (f u).testBit v = (f v).testBit u := J2 u v hu hv hul hvl
  by_cases h2 : szS n (f v) = 2
  · obtain ⟨a, b, ea, eb, hab, han, hbn, hall⟩ := two_bits hn8 (hf v hv) h2
    have hav := hbits a ((hall a).2 (Or.inl rfl))
    have hbv := hbits b ((hall b).2 (Or.inr rfl))
    have hD : doL n f v = lnkF f a b := by unfold doL; rw [if_pos h2, ← eb, ← ea]
    have hL : ∀ t y, (lnkF f a b t).testBit y = true ↔ (f t).testBit y = true ∨ (t = a ∧ y = b) ∨ (t = b ∧ y = a) := fun t y => by
      unfold lnkF upF
      by_cases e1 : t = b
      · subst e1
        rw [if_pos rfl, if_neg (Ne.symm hab), Nat.testBit_or, Nat.testBit_two_pow, Bool.or_eq_true, decide_eq_true_eq]
        constructor
        · rintro (h | h)
          · exact Or.inl h
          · exact Or.inr (Or.inr ⟨rfl, h.symm⟩)
        · rintro (h | ⟨h, _⟩ | ⟨_, h⟩)
          · exact Or.inl h
          · exact absurd h.symm hab
          · exact Or.inr h.symm
      · rw [if_neg e1]
        by_cases e2 : t = a
        · subst e2
          rw [if_pos rfl, Nat.testBit_or, Nat.testBit_two_pow, Bool.or_eq_true, decide_eq_true_eq]
          constructor
          · rintro (h | h)
            · exact Or.inl h
            · exact Or.inr (Or.inl ⟨rfl, h.symm⟩)
          · rintro (h | ⟨_, h⟩ | ⟨h, _⟩)
            · exact Or.inl h
            · exact Or.inr h.symm
            · exact absurd h e1
        · rw [if_neg e2]
          constructor
          · exact Or.inl
          · rintro (h | ⟨h, _⟩ | ⟨h, _⟩)
            · exact h
            · exact absurd h e2
            · exact absurd h e1
    have hv1 : lnkF f a b v = f v := by
      unfold lnkF upF
      rw [if_neg (Ne.symm hbv), if_neg (Ne.symm hav)]
    unfold doF
    rw [hD, hv1, cut_bit, hL, mem_bitsOf]
    constructor
    · rintro ⟨h1, h3⟩
      have key : (f u).testBit x = true ∨ ((f v).testBit u = true ∧ (f v).testBit x = true ∧ x ≠ u) := by
        rcases h1 with h1 | ⟨rfl, rfl⟩ | ⟨rfl, rfl⟩
        · exact Or.inl h1
        · exact Or.inr ⟨(hall u).2 (Or.inl rfl), (hall x).2 (Or.inr rfl), Ne.symm hab⟩
        · exact Or.inr ⟨(hall u).2 (Or.inr rfl), (hall x).2 (Or.inl rfl), hab⟩
      refine ⟨?_, key⟩
      rintro rfl
      rcases key with k | ⟨_, k, _⟩
      · exact h3 ⟨by omega, by rw [← hsym]; exact k⟩ rfl
      · exact hbits _ k rfl
    · rintro ⟨h1, h3⟩
      refine ⟨?_, fun _ => h1⟩
      rcases h3 with h3 | ⟨h4, h5, h6⟩
      · exact Or.inl h3
      · rcases (hall u).1 h4 with rfl | rfl <;> rcases (hall x).1 h5 with rfl | rfl
        · exact absurd rfl h6
        · exact Or.inr (Or.inl ⟨rfl, rfl⟩)
        · exact Or.inr (Or.inr ⟨rfl, rfl⟩)
        · exact absurd rfl h6
  · have hD : doL n f v = f := by unfold doL; rw [if_neg h2]
    unfold doF
    rw [hD, cut_bit, mem_bitsOf]
    constructor
    · rintro ⟨h1, h3⟩
      refine ⟨?_, Or.inl h1⟩
      rintro rfl
      exact h3 ⟨by omega, by rw [← hsym]; exact h1⟩ rfl
    · rintro ⟨h1, h3⟩
      refine ⟨?_, fun _ => h1⟩
      rcases h3 with h3 | ⟨h4, h5, h6⟩
      · exact h3
      · exfalso
        have := two_szS h6 (bit_lt (hf v hv) h5) hu h5 h4
        omega

/-! ### what stays true along reductions -/

structure Red (n : Nat) (r f : Nat → Nat) (left : Nat) : Prop where
  lt : left < 2 ^ n
  bd : ∀ i, i < n → f i < 2 ^ n
  in_ : ∀ u, u < n → left.testBit u = true → ∀ x, (f u).testBit x = true → left.testBit x = true ∧ x ≠ u
  sym : ∀ u x, u < n → x < n → left.testBit u = true → left.testBit x = true → (f u).testBit x = (f x).testBit u
  led : ∀ u, u < n → left.testBit u = true → ∀ x, (leftS n r (diff (2 ^ n - 1) left) u).testBit x = true → (f u).testBit x = true
  sets : ∃ S : Nat → Nat, (∀ u, u < n → left.testBit u = true → Cs n r (S u)) ∧ (∀ u x, u < n → x < n → left.testBit u = true → left.testBit x = true → u ≠ x → Dj (S u) (S x)) ∧ ∀ u x, u < n → left.testBit u = true → (f u).testBit x = true → Ad r (S u) (S x)
theorem red_start {n : Nat} {r : Nat → Nat} (G : Gq n r) : Red n r r (2 ^ n - 1) where
  lt := by have := Nat.two_pow_pos n; omega
  bd := G.bd
  in_ := fun u hu _ x hx => ⟨all_bit (bit_lt (G.bd u hu) hx), fun e => by rw [e, G.loop u hu] at hx; cases hx⟩
  sym := fun u x hu hx _ _ => G.sym u x hu hx
  led := fun u hu _ x hx => by
    have e : diff (2 ^ n - 1) (2 ^ n - 1) = 0 := by
      apply Nat.eq_of_testBit_eq
      intro i
      rw [testBit_diff]
      cases (2 ^ n - 1).testBit i <;> simp
    rw [e] at hx
    exact plain_zero G u x hu (by simp) hx
  sets := ⟨fun u => 2 ^ u, fun u hu _ => single_cs hu, fun u x _ _ _ _ h => pow_dj h, fun u x _ _ h => ad_single.2 h⟩
theorem gone_next {n left v : Nat} (hv : v < n) (hl : left.testBit v = true) : diff (2 ^ n - 1) (diff left (2 ^ v)) = diff (2 ^ n - 1) left ||| 2 ^ v := by
  apply Nat.eq_of_testBit_eq
  intro i
  rw [Nat.testBit_or, testBit_diff, testBit_diff, testBit_diff, Nat.testBit_two_pow]
  by_cases e : v = i
  · subst e; simp [all_bit hv]
  · simp [e]
theorem left_bits {left v u : Nat} : (diff left (2 ^ v)).testBit u = true ↔ left.testBit u = true ∧ u ≠ v := by
  rw [testBit_diff, Nat.testBit_two_pow, Bool.and_eq_true]
  constructor
  · rintro ⟨h1, h2⟩
    exact ⟨h1, fun e => by subst e; simp at h2⟩
  · rintro ⟨h1, h2⟩
    exact ⟨h1, by simp; exact fun e => h2 e.symm⟩
theorem red_step {n left v : Nat} {r f : Nat → Nat} (G : Gq n r) (hn8 : n ≤ 8) (h : Red n r f left) (hv : v < n) (hl : left.testBit v = true) (hk : szS n (f v) ≤ 2) : Red n r (doF n f v) (diff left (2 ^ v)) := by
  have hdb : ∀ {u x : Nat}, u < n → left.testBit u = true → u ≠ v → ((doF n f v u).testBit x = true ↔ x ≠ v ∧ ((f u).testBit x = true ∨ ((f v).testBit u = true ∧ (f v).testBit x = true ∧ x ≠ u))) := fun hu hul huv => do_bit hn8 h.bd hv hk hl h.in_ h.sym hu hul huv
  refine ⟨diff_lt' h.lt, doF_lt hn8 h.bd hv, ?_, ?_, ?_, ?_⟩
  · intro u hu hul x hx
    obtain ⟨h1, h2⟩ := left_bits.1 hul
    obtain ⟨h3, h4⟩ := (hdb hu h1 h2).1 hx
    rcases h4 with h4 | ⟨_, h5, h6⟩
    · obtain ⟨k1, k2⟩ := h.in_ u hu h1 x h4
      exact ⟨left_bits.2 ⟨k1, h3⟩, k2⟩
    · exact ⟨left_bits.2 ⟨(h.in_ v hv hl x h5).1, h3⟩, h6⟩
  · intro u x hu hx hul hxl
    obtain ⟨h1, h2⟩ := left_bits.1 hul
    obtain ⟨k1, k2⟩ := left_bits.1 hxl
    rw [Bool.eq_iff_iff, hdb hu h1 h2, hdb hx k1 k2, h.sym u x hu hx h1 k1]
    constructor
    · rintro ⟨_, p | ⟨p1, p2, p3⟩⟩
      · exact ⟨h2, Or.inl p⟩
      · exact ⟨h2, Or.inr ⟨p2, p1, Ne.symm p3⟩⟩
    · rintro ⟨_, p | ⟨p1, p2, p3⟩⟩
      · exact ⟨k2, Or.inl p⟩
      · exact ⟨k2, Or.inr ⟨p2, p1, Ne.symm p3⟩⟩
  · intro u hu hul x hx
    obtain ⟨hul1, huv⟩ := left_bits.1 hul
    rw [gone_next hv hl] at hx
    have hgo : ∀ y, (diff (2 ^ n - 1) left).testBit y = false → y < n → left.testBit y = true := fun y h1 h2 => by
      rw [testBit_diff, all_bit h2, Bool.true_and] at h1
      simpa using h1
    have hgn : ∀ y, left.testBit y = true → (diff (2 ^ n - 1) left).testBit y = false := fun y h1 => by
      rw [testBit_diff, h1]; simp
    have hled := h.led
    obtain ⟨g, hg⟩ : ∃ g, g = diff (2 ^ n - 1) left := ⟨_, rfl⟩
    rw [← hg] at hx hgo hgn hled
    obtain ⟨⟨j, hj, h1, h2⟩, h3, h4⟩ := (left_iff G.bd hu).1 hx
    rw [or_bit, Bool.or_eq_false_iff, decide_eq_false_iff_not] at h3
    have hxn := bit_lt (G.bd j hj) h2
    have key : ∀ j, Rch r (g ||| 2 ^ v ||| 2 ^ u) u j → j < n ∧ (Rch r (g ||| 2 ^ u) u j ∨ ((f u).testBit v = true ∧ Rch r (g ||| 2 ^ v) v j)) := by
      intro j hR
      induction hR with
      | refl => exact ⟨hu, Or.inl .refl⟩
      | @step s t q1 q2 q3 ih =>
        obtain ⟨i1, i2⟩ := ih
        have htn := bit_lt (G.bd s i1) q2
        refine ⟨htn, ?_⟩
        rw [or_bit, or_bit, Bool.or_eq_true, Bool.or_eq_true, decide_eq_true_eq, decide_eq_true_eq] at q3
        rcases i2 with i2 | ⟨i3, i2⟩
        · rcases q3 with (q3 | q3) | q3
          · exact Or.inl (.step i2 q2 (by rw [or_bit, q3]; rfl))
          · subst q3
            have : (leftS n r g u).testBit v = true := (left_iff G.bd hu).2 ⟨⟨s, i1, i2, q2⟩, hgn v hl, fun e => huv e.symm⟩
            exact Or.inr ⟨hled u hu hul1 v this, .refl⟩
          · subst q3; exact Or.inl .refl
        · rcases q3 with (q3 | q3) | q3
          · exact Or.inr ⟨i3, .step i2 q2 (by rw [or_bit, q3]; rfl)⟩
          · subst q3; exact Or.inr ⟨i3, .refl⟩
          · subst q3; exact Or.inl .refl
    have hxv : x ≠ v := fun e => h3.2 e.symm
    refine (hdb hu hul1 huv).2 ⟨hxv, ?_⟩
    rcases (key j h1).2 with k1 | ⟨k1, k2⟩
    · exact Or.inl (hled u hu hul1 x ((left_iff G.bd hu).2 ⟨⟨j, hj, k1, h2⟩, h3.1, h4⟩))
    · have hb : (leftS n r g v).testBit x = true := (left_iff G.bd hv).2 ⟨⟨j, hj, k2, h2⟩, h3.1, hxv⟩
      exact Or.inr ⟨by rw [← h.sym u v hu hv hul1 hl]; exact k1, hled v hv hl x hb, h4⟩
  · obtain ⟨S, S1, S2, S3⟩ := h.sets
    have hsy : ∀ {a b : Nat}, a < n → b < n → left.testBit a = true → left.testBit b = true → Ad r (S a) (S b) → Ad r (S b) (S a) := fun ha hb hla hlb h => h.symm G.toGp (S1 _ ha hla).lt (S1 _ hb hlb).lt
    by_cases h2 : szS n (f v) = 2
    · obtain ⟨a, b, _, _, hab, han, hbn, hall⟩ := two_bits hn8 (h.bd v hv) h2
      have fa := (hall a).2 (Or.inl rfl)
      have fb := (hall b).2 (Or.inr rfl)
      obtain ⟨la, hav⟩ := h.in_ v hv hl a fa
      obtain ⟨lb, hbv⟩ := h.in_ v hv hl b fb
      have Aav := hsy hv han hl la (S3 v a hv hl fa)
      have Avb := S3 v b hv hl fb
      refine ⟨fun t => if t = a then S a ||| S v else S t, ?_, ?_, ?_⟩
      · intro u hu hul
        obtain ⟨h1, h3⟩ := left_bits.1 hul
        dsimp only
        split
        · exact (S1 a han la).or G.toGp (S1 v hv hl) Aav
        · exact S1 u hu h1
      · intro u x hu hx hul hxl hne
        obtain ⟨h1, h3⟩ := left_bits.1 hul
        obtain ⟨k1, k3⟩ := left_bits.1 hxl
        dsimp only
        by_cases e1 : u = a
        · subst e1
          rw [if_pos rfl, if_neg (Ne.symm hne)]
          exact (S2 u x hu hx h1 k1 hne).or (S2 v x hv hx hl k1 (Ne.symm k3))
        · rw [if_neg e1]
          by_cases e2 : x = a
          · subst e2
            rw [if_pos rfl]
            exact ((S2 x u hx hu k1 h1 (Ne.symm hne)).or (S2 v u hv hu hl h1 (Ne.symm h3))).symm
          · rw [if_neg e2]
            exact S2 u x hu hx h1 k1 hne
      · intro u x hu hul hux
        obtain ⟨h1, h3⟩ := left_bits.1 hul
        obtain ⟨hxv, h4⟩ := (hdb hu h1 h3).1 hux
        have hxl : left.testBit x = true := by
          rcases h4 with h4 | ⟨_, h5, _⟩
          · exact (h.in_ u hu h1 x h4).1
          · exact (h.in_ v hv hl x h5).1
        have hxn := bit_lt h.lt hxl
        have up : ∀ {s t t' : Nat}, Ad r s t → (∀ y, t.testBit y = true → t'.testBit y = true) → Ad r s t' := fun ⟨p, q, a1, a2, a3⟩ hm => ⟨p, q, a1, hm q a2, a3⟩
        have sub : ∀ t y, (S t).testBit y = true → ((if t = a then S a ||| S v else S t)).testBit y = true := fun t y hy => by
          split
          · rename_i e; rw [← e, Nat.testBit_or, hy]; rfl
          · exact hy
        dsimp only
        have lift : Ad r (S u) (S x) → Ad r (if u = a then S a ||| S v else S u) (if x = a then S a ||| S v else S x) := fun ⟨p, q, a1, a2, a3⟩ => ⟨p, q, sub u p a1, sub x q a2, a3⟩
        rcases h4 with h4 | ⟨h4, h5, h6⟩
        · exact lift (S3 u x hu h1 h4)
        · rcases (hall u).1 h4 with rfl | rfl <;> rcases (hall x).1 h5 with rfl | rfl
          · exact absurd rfl h6
          · rw [if_pos rfl, if_neg h6]
            exact Avb.right
          · rw [if_neg (Ne.symm h6), if_pos rfl]
            have := hsy hv hu hl h1 Avb
            exact up this fun y hy => by rw [Nat.testBit_or, hy, Bool.or_true]
          · exact absurd rfl h6
    · refine ⟨S, fun u hu hul => S1 u hu (left_bits.1 hul).1, fun u x hu hx hul hxl hne => S2 u x hu hx (left_bits.1 hul).1 (left_bits.1 hxl).1 hne, fun u x hu hul hux => ?_⟩
      obtain ⟨h1, h3⟩ := left_bits.1 hul
      obtain ⟨hxv, h4⟩ := (hdb hu h1 h3).1 hux
      rcases h4 with h4 | ⟨h4, h5, h6⟩
      · exact S3 u x hu h1 h4
      · exfalso
        have := two_szS h6 (bit_lt (h.bd v hv) h5) hu h5 h4
        omega

end Go.Proofs.YtahbaeajnppjfaaDoor
