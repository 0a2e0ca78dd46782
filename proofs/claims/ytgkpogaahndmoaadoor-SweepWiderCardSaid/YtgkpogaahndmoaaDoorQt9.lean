/- The width is at most the path width; no path decomposition has a lesser width; the path width is below the number of nodes. -/
import Derived.Test.YtgkpogaahndmoaaDoorQp
import Derived.Test.YtgkpogaahndmoaaDoorQt1
namespace Go.Proofs.YtgkpogaahndmoaaDoor
set_option linter.unusedSimpArgs false
set_option linter.unusedVariables false

/-- What width counts at a node's turn. -/
def tnW (n : Nat) (r : Nat → Nat) (gone v : Nat) : Nat := szS n (leftS n r gone v)

theorem alo_at {t : Nat → Nat → Nat} {z : Nat → Int} {k n : Nat} (h : k < n) : t (metO z k) (z k).toNat ≤ alo t z n := by
  refine Nat.le_trans ?_ (alo_mono (show k + 1 ≤ n from h))
  show _ ≤ max _ _
  omega
theorem ok_inj {n : Nat} {z : Nat → Int} (h : ∀ k, k < n → okO n z k = true) {i k : Nat} (hik : i < k) (hk : k < n) : (z i).toNat ≠ (z k).toNat := by
  intro e
  have h1 := (okO_iff (h k hk)).2.2.2
  rw [← e, (testBit_met k _).2 ⟨i, hik, rfl⟩] at h1
  cases h1
theorem back_ok {n : Nat} {z : Nat → Int} (h : ∀ k, k < n → okO n z k = true) : ∀ k, k < n → okO n (backZ n z) k = true := by
  intro k hk
  obtain ⟨h1, h2, h3, _⟩ := okO_iff (h (n - 1 - k) (by omega))
  unfold okO
  rw [show backZ n z k = z (n - 1 - k) from rfl, inB_true h1 h2, Bool.true_and, Bool.not_eq_true', Bool.eq_false_iff]
  intro hb
  obtain ⟨i, hi, he⟩ := (testBit_met k _).1 hb
  exact ok_inj h (show n - 1 - k < n - 1 - i by omega) (by omega) he.symm

theorem width_path {n : Nat} {r : Nat → Nat} (h : Pl n r) : rst n (tnW n r) 0 ≤ rst n (tbd n r) 0 := by
  have ht : ∀ g v, v < n → tbd n r g v ≤ n := fun g v _ => szS_le _ _
  have hok := first_ord ht (Nat.le_refl (rst n (tbd n r) 0))
  have hal := first_alo ht
  generalize listZ (ordW n (tbd n r) (rst n (tbd n r) 0) n 0) = z at *
  rw [← hal]
  clear hal
  have hn10 : n ≤ 10 := by have := h.le; omega
  have hfull : ∀ u, u < n → ∃ i, i < n ∧ (z i).toNat = u := fun u hu => by
    have e := sz_full (metO_lt n hok) (metO_sz n hok)
    have : (metO z n).testBit u = true := by rw [e, Nat.testBit_two_pow_sub_one, decide_eq_true hu]
    exact (testBit_met n u).1 this
  refine Nat.le_trans (alo_least (back_ok hok)) (alo_bd n fun i hi => ?_)
  have hv := (okO_iff (hok (n - 1 - i) (by omega))).2.2.1
  show szS n (leftS n r (metO (backZ n z) i) (z (n - 1 - i)).toNat) ≤ _
  have hgl : metO (backZ n z) i < 2 ^ n := metO_lt i fun j hj => back_ok hok j (by omega)
  have hsub : szS n (leftS n r (metO (backZ n z) i) (z (n - 1 - i)).toNat) ≤ szS n (bord r (metO z (n - 1 - i))) := by
    refine szS_mono fun u hun hu => ?_
    unfold leftS at hu
    obtain ⟨⟨j, hj, h1, h2⟩, h3⟩ := (testBit_arnd n r _ u).1 hu
    have hgo : ∀ x, (metO (backZ n z) i ||| 2 ^ (z (n - 1 - i)).toNat).testBit x = true ↔ ∃ q, n - 1 - i ≤ q ∧ q < n ∧ (z q).toNat = x := fun x => by
      rw [Nat.testBit_or, Bool.or_eq_true, testBit_met, Nat.testBit_two_pow, decide_eq_true_eq]
      constructor
      · rintro (⟨q, hq, e⟩ | e)
        · exact ⟨n - 1 - q, by omega, by omega, e⟩
        · exact ⟨n - 1 - i, by omega, by omega, e⟩
      · rintro ⟨q, q1, q2, e⟩
        by_cases hq : q = n - 1 - i
        · subst hq; exact .inr e
        · refine .inl ⟨n - 1 - q, by omega, ?_⟩
          show (z (n - 1 - (n - 1 - q))).toNat = x
          rw [show n - 1 - (n - 1 - q) = q by omega]; exact e
    have hug : (metO (backZ n z) i ||| 2 ^ (z (n - 1 - i)).toNat).testBit u = false := by
      rw [Bool.eq_false_iff]
      intro hug
      rw [partS_closed hv h.bd j hj h1 u h2 hug] at h3
      cases h3
    have hjg : (metO (backZ n z) i ||| 2 ^ (z (n - 1 - i)).toNat).testBit j = true := by
      rcases partS_in h1 with e | e
      · rw [e, Nat.testBit_or, bit_pow, Bool.or_true]
      · exact e
    have hin : ∀ x, x < n → (metO z (n - 1 - i)).testBit x = true ∨ (metO (backZ n z) i ||| 2 ^ (z (n - 1 - i)).toNat).testBit x = true := fun x hx => by
      obtain ⟨q, q1, q2⟩ := hfull x hx
      by_cases hq : n - 1 - i ≤ q
      · exact .inr ((hgo x).2 ⟨q, hq, q1, q2⟩)
      · exact .inl ((testBit_met _ x).2 ⟨q, by omega, q2⟩)
    have hpl : metO z (n - 1 - i) < 2 ^ n := metO_lt _ fun j hj => hok j (by omega)
    refine (testBit_bord hn10 hpl).2 ⟨?_, j, by rw [h.sym u j hun hj]; exact h2, ?_⟩
    · rcases hin u hun with e | e
      · exact e
      · rw [hug] at e; cases e
    · rw [Bool.eq_false_iff]
      intro e
      obtain ⟨p, p1, p2⟩ := (testBit_met _ j).1 e
      obtain ⟨q, q1, q2, q3⟩ := (hgo j).1 hjg
      exact ok_inj hok (show p < q by omega) q2 (p2.trans q3.symm)
  refine Nat.le_trans hsub ?_
  by_cases h0 : n - 1 - i = 0
  · rw [h0]
    show szS n (bord r 0) ≤ _
    rw [bord_zero, szS_zero]; exact Nat.zero_le _
  · obtain ⟨k, hk⟩ : ∃ k, n - 1 - i = k + 1 := ⟨n - 1 - i - 1, by omega⟩
    rw [hk]
    exact alo_at (t := tbd n r) (show k < n by omega)

theorem path_few_nodes {n : Nat} {r : Nat → Nat} (h : Pl n r) : rst n (tbd n r) 0 ≤ n - 1 := by
  have ht : ∀ g v, v < n → tbd n r g v ≤ n := fun g v _ => szS_le _ _
  have hok := first_ord ht (Nat.le_refl (rst n (tbd n r) 0))
  have hal := first_alo ht
  generalize listZ (ordW n (tbd n r) (rst n (tbd n r) 0) n 0) = z at *
  rw [← hal]
  have hn10 : n ≤ 10 := by have := h.le; omega
  refine alo_bd n fun i hi => ?_
  show szS n (bord r (metO z (i + 1))) ≤ n - 1
  by_cases e : i + 1 = n
  · rw [e, sz_full (metO_lt n hok) (metO_sz n hok), bord_all h, szS_zero]; exact Nat.zero_le _
  · have h1 := metO_sz (i + 1) fun j hj => hok j (by omega)
    have h2 : szS n (bord r (metO z (i + 1))) ≤ szS n (metO z (i + 1)) := szS_mono fun u _ hu => ((testBit_bord hn10 (metO_lt (i + 1) fun j hj => hok j (by omega))).1 hu).1
    omega

/-- The first bag of a node. -/
def fstB (B : Nat → Nat) (v : Nat) : Nat → Nat
  | 0 => 0
  | m + 1 => if (B 0).testBit v then 0 else 1 + fstB (fun i => B (i + 1)) v m
theorem fstB_is {v : Nat} : ∀ {m : Nat} {B : Nat → Nat}, (∃ i, i < m ∧ (B i).testBit v = true) → fstB B v m < m ∧ (B (fstB B v m)).testBit v = true ∧ ∀ i, i < m → (B i).testBit v = true → fstB B v m ≤ i := by
  intro m
  induction m with
  | zero => rintro B ⟨i, hi, _⟩; omega
  | succ m ih =>
    rintro B ⟨i, hi, hb⟩
    unfold fstB
    cases h0 : (B 0).testBit v
    · rw [if_neg (by simp)]
      have hi0 : i ≠ 0 := fun e => by subst e; rw [h0] at hb; cases hb
      obtain ⟨j, rfl⟩ : ∃ j, i = j + 1 := ⟨i - 1, by omega⟩
      obtain ⟨h1, h2, h3⟩ := ih (B := fun i => B (i + 1)) ⟨j, by omega, hb⟩
      refine ⟨by omega, by rw [Nat.add_comm]; exact h2, fun k hk hkb => ?_⟩
      have hk0 : k ≠ 0 := fun e => by subst e; rw [h0] at hkb; cases hkb
      obtain ⟨q, rfl⟩ : ∃ q, k = q + 1 := ⟨k - 1, by omega⟩
      have := h3 q (by omega) hkb
      omega
    · rw [if_pos rfl]
      exact ⟨by omega, h0, fun _ _ _ => Nat.zero_le _⟩

theorem path_least {n m : Nat} {r : Nat → Nat} {B : Nat → Nat} {M : Nat} (h : Pl n r) (hp : Path n r m B) (hM : ∀ i, i < m → szS n (B i) ≤ M) :
    ∀ (k S : Nat), S < 2 ^ n → n - szS n S ≤ k → (∀ u w, u < n → w < n → S.testBit u = true → S.testBit w = false → fstB B u m ≤ fstB B w m) → rst n (tbd n r) S ≤ M - 1 := by
  have hn10 : n ≤ 10 := by have := h.le; omega
  have hbr : ∀ S, S < 2 ^ n → (∀ u w, u < n → w < n → S.testBit u = true → S.testBit w = false → fstB B u m ≤ fstB B w m) → szS n (bord r S) ≤ M - 1 := by
    intro S hS hf
    by_cases hne : S = 2 ^ n - 1
    · rw [hne, bord_all h, szS_zero]; exact Nat.zero_le _
    · obtain ⟨w0, hw0, hw0S⟩ : ∃ w, w < n ∧ S.testBit w = false := by
        apply Classical.byContradiction
        intro hno
        refine hne (Nat.eq_of_testBit_eq fun i => ?_)
        rw [Nat.testBit_two_pow_sub_one]
        by_cases hi : i < n
        · rw [decide_eq_true hi]
          cases hb : S.testBit i
          · exact absurd ⟨i, hi, hb⟩ hno
          · rfl
        · rw [decide_eq_false hi]
          exact Nat.testBit_lt_two_pow (Nat.lt_of_lt_of_le hS (Nat.pow_le_pow_right (by omega) (by omega)))
      -- the one with the least first bag
      obtain ⟨w, hw, hwS, hmin⟩ : ∃ w, w < n ∧ S.testBit w = false ∧ ∀ x, x < n → S.testBit x = false → fstB B w m ≤ fstB B x m := by
        obtain ⟨f, ⟨w, h1, h2, h3⟩, h4⟩ : ∃ f, (∃ w, w < n ∧ S.testBit w = false ∧ fstB B w m = f) ∧ ∀ g, g < f → ¬ ∃ w, w < n ∧ S.testBit w = false ∧ fstB B w m = g := by
          have hex : ∃ f, ∃ w, w < n ∧ S.testBit w = false ∧ fstB B w m = f := ⟨_, w0, hw0, hw0S, rfl⟩
          obtain ⟨f, hf⟩ := hex
          induction f using Nat.strongRecOn with
          | _ f ih =>
            by_cases hl : ∃ g, g < f ∧ ∃ w, w < n ∧ S.testBit w = false ∧ fstB B w m = g
            · obtain ⟨g, hg, hgw⟩ := hl
              exact ih g hg hgw
            · exact ⟨f, hf, fun g hg hgw => hl ⟨g, hg, hgw⟩⟩
        refine ⟨w, h1, h2, fun x hx hxS => ?_⟩
        rw [h3]
        apply Classical.byContradiction
        intro hlt
        exact h4 _ (Nat.lt_of_not_le hlt) ⟨x, hx, hxS, rfl⟩
      obtain ⟨f1, f2, f3⟩ := fstB_is (hp.node w hw)
      have hsub : ∀ u, u < n → (bord r S).testBit u = true → (B (fstB B w m)).testBit u = true := fun u hu hb => by
        obtain ⟨h1, x, h2, h3⟩ := (testBit_bord hn10 hS).1 hb
        have hx := bit_lt (h.bd u hu) h2
        obtain ⟨j, j1, j2, j3⟩ := hp.edge u x hu h2
        obtain ⟨g1, g2, g3⟩ := fstB_is (hp.node u hu)
        obtain ⟨e1, e2, e3⟩ := fstB_is (hp.node x hx)
        have l1 := hf u w hu hw h1 hwS
        have l2 := hmin x hx h3
        have l3 := e3 j j1 j3
        by_cases c1 : fstB B u m = fstB B w m
        · rw [← c1]; exact g2
        · by_cases c2 : fstB B w m = j
          · rw [c2]; exact j2
          · exact hp.run u _ _ _ (by omega) (show fstB B w m < j by omega) j1 g2 j2
      have hlt : szS n (bord r S) < szS n (B (fstB B w m)) := szS_lt hsub hw (by
        rw [Bool.eq_false_iff]
        intro hb
        rw [((testBit_bord hn10 hS).1 hb).1] at hwS; cases hwS) f2
      have := hM _ f1
      omega
  intro k
  induction k with
  | zero =>
    intro S hS hk hf
    have := sz_full hS (Nat.le_antisymm (szS_le _ _) (by omega))
    rw [this, rst_all]; exact Nat.zero_le _
  | succ k ih =>
    intro S hS hk hf
    by_cases hne : S = 2 ^ n - 1
    · rw [hne, rst_all]; exact Nat.zero_le _
    · obtain ⟨w0, hw0, hw0S⟩ : ∃ w, w < n ∧ S.testBit w = false := by
        apply Classical.byContradiction
        intro hno
        refine hne (Nat.eq_of_testBit_eq fun i => ?_)
        rw [Nat.testBit_two_pow_sub_one]
        by_cases hi : i < n
        · rw [decide_eq_true hi]
          cases hb : S.testBit i
          · exact absurd ⟨i, hi, hb⟩ hno
          · rfl
        · rw [decide_eq_false hi]
          exact Nat.testBit_lt_two_pow (Nat.lt_of_lt_of_le hS (Nat.pow_le_pow_right (by omega) (by omega)))
      obtain ⟨w, hw, hwS, hmin⟩ : ∃ w, w < n ∧ S.testBit w = false ∧ ∀ x, x < n → S.testBit x = false → fstB B w m ≤ fstB B x m := by
        obtain ⟨f, ⟨w, h1, h2, h3⟩, h4⟩ : ∃ f, (∃ w, w < n ∧ S.testBit w = false ∧ fstB B w m = f) ∧ ∀ g, g < f → ¬ ∃ w, w < n ∧ S.testBit w = false ∧ fstB B w m = g := by
          have hex : ∃ f, ∃ w, w < n ∧ S.testBit w = false ∧ fstB B w m = f := ⟨_, w0, hw0, hw0S, rfl⟩
          obtain ⟨f, hf⟩ := hex
          induction f using Nat.strongRecOn with
          | _ f ih =>
            by_cases hl : ∃ g, g < f ∧ ∃ w, w < n ∧ S.testBit w = false ∧ fstB B w m = g
            · obtain ⟨g, hg, hgw⟩ := hl
              exact ih g hg hgw
            · exact ⟨f, hf, fun g hg hgw => hl ⟨g, hg, hgw⟩⟩
        refine ⟨w, h1, h2, fun x hx hxS => ?_⟩
        rw [h3]
        apply Classical.byContradiction
        intro hlt
        exact h4 _ (Nat.lt_of_not_le hlt) ⟨x, hx, hxS, rfl⟩
      have hS' : S ||| 2 ^ w < 2 ^ n := Nat.or_lt_two_pow hS (pow_lt_pow hw)
      have hf' : ∀ u x, u < n → x < n → (S ||| 2 ^ w).testBit u = true → (S ||| 2 ^ w).testBit x = false → fstB B u m ≤ fstB B x m := fun u x hu hx h1 h2 => by
        rw [Nat.testBit_or, Nat.testBit_two_pow] at h1 h2
        rw [Bool.or_eq_false_iff] at h2
        rw [Bool.or_eq_true, decide_eq_true_eq] at h1
        rcases h1 with h1 | rfl
        · exact hf u x hu hx h1 h2.1
        · exact hmin x hx h2.1
      rw [rst_best hS hne]
      refine Nat.le_trans (bestW_at n w hw hwS) (Nat.max_le.2 ⟨ih _ hS' (by have := sz_or hw hwS; omega) hf', hbr _ hS' hf'⟩)

theorem path_wide {n m : Nat} {r : Nat → Nat} {z : Nat → Int} (h : Pl n r) (hp : Path n r m (setZ z)) : rst n (tbd n r) 0 ≤ mostB n z m - 1 :=
  path_least h hp (fun i hi => (mostB_le m).1 (Nat.le_refl _) i hi) _ 0 (Nat.two_pow_pos n) (Nat.le_refl _) fun u w _ _ h1 _ => by rw [Nat.zero_testBit] at h1; cases h1

end Go.Proofs.YtgkpogaahndmoaaDoor
