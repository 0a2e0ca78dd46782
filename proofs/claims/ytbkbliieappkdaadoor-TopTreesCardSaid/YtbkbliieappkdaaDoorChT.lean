/- In a connected graph of width at most 1 whatever is left by stripping corners has a corner, unless it is one node. -/
import Derived.Test.YtbkbliieappkdaaDoorChS15
import Derived.Test.YtbkbliieappkdaaDoorChS1v
import Derived.Test.YtbkbliieappkdaaDoorW12
import Derived.Test.YtbkbliieappkdaaDoorW11
namespace Go.Proofs.YtbkbliieappkdaaDoor
set_option linter.unusedSimpArgs false
set_option linter.unusedVariables false
open Go.RowKit

theorem first_of {p : Nat → Prop} : ∀ {k : Nat}, (∃ j, j < k ∧ p j) → ∃ j, j < k ∧ p j ∧ ∀ x, x < j → ¬ p x := by
  intro k
  induction k with
  | zero => rintro ⟨j, h, _⟩; omega
  | succ k ih =>
    intro h
    by_cases hk : ∃ j, j < k ∧ p j
    · obtain ⟨j, h1, h2, h3⟩ := ih hk
      exact ⟨j, by omega, h2, h3⟩
    · obtain ⟨j, hj, hp⟩ := h
      have hjk : j = k := by
        rcases Nat.lt_succ_iff_lt_or_eq.1 hj with h1 | h1
        · exact absurd ⟨j, h1, hp⟩ hk
        · exact h1
      subst hjk
      exact ⟨j, by omega, hp, fun x hx hpx => hk ⟨x, hx, hpx⟩⟩
theorem bit_metO {z : Nat → Int} : ∀ {k u : Nat}, (metO z k).testBit u = true ↔ ∃ j, j < k ∧ (z j).toNat = u := by
  intro k
  induction k with
  | zero => intro u; simp [metO]
  | succ k ih =>
    intro u
    show (metO z k ||| 2 ^ (z k).toNat).testBit u = true ↔ _
    rw [Nat.testBit_or, Bool.or_eq_true, ih, Nat.testBit_two_pow, decide_eq_true_eq]
    constructor
    · rintro (⟨j, h1, h2⟩ | h)
      · exact ⟨j, by omega, h2⟩
      · exact ⟨k, by omega, h⟩
    · rintro ⟨j, h1, h2⟩
      rcases Nat.lt_succ_iff_lt_or_eq.1 h1 with h3 | h3
      · exact Or.inl ⟨j, h3, h2⟩
      · subst h3; exact Or.inr h2
theorem one_bit_only {n A x y : Nat} (h : szS n A ≤ 1) (hx : x < n) (hy : y < n) (bx : A.testBit x = true) (bY : A.testBit y = true) : x = y := by
  apply Classical.byContradiction
  intro hne
  have h1 : 0 < szS n (2 ^ x) := sz_pos hx (bit_pow x)
  have h2 : szS n (2 ^ x) < szS n A := szS_lt (fun i _ hi => by
    rw [Nat.testBit_two_pow] at hi
    have : x = i := of_decide_eq_true hi
    subst this; exact bx) hy (by rw [Nat.testBit_two_pow]; exact decide_eq_false hne) bY
  omega

theorem graph_of_town {n : Nat} {z : Nat → Int} (h : Ch.townB n z = true) : graphB n 9 z = true := by
  rw [Ch.townB_valid] at h
  unfold Ch.validB at h
  rw [Bool.and_eq_true] at h
  have h1 := h.1
  unfold Ch.graphB at h1
  unfold graphB
  simp only [Bool.and_eq_true, decide_eq_true_eq] at h1 ⊢
  exact ⟨⟨h1.1.1, by omega⟩, h1.2⟩

/-- The first node along an order of width at most 1, of those that are left, is a corner. -/
theorem tree_corner {n : Nat} {z : Nat → Int} (ht : Ch.townB n z = true) (hW : widthG n z ≤ 1) {T m : Nat} {e s : Nat → Nat} (H : Ch.Sub n (Ch.reachOf z) T m e s) (h2 : 2 ≤ m) :
    ∃ w u, w < m ∧ u < m ∧ u ≠ w ∧ ∀ d, (s w).testBit d = true → (s u).testBit d = true := by
  have hg := graph_of_town ht
  have hb := graphB_le hg
  have hr : ∀ i, i < n → natG z i < 2 ^ n := fun i hi => nat_pow_cast (hb.2.2 i hi).2 (hb.2.2 i hi).1
  have hf := (first_going (n := n) (t := tn n (natG z)) (W := widthG n z) (fun _ _ _ => tn_le _ _ _ _) (Nat.le_refl _) n (Nat.le_refl _)).2.2
  obtain ⟨y, hy⟩ : ∃ y, y = listZ (ordW n (tn n (natG z)) (widthG n z) n 0) := ⟨_, rfl⟩
  rw [← hy] at hf
  have hok : ∀ k, k < n → okO n y k = true := fun k hk => (hf k hk).ok
  have hfull : metO y n = 2 ^ n - 1 := sz_full (metO_lt n hok) (metO_sz n hok)
  have hpos : ∀ v, v < n → ∃ j, j < n ∧ (y j).toNat = v := fun v hv => bit_metO.1 (by rw [hfull, Nat.testBit_two_pow_sub_one]; exact decide_eq_true hv)
  have N := H.net
  obtain ⟨j0, hj0, he0⟩ := hpos (e 0) (H.lt 0 (by omega))
  obtain ⟨j, hj, ⟨w, hw, hwe⟩, hfirst⟩ := first_of (p := fun j => ∃ x, x < m ∧ e x = (y j).toNat) ⟨j0, hj0, 0, by omega, he0.symm⟩
  obtain ⟨_, _, hvn, _⟩ := okO_iff (hok j hj)
  have hle := (hf j hj).le
  -- a neighbour of it that is left is among what it has at its turn
  have hleft : ∀ x, x < m → x ≠ w → (s w).testBit x = true → (leftS n (natG z) (metO y j) (y j).toNat).testBit (e x) = true := by
    intro x hx hxw hbx
    rw [H.bit w x hw hx, Ch.testBit_reachOf, Bool.or_eq_true, decide_eq_true_eq] at hbx
    have hne : e w ≠ e x := fun h => hxw (H.inj x w hx hw h.symm)
    have hadj : (natG z (y j).toNat).testBit (e x) = true := by
      rcases hbx with h | h
      · rw [← hwe]; exact h
      · exact absurd h hne
    unfold leftS
    rw [testBit_arnd]
    refine ⟨⟨(y j).toNat, hvn, partS_self, hadj⟩, ?_⟩
    cases hp : (partS n (natG z) (metO y j ||| 2 ^ (y j).toNat) (y j).toNat).testBit (e x)
    · rfl
    · exfalso
      rcases partS_in hp with h | h
      · rw [← hwe] at h; exact hne h.symm
      · rw [Nat.testBit_or, Bool.or_eq_true, Nat.testBit_two_pow, decide_eq_true_eq] at h
        rcases h with h | h
        · obtain ⟨i, hi, hie⟩ := bit_metO.1 h
          exact hfirst i hi ⟨x, hx, hie.symm⟩
        · rw [← hwe] at h; exact hne h
  have honly : ∀ x x', x < m → x' < m → x ≠ w → x' ≠ w → (s w).testBit x = true → (s w).testBit x' = true → x = x' := by
    intro x x' hx hx' h1 h2 h3 h4
    refine H.inj x x' hx hx' (one_bit_only (n := n) (Nat.le_trans hle hW) (H.lt x hx) (H.lt x' hx') (hleft x hx h1 h3) (hleft x' hx' h2 h4))
  -- it has a neighbour that is left
  have hnb : ∃ u, u < m ∧ u ≠ w ∧ (s w).testBit u = true := by
    apply Classical.byContradiction
    intro hno
    have hall := Ch.conn_any N.one N.rin N.sym N.conn (fun x => x = w) hw rfl (fun a b ha h1 h2 => by
      subst h1
      apply Classical.byContradiction
      intro hne
      exact hno ⟨b, N.rin a b ha h2, hne, h2⟩)
    have e0 := hall 0 (by omega)
    have e1 := hall 1 (by omega)
    omega
  obtain ⟨u, hu, huw, hbu⟩ := hnb
  refine ⟨w, u, hw, hu, huw, fun d hd => ?_⟩
  have hdm := N.rin w d hw hd
  by_cases hdw : d = w
  · subst hdw
    rw [← N.sym d u hdm hu]; exact hbu
  · have := honly d u hdm hu hdw huw hd hbu
    subst this
    exact N.refl d hdm

/-- Such a graph is taken apart to one node. -/
theorem tree_one {n : Nat} {z : Nat → Int} (ht : Ch.townB n z = true) (hW : widthG n z ≤ 1) {L : List Nat} {T : Nat} (h : Ch.Strip (Ch.reachOf z) n (2 ^ n - 1) L T) (hn : Ch.leastC (Ch.reachOf z) n T = none) : Ch.szS n T = 1 := by
  have N := Ch.net_town ht
  obtain ⟨m, e, s, H, _⟩ := h.sub (Ch.Sub.start N)
  have hno := H.nocorner N hn
  have h1 := H.net.one
  by_cases h2 : 2 ≤ m
  · obtain ⟨w, u, hw, hu, huw, hc⟩ := tree_corner ht hW H h2
    obtain ⟨d, hd1, hd2⟩ := hno w u hw hu huw
    rw [hc d hd1] at hd2; cases hd2
  · rw [H.size]; omega

end Go.Proofs.YtbkbliieappkdaaDoor
