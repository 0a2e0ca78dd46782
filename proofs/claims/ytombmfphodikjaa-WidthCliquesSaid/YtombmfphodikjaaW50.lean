/- Nodes that are all neighbours of each other are together in some bag. -/
import Derived.Test.YtombmfphodikjaaW40
namespace Go.Proofs.Ytombmfphodikjaa
set_option linter.unusedSimpArgs false
set_option linter.unusedVariables false

theorem max_of (P : Nat → Prop) (f : Nat → Nat) : ∀ n, (∃ v, v < n ∧ P v) → ∃ v, v < n ∧ P v ∧ ∀ u, u < n → P u → f u ≤ f v := by
  intro n
  induction n with
  | zero => rintro ⟨v, hv, _⟩; omega
  | succ n ih =>
    intro h
    by_cases hx : ∃ v, v < n ∧ P v
    · obtain ⟨v, hv, hp, hm⟩ := ih hx
      by_cases hn : P n ∧ f v < f n
      · refine ⟨n, by omega, hn.1, fun u hu hpu => ?_⟩
        rcases Nat.lt_succ_iff_lt_or_eq.1 hu with h1 | h1
        · have := hm u h1 hpu; omega
        · rw [h1]; exact Nat.le_refl _
      · refine ⟨v, by omega, hp, fun u hu hpu => ?_⟩
        rcases Nat.lt_succ_iff_lt_or_eq.1 hu with h1 | h1
        · exact hm u h1 hpu
        · rw [h1]
          apply Classical.byContradiction
          intro hc
          exact hn ⟨by rw [← h1]; exact hpu, by omega⟩
    · obtain ⟨v, hv, hp⟩ := h
      have e : v = n := by
        apply Classical.byContradiction
        intro hc
        exact hx ⟨v, by omega, hp⟩
      refine ⟨v, hv, hp, fun u hu hpu => ?_⟩
      have e2 : u = n := by
        apply Classical.byContradiction
        intro hc
        exact hx ⟨u, by omega, hpu⟩
      rw [e, e2]; exact Nat.le_refl _

theorem Desc.comp {m : Nat} {p : Nat → Int} {a b j : Nat} (h1 : Desc m p a j) (h2 : Desc m p b j) : Desc m p a b ∨ Desc m p b a := by
  induction h1 with
  | refl => exact Or.inr h2
  | @step j hj hr h3 ih =>
    cases h2 with
    | refl => exact Or.inl (.step hj hr h3)
    | step _ _ h4 => exact ih h4

/-- A node that is in a bag and in one below it is in all bags between. -/
theorem Dec.along {n : Nat} {r : Nat → Nat} {m : Nat} {z p : Nat → Int} (D : Dec n r m z p) {d : Nat → Nat} (hd : Ranks m p d) {u t c j : Nat} (hu : u < n) (ht : t < m) (h1 : topB z p u t = true) (h2 : Desc m p t c) (h3 : Desc m p c j) (hj : j < m) (h4 : (z j).toNat.testBit u = true) : (z c).toNat.testBit u = true := by
  induction h3 with
  | refl => exact h4
  | @step j hj' hr h5 ih =>
    have hp := D.par j hj
    apply ih (by omega)
    cases hq : (z (p j).toNat).toNat.testBit u
    · have := D.tops u j t hu hj ht (topB_iff.2 ⟨h4, Or.inr hq⟩) h1
      subst this
      have a1 := hd j hj hr
      have a2 := h5.le hd
      have a3 := h2.le hd
      omega
    · rfl

theorem Dec.clique {n : Nat} {r : Nat → Nat} {m : Nat} {z p : Nat → Int} (D : Dec n r m z p) {s : Nat} (hs : ∀ v, s.testBit v = true → v < n) (hc : ∀ v u, s.testBit v = true → s.testBit u = true → v ≠ u → (r v).testBit u = true) : ∃ j, j < m ∧ ∀ v, s.testBit v = true → (z j).toNat.testBit v = true := by
  by_cases hne : ∃ v, v < n ∧ s.testBit v = true
  · obtain ⟨d, hd⟩ := D.rank
    obtain ⟨f, hf⟩ : ∃ f : Nat → Nat, ∀ v, v < n → f v < m ∧ topB z p v (f v) = true :=
      ⟨fun v => if h : v < n then (D.top v h).choose else 0, fun v hv => by simp only [hv, dif_pos]; exact (D.top v hv).choose_spec⟩
    obtain ⟨v, hv, hp, hm⟩ := max_of (fun v => s.testBit v = true) (fun v => d (f v)) n hne
    refine ⟨f v, (hf v hv).1, fun u hu => ?_⟩
    by_cases e : v = u
    · subst e; exact (topB_iff.1 (hf v hv).2).1
    · obtain ⟨j, hj, b1, b2⟩ := D.near v u hv (hc v u hp hu e)
      have hun := hs u hu
      obtain ⟨t, t1, t2, t3⟩ := climb hd D.par v (d j) j (Nat.le_refl _) hj b1
      obtain ⟨x, x1, x2, x3⟩ := climb hd D.par u (d j) j (Nat.le_refl _) hj b2
      have e1 := D.tops v t (f v) hv t1 (hf v hv).1 t2 (hf v hv).2
      have e2 := D.tops u x (f u) hun x1 (hf u hun).1 x2 (hf u hun).2
      subst e1
      subst e2
      have hle := hm u hun hu
      refine D.along hd hun x1 x2 ?_ t3 hj b2
      rcases x3.comp t3 with h | h
      · exact h
      · by_cases e3 : f v = f u
        · rw [e3]; exact .refl
        · have := h.lt hd e3
          omega
  · refine ⟨0, D.one, fun v hv => absurd ⟨v, hs v hv, hv⟩ hne⟩

end Go.Proofs.Ytombmfphodikjaa
