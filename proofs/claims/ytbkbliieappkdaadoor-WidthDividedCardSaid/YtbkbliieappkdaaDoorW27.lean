/- A set of at most the width and 1 nodes divides a graph: the first node, along an order, with which more than half of all hangs together, and what is left of it at its turn. -/
import Derived.Test.YtbkbliieappkdaaDoorW25
namespace Go.Proofs.YtbkbliieappkdaaDoor
set_option linter.unusedSimpArgs false
set_option linter.unusedVariables false
open Go.RowKit

theorem bit_metO {z : Nat → Int} : ∀ {k u : Nat}, (metO z k).testBit u = true ↔ ∃ j, j < k ∧ (z j).toNat = u := by
  intro k
  induction k with
  | zero => intro u; simp [metO]
  | succ k ih =>
    intro u
    show (metO z k ||| 2 ^ (z k).toNat).testBit u = true ↔ _
    rw [Nat.testBit_or, Bool.or_eq_true, ih, Nat.testBit_two_pow, decide_eq_true_eq]
    constructor
    · rintro (⟨j, h1, h2⟩ | h)
      · exact ⟨j, by omega, h2⟩
      · exact ⟨k, by omega, h⟩
    · rintro ⟨j, h1, h2⟩
      rcases Nat.lt_succ_iff_lt_or_eq.1 h1 with h3 | h3
      · exact Or.inl ⟨j, h3, h2⟩
      · subst h3; exact Or.inr h2
theorem last_of {p : Nat → Prop} : ∀ {k : Nat}, (∃ j, j < k ∧ p j) → ∃ j, j < k ∧ p j ∧ ∀ x, x < k → p x → x ≤ j := by
  intro k
  induction k with
  | zero => rintro ⟨j, h, _⟩; omega
  | succ k ih =>
    intro h
    by_cases hk : p k
    · exact ⟨k, by omega, hk, fun x hx _ => by omega⟩
    · obtain ⟨j, hj, hp⟩ := h
      have hjk : j < k := by
        rcases Nat.lt_succ_iff_lt_or_eq.1 hj with h1 | h1
        · exact h1
        · subst h1; exact absurd hp hk
      obtain ⟨i, h1, h2, h3⟩ := ih ⟨j, hjk, hp⟩
      refine ⟨i, by omega, h2, fun x hx hpx => ?_⟩
      rcases Nat.lt_succ_iff_lt_or_eq.1 hx with h4 | h4
      · exact h3 x h4 hpx
      · subst h4; exact absurd hpx hk
theorem first_of {p : Nat → Prop} : ∀ {k : Nat}, (∃ j, j < k ∧ p j) → ∃ j, j < k ∧ p j ∧ ∀ x, x < j → ¬ p x := by
  intro k
  induction k with
  | zero => rintro ⟨j, h, _⟩; omega
  | succ k ih =>
    intro h
    by_cases hk : ∃ j, j < k ∧ p j
    · obtain ⟨j, h1, h2, h3⟩ := ih hk
      exact ⟨j, by omega, h2, h3⟩
    · obtain ⟨j, hj, hp⟩ := h
      have hjk : j = k := by
        rcases Nat.lt_succ_iff_lt_or_eq.1 hj with h1 | h1
        · exact absurd ⟨j, h1, hp⟩ hk
        · exact h1
      subst hjk
      exact ⟨j, by omega, hp, fun x hx hpx => hk ⟨x, hx, hpx⟩⟩
theorem szS_disj (K P : Nat) : ∀ n, (∀ i, i < n → K.testBit i = true → P.testBit i = false) → szS n K + szS n P ≤ n := by
  intro n
  induction n with
  | zero => intro _; simp [szS]
  | succ n ih =>
    intro h
    have ih := ih fun i hi => h i (by omega)
    unfold szS at *
    rw [List.range_succ, List.countP_append, List.countP_append]
    simp only [List.countP_cons, List.countP_nil]
    cases hk : K.testBit n
    · cases hp : P.testBit n <;> simp <;> omega
    · rw [h n (by omega) hk]; simp; omega
/-- What hangs together within a set hangs together within each set that has all of it. -/
theorem conn_sub {n : Nat} {r : Nat → Nat} {R Q v u : Nat} (hr : ∀ i, i < n → r i < 2 ^ n) (hs : SymG n r) (hv : v < n) (hu : u < n) (hK : ∀ i, (partS n r R v).testBit i = true → Q.testBit i = true) (huK : (partS n r R v).testBit u = true) :
    ∀ i, (partS n r R v).testBit i = true → (partS n r Q u).testBit i = true := by
  have hKc := partS_closed (set := R) hv hr
  have hXc := partS_closed (set := Q) hu hr
  have hXs := partS_self (r := r) (n := n) (set := Q) (v := u)
  have hKl := partS_lt (set := R) hv hr
  have hKs := partS_self (r := r) (n := n) (set := R) (v := v)
  have hmin := fun (X : Nat) (h0 : X.testBit v = true) (hc : ∀ a, a < n → X.testBit a = true → ∀ x, (r a).testBit x = true → R.testBit x = true → X.testBit x = true) =>
    metIn_in (g := r) (set := R) (f := 2 ^ v) (X := X) (n := n) (fun i h => by
      rw [Nat.testBit_two_pow] at h
      have : v = i := of_decide_eq_true h
      subst this; exact h0) hc n
  generalize hKK : partS n r R v = K at *
  generalize partS n r Q u = X at *
  have hmin' : ∀ (Y : Nat), Y.testBit v = true → (∀ a, a < n → Y.testBit a = true → ∀ x, (r a).testBit x = true → R.testBit x = true → Y.testBit x = true) → ∀ i, K.testBit i = true → Y.testBit i = true := fun Y h0 hc i hi => hmin Y h0 hc i (by rw [← hKK] at hi; exact hi)
  -- v is met from u
  have hvX : X.testBit v = true := by
    apply Classical.byContradiction
    intro hno
    have hno : X.testBit v = false := by simpa using hno
    have := hmin' (diff K X) (by rw [testBit_diff, hKs, hno]; rfl) (fun a ha h1 x h2 h3 => by
      rw [testBit_diff, Bool.and_eq_true] at h1
      have hxK := hKc a ha h1.1 x h2 h3
      have hxn := bit_lt hKl hxK
      rw [testBit_diff, hxK]
      cases hx : X.testBit x
      · rfl
      · have h4 := hXc x hxn hx a (by rw [← hs a x ha hxn]; exact h2) (hK a h1.1)
        rw [h4] at h1; simp at h1) u huK
    rw [testBit_diff, hXs] at this
    simp at this
  intro i hi
  have := hmin' (K &&& X) (by rw [Nat.testBit_and, hKs, hvX]; rfl) (fun a ha h1 x h2 h3 => by
    rw [Nat.testBit_and, Bool.and_eq_true] at h1
    have hxK := hKc a ha h1.1 x h2 h3
    rw [Nat.testBit_and, hxK, hXc a ha h1.2 x h2 (hK x hxK)]; rfl) i hi
  rw [Nat.testBit_and, Bool.and_eq_true] at this
  exact this.2

section
variable {n : Nat} {r : Nat → Nat} {z : Nat → Int} {W : Nat}
/-- What hangs together with the node at a place, of it and those ahead of it. -/
def partAt (n : Nat) (r : Nat → Nat) (z : Nat → Int) (i : Nat) : Nat := partS n r (metO z i ||| 2 ^ (z i).toNat) (z i).toNat

theorem part_at_last (hr : ∀ i, i < n → r i < 2 ^ n) (hs : SymG n r) (hok : ∀ k, k < n → okO n z k = true) {R v k : Nat} (hv : v < n) (hk : k ≤ n)
    (hin : ∀ i, (partS n r R v).testBit i = true → (metO z k).testBit i = true) : ∃ j, j < k ∧ szS n (partS n r R v) ≤ szS n (partAt n r z j) := by
  have hself := partS_self (r := r) (n := n) (set := R) (v := v)
  obtain ⟨j0, hj0, he0⟩ := bit_metO.1 (hin v hself)
  obtain ⟨j, hj, hp, hlast⟩ := last_of (p := fun j => (partS n r R v).testBit (z j).toNat = true) ⟨j0, hj0, by show (partS n r R v).testBit (z j0).toNat = true; rw [he0]; exact hself⟩
  have hjn := (okO_iff (hok j (by omega))).2.2.1
  refine ⟨j, hj, szS_mono fun i _ hi => ?_⟩
  refine conn_sub hr hs hv hjn (fun x hx => ?_) hp i hi
  obtain ⟨y, hy, hye⟩ := bit_metO.1 (hin x hx)
  have hyj := hlast y hy (by show (partS n r R v).testBit (z y).toNat = true; rw [hye]; exact hx)
  show (metO z (j + 1)).testBit x = true
  exact bit_metO.2 ⟨y, by omega, hye⟩

theorem some_divides (hr : ∀ i, i < n → r i < 2 ^ n) (hs : SymG n r) (hok : ∀ k, k < n → okO n z k = true) (hle : ∀ k, k < n → tn n r (metO z k) (z k).toNat ≤ W) : ∃ S, S < 2 ^ n ∧ szS n S ≤ W + 1 ∧ dvTo n r S n = true := by
  have hfull : metO z n = 2 ^ n - 1 := sz_full (metO_lt n hok) (metO_sz n hok)
  by_cases hbig : ∃ i, i < n ∧ n < 2 * szS n (partAt n r z i)
  · obtain ⟨i, hi, hp, hfirst⟩ := first_of hbig
    obtain ⟨_, _, hvn, hvg⟩ := okO_iff (hok i hi)
    have hPc := partS_closed (set := metO z i ||| 2 ^ (z i).toNat) hvn hr
    have hPs := partS_self (r := r) (n := n) (set := metO z i ||| 2 ^ (z i).toNat) (v := (z i).toNat)
    have hPin := fun x => partS_in (r := r) (n := n) (set := metO z i ||| 2 ^ (z i).toNat) (v := (z i).toNat) (i := x)
    have hPl := partS_lt (set := metO z i ||| 2 ^ (z i).toNat) hvn hr
    have hWi := hle i hi
    have hll : leftS n r (metO z i) (z i).toNat < 2 ^ n := arnd_lt _ hr
    have hlb := fun x => testBit_arnd n r (partS n r (metO z i ||| 2 ^ (z i).toNat) (z i).toNat) x
    unfold tn at hWi
    have hleft : leftS n r (metO z i) (z i).toNat = arnd n r (partS n r (metO z i ||| 2 ^ (z i).toNat) (z i).toNat) := rfl
    rw [hleft] at hWi hll
    unfold partAt at hp
    generalize hPP : partS n r (metO z i ||| 2 ^ (z i).toNat) (z i).toNat = P at *
    generalize hAA : arnd n r P = A at *
    generalize hvv : (z i).toNat = v at *
    have hAv : A.testBit v = false := by
      cases h : A.testBit v
      · rfl
      · have := ((hlb v).1 h).2
        rw [hPs] at this; cases this
    refine ⟨A ||| 2 ^ v, Nat.or_lt_two_pow hll (pow_lt_pow hvn), by rw [sz_or hvn hAv]; omega, ?_⟩
    rw [dvTo_iff]
    intro u hu hSu
    have hSb : ∀ x, (A ||| 2 ^ v).testBit x = (A.testBit x || decide (v = x)) := fun x => by rw [Nat.testBit_or, Nat.testBit_two_pow]
    have hRb : ∀ x, (diff (2 ^ n - 1) (A ||| 2 ^ v)).testBit x = true → A.testBit x = false ∧ v ≠ x := fun x hx => by
      rw [testBit_rest, Bool.and_eq_true, hSb] at hx
      have h2 := hx.2
      simp only [Bool.not_eq_true', Bool.or_eq_false_iff, decide_eq_false_iff_not] at h2
      exact h2
    have hKc := partS_closed (set := diff (2 ^ n - 1) (A ||| 2 ^ v)) hu hr
    have hKs := partS_self (r := r) (n := n) (set := diff (2 ^ n - 1) (A ||| 2 ^ v)) (v := u)
    have hKin := fun x => partS_in (r := r) (n := n) (set := diff (2 ^ n - 1) (A ||| 2 ^ v)) (v := u) (i := x)
    have hKl := partS_lt (set := diff (2 ^ n - 1) (A ||| 2 ^ v)) hu hr
    have huS : A.testBit u = false ∧ v ≠ u := by
      rw [hSb] at hSu
      simp only [Bool.or_eq_false_iff, decide_eq_false_iff_not] at hSu
      exact hSu
    have hKS : ∀ x, (partS n r (diff (2 ^ n - 1) (A ||| 2 ^ v)) u).testBit x = true → A.testBit x = false ∧ v ≠ x := fun x hx => by
      rcases hKin x hx with h | h
      · rw [h]; exact huS
      · exact hRb x h
    have hmin := fun (X : Nat) (h0 : X.testBit u = true) (hc : ∀ a, a < n → X.testBit a = true → ∀ x, (r a).testBit x = true → (diff (2 ^ n - 1) (A ||| 2 ^ v)).testBit x = true → X.testBit x = true) =>
      metIn_in (g := r) (set := diff (2 ^ n - 1) (A ||| 2 ^ v)) (f := 2 ^ u) (X := X) (n := n) (fun i h => by
        rw [Nat.testBit_two_pow] at h
        have : u = i := of_decide_eq_true h
        subst this; exact h0) hc n
    cases huP : P.testBit u
    · -- apart from P
      have hdis : ∀ x, (partS n r (diff (2 ^ n - 1) (A ||| 2 ^ v)) u).testBit x = true → (diff (partS n r (diff (2 ^ n - 1) (A ||| 2 ^ v)) u) P).testBit x = true :=
        hmin _ (by rw [testBit_diff, hKs, huP]; rfl) (fun a ha h1 x h2 h3 => by
          rw [testBit_diff, Bool.and_eq_true] at h1
          have hxK := hKc a ha h1.1 x h2 h3
          have hxn := bit_lt hKl hxK
          rw [testBit_diff, hxK]
          cases hx : P.testBit x
          · rfl
          · have haA : A.testBit a = true := (hlb a).2 ⟨⟨x, hxn, hx, by rw [← hs a x ha hxn]; exact h2⟩, by simpa using h1.2⟩
            rw [(hKS a h1.1).1] at haA; cases haA)
      have hsum := szS_disj (partS n r (diff (2 ^ n - 1) (A ||| 2 ^ v)) u) P n (fun x _ hx => by
        have := hdis x hx
        rw [testBit_diff, Bool.and_eq_true] at this
        simpa using this.2)
      omega
    · -- within P, without its last node
      have hKP : ∀ x, (partS n r (diff (2 ^ n - 1) (A ||| 2 ^ v)) u).testBit x = true → P.testBit x = true :=
        hmin _ huP (fun a ha h1 x h2 h3 => by
          apply Classical.byContradiction
          intro h4
          have : A.testBit x = true := (hlb x).2 ⟨⟨a, ha, h1, h2⟩, by simpa using h4⟩
          rw [(hRb x h3).1] at this; cases this)
      obtain ⟨j, hj, hsz⟩ := part_at_last hr hs hok hu (Nat.le_of_lt hi) (fun x hx => by
        have h1 := hPin x (hKP x hx)
        have h2 := (hKS x hx).2
        rcases h1 with h1 | h1
        · exact absurd h1.symm h2
        · rw [Nat.testBit_or, Bool.or_eq_true, Nat.testBit_two_pow, decide_eq_true_eq] at h1
          rcases h1 with h1 | h1
          · exact h1
          · exact absurd h1 h2)
      have := hfirst j hj
      omega
  · refine ⟨0, Nat.two_pow_pos n, by simp [szS], ?_⟩
    rw [dvTo_iff]
    intro u hu _
    obtain ⟨j, hj, hsz⟩ := part_at_last (R := diff (2 ^ n - 1) 0) hr hs hok hu (Nat.le_refl n) (fun x hx => by
      rw [hfull, Nat.testBit_two_pow_sub_one]
      exact decide_eq_true (bit_lt (partS_lt hu hr) hx))
    have : ¬ n < 2 * szS n (partAt n r z j) := fun h => hbig ⟨j, hj, h⟩
    omega
end

end Go.Proofs.YtbkbliieappkdaaDoor
