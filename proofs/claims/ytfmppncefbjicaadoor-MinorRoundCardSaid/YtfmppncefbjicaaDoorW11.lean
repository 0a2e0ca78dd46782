/- The first order of least width is an order, has the least width, and stands first among all that have it. -/
import Derived.Test.YtfmppncefbjicaaDoorW2
namespace Go.Proofs.YtfmppncefbjicaaDoor
set_option linter.unusedSimpArgs false
set_option linter.unusedVariables false

def listZ (L : List Nat) (i : Nat) : Int := ((L.getD i 0 : Nat) : Int)
theorem listZ_nat (L : List Nat) (i : Nat) : (listZ L i).toNat = L.getD i 0 := by unfold listZ; omega

theorem metO_congr {x y : Nat → Int} : ∀ k, (∀ i, i < k → x i = y i) → metO x k = metO y k := by
  intro k
  induction k with
  | zero => intro _; rfl
  | succ k ih =>
    intro h
    show metO x k ||| _ = metO y k ||| _
    rw [ih fun i hi => h i (by omega), h k (by omega)]

/-- What the numbers of the first order are. -/
structure FirstAt (n : Nat) (t : Nat → Nat → Nat) (W : Nat) (z : Nat → Int) (i : Nat) : Prop where
  ok : okO n z i = true
  le : t (metO z i) (z i).toNat ≤ W
  first : ∀ u, u < (z i).toNat → nxtB n t W (metO z i) u = false

theorem least_of {p : Nat → Bool} : ∀ {n v : Nat}, v < n → p v = true → ∃ u, u < n ∧ p u = true ∧ ∀ x, x < u → p x = false := by
  intro n
  induction n with
  | zero => intro v h; omega
  | succ n ih =>
    intro v hv hp
    by_cases h : ∃ x, x < n ∧ p x = true
    · obtain ⟨x, hx, hpx⟩ := h
      obtain ⟨u, h1, h2, h3⟩ := ih hx hpx
      exact ⟨u, by omega, h2, h3⟩
    · refine ⟨v, hv, hp, fun x hx => ?_⟩
      cases hpx : p x
      · rfl
      · exact absurd ⟨x, by omega, hpx⟩ h

theorem first_going {n : Nat} {t : Nat → Nat → Nat} {W : Nat} (ht : ∀ g v, v < n → t g v ≤ n) (hW : rst n t 0 ≤ W) :
    ∀ k, k ≤ n → Going n t W ((ordW n t W n 0).take k) (metO (listZ (ordW n t W n 0)) k) ∧ ((ordW n t W n 0).take k).length = k ∧ ∀ i, i < k → FirstAt n t W (listZ (ordW n t W n 0)) i := by
  intro k
  induction k with
  | zero => intro _; exact ⟨by simpa [metO] using Going.start hW, by simp, by omega⟩
  | succ k ih =>
    intro hk
    obtain ⟨h1, h2, h3⟩ := ih (by omega)
    have hne : metO (listZ (ordW n t W n 0)) k ≠ 2 ^ n - 1 := by
      intro e
      have := h1.sz
      rw [e, sz_all, h2] at this
      omega
    obtain ⟨v, hv, hb⟩ := h1.next hne (fun v hv => ht _ v hv)
    obtain ⟨u, hu, hbu, hmin⟩ := least_of hv hb
    have hall := h1.all
    rw [h2, show n - k = (n - (k + 1)) + 1 by omega, ordW_step hu hbu hmin] at hall
    have hget : (ordW n t W n 0).getD k 0 = u := by
      rw [← hall, List.getD_eq_getElem?_getD, List.getElem?_append_right (by rw [h2]; exact Nat.le_refl _), h2]
      simp
    have htake : (ordW n t W n 0).take (k + 1) = (ordW n t W n 0).take k ++ [u] := by
      have hlt : k < (ordW n t W n 0).length := by
        rw [← hall, List.length_append, h2, List.length_cons]; omega
      rw [List.take_add_one, List.getElem?_eq_getElem hlt]
      have : (ordW n t W n 0)[k] = u := by
        have := hget
        rw [List.getD_eq_getElem?_getD, List.getElem?_eq_getElem hlt] at this
        simpa using this
      rw [this]; rfl
    have hz : (listZ (ordW n t W n 0) k).toNat = u := by rw [listZ_nat, hget]
    obtain ⟨b1, b2, b3⟩ := nxtB_iff.1 hbu
    refine ⟨?_, by rw [htake, List.length_append, h2]; rfl, fun i hi => ?_⟩
    · rw [htake]
      show Going n t W _ (metO _ k ||| 2 ^ (listZ (ordW n t W n 0) k).toNat)
      rw [hz]
      exact h1.step hu hbu hmin
    · rcases Nat.lt_succ_iff_lt_or_eq.1 hi with h | h
      · exact h3 i h
      · subst h
        refine ⟨?_, by rw [hz]; exact b2, by rw [hz]; exact hmin⟩
        unfold okO
        rw [hz, b1, inB_true (by unfold listZ; omega) (by unfold listZ; rw [hget]; omega)]
        rfl

theorem first_len {n : Nat} {t : Nat → Nat → Nat} {W : Nat} (ht : ∀ g v, v < n → t g v ≤ n) (hW : rst n t 0 ≤ W) : (ordW n t W n 0).length = n := by
  obtain ⟨h1, h2, _⟩ := first_going ht hW n (Nat.le_refl _)
  have hd := h1.all
  rw [h2, Nat.sub_self] at hd
  rw [← hd, List.length_append, h2]
  rfl
theorem first_ord {n : Nat} {t : Nat → Nat → Nat} {W : Nat} (ht : ∀ g v, v < n → t g v ≤ n) (hW : rst n t 0 ≤ W) : ∀ k, k < n → okO n (listZ (ordW n t W n 0)) k = true :=
  fun k hk => ((first_going ht hW n (Nat.le_refl _)).2.2 k hk).ok
theorem alo_bd {t : Nat → Nat → Nat} {z : Nat → Int} {W : Nat} : ∀ k, (∀ i, i < k → t (metO z i) (z i).toNat ≤ W) → alo t z k ≤ W := by
  intro k
  induction k with
  | zero => intro _; exact Nat.zero_le _
  | succ k ih =>
    intro h
    have h1 := ih fun i hi => h i (by omega)
    have h2 := h k (by omega)
    show max _ _ ≤ W
    omega
theorem first_alo {n : Nat} {t : Nat → Nat → Nat} (ht : ∀ g v, v < n → t g v ≤ n) : alo t (listZ (ordW n t (rst n t 0) n 0)) n = rst n t 0 := by
  apply Nat.le_antisymm
  · exact alo_bd n fun i hi => ((first_going ht (Nat.le_refl _) n (Nat.le_refl _)).2.2 i hi).le
  · exact alo_least (first_ord ht (Nat.le_refl _))
/-- It stands first among the orders with the least width. -/
theorem first_lex {n : Nat} {t : Nat → Nat → Nat} (ht : ∀ g v, v < n → t g v ≤ n) {y : Nat → Int} (hy : ∀ i, i < n → okO n y i = true) (hal : alo t y n ≤ rst n t 0) {k : Nat} (hk : k < n)
    (hsame : ∀ i, i < k → listZ (ordW n t (rst n t 0) n 0) i = y i) : listZ (ordW n t (rst n t 0) n 0) k ≤ y k := by
  have hf := (first_going ht (Nat.le_refl (rst n t 0)) n (Nat.le_refl _)).2.2 k hk
  have hm := metO_congr k hsame
  obtain ⟨h1, h2, h3, h4⟩ := okO_iff (hy k hk)
  have hn : nxtB n t (rst n t 0) (metO (listZ (ordW n t (rst n t 0) n 0)) k) (y k).toNat = true := by
    rw [hm]
    refine nxtB_iff.2 ⟨h4, ?_, ?_⟩
    · have h5 : max (alo t y k) (t (metO y k) (y k).toNat) ≤ alo t y n := alo_mono (t := t) (z := y) (k := k + 1) (m := n) (by omega)
      omega
    · have := alo_ge (t := t) hy (n - (k + 1)) (k + 1) (by omega)
      exact Nat.le_trans this hal
  apply Classical.byContradiction
  intro hlt
  have h0 : 0 ≤ listZ (ordW n t (rst n t 0) n 0) k := by unfold listZ; omega
  have := hf.first (y k).toNat (by omega)
  rw [hn] at this
  cases this

end Go.Proofs.YtfmppncefbjicaaDoor
