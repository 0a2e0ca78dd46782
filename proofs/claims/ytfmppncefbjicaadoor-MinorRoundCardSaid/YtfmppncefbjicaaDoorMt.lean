/- Package minor: what the search finds is a model, so no minor is wider than the town; the program's model is the reference's. -/
import Derived.Test.YtfmppncefbjicaaDoorMy
namespace Go.Proofs.YtfmppncefbjicaaDoor
set_option linter.unusedSimpArgs false
set_option linter.unusedVariables false

theorem g_sym {n most : Nat} {g : Nat → Int} (h : graphB n most g = true) : ∀ u x, u < n → x < n → (natG g u).testBit x = (natG g x).testBit u := by
  intro u x hu hx
  have h3 := (graphB_le h).2.2
  unfold graphB at h
  simp only [Bool.and_eq_true, decide_eq_true_eq, List.all_eq_true, List.mem_range, beq_iff_eq] at h
  have := (h.2 u hu).2 x hx
  rw [show g u = ((natG g u : Nat) : Int) by have := (h3 u hu).1; show g u = ((g u).toNat : Int); omega, bitZ_nat, show g x = ((natG g x : Nat) : Int) by have := (h3 x hx).1; show g x = ((g x).toNat : Int); omega, bitZ_nat] at this
  exact this
theorem g_loop {n most : Nat} {g : Nat → Int} (h : graphB n most g = true) : ∀ u, u < n → (natG g u).testBit u = false := by
  intro u hu
  have h3 := (graphB_le h).2.2
  unfold graphB at h
  simp only [Bool.and_eq_true, decide_eq_true_eq, List.all_eq_true, List.mem_range, beq_iff_eq] at h
  have := (h.2 u hu).1
  unfold okCellZ at this
  rw [Bool.and_eq_true, show g u = ((natG g u : Nat) : Int) by have := (h3 u hu).1; show g u = ((g u).toNat : Int); omega, bitZ_nat] at this
  simpa using this.2
theorem some_bit {x : Nat} (h : x ≠ 0) : ∃ i, x.testBit i = true := by
  apply Classical.byContradiction
  intro hno
  apply h
  apply Nat.eq_of_testBit_eq
  intro i
  rw [Nat.zero_testBit]
  cases hb : x.testBit i
  · rfl
  · exact absurd ⟨i, hb⟩ hno
theorem con_rch {n : Nat} {r : Nat → Nat} (hn : n ≤ 8) (hr : ∀ i, i < n → r i < 2 ^ n) (hs : ∀ u x, u < n → x < n → (r u).testBit x = (r x).testBit u) {s x y : Nat} (hlt : s < 2 ^ n) (hc : conB n r s = true) (hx : s.testBit x = true) (hy : s.testBit y = true) : Rch r s x y := by
  have h0 := conB_pos hc
  have hlow := lowN_ltm hn h0 hlt
  have h8 := pow_le8 hn
  obtain ⟨_, l2, _⟩ := lowN_all s (by omega) h0
  unfold conB at hc
  rw [Bool.and_eq_true, beq_iff_eq] at hc
  have key : ∀ y, s.testBit y = true → Rch r s (lowN s) y := fun y hy => part_rch (n := n) (by rw [hc.2]; exact hy)
  exact Rch.trans ((key x hx).symm hr hs hlow l2).2 (key y hy)

/-- Sets that may begin a model. -/
structure Good (n : Nat) (r pr : Nat → Nat) (B : List Nat) (met : Nat) : Prop where
  set : ∀ i, i < B.length → B.getD i 0 < 2 ^ n ∧ conB n r (B.getD i 0) = true
  nbs : ∀ i j, i < B.length → j < i → (pr i).testBit j = true → aroN r (B.getD i 0) &&& B.getD j 0 ≠ 0
  met : ∀ i x, i < B.length → (B.getD i 0).testBit x = true → met.testBit x = true
  sep : ∀ i j x, i < B.length → j < i → (B.getD i 0).testBit x = true → (B.getD j 0).testBit x = true → False
theorem getD_old {B : List Nat} {s i : Nat} (h : i < B.length) : (B ++ [s]).getD i 0 = B.getD i 0 := by
  simp [List.getD_eq_getElem?_getD, List.getElem?_append_left h]
theorem getD_new {B : List Nat} {s : Nat} : (B ++ [s]).getD B.length 0 = s := by
  simp [List.getD_eq_getElem?_getD]
theorem Good.more {n : Nat} {r pr : Nat → Nat} {B : List Nat} {met left k s : Nat} (h : Good n r pr B met) (hs : s < 2 ^ n) (ho : okX n r pr B met left k s = true) : Good n r pr (B ++ [s]) (met ||| s) := by
  unfold okX at ho
  simp only [Bool.and_eq_true, decide_eq_true_eq, beq_iff_eq] at ho
  obtain ⟨h1, _, h3, h4⟩ := ho
  have hlen : (B ++ [s]).length = B.length + 1 := by simp
  refine ⟨fun i hi => ?_, fun i j hi hj hp => ?_, fun i x hi hx => ?_, fun i j x hi hj hx hy => ?_⟩
  · rw [hlen] at hi
    by_cases e : i = B.length
    · subst e; rw [getD_new]; exact ⟨hs, h3⟩
    · rw [getD_old (by omega)]; exact h.set i (by omega)
  · rw [hlen] at hi
    by_cases e : i = B.length
    · subst e
      rw [getD_new, getD_old hj]
      unfold rchB at h4
      rw [List.all_eq_true] at h4
      have := h4 j (List.mem_range.2 hj)
      rw [hp] at this
      simpa using this
    · rw [getD_old (by omega), getD_old (by omega)]; exact h.nbs i j (by omega) hj hp
  · rw [hlen] at hi
    rw [Nat.testBit_or]
    by_cases e : i = B.length
    · subst e; rw [getD_new] at hx; rw [hx]; simp
    · rw [getD_old (by omega)] at hx; rw [h.met i x (by omega) hx]; rfl
  · rw [hlen] at hi
    by_cases e : i = B.length
    · subst e
      rw [getD_new] at hx
      rw [getD_old hj] at hy
      have h5 := h.met j x hj hy
      have := congrArg (fun t => t.testBit x) h1
      simp [Nat.testBit_and, hx, h5] at this
    · rw [getD_old (by omega)] at hx
      rw [getD_old (by omega)] at hy
      exact h.sep i j x (by omega) hj hx hy
theorem exL_good {n : Nat} {r pr : Nat → Nat} : ∀ k B met left B', exL n r pr k B met left = some B' → Good n r pr B met → (∃ met', Good n r pr B' met') ∧ B'.length = k + B.length := by
  intro k
  induction k with
  | zero =>
    intro B met left B' h hg
    unfold exL at h
    split at h
    · cases h; exact ⟨⟨_, hg⟩, by simp⟩
    · cases h
  | succ k ih =>
    intro B met left B' h hg
    unfold exL at h
    obtain ⟨s, hs, h⟩ := List.exists_of_findSome?_eq_some h
    split at h
    · rename_i ho
      obtain ⟨h1, h2⟩ := ih _ _ _ _ h (hg.more (List.mem_range.1 hs) ho)
      exact ⟨h1, by rw [h2]; simp; omega⟩
    · cases h
theorem Good.model {n q : Nat} {r pr : Nat → Nat} {B : List Nat} {met : Nat} (h : Good n r pr B met) (hq : B.length = q) (hn : n ≤ 8) (hr : ∀ i, i < n → r i < 2 ^ n) (hs : ∀ u x, u < n → x < n → (r u).testBit x = (r x).testBit u) (hps : ∀ u x, u < q → x < q → (pr u).testBit x = (pr x).testBit u) (hpl : ∀ u, u < q → (pr u).testBit u = false) :
    ModelOf n q r pr (fun i => B.getD i 0) := by
  subst hq
  have edge1 : ∀ i j, i < B.length → j < i → (pr i).testBit j = true → ∃ x y, (B.getD i 0).testBit x = true ∧ (B.getD j 0).testBit y = true ∧ (r x).testBit y = true ∧ x < n := by
    intro i j hi hj hp
    obtain ⟨y, hy⟩ := some_bit (h.nbs i j hi hj hp)
    rw [Nat.testBit_and, Bool.and_eq_true, testBit_aro hn (h.set i hi).1] at hy
    obtain ⟨⟨x, x1, x2, x3⟩, hy2⟩ := hy
    exact ⟨x, y, x2, hy2, x3, x1⟩
  refine ⟨fun i hi => (h.set i hi).1, fun i hi => some_bit (by have := conB_pos (h.set i hi).2; omega), fun i j x hi hj h1 h2 => ?_, fun i x y hi h1 h2 => con_rch hn hr hs (h.set i hi).1 (h.set i hi).2 h1 h2, fun i j hi hj hp => ?_⟩
  · rcases Nat.lt_trichotomy i j with h3 | h3 | h3
    · exact (h.sep j i x hj h3 h2 h1).elim
    · exact h3
    · exact (h.sep i j x hi h3 h1 h2).elim
  · rcases Nat.lt_trichotomy i j with h3 | h3 | h3
    · obtain ⟨x, y, h4, h5, h6, h7⟩ := edge1 j i hj h3 (by rw [← hps i j hi hj]; exact hp)
      have hyn : y < n := bit_lt (hr x h7) h6
      exact ⟨y, x, h5, h4, by rw [hs y x hyn h7]; exact h6⟩
    · subst h3; rw [hpl i hi] at hp; cases hp
    · obtain ⟨x, y, h4, h5, h6, _⟩ := edge1 i j hi h3 hp
      exact ⟨x, y, h4, h5, h6⟩

/-- The model that the program returns is the reference's. -/
theorem mod_ref {n q : Nat} {z y : Nat → Int} (hg : graphB n 8 z = true) (hp : graphB q 6 y = true) : modG n q z y = refM n q (natG z) (natG y) := by
  unfold modG
  refine mod_exact fun hw => ?_
  have hgl := graphB_le hg
  have hpl := graphB_le hp
  cases hm : refM n q (natG z) (natG y) with
  | none => rfl
  | some B =>
    exfalso
    unfold refM at hm
    obtain ⟨i, _, hm⟩ := List.exists_of_findSome?_eq_some hm
    obtain ⟨⟨met, h1⟩, h2⟩ := exL_good _ _ _ _ _ hm ⟨fun i hi => by simp at hi, fun i j hi => by simp at hi, fun i x hi => by simp at hi, fun i j x hi => by simp at hi⟩
    have hbd : ∀ {m most : Nat} {t : Nat → Int}, graphB m most t = true → ∀ i, i < m → natG t i < 2 ^ m := fun {m most t} ht i hi => by
      have := (graphB_le ht).2.2 i hi
      show (t i).toNat < 2 ^ m
      have h3 := this.2
      rw [pow_cast m] at h3
      omega
    have := rst_minor (hbd hg) (hbd hp) (h1.model (by simpa using h2) hgl.2.1 (hbd hg) (g_sym hg) (g_sym hp) (g_loop hp))
    have hw2 : rst n (Wd.tn n (natG z)) 0 < rst q (Wd.tn q (natG y)) 0 := hw
    omega

end Go.Proofs.YtfmppncefbjicaaDoor
