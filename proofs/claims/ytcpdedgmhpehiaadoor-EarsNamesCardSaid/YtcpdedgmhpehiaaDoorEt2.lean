/- Numberings of a double graph: a beginning that leaves a connected rest can be gone on with. -/
import Derived.Test.YtcpdedgmhpehiaaDoorEt1
namespace Go.Proofs.YtcpdedgmhpehiaaDoor
set_option linter.unusedSimpArgs false
set_option linter.unusedVariables false

theorem szS_pos_lt {n a b : Nat} (h : ∀ i, a.testBit i = true → b.testBit i = true) {i : Nat} (hi : i < n) (h1 : a.testBit i = false) (h2 : b.testBit i = true) : szS n a < szS n b :=
  szS_lt (fun j _ hj => h j hj) hi h1 h2

/-- A graph in which no single node keeps others apart. -/
def Whole (n : Nat) (r : Nat → Nat) : Prop := ∀ v x y, v < n → x < n → y < n → x ≠ v → y ≠ v → Rch r (butS n v) x y

theorem next_part {n : Nat} {r : Nat → Nat} (h : Pl n r) (hw : Whole n r) {before rest t s : Nat} (hrl : rest < 2 ^ n) (hdis : ∀ i, i < n → before.testBit i = !rest.testBit i) (hs : s < n) (hsb : before.testBit s = true) (ht : rest.testBit t = true)
    (hconn : ∀ x y, rest.testBit x = true → rest.testBit y = true → Rch r rest x y) : ∀ (k C u : Nat), szS n C ≤ k → rest.testBit u = true → (∀ x, C.testBit x = true → rest.testBit x = true ∧ x ≠ u ∧ x ≠ t) → (∃ x, C.testBit x = true) →
      (∀ x y, C.testBit x = true → rest.testBit y = true → y ≠ u → (r x).testBit y = true → C.testBit y = true) →
    ∃ v, rest.testBit v = true ∧ v ≠ t ∧ (∃ b, before.testBit b = true ∧ (r v).testBit b = true) ∧ ∀ x y, rest.testBit x = true → x ≠ v → rest.testBit y = true → y ≠ v → Rch r (diff rest (2 ^ v)) x y := by
  intro k
  induction k with
  | zero =>
    rintro C u hk hu hC ⟨x, hx⟩ _
    have := sz_pos (n := n) (bit_lt hrl (hC x hx).1) hx
    omega
  | succ k ih =>
    rintro C u hk hu hC ⟨c, hc⟩ hcl
    have hun := bit_lt hrl hu
    -- some node of C has a neighbour before
    obtain ⟨v, hvC, b, hbb, hvb⟩ : ∃ v, C.testBit v = true ∧ ∃ b, before.testBit b = true ∧ (r v).testBit b = true := by
      apply Classical.byContradiction
      intro hno
      have hsu : s ≠ u := fun e => by subst e; rw [hdis s hs, hu] at hsb; cases hsb
      have hcn := bit_lt hrl (hC c hc).1
      have key : ∀ y, Rch r (butS n u) c y → C.testBit y = true := fun y hy => by
        induction hy with
        | refl => exact hc
        | @step z y hz e1 e2 ihz =>
          obtain ⟨hyn, hyu⟩ := but_iff.1 e2
          cases hry : rest.testBit y
          · exact absurd ⟨z, ihz, y, by rw [hdis y hyn, hry]; rfl, e1⟩ hno
          · exact hcl z y ihz hry hyu e1
      have := key s (hw u c s hun hcn hs (hC c hc).2.1 hsu)
      rw [hdis s hs, (hC s this).1] at hsb
      cases hsb
    obtain ⟨hvr, hvu, hvt⟩ := hC v hvC
    have hvn := bit_lt hrl hvr
    by_cases hall : ∀ x y, rest.testBit x = true → x ≠ v → rest.testBit y = true → y ≠ v → Rch r (diff rest (2 ^ v)) x y
    · exact ⟨v, hvr, hvt, ⟨b, hbb, hvb⟩, hall⟩
    · have hR : ∀ i, (diff rest (2 ^ v)).testBit i = true ↔ rest.testBit i = true ∧ i ≠ v := fun i => by
        rw [testBit_diff, Nat.testBit_two_pow, Bool.and_eq_true]
        simp only [Bool.not_eq_true', decide_eq_false_iff_not]
        exact ⟨fun h => ⟨h.1, fun e => h.2 e.symm⟩, fun h => ⟨h.1, fun e => h.2 e.symm⟩⟩
      have hRlt : diff rest (2 ^ v) < 2 ^ n := Nat.lt_of_le_of_lt (diff_le _ _) hrl
      have huR : (diff rest (2 ^ v)).testBit u = true := (hR u).2 ⟨hu, fun e => hvu e.symm⟩
      have hD : ∀ d, rest.testBit d = true → C.testBit d = false → Rch r (diff rest (2 ^ v)) u d := fun d hd hdC => by
        have key : ∀ z, Rch r rest u z → C.testBit z = true ∨ Rch r (diff rest (2 ^ v)) u z := fun z hz => by
          induction hz with
          | refl => exact .inr .refl
          | @step z y hz e1 e2 ihz =>
            cases hyC : C.testBit y
            · refine .inr ?_
              have hyv : y ≠ v := fun e => by subst e; rw [hvC] at hyC; cases hyC
              rcases ihz with hzC | hzR
              · by_cases hyu : y = u
                · subst hyu; exact .refl
                · rw [hcl z y hzC e2 hyu e1] at hyC; cases hyC
              · exact .step hzR e1 ((hR y).2 ⟨e2, hyv⟩)
            · exact .inl rfl
        rcases key d (hconn u d hu hd) with h1 | h1
        · rw [h1] at hdC; cases hdC
        · exact h1
      -- what is not reached from u without v is a smaller part
      obtain ⟨w, hwr, hwv, hwn⟩ : ∃ w, rest.testBit w = true ∧ w ≠ v ∧ ¬ Rch r (diff rest (2 ^ v)) u w := by
        apply Classical.byContradiction
        intro hno
        refine hall fun x y hx hxv hy hyv => ?_
        have gx : Rch r (diff rest (2 ^ v)) u x := Classical.byContradiction fun e => hno ⟨x, hx, hxv, e⟩
        have gy : Rch r (diff rest (2 ^ v)) u y := Classical.byContradiction fun e => hno ⟨y, hy, hyv, e⟩
        exact (Rch.symm h.sym hRlt hun huR gx).trans gy
      have hC' : ∀ i, (diff (diff rest (2 ^ v)) (partS n r (diff rest (2 ^ v)) u)).testBit i = true ↔ (rest.testBit i = true ∧ i ≠ v) ∧ ¬ Rch r (diff rest (2 ^ v)) u i := fun i => by
        rw [testBit_diff, Bool.and_eq_true, hR, ← part_iff h.bd hun]
        simp
      have hsub : ∀ i, (diff (diff rest (2 ^ v)) (partS n r (diff rest (2 ^ v)) u)).testBit i = true → C.testBit i = true := fun i hi => by
        obtain ⟨⟨h1, _⟩, h2⟩ := (hC' i).1 hi
        cases hiC : C.testBit i
        · exact absurd (hD i h1 hiC) h2
        · rfl
      have hlt : szS n (diff (diff rest (2 ^ v)) (partS n r (diff rest (2 ^ v)) u)) < szS n C := szS_pos_lt hsub hvn (by
        rw [Bool.eq_false_iff]
        intro hi
        exact ((hC' v).1 hi).1.2 rfl) hvC
      refine ih _ v (by omega) hvr (fun x hx => ?_) ⟨w, (hC' w).2 ⟨⟨hwr, hwv⟩, hwn⟩⟩ fun x y hx hy hyv e1 => ?_
      · obtain ⟨⟨h1, h2⟩, _⟩ := (hC' x).1 hx
        exact ⟨h1, h2, (hC x (hsub x hx)).2.2⟩
      · obtain ⟨⟨h1, h2⟩, h3⟩ := (hC' x).1 hx
        refine (hC' y).2 ⟨⟨hy, hyv⟩, fun hry => h3 ?_⟩
        rw [h.sym x y (bit_lt hrl h1) (bit_lt hrl hy)] at e1
        exact .step hry e1 ((hR x).2 ⟨h1, h2⟩)

/-- A beginning that leaves a connected rest can be gone on with. -/
theorem next_exists {n : Nat} {r : Nat → Nat} (h : Pl n r) (hw : Whole n r) {before rest t s q : Nat} (hrl : rest < 2 ^ n) (hdis : ∀ i, i < n → before.testBit i = !rest.testBit i) (hs : s < n) (hsb : before.testBit s = true) (ht : rest.testBit t = true)
    (hq : rest.testBit q = true) (hqt : q ≠ t) (hconn : ∀ x y, rest.testBit x = true → rest.testBit y = true → Rch r rest x y) :
    ∃ v, rest.testBit v = true ∧ v ≠ t ∧ (∃ b, before.testBit b = true ∧ (r v).testBit b = true) ∧ ∀ x y, rest.testBit x = true → x ≠ v → rest.testBit y = true → y ≠ v → Rch r (diff rest (2 ^ v)) x y := by
  refine next_part h hw hrl hdis hs hsb ht hconn _ (diff rest (2 ^ t)) t (Nat.le_refl _) ht (fun x hx => ?_) ⟨q, ?_⟩ fun x y _ hy hyt _ => ?_
  · rw [testBit_diff, Nat.testBit_two_pow, Bool.and_eq_true] at hx
    simp only [Bool.not_eq_true', decide_eq_false_iff_not] at hx
    exact ⟨hx.1, fun e => hx.2 e.symm, fun e => hx.2 e.symm⟩
  · rw [testBit_diff, Nat.testBit_two_pow, hq, decide_eq_false (fun e => hqt e.symm)]; rfl
  · rw [testBit_diff, Nat.testBit_two_pow, hy, decide_eq_false (fun e => hyt e.symm)]; rfl

/-- Whether a graph is double, as the program asks it. -/
def doubleB (n : Nat) (r : Nat → Nat) : Bool := decide (3 ≤ n) && connN n r ((2 ^ n - 1 : Nat) : Int) && cutsTo n r n == 0
theorem testBit_cuts {n : Nat} {r : Nat → Nat} : ∀ k i, (cutsTo n r k).testBit i = true ↔ i < k ∧ isCutP n r i = true := by
  intro k
  induction k with
  | zero => intro i; simp [cutsTo]
  | succ k ih =>
    intro i
    unfold cutsTo
    split
    · rename_i hc
      rw [Nat.testBit_or, Bool.or_eq_true, ih, Nat.testBit_two_pow, decide_eq_true_eq]
      constructor
      · rintro (⟨h1, h2⟩ | rfl)
        · exact ⟨by omega, h2⟩
        · exact ⟨by omega, hc⟩
      · rintro ⟨h1, h2⟩
        by_cases e : i = k
        · exact .inr e.symm
        · exact .inl ⟨by omega, h2⟩
    · rename_i hc
      rw [ih]
      constructor
      · rintro ⟨h1, h2⟩; exact ⟨by omega, h2⟩
      · rintro ⟨h1, h2⟩
        refine ⟨?_, h2⟩
        apply Classical.byContradiction
        intro hx
        have : i = k := by omega
        subst this
        exact hc h2
theorem double_whole {n : Nat} {r : Nat → Nat} (h : Pl n r) (hd : doubleB n r = true) : Whole n r := by
  unfold doubleB at hd
  simp only [Bool.and_eq_true, decide_eq_true_eq, beq_iff_eq] at hd
  obtain ⟨⟨h3, hc⟩, h0⟩ := hd
  have hall : 0 < 2 ^ n - 1 := by
    have : 2 ^ 1 ≤ 2 ^ n := Nat.pow_le_pow_right (by omega) (by omega)
    omega
  have hconn := (conn_iff h hall (all_lt n)).1 hc
  intro v x y hv hx hy hxv hyv
  have hcut : isCutP n r v = false := by
    cases e : isCutP n r v
    · rfl
    · have := (testBit_cuts n v).2 ⟨hv, e⟩
      rw [h0, Nat.zero_testBit] at this; cases this
  rw [cut_is h hv] at hcut
  have ta : ∀ i, i < n → (2 ^ n - 1).testBit i = true := fun i hi => by rw [testBit_all]; exact decide_eq_true hi
  have hO : ∀ i, (othersN n r (2 ^ n - 1) v).testBit i = true ↔ i < n ∧ i ≠ v := fun i => by
    unfold othersN
    rw [testBit_diff, Bool.and_eq_true, part_iff h.bd hv, Nat.testBit_two_pow]
    simp only [Bool.not_eq_true', decide_eq_false_iff_not]
    constructor
    · rintro ⟨h1, h2⟩; exact ⟨h1.lt (all_lt n) hv, fun e => h2 e.symm⟩
    · rintro ⟨h1, h2⟩; exact ⟨hconn v i (ta v hv) (ta i h1), fun e => h2 e.symm⟩
  have hOlt : othersN n r (2 ^ n - 1) v < 2 ^ n := Nat.lt_of_le_of_lt (diff_le _ _) (partS_lt hv h.bd)
  have hxO := (hO x).2 ⟨hx, hxv⟩
  have hpos : 0 < othersN n r (2 ^ n - 1) v := by
    apply Nat.pos_of_ne_zero
    intro e
    rw [e, Nat.zero_testBit] at hxO; cases hxO
  unfold cutRB at hcut
  rw [ta v hv, show (othersN n r (2 ^ n - 1) v != 0) = true by rw [bne_iff_ne]; omega] at hcut
  have hcc : connN n r (othersN n r (2 ^ n - 1) v : Nat) = true := by simpa using hcut
  exact ((conn_iff h hpos hOlt).1 hcc x y hxO ((hO y).2 ⟨hy, hyv⟩)).mono fun i hi => but_iff.2 ((hO i).1 hi)

end Go.Proofs.YtcpdedgmhpehiaaDoor
