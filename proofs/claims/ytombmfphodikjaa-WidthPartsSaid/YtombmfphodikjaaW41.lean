/- The tree decomposition of an order. -/
import Derived.Test.YtombmfphodikjaaW40
import Derived.Test.YtombmfphodikjaaW35
namespace Go.Proofs.Ytombmfphodikjaa
set_option linter.unusedSimpArgs false
set_option linter.unusedVariables false

theorem g_sym {n most : Nat} {g : Nat → Int} (h : graphB n most g = true) : ∀ u x, u < n → x < n → (natG g u).testBit x = (natG g x).testBit u := by
  intro u x hu hx
  have h3 := (graphB_le h).2.2
  unfold graphB at h
  simp only [Bool.and_eq_true, decide_eq_true_eq, List.all_eq_true, List.mem_range, beq_iff_eq] at h
  have := (h.2 u hu).2 x hx
  rw [show g u = ((natG g u : Nat) : Int) by have := (h3 u hu).1; show g u = ((g u).toNat : Int); omega, bitZ_nat, show g x = ((natG g x : Nat) : Int) by have := (h3 x hx).1; show g x = ((g x).toNat : Int); omega, bitZ_nat] at this
  exact this
theorem g_loop {n most : Nat} {g : Nat → Int} (h : graphB n most g = true) : ∀ u, u < n → (natG g u).testBit u = false := by
  intro u hu
  have h3 := (graphB_le h).2.2
  unfold graphB at h
  simp only [Bool.and_eq_true, decide_eq_true_eq, List.all_eq_true, List.mem_range, beq_iff_eq] at h
  have := (h.2 u hu).1
  unfold okCellZ at this
  rw [Bool.and_eq_true, show g u = ((natG g u : Nat) : Int) by have := (h3 u hu).1; show g u = ((g u).toNat : Int); omega, bitZ_nat] at this
  simpa using this.2

/-! ### what is left of a node -/

theorem left_bit {n : Nat} {r : Nat → Nat} {gone v u : Nat} : (leftS n r gone v).testBit u = true ↔ (∃ j, j < n ∧ (partS n r (gone ||| 2 ^ v) v).testBit j = true ∧ (r j).testBit u = true) ∧ (partS n r (gone ||| 2 ^ v) v).testBit u = false := testBit_arnd _ _ _ _
theorem left_not {n : Nat} {r : Nat → Nat} (hr : ∀ i, i < n → r i < 2 ^ n) {gone v u : Nat} (hv : v < n) (h : (leftS n r gone v).testBit u = true) : gone.testBit u = false ∧ u ≠ v ∧ u < n := by
  obtain ⟨⟨j, hj, h1, h2⟩, h3⟩ := left_bit.1 h
  refine ⟨?_, fun e => ?_, ?_⟩
  · cases hg : gone.testBit u
    · rfl
    · rw [partS_closed hv hr j hj h1 u h2 (by rw [Nat.testBit_or, hg]; rfl)] at h3; cases h3
  · subst e; rw [partS_self] at h3; cases h3
  · apply Classical.byContradiction
    intro hn
    have := Nat.testBit_lt_two_pow (i := u) (Nat.lt_of_lt_of_le (hr j hj) (Nat.pow_le_pow_right (by omega) (by omega)))
    rw [this] at h2; cases h2
theorem left_near {n : Nat} {r : Nat → Nat} {gone v u : Nat} (hv : v < n) (h : (r v).testBit u = true) (hg : gone.testBit u = false) (hne : u ≠ v) : (leftS n r gone v).testBit u = true := by
  refine left_bit.2 ⟨⟨v, hv, partS_self, h⟩, ?_⟩
  cases hp : (partS n r (gone ||| 2 ^ v) v).testBit u
  · rfl
  · rcases partS_in hp with h1 | h1
    · exact absurd h1 hne
    · rw [Nat.testBit_or, hg, Nat.testBit_two_pow] at h1
      simp at h1; omega
theorem left_next {n : Nat} {r : Nat → Nat} (hr : ∀ i, i < n → r i < 2 ^ n) (hs : ∀ u x, u < n → x < n → (r u).testBit x = (r x).testBit u) {gone gone' v x u : Nat} (hv : v < n) (hx : (leftS n r gone v).testBit x = true) (hu : (leftS n r gone v).testBit u = true)
    (hsub : ∀ i, gone.testBit i = true → gone'.testBit i = true) (hgv : gone'.testBit v = true) (hgx : gone'.testBit x = false) (hgu : gone'.testBit u = false) (hne : u ≠ x) : (leftS n r gone' x).testBit u = true := by
  obtain ⟨_, _, hxn⟩ := left_not hr hv hx
  obtain ⟨⟨j, hj, j1, j2⟩, j3⟩ := left_bit.1 hx
  obtain ⟨⟨k, hk, k1, k2⟩, k3⟩ := left_bit.1 hu
  have hcl := partS_closed (set := gone ||| 2 ^ v) hv hr
  have hcl' := partS_closed (set := gone' ||| 2 ^ x) hxn hr
  have hself' := partS_self (n := n) (r := r) (set := gone' ||| 2 ^ x) (v := x)
  have hin := fun i => partS_in (r := r) (n := n) (set := gone ||| 2 ^ v) (v := v) (i := i)
  have hin' := fun i => partS_in (r := r) (n := n) (set := gone' ||| 2 ^ x) (v := x) (i := i)
  have hmin := fun X => metIn_in (g := r) (n := n) (set := gone ||| 2 ^ v) (f := 2 ^ v) (X := X)
  have hself := partS_self (n := n) (r := r) (set := gone ||| 2 ^ v) (v := v)
  unfold partS at hcl hself hin
  rw [left_bit]
  unfold partS at *
  generalize hP' : metIn n r (gone' ||| 2 ^ x) (2 ^ x) n = P' at *
  generalize hPe : metIn n r (gone ||| 2 ^ v) (2 ^ v) n = P at *
  have hgone : ∀ i, (gone ||| 2 ^ v).testBit i = true → gone'.testBit i = true := by
    intro i h
    rw [Nat.testBit_or, Bool.or_eq_true, Nat.testBit_two_pow] at h
    rcases h with h | h
    · exact hsub i h
    · have : v = i := of_decide_eq_true h
      subst this; exact hgv
  have hPg : ∀ i, P.testBit i = true → gone'.testBit i = true := by
    intro i h
    rcases hin i h with h | h
    · subst h; exact hgv
    · exact hgone i h
  have hPn : ∀ i, P.testBit i = true → i < n := by
    intro i h
    have hlt : P < 2 ^ n := by rw [← hPe]; exact metIn_lt2 (pow_lt_pow hv) hr n
    apply Classical.byContradiction
    intro hn
    have := Nat.testBit_lt_two_pow (i := i) (Nat.lt_of_lt_of_le hlt (Nat.pow_le_pow_right (by omega) (by omega)))
    rw [this] at h; cases h
  have hor : ∀ i, gone'.testBit i = true → (gone' ||| 2 ^ x).testBit i = true := fun i h => by rw [Nat.testBit_or, h]; rfl
  have hj' : P'.testBit j = true := hcl' x hxn hself' j (by rw [hs x j hxn hj]; exact j2) (hor j (hPg j j1))
  -- the node v is met too
  have hv' : P'.testBit v = true := by
    apply Classical.byContradiction
    intro hn
    have hn : P'.testBit v = false := by simpa using hn
    have h := hmin (diff P P') (fun i h => by
      rw [Nat.testBit_two_pow] at h
      have : v = i := of_decide_eq_true h
      subst this
      rw [testBit_diff, hself, hn]; rfl) (fun a ha h1 b h2 h3 => by
      rw [testBit_diff, Bool.and_eq_true] at h1
      have hb := hcl a ha h1.1 b h2 h3
      rw [testBit_diff, hb]
      cases hc : P'.testBit b
      · rfl
      · have := hcl' b (hPn b hb) hc a (by rw [hs b a (hPn b hb) ha]; exact h2) (hor a (hPg a h1.1))
        rw [this] at h1; simp at h1) n j (by rw [hPe]; exact j1)
    rw [testBit_diff, hj'] at h
    simp at h
  have hall : ∀ i, P.testBit i = true → P'.testBit i = true := fun i h => hmin P' (fun i h => by
      rw [Nat.testBit_two_pow] at h
      have : v = i := of_decide_eq_true h
      subst this; exact hv') (fun a ha h1 b h2 h3 => hcl' a ha h1 b h2 (hor b (hgone b h3))) n i (by rw [hPe]; exact h)
  refine ⟨⟨k, hk, hall k k1, k2⟩, ?_⟩
  cases hc : P'.testBit u
  · rfl
  · rcases hin' u hc with h | h
    · exact absurd h hne
    · rw [Nat.testBit_or, hgu, Nat.testBit_two_pow] at h
      simp at h; omega

/-! ### orders -/

theorem metO_bit {y : Nat → Int} {v : Nat} : ∀ k, (metO y k).testBit v = true ↔ ∃ i, i < k ∧ (y i).toNat = v := by
  intro k
  induction k with
  | zero => exact ⟨fun h => by simp [metO] at h, fun ⟨i, hi, _⟩ => by omega⟩
  | succ k ih =>
    unfold metO
    rw [Nat.testBit_or, Bool.or_eq_true, ih, Nat.testBit_two_pow]
    constructor
    · rintro (⟨i, h1, h2⟩ | h1)
      · exact ⟨i, by omega, h2⟩
      · exact ⟨k, by omega, of_decide_eq_true h1⟩
    · rintro ⟨i, h1, h2⟩
      rcases Nat.lt_succ_iff_lt_or_eq.1 h1 with h4 | h4
      · exact Or.inl ⟨i, h4, h2⟩
      · subst h4; exact Or.inr (decide_eq_true h2)
theorem ord_inj {n : Nat} {y : Nat → Int} (h : ∀ k, k < n → okO n y k = true) {a b : Nat} (ha : a < n) (hb : b < n) (e : (y a).toNat = (y b).toNat) : a = b := by
  have key : ∀ a b, a < b → b < n → (y a).toNat ≠ (y b).toNat := by
    intro a b hab hb e
    have := (okO_iff (h b hb)).2.2.2
    rw [(metO_bit b).2 ⟨a, hab, e⟩] at this; cases this
  rcases Nat.lt_trichotomy a b with h1 | h1 | h1
  · exact absurd e (key a b h1 hb)
  · exact h1
  · exact absurd e.symm (key b a h1 ha)
theorem ord_all {n : Nat} {y : Nat → Int} (h : ∀ k, k < n → okO n y k = true) {v : Nat} (hv : v < n) : ∃ t, t < n ∧ (y t).toNat = v := by
  have := sz_full (metO_lt n h) (metO_sz n h)
  rw [← metO_bit, this, Nat.testBit_two_pow_sub_one]
  exact decide_eq_true hv

/-- The bags of an order. -/
def bagO (n : Nat) (r : Nat → Nat) (y : Nat → Int) (i : Nat) : Nat := leftS n r (metO y i) (y i).toNat ||| 2 ^ (y i).toNat
theorem bagO_bit {n : Nat} {r : Nat → Nat} {y : Nat → Int} {i v : Nat} : (bagO n r y i).testBit v = true ↔ (leftS n r (metO y i) (y i).toNat).testBit v = true ∨ v = (y i).toNat := by
  unfold bagO
  rw [Nat.testBit_or, Bool.or_eq_true, Nat.testBit_two_pow]
  exact or_congr Iff.rfl ⟨fun h => (of_decide_eq_true h).symm, fun h => decide_eq_true h.symm⟩

theorem treeOf_dec {n : Nat} {r : Nat → Nat} (h1 : 1 ≤ n) (h9 : n ≤ 9) (hr : ∀ i, i < n → r i < 2 ^ n) (hs : ∀ u x, u < n → x < n → (r u).testBit x = (r x).testBit u) (hl : ∀ u, u < n → (r u).testBit u = false) {y p : Nat → Int} (hy : ∀ k, k < n → okO n y k = true)
    (hp : ∀ i, i < n → NextIs y (leftS n r (metO y i) (y i).toNat) n i (p i)) : Dec n r n (fun i => ((bagO n r y i : Nat) : Int)) p := by
  have hyn : ∀ i, i < n → (y i).toNat < n := fun i hi => (okO_iff (hy i hi)).2.2.1
  have hgt : ∀ i, i < n → p i = -1 ∧ i + 1 = n ∨ ∃ j : Nat, p i = j ∧ i < j ∧ j < n := by
    intro i hi
    rcases hp i hi with ⟨j, j1, j2, j3, _⟩ | ⟨_, h⟩
    · exact Or.inr ⟨j, j3, j1, j2⟩
    · by_cases e : i + 1 = n
      · rw [if_pos e] at h; exact Or.inl ⟨h, e⟩
      · rw [if_neg e] at h; exact Or.inr ⟨i + 1, by omega, by omega, by omega⟩
  have hlt : ∀ i, i < n → bagO n r y i < 2 ^ n := fun i hi => Nat.or_lt_two_pow (arnd_lt _ hr) (pow_lt_pow (hyn i hi))
  have top : ∀ k, k < n → topB (fun i => ((bagO n r y i : Nat) : Int)) p (y k).toNat k = true := by
    intro k hk
    refine topB_iff.2 ⟨bagO_bit.2 (Or.inr rfl), ?_⟩
    rcases hgt k hk with ⟨h, _⟩ | ⟨j, h, j1, j2⟩
    · exact Or.inl h
    · right
      show (bagO n r y (p k).toNat).testBit (y k).toNat = false
      rw [h, Int.toNat_natCast]
      cases hb : (bagO n r y j).testBit (y k).toNat
      · rfl
      · rcases bagO_bit.1 hb with g | g
        · have := (left_not hr (hyn j j2) g).1
          rw [(metO_bit j).2 ⟨k, j1, rfl⟩] at this; cases this
        · have := ord_inj hy hk j2 g; omega
  have only : ∀ k i, k < n → i < n → topB (fun i => ((bagO n r y i : Nat) : Int)) p (y k).toNat i = true → i = k := by
    intro k i hk hi ht
    obtain ⟨g1, g2⟩ := topB_iff.1 ht
    rcases bagO_bit.1 g1 with g | g
    · obtain ⟨a1, a2, a3⟩ := left_not hr (hyn i hi) g
      have hki : i < k := by
        apply Classical.byContradiction
        intro hn
        by_cases e : i = k
        · subst e; exact a2 rfl
        · rw [(metO_bit i).2 ⟨k, by omega, rfl⟩] at a1; cases a1
      rcases hp i hi with ⟨j, j1, j2, j3, j4, j5⟩ | ⟨h, _⟩
      · have hjk : j ≤ k := by
          apply Classical.byContradiction
          intro hn
          have := j5 k hki (by omega)
          rw [g] at this; cases this
        have g2 : (bagO n r y j).testBit (y k).toNat = false := by
          rcases g2 with g2 | g2
          · omega
          · rw [j3, Int.toNat_natCast] at g2; exact g2
        exfalso
        by_cases e : j = k
        · subst e
          rw [bagO_bit.2 (Or.inr rfl)] at g2; cases g2
        · have := left_next (gone' := metO y j) hr hs (hyn i hi) j4 g (fun u hu => by
              obtain ⟨t, t1, t2⟩ := (metO_bit i).1 hu
              exact (metO_bit j).2 ⟨t, by omega, t2⟩) ((metO_bit j).2 ⟨i, j1, rfl⟩) (okO_iff (hy j j2)).2.2.2 (by
              cases hc : (metO y j).testBit (y k).toNat
              · rfl
              · obtain ⟨t, t1, t2⟩ := (metO_bit j).1 hc
                have := ord_inj hy (by omega) hk t2
                omega) (fun e2 => e (ord_inj hy hk j2 e2).symm)
          rw [bagO_bit.2 (Or.inl this)] at g2; cases g2
      · have := h k hki hk
        rw [g] at this; cases this
    · exact (ord_inj hy hk hi g).symm
  refine ⟨h1, by omega, ?_, ⟨n - 1, by omega, ?_⟩, ?_, ⟨fun i => n - i, ?_⟩, ?_, ?_, ?_, ?_⟩
  · intro i hi
    rcases hgt i hi with ⟨h, _⟩ | ⟨j, h, j1, j2⟩ <;> omega
  · rcases hgt (n - 1) (by omega) with ⟨h, _⟩ | ⟨j, h, j1, j2⟩
    · exact h
    · omega
  · intro i j hi hj e1 e2
    rcases hgt i hi with ⟨_, g⟩ | ⟨a, g, _⟩ <;> rcases hgt j hj with ⟨_, g2⟩ | ⟨b, g2, _⟩ <;> omega
  · intro i hi hr
    rcases hgt i hi with ⟨g, _⟩ | ⟨a, g, g2, g3⟩
    · exact absurd g hr
    · show n - (p i).toNat < n - i
      rw [g, Int.toNat_natCast]; omega
  · intro i hi
    exact ⟨by show 0 ≤ ((bagO n r y i : Nat) : Int); omega, by show (((bagO n r y i : Nat) : Int)).toNat < 2 ^ n; rw [Int.toNat_natCast]; exact hlt i hi⟩
  · intro v hv
    obtain ⟨k, hk, e⟩ := ord_all hy hv
    exact ⟨k, hk, by rw [← e]; exact top k hk⟩
  · intro v i j hv hi hj t1 t2
    obtain ⟨k, hk, e⟩ := ord_all hy hv
    rw [← e] at t1 t2
    rw [only k i hk hi t1, only k j hk hj t2]
  · intro v u hv hu
    have hun : u < n := by
      apply Classical.byContradiction
      intro hn
      have := Nat.testBit_lt_two_pow (i := u) (Nat.lt_of_lt_of_le (hr v hv) (Nat.pow_le_pow_right (by omega) (by omega)))
      rw [this] at hu; cases hu
    have hne : u ≠ v := fun e => by subst e; rw [hl u hv] at hu; cases hu
    obtain ⟨a, ha, ea⟩ := ord_all hy hv
    obtain ⟨b, hb, eb⟩ := ord_all hy hun
    have hno : ∀ a b, a < b → b < n → (metO y a).testBit (y b).toNat = false := by
      intro a b hab hb
      cases hc : (metO y a).testBit (y b).toNat
      · rfl
      · obtain ⟨t, t1, t2⟩ := (metO_bit a).1 hc
        have := ord_inj hy (by omega) hb t2
        omega
    subst ea
    subst eb
    rcases Nat.lt_trichotomy a b with h | h | h
    · exact ⟨a, ha, bagO_bit.2 (Or.inr rfl), bagO_bit.2 (Or.inl (left_near hv hu (hno a b h hb) hne))⟩
    · subst h; exact absurd rfl hne
    · exact ⟨b, hb, bagO_bit.2 (Or.inl (left_near hun (by rw [hs _ _ hun hv]; exact hu) (hno b a h ha) (fun e => hne e.symm))), bagO_bit.2 (Or.inr rfl)⟩

theorem treeOf_mx {n : Nat} {r : Nat → Nat} (hr : ∀ i, i < n → r i < 2 ^ n) {y : Nat → Int} (hy : ∀ k, k < n → okO n y k = true) : ∀ k, k ≤ n → mxTo n (fun i => ((bagO n r y i : Nat) : Int)) k = if k = 0 then 0 else alo (tn n r) y k + 1 := by
  intro k
  induction k with
  | zero => intro _; rfl
  | succ k ih =>
    intro hk
    have hyk := (okO_iff (hy k (by omega))).2.2.1
    have e : szS n (bagO n r y k) = tn n r (metO y k) (y k).toNat + 1 := by
      unfold bagO tn
      apply sz_or hyk
      cases hc : (leftS n r (metO y k) (y k).toNat).testBit (y k).toNat
      · rfl
      · exact absurd rfl (left_not hr hyk hc).2.1
    unfold mxTo alo
    rw [ih (by omega), Int.toNat_natCast, e]
    by_cases h0 : k = 0
    · subst h0
      simp [alo]
    · simp [h0]

end Go.Proofs.Ytombmfphodikjaa
