/- Package minor: where each node has three neighbours there is a minor of four nodes; where no two nodes part a graph each has three. -/
import Derived.Test.YtfmppncefbjicaaDoorNr
import Derived.Test.YtfmppncefbjicaaDoorNf
namespace Go.Proofs.YtfmppncefbjicaaDoor
set_option linter.unusedSimpArgs false
set_option linter.unusedVariables false
open Go.RowKit Go.Maps

theorem gp_of {n most : Nat} {z : Nat → Int} (hg : graphB n most z = true) : Gp n (natG z) := ⟨lt_graph hg, g_sym hg⟩
theorem four_found {n : Nat} {z : Nat → Int} (hg : graphB n 8 z = true) (h : Four n (natG z)) : (modG n 4 z (kz 4)).isSome = true := by
  obtain ⟨a, b, c, d, hF, ab, ac, ad, bc, bd, cd⟩ := h
  have G := gp_of hg
  have hpk := kz_graph 4 (by omega) (by omega)
  rw [mod_ref hg hpk]
  have sp := List.pairwise_cons.1 hF.sep
  have sp2 := List.pairwise_cons.1 sp.2
  have sp3 := List.pairwise_cons.1 sp2.2
  have ca := hF.set a (by simp)
  have cb := hF.set b (by simp)
  have cc := hF.set c (by simp)
  have cd' := hF.set d (by simp)
  have dab : Dj a b := sp.1 b (by simp)
  have dac : Dj a c := sp.1 c (by simp)
  have dad : Dj a d := sp.1 d (by simp)
  have dbc : Dj b c := sp2.1 c (by simp)
  have dbd : Dj b d := sp2.1 d (by simp)
  have dcd : Dj c d := sp3.1 d (by simp)
  have ba := ab.symm G ca.lt cb.lt
  have ca' := ac.symm G ca.lt cc.lt
  have da := ad.symm G ca.lt cd'.lt
  have cb' := bc.symm G cb.lt cc.lt
  have db := bd.symm G cb.lt cd'.lt
  have dc := cd.symm G cc.lt cd'.lt
  have four : ∀ i, i < 4 → i = 0 ∨ i = 1 ∨ i = 2 ∨ i = 3 := fun i hi => by omega
  have M : ModelOf n 4 (natG z) (natG (kz 4)) (fun i => [a, b, c, d].getD i 0) := by
    refine ⟨fun i hi => ?_, fun i hi => ?_, fun i j x hi hj h1 h2 => ?_, fun i x y hi h1 h2 => ?_, fun i j hi hj hp => ?_⟩
    · rcases four i hi with rfl | rfl | rfl | rfl
      · exact ca.lt
      · exact cb.lt
      · exact cc.lt
      · exact cd'.lt
    · rcases four i hi with rfl | rfl | rfl | rfl
      · exact ca.ne
      · exact cb.ne
      · exact cc.ne
      · exact cd'.ne
    · rcases four i hi with rfl | rfl | rfl | rfl <;> rcases four j hj with rfl | rfl | rfl | rfl <;> first | rfl | exfalso
      · exact dab x h1 h2
      · exact dac x h1 h2
      · exact dad x h1 h2
      · exact dab x h2 h1
      · exact dbc x h1 h2
      · exact dbd x h1 h2
      · exact dac x h2 h1
      · exact dbc x h2 h1
      · exact dcd x h1 h2
      · exact dad x h2 h1
      · exact dbd x h2 h1
      · exact dcd x h2 h1
    · rcases four i hi with rfl | rfl | rfl | rfl
      · exact ca.con x y h1 h2
      · exact cb.con x y h1 h2
      · exact cc.con x y h1 h2
      · exact cd'.con x y h1 h2
    · have hne : i ≠ j := fun e => by rw [e, g_loop hpk j hj] at hp; cases hp
      rcases four i hi with rfl | rfl | rfl | rfl <;> rcases four j hj with rfl | rfl | rfl | rfl <;> first | exact absurd rfl hne | skip
      · exact ab
      · exact ac
      · exact ad
      · exact ba
      · exact bc
      · exact bd
      · exact ca'
      · exact cb'
      · exact cd
      · exact da
      · exact db
      · exact dc
  have h2 := refM_found M (graphB_le hg).2.1 (lt_graph hg)
  cases h3 : refM n 4 (natG z) (natG (kz 4)) with
  | none => exact absurd h3 h2
  | some _ => rfl

/-! ### single nodes -/

def sgL (l : List Nat) : List Nat := l.map fun v => 2 ^ v
theorem single_cs {n v : Nat} {r : Nat → Nat} (h : v < n) : Cs n r (2 ^ v) :=
  ⟨two_pow_lt h, ⟨v, pow_bit.2 rfl⟩, fun x y hx hy => by rw [pow_bit] at hx hy; subst hx; subst hy; exact .refl⟩
theorem pow_dj {u v : Nat} (h : u ≠ v) : Dj (2 ^ u) (2 ^ v) := fun x a b => by rw [pow_bit] at a b; exact h (a.trans b.symm)
theorem single_fam {n : Nat} {r : Nat → Nat} {l : List Nat} (h : ∀ v ∈ l, v < n) (hn : l.Pairwise (· ≠ ·)) : Fam n r (sgL l) := by
  refine ⟨fun s hs => ?_, ?_⟩
  · obtain ⟨v, hv, rfl⟩ := List.mem_map.1 hs
    exact single_cs (h v hv)
  · unfold sgL
    rw [List.pairwise_map]
    exact hn.imp fun h => pow_dj h
theorem ad_single {r : Nat → Nat} {u v : Nat} : Ad r (2 ^ u) (2 ^ v) ↔ (r u).testBit v = true := by
  constructor
  · rintro ⟨x, y, h1, h2, h3⟩
    rw [pow_bit] at h1 h2
    subst h1; subst h2; exact h3
  · intro h; exact ⟨u, v, pow_bit.2 rfl, pow_bit.2 rfl, h⟩
theorem mem_rest {s t : Nat} {l l' : List Nat} (hp : l.Perm (s :: l')) (ht : t ∈ l) (hne : t ≠ s) : t ∈ l' := by
  rcases List.mem_cons.1 (hp.mem_iff.1 ht) with h | h
  · exact absurd h hne
  · exact h
theorem pow_ne' {u v : Nat} (h : u ≠ v) : (2 : Nat) ^ u ≠ 2 ^ v := fun e => by
  have : (2 ^ u : Nat).testBit v = true := by rw [e]; exact pow_bit.2 rfl
  exact h (pow_bit.1 this)
theorem dg_three {r : Nat → Nat} {v a b c : Nat} {l l' : List Nat} (hp : (sgL l).Perm (2 ^ v :: l')) (ha : a ∈ l) (hb : b ∈ l) (hc : c ∈ l) (hav : a ≠ v) (hbv : b ≠ v) (hcv : c ≠ v) (hab : a ≠ b) (hac : a ≠ c) (hbc : b ≠ c) (h1 : (r v).testBit a = true) (h2 : (r v).testBit b = true) (h3 : (r v).testBit c = true) : 3 ≤ dg r l' (2 ^ v) := by
  have mem : ∀ u, u ∈ l → 2 ^ u ∈ sgL l := fun u hu => List.mem_map.2 ⟨u, hu, rfl⟩
  obtain ⟨l1, p1⟩ := perm_of_mem (mem_rest hp (mem a ha) (pow_ne' hav))
  obtain ⟨l2, p2⟩ := perm_of_mem (mem_rest p1 (mem_rest hp (mem b hb) (pow_ne' hbv)) (pow_ne' (Ne.symm hab)))
  obtain ⟨l3, p3⟩ := perm_of_mem (mem_rest p2 (mem_rest p1 (mem_rest hp (mem c hc) (pow_ne' hcv)) (pow_ne' (Ne.symm hac))) (pow_ne' (Ne.symm hbc)))
  rw [dg_perm p1, dg_yes (ad_single.2 h1), dg_perm p2, dg_yes (ad_single.2 h2), dg_perm p3, dg_yes (ad_single.2 h3)]
  omega
theorem range_ne (n : Nat) : (List.range n).Pairwise (· ≠ ·) := List.pairwise_lt_range.imp fun h => Nat.ne_of_lt h
def MD3 (n : Nat) (r : Nat → Nat) : Prop := ∀ v, v < n → ∃ a b c, a ≠ b ∧ a ≠ c ∧ b ≠ c ∧ (r v).testBit a = true ∧ (r v).testBit b = true ∧ (r v).testBit c = true
theorem four_deg {n : Nat} {r : Nat → Nat} (G : Gp n r) (hl : ∀ v, v < n → (r v).testBit v = false) (hn : 0 < n) (h : MD3 n r) : Four n r := by
  have hin : ∀ v u, v < n → (r v).testBit u = true → u < n ∧ u ≠ v := fun v u hv hb => ⟨bit_lt (G.bd v hv) hb, fun e => by rw [e, hl v hv] at hb; cases hb⟩
  have mem : ∀ u, u < n → 2 ^ u ∈ sgL (List.range n) := fun u hu => List.mem_map.2 ⟨u, List.mem_range.2 hu, rfl⟩
  have d3 : ∀ v, v < n → ∀ l', (sgL (List.range n)).Perm (2 ^ v :: l') → 3 ≤ dg r l' (2 ^ v) := fun v hv l' hp => by
    obtain ⟨a, b, c, hab, hac, hbc, h1, h2, h3⟩ := h v hv
    obtain ⟨a1, a2⟩ := hin v a hv h1
    obtain ⟨b1, b2⟩ := hin v b hv h2
    obtain ⟨c1, c2⟩ := hin v c hv h3
    exact dg_three hp (List.mem_range.2 a1) (List.mem_range.2 b1) (List.mem_range.2 c1) a2 b2 c2 hab hac hbc h1 h2 h3
  have hF : Fam n r (sgL (List.range n)) := single_fam (fun v hv => List.mem_range.1 hv) (range_ne n)
  obtain ⟨u, _, _, _, _, _, hu, _, _⟩ := h 0 hn
  obtain ⟨hun, hu0⟩ := hin 0 u hn hu
  obtain ⟨l1, p1⟩ := perm_of_mem (mem 0 hn)
  obtain ⟨l2, p2⟩ := perm_of_mem (mem_rest p1 (mem u hun) (pow_ne' hu0))
  have hp : (sgL (List.range n)).Perm (2 ^ 0 :: 2 ^ u :: l2) := p1.trans (List.Perm.cons _ p2)
  have h3 := d3 0 hn l1 p1
  have h4 := dg_le (r := r) (l := l1) (s := 2 ^ 0)
  have h5 : l1.length = l2.length + 1 := by rw [p2.length_eq]; rfl
  refine four_of G l2.length l2 (2 ^ 0) (2 ^ u) rfl (fun e => by rw [e] at h5; simp at h5; omega) (hF.perm hp) (ad_single.2 hu) fun s l' hs => ?_
  have hs1 : s ∈ sgL (List.range n) := hp.mem_iff.2 (by simp only [List.mem_cons]; exact Or.inr (Or.inr (hs.mem_iff.2 (by simp))))
  obtain ⟨v, hv, rfl⟩ := List.mem_map.1 hs1
  exact d3 v (List.mem_range.1 hv) _ (hp.trans ((List.Perm.cons _ ((List.Perm.cons _ hs).trans (List.Perm.swap _ _ l'))).trans (List.Perm.swap _ _ _)))

theorem rch_first {r : Nat → Nat} {s v w : Nat} (h : Rch r s v w) : w = v ∨ ∃ y, (r v).testBit y = true ∧ s.testBit y = true := by
  induction h with
  | refl => exact Or.inl rfl
  | step h1 h2 h3 ih =>
    rcases ih with e | h
    · subst e; exact Or.inr ⟨_, h2, h3⟩
    · exact Or.inr h
/-- All nodes but two. -/
def butN (n a b : Nat) : Nat := diff (diff (2 ^ n - 1) (2 ^ a)) (2 ^ b)
theorem butN_bit {n a b x : Nat} : (butN n a b).testBit x = true ↔ x < n ∧ x ≠ a ∧ x ≠ b := by
  unfold butN
  rw [testBit_diff, testBit_diff, Nat.testBit_two_pow, Nat.testBit_two_pow, Nat.testBit_two_pow_sub_one]
  simp only [Bool.and_eq_true, decide_eq_true_eq, Bool.not_eq_true', decide_eq_false_iff_not]
  constructor
  · rintro ⟨⟨h1, h2⟩, h3⟩; exact ⟨h1, fun e => h2 e.symm, fun e => h3 e.symm⟩
  · rintro ⟨h1, h2, h3⟩; exact ⟨⟨h1, fun e => h2 e.symm⟩, fun e => h3 e.symm⟩
theorem butN_lt {n a b : Nat} : butN n a b < 2 ^ n := by
  have h1 := diff_le (diff (2 ^ n - 1) (2 ^ a)) (2 ^ b)
  have h2 := diff_le (2 ^ n - 1) (2 ^ a)
  have h3 := Nat.two_pow_pos n
  unfold butN
  omega
theorem md3_of {n : Nat} {r : Nat → Nat} (h4 : 4 ≤ n) (h8 : n ≤ 8) (G : Gp n r) (hl : ∀ v, v < n → (r v).testBit v = false) (h : ∀ a b, a < n → b < n → conB n r (butN n a b) = true) : MD3 n r := by
  intro v hv
  apply Classical.byContradiction
  intro hno
  have hin : ∀ u, (r v).testBit u = true → u < n ∧ u ≠ v := fun u hb => ⟨bit_lt (G.bd v hv) hb, fun e => by rw [e, hl v hv] at hb; cases hb⟩
  obtain ⟨a, b, ha, hb, hav, hbv, hall⟩ : ∃ a b, a < n ∧ b < n ∧ a ≠ v ∧ b ≠ v ∧ ∀ u, (r v).testBit u = true → u = a ∨ u = b := by
    by_cases h1 : ∃ a, (r v).testBit a = true
    · obtain ⟨a, ha⟩ := h1
      by_cases h2 : ∃ b, b ≠ a ∧ (r v).testBit b = true
      · obtain ⟨b, hba, hb⟩ := h2
        refine ⟨a, b, (hin a ha).1, (hin b hb).1, (hin a ha).2, (hin b hb).2, fun u hu => ?_⟩
        by_cases e1 : u = a
        · exact Or.inl e1
        · by_cases e2 : u = b
          · exact Or.inr e2
          · exact absurd ⟨a, b, u, Ne.symm hba, Ne.symm e1, Ne.symm e2, ha, hb, hu⟩ hno
      · refine ⟨a, a, (hin a ha).1, (hin a ha).1, (hin a ha).2, (hin a ha).2, fun u hu => ?_⟩
        by_cases e1 : u = a
        · exact Or.inl e1
        · exact absurd ⟨u, e1, hu⟩ h2
    · by_cases e : v = 0
      · exact ⟨1, 1, by omega, by omega, by omega, by omega, fun u hu => absurd ⟨u, hu⟩ h1⟩
      · exact ⟨0, 0, by omega, by omega, Ne.symm e, Ne.symm e, fun u hu => absurd ⟨u, hu⟩ h1⟩
  obtain ⟨w, hw, wv, wa, wb⟩ : ∃ w, w < n ∧ w ≠ v ∧ w ≠ a ∧ w ≠ b := by
    by_cases h0 : 0 ≠ v ∧ 0 ≠ a ∧ 0 ≠ b
    · exact ⟨0, by omega, h0.1, h0.2.1, h0.2.2⟩
    · by_cases h1 : 1 ≠ v ∧ 1 ≠ a ∧ 1 ≠ b
      · exact ⟨1, by omega, h1.1, h1.2.1, h1.2.2⟩
      · by_cases h2 : 2 ≠ v ∧ 2 ≠ a ∧ 2 ≠ b
        · exact ⟨2, by omega, h2.1, h2.2.1, h2.2.2⟩
        · exact ⟨3, by omega, by omega, by omega, by omega⟩
  have hR := con_rch h8 G.bd G.sym butN_lt (h a b ha hb) (butN_bit.2 ⟨hv, Ne.symm hav, Ne.symm hbv⟩) (butN_bit.2 ⟨hw, wa, wb⟩)
  rcases rch_first hR with e | ⟨y, h1, h2⟩
  · exact wv e
  · have := butN_bit.1 h2
    rcases hall y h1 with e | e
    · exact this.2.1 e
    · exact this.2.2 e
/-- Where no two nodes part a graph of four nodes or more, four that are all neighbours are a minor. -/
theorem parts_found {n : Nat} {z : Nat → Int} (hg : graphB n 8 z = true) (h4 : 4 ≤ n) (h : ∀ a b, a < n → b < n → conB n (natG z) (butN n a b) = true) : (modG n 4 z (kz 4)).isSome = true :=
  four_found hg (four_deg (gp_of hg) (g_loop hg) (by omega) (md3_of h4 (graphB_le hg).2.1 (gp_of hg) (g_loop hg) h))

end Go.Proofs.YtfmppncefbjicaaDoor
