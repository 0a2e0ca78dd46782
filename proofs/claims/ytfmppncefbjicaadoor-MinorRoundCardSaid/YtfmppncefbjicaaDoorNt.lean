/- Package minor: where each node has three neighbours there is a minor of four nodes; where no two nodes part a graph each has three. Package minor: forests: fewer edges than nodes in each part, no three sets that are all neighbours, width at most one. -/
import Derived.Test.YtfmppncefbjicaaDoorNr
import Derived.Test.YtfmppncefbjicaaDoorNg
namespace Go.Proofs.YtfmppncefbjicaaDoor
set_option linter.unusedSimpArgs false
set_option linter.unusedVariables false
open Go.RowKit Go.Maps

theorem gp_of {n most : Nat} {z : Nat → Int} (hg : graphB n most z = true) : Gp n (natG z) := ⟨lt_graph hg, g_sym hg⟩
theorem four_found {n : Nat} {z : Nat → Int} (hg : graphB n 8 z = true) (h : Four n (natG z)) : (modG n 4 z (kz 4)).isSome = true := by
  obtain ⟨a, b, c, d, hF, ab, ac, ad, bc, bd, cd⟩ := h
  have G := gp_of hg
  have hpk := kz_graph 4 (by omega) (by omega)
  rw [mod_ref hg hpk]
  have sp := List.pairwise_cons.1 hF.sep
  have sp2 := List.pairwise_cons.1 sp.2
  have sp3 := List.pairwise_cons.1 sp2.2
  have ca := hF.set a (by simp)
  have cb := hF.set b (by simp)
  have cc := hF.set c (by simp)
  have cd' := hF.set d (by simp)
  have dab : Dj a b := sp.1 b (by simp)
  have dac : Dj a c := sp.1 c (by simp)
  have dad : Dj a d := sp.1 d (by simp)
  have dbc : Dj b c := sp2.1 c (by simp)
  have dbd : Dj b d := sp2.1 d (by simp)
  have dcd : Dj c d := sp3.1 d (by simp)
  have ba := ab.symm G ca.lt cb.lt
  have ca' := ac.symm G ca.lt cc.lt
  have da := ad.symm G ca.lt cd'.lt
  have cb' := bc.symm G cb.lt cc.lt
  have db := bd.symm G cb.lt cd'.lt
  have dc := cd.symm G cc.lt cd'.lt
  have four : ∀ i, i < 4 → i = 0 ∨ i = 1 ∨ i = 2 ∨ i = 3 := fun i hi => by omega
  have M : ModelOf n 4 (natG z) (natG (kz 4)) (fun i => [a, b, c, d].getD i 0) := by
    refine ⟨fun i hi => ?_, fun i hi => ?_, fun i j x hi hj h1 h2 => ?_, fun i x y hi h1 h2 => ?_, fun i j hi hj hp => ?_⟩
    · rcases four i hi with rfl | rfl | rfl | rfl
      · exact ca.lt
      · exact cb.lt
      · exact cc.lt
      · exact cd'.lt
    · rcases four i hi with rfl | rfl | rfl | rfl
      · exact ca.ne
      · exact cb.ne
      · exact cc.ne
      · exact cd'.ne
    · rcases four i hi with rfl | rfl | rfl | rfl <;> rcases four j hj with rfl | rfl | rfl | rfl <;> first | rfl | exfalso
      · exact dab x h1 h2
      · exact dac x h1 h2
      · exact dad x h1 h2
      · exact dab x h2 h1
      · exact dbc x h1 h2
      · exact dbd x h1 h2
      · exact dac x h2 h1
      · exact dbc x h2 h1
      · exact dcd x h1 h2
      · exact dad x h2 h1
      · exact dbd x h2 h1
      · exact dcd x h2 h1
    · rcases four i hi with rfl | rfl | rfl | rfl
      · exact ca.con x y h1 h2
      · exact cb.con x y h1 h2
      · exact cc.con x y h1 h2
      · exact cd'.con x y h1 h2
    · have hne : i ≠ j := fun e => by rw [e, g_loop hpk j hj] at hp; cases hp
      rcases four i hi with rfl | rfl | rfl | rfl <;> rcases four j hj with rfl | rfl | rfl | rfl <;> first | exact absurd rfl hne | skip
      · exact ab
      · exact ac
      · exact ad
      · exact ba
      · exact bc
      · exact bd
      · exact ca'
      · exact cb'
      · exact cd
      · exact da
      · exact db
      · exact dc
  have h2 := refM_found M (graphB_le hg).2.1 (lt_graph hg)
  cases h3 : refM n 4 (natG z) (natG (kz 4)) with
  | none => exact absurd h3 h2
  | some _ => rfl

/-! ### single nodes -/

def sgL (l : List Nat) : List Nat := l.map fun v => 2 ^ v
theorem single_cs {n v : Nat} {r : Nat → Nat} (h : v < n) : Cs n r (2 ^ v) :=
  ⟨two_pow_lt h, ⟨v, pow_bit.2 rfl⟩, fun x y hx hy => by rw [pow_bit] at hx hy; subst hx; subst hy; exact .refl⟩
theorem pow_dj {u v : Nat} (h : u ≠ v) : Dj (2 ^ u) (2 ^ v) := fun x a b => by rw [pow_bit] at a b; exact h (a.trans b.symm)
theorem single_fam {n : Nat} {r : Nat → Nat} {l : List Nat} (h : ∀ v ∈ l, v < n) (hn : l.Pairwise (· ≠ ·)) : Fam n r (sgL l) := by
  refine ⟨fun s hs => ?_, ?_⟩
  · obtain ⟨v, hv, rfl⟩ := List.mem_map.1 hs
    exact single_cs (h v hv)
  · unfold sgL
    rw [List.pairwise_map]
    exact hn.imp fun h => pow_dj h
theorem ad_single {r : Nat → Nat} {u v : Nat} : Ad r (2 ^ u) (2 ^ v) ↔ (r u).testBit v = true := by
  constructor
  · rintro ⟨x, y, h1, h2, h3⟩
    rw [pow_bit] at h1 h2
    subst h1; subst h2; exact h3
  · intro h; exact ⟨u, v, pow_bit.2 rfl, pow_bit.2 rfl, h⟩
theorem mem_rest {s t : Nat} {l l' : List Nat} (hp : l.Perm (s :: l')) (ht : t ∈ l) (hne : t ≠ s) : t ∈ l' := by
  rcases List.mem_cons.1 (hp.mem_iff.1 ht) with h | h
  · exact absurd h hne
  · exact h
theorem pow_ne' {u v : Nat} (h : u ≠ v) : (2 : Nat) ^ u ≠ 2 ^ v := fun e => by
  have : (2 ^ u : Nat).testBit v = true := by rw [e]; exact pow_bit.2 rfl
  exact h (pow_bit.1 this)
theorem dg_three {r : Nat → Nat} {v a b c : Nat} {l l' : List Nat} (hp : (sgL l).Perm (2 ^ v :: l')) (ha : a ∈ l) (hb : b ∈ l) (hc : c ∈ l) (hav : a ≠ v) (hbv : b ≠ v) (hcv : c ≠ v) (hab : a ≠ b) (hac : a ≠ c) (hbc : b ≠ c) (h1 : (r v).testBit a = true) (h2 : (r v).testBit b = true) (h3 : (r v).testBit c = true) : 3 ≤ dg r l' (2 ^ v) := by
  have mem : ∀ u, u ∈ l → 2 ^ u ∈ sgL l := fun u hu => List.mem_map.2 ⟨u, hu, rfl⟩
  obtain ⟨l1, p1⟩ := perm_of_mem (mem_rest hp (mem a ha) (pow_ne' hav))
  obtain ⟨l2, p2⟩ := perm_of_mem (mem_rest p1 (mem_rest hp (mem b hb) (pow_ne' hbv)) (pow_ne' (Ne.symm hab)))
  obtain ⟨l3, p3⟩ := perm_of_mem (mem_rest p2 (mem_rest p1 (mem_rest hp (mem c hc) (pow_ne' hcv)) (pow_ne' (Ne.symm hac))) (pow_ne' (Ne.symm hbc)))
  rw [dg_perm p1, dg_yes (ad_single.2 h1), dg_perm p2, dg_yes (ad_single.2 h2), dg_perm p3, dg_yes (ad_single.2 h3)]
  omega
theorem range_ne (n : Nat) : (List.range n).Pairwise (· ≠ ·) := List.pairwise_lt_range.imp fun h => Nat.ne_of_lt h
def MD3 (n : Nat) (r : Nat → Nat) : Prop := ∀ v, v < n → ∃ a b c, a ≠ b ∧ a ≠ c ∧ b ≠ c ∧ (r v).testBit a = true ∧ (r v).testBit b = true ∧ (r v).testBit c = true
theorem four_deg {n : Nat} {r : Nat → Nat} (G : Gp n r) (hl : ∀ v, v < n → (r v).testBit v = false) (hn : 0 < n) (h : MD3 n r) : Four n r := by
  have hin : ∀ v u, v < n → (r v).testBit u = true → u < n ∧ u ≠ v := fun v u hv hb => ⟨bit_lt (G.bd v hv) hb, fun e => by rw [e, hl v hv] at hb; cases hb⟩
  have mem : ∀ u, u < n → 2 ^ u ∈ sgL (List.range n) := fun u hu => List.mem_map.2 ⟨u, List.mem_range.2 hu, rfl⟩
  have d3 : ∀ v, v < n → ∀ l', (sgL (List.range n)).Perm (2 ^ v :: l') → 3 ≤ dg r l' (2 ^ v) := fun v hv l' hp => by
    obtain ⟨a, b, c, hab, hac, hbc, h1, h2, h3⟩ := h v hv
    obtain ⟨a1, a2⟩ := hin v a hv h1
    obtain ⟨b1, b2⟩ := hin v b hv h2
    obtain ⟨c1, c2⟩ := hin v c hv h3
    exact dg_three hp (List.mem_range.2 a1) (List.mem_range.2 b1) (List.mem_range.2 c1) a2 b2 c2 hab hac hbc h1 h2 h3
  have hF : Fam n r (sgL (List.range n)) := single_fam (fun v hv => List.mem_range.1 hv) (range_ne n)
  obtain ⟨u, _, _, _, _, _, hu, _, _⟩ := h 0 hn
  obtain ⟨hun, hu0⟩ := hin 0 u hn hu
  obtain ⟨l1, p1⟩ := perm_of_mem (mem 0 hn)
  obtain ⟨l2, p2⟩ := perm_of_mem (mem_rest p1 (mem u hun) (pow_ne' hu0))
  have hp : (sgL (List.range n)).Perm (2 ^ 0 :: 2 ^ u :: l2) := p1.trans (List.Perm.cons _ p2)
  have h3 := d3 0 hn l1 p1
  have h4 := dg_le (r := r) (l := l1) (s := 2 ^ 0)
  have h5 : l1.length = l2.length + 1 := by rw [p2.length_eq]; rfl
  refine four_of G l2.length l2 (2 ^ 0) (2 ^ u) rfl (fun e => by rw [e] at h5; simp at h5; omega) (hF.perm hp) (ad_single.2 hu) fun s l' hs => ?_
  have hs1 : s ∈ sgL (List.range n) := hp.mem_iff.2 (by simp only [List.mem_cons]; exact Or.inr (Or.inr (hs.mem_iff.2 (by simp))))
  obtain ⟨v, hv, rfl⟩ := List.mem_map.1 hs1
  exact d3 v (List.mem_range.1 hv) _ (hp.trans ((List.Perm.cons _ ((List.Perm.cons _ hs).trans (List.Perm.swap _ _ l'))).trans (List.Perm.swap _ _ _)))

theorem rch_first {r : Nat → Nat} {s v w : Nat} (h : Rch r s v w) : w = v ∨ ∃ y, (r v).testBit y = true ∧ s.testBit y = true := by
  induction h with
  | refl => exact Or.inl rfl
  | step h1 h2 h3 ih =>
    rcases ih with e | h
    · subst e; exact Or.inr ⟨_, h2, h3⟩
    · exact Or.inr h
/-- All nodes but two. -/
def butN (n a b : Nat) : Nat := diff (diff (2 ^ n - 1) (2 ^ a)) (2 ^ b)
theorem butN_bit {n a b x : Nat} : (butN n a b).testBit x = true ↔ x < n ∧ x ≠ a ∧ x ≠ b := by
  unfold butN
  rw [testBit_diff, testBit_diff, Nat.testBit_two_pow, Nat.testBit_two_pow, Nat.testBit_two_pow_sub_one]
  simp only [Bool.and_eq_true, decide_eq_true_eq, Bool.not_eq_true', decide_eq_false_iff_not]
  constructor
  · rintro ⟨⟨h1, h2⟩, h3⟩; exact ⟨h1, fun e => h2 e.symm, fun e => h3 e.symm⟩
  · rintro ⟨h1, h2, h3⟩; exact ⟨⟨h1, fun e => h2 e.symm⟩, fun e => h3 e.symm⟩
theorem butN_lt {n a b : Nat} : butN n a b < 2 ^ n := by
  have h1 := diff_le (diff (2 ^ n - 1) (2 ^ a)) (2 ^ b)
  have h2 := diff_le (2 ^ n - 1) (2 ^ a)
  have h3 := Nat.two_pow_pos n
  unfold butN
  omega
theorem md3_of {n : Nat} {r : Nat → Nat} (h4 : 4 ≤ n) (h8 : n ≤ 8) (G : Gp n r) (hl : ∀ v, v < n → (r v).testBit v = false) (h : ∀ a b, a < n → b < n → conB n r (butN n a b) = true) : MD3 n r := by
  intro v hv
  apply Classical.byContradiction
  intro hno
  have hin : ∀ u, (r v).testBit u = true → u < n ∧ u ≠ v := fun u hb => ⟨bit_lt (G.bd v hv) hb, fun e => by rw [e, hl v hv] at hb; cases hb⟩
  obtain ⟨a, b, ha, hb, hav, hbv, hall⟩ : ∃ a b, a < n ∧ b < n ∧ a ≠ v ∧ b ≠ v ∧ ∀ u, (r v).testBit u = true → u = a ∨ u = b := by
    by_cases h1 : ∃ a, (r v).testBit a = true
    · obtain ⟨a, ha⟩ := h1
      by_cases h2 : ∃ b, b ≠ a ∧ (r v).testBit b = true
      · obtain ⟨b, hba, hb⟩ := h2
        refine ⟨a, b, (hin a ha).1, (hin b hb).1, (hin a ha).2, (hin b hb).2, fun u hu => ?_⟩
        by_cases e1 : u = a
        · exact Or.inl e1
        · by_cases e2 : u = b
          · exact Or.inr e2
          · exact absurd ⟨a, b, u, Ne.symm hba, Ne.symm e1, Ne.symm e2, ha, hb, hu⟩ hno
      · refine ⟨a, a, (hin a ha).1, (hin a ha).1, (hin a ha).2, (hin a ha).2, fun u hu => ?_⟩
        by_cases e1 : u = a
        · exact Or.inl e1
        · exact absurd ⟨u, e1, hu⟩ h2
    · by_cases e : v = 0
      · exact ⟨1, 1, by omega, by omega, by omega, by omega, fun u hu => absurd ⟨u, hu⟩ h1⟩
      · exact ⟨0, 0, by omega, by omega, Ne.symm e, Ne.symm e, fun u hu => absurd ⟨u, hu⟩ h1⟩
  obtain ⟨w, hw, wv, wa, wb⟩ : ∃ w, w < n ∧ w ≠ v ∧ w ≠ a ∧ w ≠ b := by
    by_cases h0 : 0 ≠ v ∧ 0 ≠ a ∧ 0 ≠ b
    · exact ⟨0, by omega, h0.1, h0.2.1, h0.2.2⟩
    · by_cases h1 : 1 ≠ v ∧ 1 ≠ a ∧ 1 ≠ b
      · exact ⟨1, by omega, h1.1, h1.2.1, h1.2.2⟩
      · by_cases h2 : 2 ≠ v ∧ 2 ≠ a ∧ 2 ≠ b
        · exact ⟨2, by omega, h2.1, h2.2.1, h2.2.2⟩
        · exact ⟨3, by omega, by omega, by omega, by omega⟩
  have hR := con_rch h8 G.bd G.sym butN_lt (h a b ha hb) (butN_bit.2 ⟨hv, Ne.symm hav, Ne.symm hbv⟩) (butN_bit.2 ⟨hw, wa, wb⟩)
  rcases rch_first hR with e | ⟨y, h1, h2⟩
  · exact wv e
  · have := butN_bit.1 h2
    rcases hall y h1 with e | e
    · exact this.2.1 e
    · exact this.2.2 e
/-- Where no two nodes part a graph of four nodes or more, four that are all neighbours are a minor. -/
theorem parts_found {n : Nat} {z : Nat → Int} (hg : graphB n 8 z = true) (h4 : 4 ≤ n) (h : ∀ a b, a < n → b < n → conB n (natG z) (butN n a b) = true) : (modG n 4 z (kz 4)).isSome = true :=
  four_found hg (four_deg (gp_of hg) (g_loop hg) (by omega) (md3_of h4 (graphB_le hg).2.1 (gp_of hg) (g_loop hg) h))

end Go.Proofs.YtfmppncefbjicaaDoor

namespace Go.Proofs.YtfmppncefbjicaaDoor
set_option linter.unusedSimpArgs false
set_option linter.unusedVariables false
open Go.RowKit Go.Maps

structure Gq (n : Nat) (r : Nat → Nat) : Prop extends Gp n r where
  loop : ∀ v, v < n → (r v).testBit v = false
theorem and_bit {a b x : Nat} : (a &&& b).testBit x = true ↔ a.testBit x = true ∧ b.testBit x = true := by rw [Nat.testBit_and, Bool.and_eq_true]
/-- Twice the edges within some nodes, counted up to a node. -/
def Ek (n : Nat) (r : Nat → Nat) (S : Nat) : Nat → Nat
  | 0 => 0
  | k + 1 => Ek n r S k + if S.testBit k then szS n (r k &&& S) else 0
theorem szS_one {n T a : Nat} (ha : a < n) (h : T.testBit a = true) : 1 ≤ szS n T := by
  have := szS_lt (n := n) (a := 0) (b := T) (fun i _ h => by simp at h) ha (by simp) h
  omega
theorem szS_add1 {n S u : Nat} (hu : u < n) (h : S.testBit u = false) : szS n (S ||| 2 ^ u) = szS n S + 1 := by
  have h1 := szS_or (A := S) (B := 2 ^ u) n (fun x hx => by rw [Nat.testBit_two_pow, decide_eq_false]; rintro rfl; rw [h] at hx; cases hx)
  have h2 : szS n (2 ^ u) = 1 := by
    have a := szS_one hu (pow_bit.2 rfl : (2 ^ u).testBit u = true)
    have b := szS_cov1 (n := n) (m := 0) (A := 2 ^ u) (B := 0) u id (fun x _ hx => Or.inl (pow_bit.1 hx).symm)
    have : szS 0 0 = 0 := rfl
    omega
  omega
theorem szS_two {n T : Nat} (h : 2 ≤ szS n T) : ∃ a b, a ≠ b ∧ a < n ∧ b < n ∧ T.testBit a = true ∧ T.testBit b = true := by
  apply Classical.byContradiction
  intro hno
  by_cases h1 : ∃ a, a < n ∧ T.testBit a = true
  · obtain ⟨a, ha, hb⟩ := h1
    have b := szS_cov1 (n := n) (m := 0) (A := T) (B := 0) a id (fun x hx hb2 => by
      by_cases e : x = a
      · exact Or.inl e
      · exact absurd ⟨x, a, e, hx, ha, hb2, hb⟩ hno)
    have : szS 0 0 = 0 := rfl
    omega
  · have b := szS_cov (n := n) (m := 0) (A := T) (B := 0) id (fun x hx hb2 => absurd ⟨x, hx, hb2⟩ h1)
    have : szS 0 0 = 0 := rfl
    omega
theorem two_szS {n T a b : Nat} (hab : a ≠ b) (ha : a < n) (hb : b < n) (h1 : T.testBit a = true) (h2 : T.testBit b = true) : 2 ≤ szS n T := by
  have k1 : szS n (diff T (2 ^ a)) < szS n T := szS_lt (fun i _ h => by rw [testBit_diff, Bool.and_eq_true] at h; exact h.1) ha (by rw [testBit_diff, Nat.testBit_two_pow, decide_eq_true rfl]; simp) h1
  have k2 : 1 ≤ szS n (diff T (2 ^ a)) := szS_one hb (by rw [testBit_diff, h2, Nat.testBit_two_pow, decide_eq_false hab]; rfl)
  omega
theorem diff_or {S u : Nat} (h : S.testBit u = true) : diff S (2 ^ u) ||| 2 ^ u = S := by
  apply Nat.eq_of_testBit_eq
  intro i
  rw [Nat.testBit_or, testBit_diff, Nat.testBit_two_pow]
  by_cases e : u = i
  · subst e; simp [h]
  · simp [e]
theorem diff_not {S u : Nat} : (diff S (2 ^ u)).testBit u = false := by rw [testBit_diff, Nat.testBit_two_pow, decide_eq_true rfl]; simp
theorem Ek_add {n : Nat} {r : Nat → Nat} (G : Gq n r) {S u : Nat} (hu : u < n) (h : S.testBit u = false) : ∀ k, k ≤ n → Ek n r (S ||| 2 ^ u) k = Ek n r S k + ((List.range k).countP fun w => (r u &&& S).testBit w) + if u < k then szS n (r u &&& S) else 0 := by
  have hand : ∀ w, w < n → w ≠ u → szS n (r w &&& (S ||| 2 ^ u)) = szS n (r w &&& S) + if (r w).testBit u then 1 else 0 := fun w hw hne => by
    cases hb : (r w).testBit u
    · have : r w &&& (S ||| 2 ^ u) = r w &&& S := by
        apply Nat.eq_of_testBit_eq
        intro i
        rw [Nat.testBit_and, Nat.testBit_and, Nat.testBit_or, Nat.testBit_two_pow]
        by_cases e : u = i
        · subst e; simp [hb]
        · simp [e]
      rw [this]; rfl
    · have : r w &&& (S ||| 2 ^ u) = (r w &&& S) ||| 2 ^ u := by
        apply Nat.eq_of_testBit_eq
        intro i
        rw [Nat.testBit_and, Nat.testBit_or, Nat.testBit_or, Nat.testBit_and, Nat.testBit_two_pow]
        by_cases e : u = i
        · subst e; simp [hb]
        · simp [e]
      rw [this, szS_add1 hu (by rw [Nat.testBit_and, h, Bool.and_false])]; rfl
  intro k
  induction k with
  | zero => intro _; simp [Ek]
  | succ k ih =>
    intro hk
    have := ih (by omega)
    rw [List.range_succ, List.countP_append, List.countP_cons, List.countP_nil]
    show Ek n r (S ||| 2 ^ u) k + _ = Ek n r S k + _ + _ + _
    rw [this, Nat.testBit_or, Nat.testBit_two_pow, Nat.testBit_and]
    by_cases e : u = k
    · subst e
      have h1 : r u &&& (S ||| 2 ^ u) = r u &&& S := by
        apply Nat.eq_of_testBit_eq
        intro i
        rw [Nat.testBit_and, Nat.testBit_and, Nat.testBit_or, Nat.testBit_two_pow]
        by_cases e : u = i
        · subst e; simp [G.loop u hu]
        · simp [e]
      simp [h, h1]
      try omega
    · have hsy := G.sym u k hu (by omega)
      rw [decide_eq_false e, Bool.or_false]
      cases hS : S.testBit k
      · simp only [Bool.and_false]
        have : (u < k + 1) = (u < k) := propext ⟨fun h => by omega, fun h => by omega⟩
        simp only [this]
        first | (simp; done) | (simp; omega)
      · rw [if_pos rfl, if_pos rfl, hand k (by omega) (Ne.symm e), hsy, Bool.and_true]
        have : (u < k + 1) = (u < k) := propext ⟨fun h => by omega, fun h => by omega⟩
        simp only [this]
        cases (r k).testBit u <;> first | (simp; done) | (simp; omega)
theorem E_add {n : Nat} {r : Nat → Nat} (G : Gq n r) {S u : Nat} (hu : u < n) (h : S.testBit u = false) : Ek n r (S ||| 2 ^ u) n = Ek n r S n + 2 * szS n (r u &&& S) := by
  rw [Ek_add G hu h n (Nat.le_refl _), if_pos hu]
  unfold szS
  omega
theorem Ek_ge {n : Nat} {r : Nat → Nat} {S : Nat} (h : ∀ u, u < n → S.testBit u = true → 2 ≤ szS n (r u &&& S)) : ∀ k, k ≤ n → 2 * ((List.range k).countP fun v => S.testBit v) ≤ Ek n r S k := by
  intro k
  induction k with
  | zero => intro _; simp [Ek]
  | succ k ih =>
    intro hk
    have := ih (by omega)
    rw [List.range_succ, List.countP_append, List.countP_cons, List.countP_nil]
    show _ ≤ Ek n r S k + _
    cases hS : S.testBit k
    · simp; omega
    · have := h k (by omega) hS
      simp; omega

/-- Nodes each of which has two neighbours among them. -/
structure Core (n : Nat) (r : Nat → Nat) (S : Nat) : Prop where
  lt : S < 2 ^ n
  ne : S ≠ 0
  two : ∀ u, S.testBit u = true → 2 ≤ szS n (r u &&& S)
theorem core_three {n : Nat} {r : Nat → Nat} (G : Gq n r) {S : Nat} (h : Core n r S) : Three n r := by
  have hl : ∀ v, v ∈ (List.range n).filter S.testBit → v < n := fun v hv => List.mem_range.1 (List.mem_filter.1 hv).1
  have mem : ∀ u, u < n → S.testBit u = true → u ∈ (List.range n).filter S.testBit := fun u h1 h2 => List.mem_filter.2 ⟨List.mem_range.2 h1, h2⟩
  obtain ⟨x, hx⟩ := some_bit h.ne
  refine three_of G.toGp _ (sgL ((List.range n).filter S.testBit)) rfl (fun e => ?_) (single_fam hl ((range_ne n).filter _)) fun s l' hp => ?_
  · have : 2 ^ x ∈ sgL ((List.range n).filter S.testBit) := List.mem_map.2 ⟨x, mem x (bit_lt h.lt hx) hx, rfl⟩
    rw [e] at this; cases this
  · have hs : s ∈ sgL ((List.range n).filter S.testBit) := hp.mem_iff.2 (by simp)
    obtain ⟨v, hv, rfl⟩ := List.mem_map.1 hs
    have hvS := (List.mem_filter.1 hv).2
    obtain ⟨a, b, hab, ha, hb, h1, h2⟩ := szS_two (h.two v hvS)
    rw [and_bit] at h1 h2
    have hvn := hl v hv
    have hav : a ≠ v := fun e => by rw [e, G.loop v hvn] at h1; cases h1.1
    have hbv : b ≠ v := fun e => by rw [e, G.loop v hvn] at h2; cases h2.1
    have m : ∀ u, u < n → S.testBit u = true → 2 ^ u ∈ sgL ((List.range n).filter S.testBit) := fun u k1 k2 => List.mem_map.2 ⟨u, mem u k1 k2, rfl⟩
    obtain ⟨l1, p1⟩ := perm_of_mem (mem_rest hp (m a ha h1.2) (pow_ne' hav))
    obtain ⟨l2, p2⟩ := perm_of_mem (mem_rest p1 (mem_rest hp (m b hb h2.2) (pow_ne' hbv)) (pow_ne' (Ne.symm hab)))
    rw [dg_perm p1, dg_yes (ad_single.2 h1.1), dg_perm p2, dg_yes (ad_single.2 h2.1)]
    omega
theorem not_core {n : Nat} {r : Nat → Nat} {S : Nat} (hS : S < 2 ^ n) (h0 : S ≠ 0) (h : ¬ Core n r S) : ∃ u, u < n ∧ S.testBit u = true ∧ szS n (r u &&& S) ≤ 1 := by
  apply Classical.byContradiction
  intro hno
  exact h ⟨hS, h0, fun u hu => by
    apply Classical.byContradiction
    intro h2
    exact hno ⟨u, bit_lt hS hu, hu, by omega⟩⟩
theorem szS_and_diff {n : Nat} {r : Nat → Nat} (G : Gq n r) {S u : Nat} (hu : u < n) : r u &&& diff S (2 ^ u) = r u &&& S := by
  apply Nat.eq_of_testBit_eq
  intro i
  rw [Nat.testBit_and, Nat.testBit_and, testBit_diff, Nat.testBit_two_pow]
  by_cases e : u = i
  · subst e; simp [G.loop u hu]
  · simp [e]
theorem diff_lt' {n S u : Nat} (h : S < 2 ^ n) : diff S (2 ^ u) < 2 ^ n := Nat.lt_of_le_of_lt (diff_le _ _) h
theorem dense_core {n : Nat} {r : Nat → Nat} (G : Gq n r) : ∀ k S, szS n S ≤ k → S < 2 ^ n → S ≠ 0 → 2 * szS n S ≤ Ek n r S n → ∃ S', Core n r S' := by
  intro k
  induction k with
  | zero =>
    intro S h1 h2 h3
    obtain ⟨x, hx⟩ := some_bit h3
    have := szS_one (bit_lt h2 hx) hx
    omega
  | succ k ih =>
    intro S h1 h2 h3 h4
    by_cases hc : Core n r S
    · exact ⟨S, hc⟩
    · obtain ⟨u, hu, hb, hd⟩ := not_core h2 h3 hc
      have e1 := E_add G (S := diff S (2 ^ u)) hu diff_not
      have e2 := szS_add1 (S := diff S (2 ^ u)) hu diff_not
      rw [diff_or hb] at e1 e2
      rw [szS_and_diff G hu] at e1
      by_cases h0 : diff S (2 ^ u) = 0
      · rw [h0] at e1 e2
        have z1 : Ek n r 0 n = 0 := by
          have : ∀ k, Ek n r 0 k = 0 := by
            intro k
            induction k with
            | zero => rfl
            | succ k ih => show Ek n r 0 k + _ = 0; rw [ih]; simp
          exact this n
        have z2 : szS n 0 = 0 := by unfold szS; rw [List.countP_eq_zero]; simp
        have z3 : szS n (r u &&& S) = 0 := by
          rw [← szS_and_diff G hu, h0, Nat.and_zero, z2]
        omega
      · exact ih _ (by omega) (diff_lt' h2) h0 (by omega)

/-! ### three sets have a core -/

theorem drop_leaf {n : Nat} {r : Nat → Nat} (G : Gq n r) {S a b c u : Nat} (ha : ∀ x, a.testBit x = true → S.testBit x = true) (hb : ∀ x, b.testBit x = true → S.testBit x = true) (hc : ∀ x, c.testBit x = true → S.testBit x = true)
    (hF : Fam n r [a, b, c]) (ab : Ad r a b) (ac : Ad r a c) (bc : Ad r b c) (hu : u < n) (hua : a.testBit u = true) (hd : szS n (r u &&& S) ≤ 1) :
    Fam n r [diff a (2 ^ u), b, c] ∧ Ad r (diff a (2 ^ u)) b ∧ Ad r (diff a (2 ^ u)) c := by
  have ca := hF.set a (by simp)
  have cb := hF.set b (by simp)
  have cc := hF.set c (by simp)
  have sp := List.pairwise_cons.1 hF.sep
  have dab : Dj a b := sp.1 b (by simp)
  have dac : Dj a c := sp.1 c (by simp)
  have dbc : Dj b c := (List.pairwise_cons.1 sp.2).1 c (by simp)
  have one : ∀ x y, (r u).testBit x = true → S.testBit x = true → (r u).testBit y = true → S.testBit y = true → x = y := fun x y h1 h2 h3 h4 => by
    apply Classical.byContradiction
    intro hne
    have := two_szS hne (bit_lt (G.bd u hu) h1) (bit_lt (G.bd u hu) h3) (and_bit.2 ⟨h1, h2⟩) (and_bit.2 ⟨h3, h4⟩)
    omega
  have bd' : ∀ x, (diff a (2 ^ u)).testBit x = true ↔ a.testBit x = true ∧ x ≠ u := fun x => by
    rw [testBit_diff, Nat.testBit_two_pow, Bool.and_eq_true]
    constructor
    · rintro ⟨h1, h2⟩; exact ⟨h1, fun e => by subst e; simp at h2⟩
    · rintro ⟨h1, h2⟩; exact ⟨h1, by rw [decide_eq_false (Ne.symm h2)]; rfl⟩
  obtain ⟨x1, hx1, hx1u⟩ : ∃ x, a.testBit x = true ∧ x ≠ u := by
    apply Classical.byContradiction
    intro hno
    have only : ∀ x, a.testBit x = true → x = u := fun x hx => by
      apply Classical.byContradiction
      intro h; exact hno ⟨x, hx, h⟩
    obtain ⟨p, q, h1, h2, h3⟩ := ab
    obtain ⟨p', q', k1, k2, k3⟩ := ac
    rw [only p h1] at h3
    rw [only p' k1] at k3
    have := one q q' h3 (hb q h2) k3 (hc q' k2)
    subst this
    exact dbc q h2 k2
  obtain ⟨y, hy1, hy2⟩ : ∃ y, (r u).testBit y = true ∧ a.testBit y = true := by
    rcases rch_first (ca.con u x1 hua hx1) with e | h
    · exact absurd e hx1u
    · exact h
  have hyu : y ≠ u := fun e => by rw [e, G.loop u hu] at hy1; cases hy1
  have hya : (diff a (2 ^ u)).testBit y = true := (bd' y).2 ⟨hy2, hyu⟩
  have ad : ∀ s, Dj a s → (∀ x, s.testBit x = true → S.testBit x = true) → Ad r a s → Ad r (diff a (2 ^ u)) s := fun s hds hs h => by
    obtain ⟨p, q, h1, h2, h3⟩ := h
    refine ⟨p, q, (bd' p).2 ⟨h1, fun e => ?_⟩, h2, h3⟩
    rw [e] at h3
    have := one q y h3 (hs q h2) hy1 (ha y hy2)
    subst this
    exact hds q hy2 h2
  have cd : Cs n r (diff a (2 ^ u)) := by
    refine ⟨diff_lt' ca.lt, ⟨y, hya⟩, fun p q hp hq => ?_⟩
    obtain ⟨p1, p2⟩ := (bd' p).1 hp
    obtain ⟨q1, q2⟩ := (bd' q).1 hq
    have key : ∀ z, Rch r a p z → (z ≠ u → Rch r (diff a (2 ^ u)) p z) ∧ (z = u → Rch r (diff a (2 ^ u)) p y) := by
      intro z h
      induction h with
      | refl => exact ⟨fun _ => .refl, fun e => absurd e p2⟩
      | @step s t h1 h2 h3 ih =>
        have hs : a.testBit s = true := h1.in_ p1
        have hsn := bit_lt ca.lt hs
        refine ⟨fun htu => ?_, fun htu => ?_⟩
        · by_cases e : s = u
          · subst e
            have : t = y := one t y h2 (ha t h3) hy1 (ha y hy2)
            subst this
            exact ih.2 rfl
          · exact .step (ih.1 e) h2 ((bd' t).2 ⟨h3, htu⟩)
        · subst htu
          have e : s ≠ t := fun e => by rw [e, G.loop t hu] at h2; cases h2
          have h4 : (r t).testBit s = true := by rw [G.sym t s hu hsn]; exact h2
          have : s = y := one s y h4 (ha s hs) hy1 (ha y hy2)
          subst this
          exact ih.1 e
    exact (key q (ca.con p q p1 q1)).1 q2
  have dd : ∀ s, Dj a s → Dj (diff a (2 ^ u)) s := fun s h x h1 h2 => h x ((bd' x).1 h1).1 h2
  refine ⟨⟨fun s hs => ?_, ?_⟩, ad b dab hb ab, ad c dac hc ac⟩
  · simp only [List.mem_cons, List.not_mem_nil, or_false] at hs
    rcases hs with rfl | rfl | rfl
    · exact cd
    · exact cb
    · exact cc
  · refine List.pairwise_cons.2 ⟨fun s hs => ?_, sp.2⟩
    simp only [List.mem_cons, List.not_mem_nil, or_false] at hs
    rcases hs with rfl | rfl
    · exact dd _ dab
    · exact dd _ dac
theorem three_core {n : Nat} {r : Nat → Nat} (G : Gq n r) : ∀ k S a b c, szS n S ≤ k → S < 2 ^ n → (∀ x, a.testBit x = true → S.testBit x = true) → (∀ x, b.testBit x = true → S.testBit x = true) → (∀ x, c.testBit x = true → S.testBit x = true) → Fam n r [a, b, c] → Ad r a b → Ad r a c → Ad r b c → ∃ S', Core n r S' := by
  intro k
  induction k with
  | zero =>
    intro S a b c h1 h2 ha _ _ hF
    obtain ⟨x, hx⟩ := (hF.set a (by simp)).ne
    have := szS_one (bit_lt h2 (ha x hx)) (ha x hx)
    omega
  | succ k ih =>
    intro S a b c h1 h2 ha hb hc hF ab ac bc
    by_cases hco : Core n r S
    · exact ⟨S, hco⟩
    · have h3 : S ≠ 0 := fun e => by
        obtain ⟨x, hx⟩ := (hF.set a (by simp)).ne
        have := ha x hx
        rw [e] at this; simp at this
      obtain ⟨u, hu, hub, hd⟩ := not_core h2 h3 hco
      have e2 := szS_add1 (S := diff S (2 ^ u)) hu diff_not
      rw [diff_or hub] at e2
      have low : ∀ s : Nat, (∀ x, s.testBit x = true → S.testBit x = true) → s.testBit u = false → ∀ x, s.testBit x = true → (diff S (2 ^ u)).testBit x = true := fun s hs hsu x hx => by
        rw [testBit_diff, hs x hx, Nat.testBit_two_pow, decide_eq_false]; rfl
        rintro rfl; rw [hsu] at hx; cases hx
      have low2 : ∀ s : Nat, (∀ x, s.testBit x = true → S.testBit x = true) → ∀ x, (diff s (2 ^ u)).testBit x = true → (diff S (2 ^ u)).testBit x = true := fun s hs x hx => by
        rw [testBit_diff, Bool.and_eq_true] at hx ⊢
        exact ⟨hs x hx.1, hx.2⟩
      have sp := List.pairwise_cons.1 hF.sep
      have dab : Dj a b := sp.1 b (by simp)
      have dac : Dj a c := sp.1 c (by simp)
      have dbc : Dj b c := (List.pairwise_cons.1 sp.2).1 c (by simp)
      have la := (hF.set a (by simp)).lt
      have lb := (hF.set b (by simp)).lt
      have lc := (hF.set c (by simp)).lt
      have no : ∀ s t : Nat, Dj s t → s.testBit u = true → t.testBit u = false := fun s t h h1 => by
        rw [Bool.eq_false_iff]; exact fun h2 => h u h1 h2
      cases hua : a.testBit u
      · cases hbu : b.testBit u
        · cases hcu : c.testBit u
          · exact ih _ a b c (by omega) (diff_lt' h2) (low a ha hua) (low b hb hbu) (low c hc hcu) hF ab ac bc
          · have hF' : Fam n r [c, a, b] := hF.perm (by
              exact ((List.Perm.cons a (List.Perm.swap c b [])).trans (List.Perm.swap c a [b])))
            obtain ⟨k1, k2, k3⟩ := drop_leaf G hc ha hb hF' (ac.symm G.toGp la lc) (bc.symm G.toGp lb lc) ab hu hcu hd
            exact ih _ (diff c (2 ^ u)) a b (by omega) (diff_lt' h2) (low2 c hc) (low a ha hua) (low b hb hbu) k1 k2 k3 ab
        · have hF' : Fam n r [b, a, c] := hF.perm (List.Perm.swap b a [c])
          obtain ⟨k1, k2, k3⟩ := drop_leaf G hb ha hc hF' (ab.symm G.toGp la lb) bc ac hu hbu hd
          exact ih _ (diff b (2 ^ u)) a c (by omega) (diff_lt' h2) (low2 b hb) (low a ha hua) (low c hc (no b c dbc hbu)) k1 k2 k3 ac
      · obtain ⟨k1, k2, k3⟩ := drop_leaf G ha hb hc hF ab ac bc hu hua hd
        exact ih _ (diff a (2 ^ u)) b c (by omega) (diff_lt' h2) (low2 a ha) (low b hb (no a b dab hua)) (low c hc (no a c dac hua)) k1 k2 k3 bc

/-! ### a core makes a part with as many edges as nodes -/

theorem leave {r : Nat → Nat} {P T t p : Nat} (ht : T.testBit t = true) (hp : T.testBit p = false) (h : Rch r P t p) : ∃ x y, T.testBit x = true ∧ T.testBit y = false ∧ P.testBit y = true ∧ (r x).testBit y = true := by
  induction h with
  | refl => rw [ht] at hp; cases hp
  | @step u x h1 h2 h3 ih =>
    cases hu : T.testBit u
    · exact ih hu
    · exact ⟨u, x, hu, hp, h3, h2⟩
theorem grow_part {n : Nat} {r : Nat → Nat} (G : Gq n r) {P : Nat} (hP : Cs n r P) : ∀ k T, szS n P ≤ szS n T + k → (∀ x, T.testBit x = true → P.testBit x = true) → T ≠ 0 → 2 * szS n T ≤ Ek n r T n → 2 * szS n P ≤ Ek n r P n := by
  intro k
  induction k with
  | zero =>
    intro T h1 h2 h3 h4
    have : T = P := by
      apply Nat.eq_of_testBit_eq
      intro i
      cases hT : T.testBit i
      · cases hPi : P.testBit i
        · rfl
        · have := szS_lt (n := n) (fun i _ h => h2 i h) (bit_lt hP.lt hPi) hT hPi
          omega
      · rw [h2 i hT]
    rw [← this]; exact h4
  | succ k ih =>
    intro T h1 h2 h3 h4
    by_cases hall : ∀ x, P.testBit x = true → T.testBit x = true
    · have : T = P := by
        apply Nat.eq_of_testBit_eq
        intro i
        rw [Bool.eq_iff_iff]
        exact ⟨h2 i, hall i⟩
      rw [← this]; exact h4
    · obtain ⟨p, hp1, hp2⟩ : ∃ p, P.testBit p = true ∧ T.testBit p = false := by
        apply Classical.byContradiction
        intro hno
        exact hall fun x hx => by
          cases hT : T.testBit x
          · exact absurd ⟨x, hx, hT⟩ hno
          · rfl
      obtain ⟨t, ht⟩ := some_bit h3
      obtain ⟨x, y, k1, k2, k3, k4⟩ := leave ht hp2 (hP.con t p (h2 t ht) hp1)
      have hxn := bit_lt hP.lt (h2 x k1)
      have hyn := bit_lt hP.lt k3
      have e1 := E_add G hyn k2
      have e2 := szS_add1 hyn k2
      have e3 : 1 ≤ szS n (r y &&& T) := szS_one hxn (and_bit.2 ⟨by rw [G.sym y x hyn hxn]; exact k4, k1⟩)
      refine ih (T ||| 2 ^ y) (by omega) (fun z hz => ?_) (fun e => ?_) (by omega)
      · rw [Nat.testBit_or, Bool.or_eq_true, pow_bit] at hz
        rcases hz with hz | rfl
        · exact h2 z hz
        · exact k3
      · have := congrArg (fun q => q.testBit t) e
        simp [Nat.testBit_or, ht] at this
theorem core_part {n : Nat} {r : Nat → Nat} (G : Gq n r) {S : Nat} (h : Core n r S) : ∃ v, v < n ∧ 2 * szS n (partS n r (2 ^ n - 1) v) ≤ Ek n r (partS n r (2 ^ n - 1) v) n := by
  obtain ⟨v, hv⟩ := some_bit h.ne
  have hvn := bit_lt h.lt hv
  have hP := part_cs G.toGp (W := 2 ^ n - 1) (y := v) (by have := Nat.two_pow_pos n; omega) (all_bit hvn)
  refine ⟨v, hvn, grow_part G hP n (S &&& partS n r (2 ^ n - 1) v) ?_ (fun x hx => (and_bit.1 hx).2) (fun e => ?_) ?_⟩
  · have := szS_le n (partS n r (2 ^ n - 1) v); omega
  · have := congrArg (fun q => q.testBit v) e
    simp [Nat.testBit_and, hv, partS_self (r := r) (n := n) (set := 2 ^ n - 1) (v := v)] at this
  · refine Ek_ge (fun u hu hb => ?_) n (Nat.le_refl _)
    obtain ⟨b1, b2⟩ := and_bit.1 hb
    have : r u &&& (S &&& partS n r (2 ^ n - 1) v) = r u &&& S := by
      apply Nat.eq_of_testBit_eq
      intro i
      rw [Nat.testBit_and, Nat.testBit_and, Nat.testBit_and]
      cases hi : (r u).testBit i
      · rfl
      · have hin := bit_lt (G.bd u hu) hi
        rw [partS_closed hvn G.bd u hu b2 i hi (all_bit hin), Bool.and_true]
    rw [this]
    exact h.two u b1

/-! ### without a core the width is at most one -/

/-- Elimination so far has made no new neighbours. -/
def Plain0 (n : Nat) (r : Nat → Nat) (g : Nat) : Prop := ∀ u x, u < n → g.testBit u = false → (leftS n r g u).testBit x = true → (r u).testBit x = true
theorem plain_zero {n : Nat} {r : Nat → Nat} (G : Gq n r) : Plain0 n r 0 := fun u x hu _ hx => by
  obtain ⟨⟨j, _, h1, h2⟩, _, _⟩ := (left_iff G.bd hu).1 hx
  rw [Nat.zero_or] at h1
  have := h1.in_ (pow_bit.2 rfl)
  rw [pow_bit] at this
  subst this; exact h2
theorem plain_step {n : Nat} {r : Nat → Nat} (G : Gq n r) {g v : Nat} (hg : g < 2 ^ n) (hv : v < n) (hgv : g.testBit v = false) (h : Plain0 n r g) (hd : szS n (r v &&& diff (2 ^ n - 1) g) ≤ 1) : Plain0 n r (g ||| 2 ^ v) := by
  intro u x hu hgu hx
  obtain ⟨⟨j, hj, h1, h2⟩, h3, h4⟩ := (left_iff G.bd hu).1 hx
  rw [or_bit, Bool.or_eq_false_iff, decide_eq_false_iff_not] at hgu h3
  have hxn := bit_lt (G.bd j hj) h2
  have key : ∀ j, Rch r (g ||| 2 ^ v ||| 2 ^ u) u j → j < n ∧ (Rch r (g ||| 2 ^ u) u j ∨ ((r u).testBit v = true ∧ Rch r (g ||| 2 ^ v) v j)) := by
    intro j hR
    induction hR with
    | refl => exact ⟨hu, Or.inl .refl⟩
    | @step s t q1 q2 q3 ih =>
      obtain ⟨i1, i2⟩ := ih
      have htn := bit_lt (G.bd s i1) q2
      refine ⟨htn, ?_⟩
      rw [or_bit, or_bit, Bool.or_eq_true, Bool.or_eq_true, decide_eq_true_eq, decide_eq_true_eq] at q3
      rcases i2 with i2 | ⟨i3, i2⟩
      · rcases q3 with (q3 | q3) | q3
        · exact Or.inl (.step i2 q2 (by rw [or_bit, q3]; rfl))
        · subst q3
          have : (leftS n r g u).testBit v = true := (left_iff G.bd hu).2 ⟨⟨s, i1, i2, q2⟩, hgv, fun e => hgu.2 e⟩
          exact Or.inr ⟨h u v hu hgu.1 this, .refl⟩
        · subst q3; exact Or.inl .refl
      · rcases q3 with (q3 | q3) | q3
        · exact Or.inr ⟨i3, .step i2 q2 (by rw [or_bit, q3]; rfl)⟩
        · subst q3; exact Or.inr ⟨i3, .refl⟩
        · subst q3; exact Or.inl .refl
  rcases (key j h1).2 with k1 | ⟨k1, k2⟩
  · exact h u x hu hgu.1 ((left_iff G.bd hu).2 ⟨⟨j, hj, k1, h2⟩, h3.1, h4⟩)
  · have hl : (leftS n r g v).testBit x = true := (left_iff G.bd hv).2 ⟨⟨j, hj, k2, h2⟩, h3.1, fun e => h3.2 e.symm⟩
    have hvx := h v x hv hgv hl
    have hvu : (r v).testBit u = true := by rw [G.sym v u hv hu]; exact k1
    have b1 : (diff (2 ^ n - 1) g).testBit x = true := by rw [testBit_diff, all_bit hxn, h3.1]; rfl
    have b2 : (diff (2 ^ n - 1) g).testBit u = true := by rw [testBit_diff, all_bit hu, hgu.1]; rfl
    have := two_szS h4 hxn hu (and_bit.2 ⟨hvx, b1⟩) (and_bit.2 ⟨hvu, b2⟩)
    omega
theorem narrow_of {n : Nat} {r : Nat → Nat} (G : Gq n r) (hno : ∀ S, ¬ Core n r S) : ∀ k g, 2 ^ n - g ≤ k → g < 2 ^ n → Plain0 n r g → rst n (Wd.tn n r) g ≤ 1 := by
  intro k
  induction k with
  | zero => intro g h1 h2; omega
  | succ k ih =>
    intro g h1 h2 h3
    by_cases hne : g = 2 ^ n - 1
    · rw [hne, rst_all]; omega
    · have hS : diff (2 ^ n - 1) g ≠ 0 := fun e => hne (all_of h2 fun u hu => by
        have := congrArg (fun q => q.testBit u) e
        simpa [testBit_diff, all_bit hu] using this)
      have hlt : diff (2 ^ n - 1) g < 2 ^ n := Nat.lt_of_le_of_lt (diff_le _ _) (by have := Nat.two_pow_pos n; omega)
      obtain ⟨v, hv, hb, hd⟩ := not_core hlt hS (hno _)
      have hgv : g.testBit v = false := by
        rw [testBit_diff, Bool.and_eq_true] at hb
        simpa using hb.2
      have h4 := ih (g ||| 2 ^ v) (by have := or_pow_gt hgv; omega) (Nat.or_lt_two_pow h2 (two_pow_lt hv)) (plain_step G h2 hv hgv h3 hd)
      have h5 : Wd.tn n r g v ≤ 1 := Nat.le_trans (szS_mono fun i hi hx => and_bit.2 ⟨h3 v i hv hgv hx, by
        obtain ⟨_, h6, _⟩ := (left_iff G.bd hv).1 hx
        rw [testBit_diff, all_bit hi, h6]; rfl⟩) hd
      rw [rst_best h2 hne]
      have := bestW_at (n := n) (t := Wd.tn n r) (gone := g) n v hv hgv
      omega

/-! ### together -/

theorem gq_of {n most : Nat} {z : Nat → Int} (hg : graphB n most z = true) : Gq n (natG z) := ⟨gp_of hg, g_loop hg⟩
theorem three_found {n : Nat} {z : Nat → Int} (hg : graphB n 8 z = true) (h : Three n (natG z)) : (modG n 3 z (kz 3)).isSome = true := by
  obtain ⟨a, b, c, hF, ab, ac, bc⟩ := h
  have G := gp_of hg
  have hpk := kz_graph 3 (by omega) (by omega)
  rw [mod_ref hg hpk]
  have sp := List.pairwise_cons.1 hF.sep
  have sp2 := List.pairwise_cons.1 sp.2
  have ca := hF.set a (by simp)
  have cb := hF.set b (by simp)
  have cc := hF.set c (by simp)
  have dab : Dj a b := sp.1 b (by simp)
  have dac : Dj a c := sp.1 c (by simp)
  have dbc : Dj b c := sp2.1 c (by simp)
  have three : ∀ i, i < 3 → i = 0 ∨ i = 1 ∨ i = 2 := fun i hi => by omega
  have M : ModelOf n 3 (natG z) (natG (kz 3)) (fun i => [a, b, c].getD i 0) := by
    refine ⟨fun i hi => ?_, fun i hi => ?_, fun i j x hi hj h1 h2 => ?_, fun i x y hi h1 h2 => ?_, fun i j hi hj hp => ?_⟩
    · rcases three i hi with rfl | rfl | rfl
      · exact ca.lt
      · exact cb.lt
      · exact cc.lt
    · rcases three i hi with rfl | rfl | rfl
      · exact ca.ne
      · exact cb.ne
      · exact cc.ne
    · rcases three i hi with rfl | rfl | rfl <;> rcases three j hj with rfl | rfl | rfl <;> first | rfl | exfalso
      · exact dab x h1 h2
      · exact dac x h1 h2
      · exact dab x h2 h1
      · exact dbc x h1 h2
      · exact dac x h2 h1
      · exact dbc x h2 h1
    · rcases three i hi with rfl | rfl | rfl
      · exact ca.con x y h1 h2
      · exact cb.con x y h1 h2
      · exact cc.con x y h1 h2
    · have hne : i ≠ j := fun e => by rw [e, g_loop hpk j hj] at hp; cases hp
      rcases three i hi with rfl | rfl | rfl <;> rcases three j hj with rfl | rfl | rfl <;> first | exact absurd rfl hne | skip
      · exact ab
      · exact ac
      · exact ab.symm G ca.lt cb.lt
      · exact bc
      · exact ac.symm G ca.lt cc.lt
      · exact bc.symm G cb.lt cc.lt
  have h2 := refM_found M (graphB_le hg).2.1 (lt_graph hg)
  cases h3 : refM n 3 (natG z) (natG (kz 3)) with
  | none => exact absurd h3 h2
  | some _ => rfl
theorem found_three {n : Nat} {z : Nat → Int} (hg : graphB n 8 z = true) (h : (modG n 3 z (kz 3)).isSome = true) : Three n (natG z) ∧ 2 ≤ Wd.widthG n z := by
  have hpk := kz_graph 3 (by omega) (by omega)
  rw [mod_ref hg hpk] at h
  cases h1 : refM n 3 (natG z) (natG (kz 3)) with
  | none => rw [h1] at h; cases h
  | some L =>
    obtain ⟨_, M, _⟩ := refM_model h1 (graphB_le hg).2.1 (lt_graph hg) (g_sym hg) (g_sym hpk) (g_loop hpk)
    have hw := rst_minor (lt_graph hg) (lt_graph hpk) M
    have hk := kz_width 3 (by omega) (by omega)
    refine ⟨?_, ?_⟩
    · have cs : ∀ i, i < 3 → Cs n (natG z) (L.getD i 0) := fun i hi => ⟨M.lt i hi, M.some_ i hi, fun x y => M.conn i x y hi⟩
      have dj : ∀ i j, i < 3 → j < 3 → i ≠ j → Dj (L.getD i 0) (L.getD j 0) := fun i j hi hj hne x h1 h2 => hne (M.apart i j x hi hj h1 h2)
      have ad : ∀ i j, i < 3 → j < 3 → (natG (kz 3) i).testBit j = true → Ad (natG z) (L.getD i 0) (L.getD j 0) := fun i j hi hj hp => M.edge i j hi hj hp
      refine ⟨L.getD 0 0, L.getD 1 0, L.getD 2 0, ⟨fun s hs => ?_, ?_⟩, ad 0 1 (by omega) (by omega) (by decide), ad 0 2 (by omega) (by omega) (by decide), ad 1 2 (by omega) (by omega) (by decide)⟩
      · simp only [List.mem_cons, List.not_mem_nil, or_false] at hs
        rcases hs with rfl | rfl | rfl
        · exact cs 0 (by omega)
        · exact cs 1 (by omega)
        · exact cs 2 (by omega)
      · refine List.pairwise_cons.2 ⟨fun s hs => ?_, List.pairwise_cons.2 ⟨fun s hs => ?_, List.pairwise_singleton _ _⟩⟩
        · simp only [List.mem_cons, List.not_mem_nil, or_false] at hs
          rcases hs with rfl | rfl
          · exact dj 0 1 (by omega) (by omega) (by omega)
          · exact dj 0 2 (by omega) (by omega) (by omega)
        · simp only [List.mem_singleton] at hs
          subst hs
          exact dj 1 2 (by omega) (by omega) (by omega)
    · have : Wd.widthG 3 (kz 3) ≤ Wd.widthG n z := hw
      omega
/-- What the law asks of forests. -/
theorem forest_is {n : Nat} {z : Nat → Int} (hg : graphB n 8 z = true) :
    ((modG n 3 z (kz 3)).isSome = true → 2 ≤ Wd.widthG n z ∧ ∃ v, v < n ∧ 2 * szS n (partS n (natG z) (2 ^ n - 1) v) ≤ Ek n (natG z) (partS n (natG z) (2 ^ n - 1) v) n) ∧
    ((modG n 3 z (kz 3)).isSome = false → Wd.widthG n z ≤ 1 ∧ ∀ v, v < n → Ek n (natG z) (partS n (natG z) (2 ^ n - 1) v) n < 2 * szS n (partS n (natG z) (2 ^ n - 1) v)) := by
  have G := gq_of hg
  constructor
  · intro h
    obtain ⟨⟨a, b, c, hF, ab, ac, bc⟩, hw⟩ := found_three hg h
    have hin : ∀ s, s ∈ [a, b, c] → ∀ x, s.testBit x = true → (2 ^ n - 1).testBit x = true := fun s hs x hx => all_bit (bit_lt (hF.set s hs).lt hx)
    obtain ⟨S, hS⟩ := three_core G n (2 ^ n - 1) a b c (szS_le _ _) (by have := Nat.two_pow_pos n; omega) (hin a (by simp)) (hin b (by simp)) (hin c (by simp)) hF ab ac bc
    exact ⟨hw, core_part G hS⟩
  · intro h
    have hno : ∀ S, ¬ Core n (natG z) S := fun S hS => by
      rw [three_found hg (core_three G hS)] at h; cases h
    refine ⟨narrow_of G hno (2 ^ n) 0 (Nat.sub_le _ _) (Nat.two_pow_pos n) (plain_zero G), fun v hv => ?_⟩
    apply Classical.byContradiction
    intro hlt
    have hP0 : partS n (natG z) (2 ^ n - 1) v ≠ 0 := fun e => by
      have := congrArg (fun q => q.testBit v) e
      simp [partS_self (r := natG z) (n := n) (set := 2 ^ n - 1) (v := v)] at this
    obtain ⟨S, hS⟩ := dense_core G n (partS n (natG z) (2 ^ n - 1) v) (szS_le _ _) (partS_lt hv G.bd) hP0 (by omega)
    exact hno S hS

end Go.Proofs.YtfmppncefbjicaaDoor
