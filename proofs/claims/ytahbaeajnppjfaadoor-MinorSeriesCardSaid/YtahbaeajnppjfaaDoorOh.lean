/- Package minor: reductions, the width and a minor of four nodes, together. -/
import Derived.Test.YtahbaeajnppjfaaDoorOg
import Derived.Test.YtahbaeajnppjfaaDoorOf
namespace Go.Proofs.YtahbaeajnppjfaaDoor
set_option linter.unusedSimpArgs false
set_option linter.unusedVariables false
open Go.RowKit Go.Maps

theorem szS_three {n T : Nat} (h : 3 ≤ szS n T) : ∃ a b c, a ≠ b ∧ a ≠ c ∧ b ≠ c ∧ T.testBit a = true ∧ T.testBit b = true ∧ T.testBit c = true := by
  obtain ⟨a, _, _, ha, _, h1, _⟩ := szS_two (T := T) (n := n) (by omega)
  have e := diff_or h1
  have := szS_add1 (S := diff T (2 ^ a)) ha diff_not
  rw [e] at this
  obtain ⟨b, c, hbc, _, _, h2, h3⟩ := szS_two (T := diff T (2 ^ a)) (n := n) (by omega)
  obtain ⟨h2, k2⟩ := left_bits.1 h2
  obtain ⟨h3, k3⟩ := left_bits.1 h3
  exact ⟨a, b, c, Ne.symm k2, Ne.symm k3, hbc, h1, h2, h3⟩
/-- Where no node can be reduced there are four sets that are all neighbours of each other. -/
theorem stuck_four {n left : Nat} {r f : Nat → Nat} (G : Gq n r) (h : Red n r f left) (h0 : left ≠ 0) (h3 : ∀ u, u < n → left.testBit u = true → 3 ≤ szS n (f u)) : Four n r := by
  obtain ⟨S, S1, S2, S3⟩ := h.sets
  have inj : ∀ a b, a < n → b < n → left.testBit a = true → left.testBit b = true → a ≠ b → S a ≠ S b := fun a b ha hb la lb hne e => by
    obtain ⟨x, hx⟩ := (S1 a ha la).ne
    exact S2 a b ha hb la lb hne x hx (by rw [← e]; exact hx)
  obtain ⟨u0, hl0⟩ := some_bit h0
  have hu0 := bit_lt h.lt hl0
  obtain ⟨x0, c0, _, hxc, _, _, hx0, hc0, _⟩ := szS_three (h3 u0 hu0 hl0)
  obtain ⟨lx0, nx0⟩ := h.in_ u0 hu0 hl0 x0 hx0
  obtain ⟨lc0, nc0⟩ := h.in_ u0 hu0 hl0 c0 hc0
  have hxn0 := bit_lt h.lt lx0
  obtain ⟨N, hN⟩ : ∃ N, N = (List.range n).filter fun u => left.testBit u && (u != u0 && u != x0) := ⟨_, rfl⟩
  have memN : ∀ u, u ∈ N ↔ u < n ∧ left.testBit u = true ∧ u ≠ u0 ∧ u ≠ x0 := fun u => by
    rw [hN, List.mem_filter, List.mem_range]
    simp
  have hF : Fam n r (S u0 :: S x0 :: N.map S) := by
    refine ⟨fun s hs => ?_, List.pairwise_cons.2 ⟨fun s hs => ?_, List.pairwise_cons.2 ⟨fun s hs => ?_, ?_⟩⟩⟩
    · rcases List.mem_cons.1 hs with rfl | hs
      · exact S1 u0 hu0 hl0
      · rcases List.mem_cons.1 hs with rfl | hs
        · exact S1 x0 hxn0 lx0
        · obtain ⟨u, hu, rfl⟩ := List.mem_map.1 hs
          obtain ⟨h1, h2, _⟩ := (memN u).1 hu
          exact S1 u h1 h2
    · rcases List.mem_cons.1 hs with rfl | hs
      · exact S2 u0 x0 hu0 hxn0 hl0 lx0 (Ne.symm nx0)
      · obtain ⟨u, hu, rfl⟩ := List.mem_map.1 hs
        obtain ⟨h1, h2, h4, _⟩ := (memN u).1 hu
        exact S2 u0 u hu0 h1 hl0 h2 (Ne.symm h4)
    · obtain ⟨u, hu, rfl⟩ := List.mem_map.1 hs
      obtain ⟨h1, h2, _, h4⟩ := (memN u).1 hu
      exact S2 x0 u hxn0 h1 lx0 h2 (Ne.symm h4)
    · rw [List.pairwise_map]
      have hp : N.Pairwise (· ≠ ·) := by rw [hN]; exact (range_ne n).filter _
      refine hp.imp_of_mem fun {a b} ha hb hne => ?_
      obtain ⟨h1, h2, _⟩ := (memN a).1 ha
      obtain ⟨k1, k2, _⟩ := (memN b).1 hb
      exact S2 a b h1 k1 h2 k2 hne
  have memW : ∀ u, u < n → left.testBit u = true → S u ∈ S u0 :: S x0 :: N.map S := fun u hu hul => by
    by_cases e1 : u = u0
    · subst e1; simp
    · by_cases e2 : u = x0
      · subst e2; simp
      · exact List.mem_cons_of_mem _ (List.mem_cons_of_mem _ (List.mem_map.2 ⟨u, (memN u).2 ⟨hu, hul, e1, e2⟩, rfl⟩))
  refine four_of G.toGp (N.map S).length (N.map S) (S u0) (S x0) rfl (fun e => ?_) hF (S3 u0 x0 hu0 hl0 hx0) fun s l' hp => ?_
  · have : S c0 ∈ N.map S := List.mem_map.2 ⟨c0, (memN c0).2 ⟨bit_lt h.lt lc0, lc0, nc0, Ne.symm hxc⟩, rfl⟩
    rw [e] at this; cases this
  · have hs : s ∈ N.map S := hp.mem_iff.2 (by simp)
    obtain ⟨t, ht, rfl⟩ := List.mem_map.1 hs
    obtain ⟨htn, htl, _⟩ := (memN t).1 ht
    obtain ⟨a, b, c, hab, hac, hbc, ha, hb, hc⟩ := szS_three (h3 t htn htl)
    obtain ⟨la, na⟩ := h.in_ t htn htl a ha
    obtain ⟨lb, nb⟩ := h.in_ t htn htl b hb
    obtain ⟨lc, nc⟩ := h.in_ t htn htl c hc
    have han := bit_lt h.lt la
    have hbn := bit_lt h.lt lb
    have hcn := bit_lt h.lt lc
    have hpw : (S u0 :: S x0 :: N.map S).Perm (S t :: S u0 :: S x0 :: l') :=
      ((hp.cons (S x0)).cons (S u0)).trans (((List.Perm.swap (S t) (S x0) l').cons (S u0)).trans (List.Perm.swap (S t) (S u0) (S x0 :: l')))
    obtain ⟨l1, p1⟩ := perm_of_mem (mem_rest hpw (memW a han la) (inj a t han htn la htl na))
    obtain ⟨l2, p2⟩ := perm_of_mem (mem_rest p1 (mem_rest hpw (memW b hbn lb) (inj b t hbn htn lb htl nb)) (inj b a hbn han lb la (Ne.symm hab)))
    obtain ⟨l3, p3⟩ := perm_of_mem (mem_rest p2 (mem_rest p1 (mem_rest hpw (memW c hcn lc) (inj c t hcn htn lc htl nc)) (inj c a hcn han lc la (Ne.symm hac))) (inj c b hcn hbn lc lb (Ne.symm hbc)))
    rw [dg_perm p1, dg_yes (S3 t a htn htl ha), dg_perm p2, dg_yes (S3 t b htn htl hb), dg_perm p3, dg_yes (S3 t c htn htl hc)]
    omega

theorem stp_yes {n left x : Nat} {f : Nat → Nat} (h : stpB n f left (x : Nat) = true) : x < n ∧ left.testBit x = true ∧ szS n (f x) ≤ 2 := by
  unfold stpB at h
  rw [Int.toNat_natCast, Bool.and_eq_true, Bool.and_eq_true, decide_eq_true_eq] at h
  obtain ⟨_, h1⟩ := inB_iff.1 h.1
  exact ⟨by omega, h.2.1, h.2.2⟩
theorem fst_yes {n left x : Nat} {f : Nat → Nat} (h : fstS n f left = some x) : stpB n f left (x : Nat) = true := by
  unfold fstS at h
  rw [List.find?_range_eq_some] at h
  exact h.1
theorem fst_no {n left : Nat} {f : Nat → Nat} (h : fstS n f left = none) (u : Nat) (hu : u < n) (hl : left.testBit u = true) : 3 ≤ szS n (f u) := by
  unfold fstS at h
  rw [List.find?_eq_none] at h
  have h1 := h u (List.mem_range.2 hu)
  apply Classical.byContradiction
  intro h2
  apply h1
  unfold stpB
  rw [Int.toNat_natCast, hl, decide_eq_true (show szS n (f u) ≤ 2 by omega), inB_iff.2 ⟨by omega, by omega⟩]
  rfl
/-- What is true behind some reductions of the first node each time. -/
theorem redT_red {n : Nat} {r : Nat → Nat} (G : Gq n r) (hn8 : n ≤ 8) : ∀ k f left L, redT n r k = some (f, left, L) →
    Red n r f left ∧ szS n left + k = n ∧ rst n (Wd.tn n r) 0 ≤ max 2 (rst n (Wd.tn n r) (diff (2 ^ n - 1) left)) ∧ ∀ M, areT n r (2 ^ n - 1) (L ++ M) = areT n f left M := by
  have hz0 : diff (2 ^ n - 1) (2 ^ n - 1) = 0 := by
    apply Nat.eq_of_testBit_eq
    intro i
    rw [testBit_diff]
    cases (2 ^ n - 1).testBit i <;> simp
  intro k
  induction k with
  | zero =>
    intro f left L h
    unfold redT at h
    simp only [Option.some.injEq, Prod.mk.injEq] at h
    obtain ⟨rfl, rfl, rfl⟩ := h
    refine ⟨red_start G, ?_, ?_, fun M => rfl⟩
    · have : szS n (2 ^ n - 1) = n := by
        unfold szS
        rw [List.countP_eq_length.2 fun u hu => all_bit (List.mem_range.1 hu), List.length_range]
      omega
    · rw [hz0]; omega
  | succ k ih =>
    intro f left L h
    unfold redT at h
    cases hk : redT n r k with
    | none => rw [hk] at h; cases h
    | some q =>
      obtain ⟨f0, l0, L0⟩ := q
      rw [hk] at h
      simp only at h
      cases hf : fstS n f0 l0 with
      | none => rw [hf] at h; cases h
      | some x =>
        rw [hf] at h
        simp only [Option.some.injEq, Prod.mk.injEq] at h
        obtain ⟨rfl, rfl, rfl⟩ := h
        obtain ⟨i1, i2, i3, i4⟩ := ih _ _ _ hk
        have hst := fst_yes hf
        obtain ⟨hx, hlx, hkx⟩ := stp_yes hst
        refine ⟨red_step G hn8 i1 hx hlx hkx, ?_, ?_, fun M => ?_⟩
        · have e := diff_or hlx
          have := szS_add1 (S := diff l0 (2 ^ x)) hx diff_not
          rw [e] at this
          omega
        · rw [gone_next hx hlx]
          have hgx : (diff (2 ^ n - 1) l0).testBit x = false := by rw [testBit_diff, hlx]; simp
          have hgl : diff (2 ^ n - 1) l0 < 2 ^ n := Nat.lt_of_le_of_lt (diff_le _ _) (by have := Nat.two_pow_pos n; omega)
          have hne : diff (2 ^ n - 1) l0 ≠ 2 ^ n - 1 := fun e => by rw [e, all_bit hx] at hgx; cases hgx
          have h5 : Wd.tn n r (diff (2 ^ n - 1) l0) x ≤ 2 := Nat.le_trans (szS_mono fun i hi hy => i1.led x hx hlx i hy) hkx
          have h6 := rst_best (t := Wd.tn n r) hgl hne
          have := bestW_at (n := n) (t := Wd.tn n r) (gone := diff (2 ^ n - 1) l0) n x hx hgx
          omega
        · rw [List.append_assoc, i4]
          show (stpB n f0 l0 ((x : Nat) : Int) && (decide (stZ n f0 ((x : Nat) : Int).toNat = stZ n f0 x) && areT n (doF n f0 ((x : Nat) : Int).toNat) (diff l0 (2 ^ ((x : Nat) : Int).toNat)) M)) = _
          rw [Int.toNat_natCast, hst, decide_eq_true rfl]
          rfl
theorem red_yes {n : Nat} {r : Nat → Nat} {L : List StZ} (G : Gq n r) (hn8 : n ≤ 8) (h : redG n r = some L) : rst n (Wd.tn n r) 0 ≤ 2 ∧ L.length = n ∧ areT n r (2 ^ n - 1) L = true := by
  unfold redG at h
  cases hr : redT n r n with
  | none => rw [hr] at h; cases h
  | some q =>
    obtain ⟨f, left, L'⟩ := q
    rw [hr] at h
    simp only [Option.map_some, Option.some.injEq] at h
    subst h
    obtain ⟨h1, h2, h3, h4⟩ := redT_red G hn8 n f left L' hr
    have hl : left = 0 := sz_zero h1.lt (by omega)
    subst hl
    have e : diff (2 ^ n - 1) 0 = 2 ^ n - 1 := by
      apply Nat.eq_of_testBit_eq
      intro i
      rw [testBit_diff]; simp
    rw [e, rst_all] at h3
    refine ⟨by omega, redT_len _ _ _ _ hr, ?_⟩
    have := h4 []
    rw [List.append_nil] at this
    rw [this]; rfl
theorem red_no {n : Nat} {r : Nat → Nat} (G : Gq n r) (hn8 : n ≤ 8) (h : redG n r = none) : Four n r := by
  have key : ∀ m, redT n r m = none → ∃ k f left L, k < m ∧ redT n r k = some (f, left, L) ∧ fstS n f left = none := by
    intro m
    induction m with
    | zero => intro h; cases h
    | succ m ih =>
      intro h
      cases hm : redT n r m with
      | none =>
        obtain ⟨k, f, left, L, h1, h2⟩ := ih hm
        exact ⟨k, f, left, L, by omega, h2⟩
      | some q =>
        obtain ⟨f, left, L⟩ := q
        refine ⟨m, f, left, L, by omega, hm, ?_⟩
        unfold redT at h
        rw [hm] at h
        simp only at h
        cases hf : fstS n f left with
        | none => rfl
        | some x => rw [hf] at h; cases h
  have hr : redT n r n = none := by
    unfold redG at h
    cases hr : redT n r n with
    | none => rfl
    | some q => rw [hr] at h; cases h
  obtain ⟨k, f, left, L, hk, h1, h2⟩ := key n hr
  obtain ⟨h3, h4, _, _⟩ := redT_red G hn8 k f left L h1
  refine stuck_four G h3 (fun e => ?_) (fst_no h2)
  rw [e] at h4
  have h9 : szS n 0 = 0 := by unfold szS; rw [List.countP_eq_zero]; simp
  omega

theorem found_four {n : Nat} {z : Nat → Int} (hg : graphB n 8 z = true) (h : (modG n 4 z (kz 4)).isSome = true) : 3 ≤ Wd.widthG n z := by
  have hpk := kz_graph 4 (by omega) (by omega)
  rw [mod_ref hg hpk] at h
  cases h1 : refM n 4 (natG z) (natG (kz 4)) with
  | none => rw [h1] at h; cases h
  | some L =>
    obtain ⟨_, M, _⟩ := refM_model h1 (graphB_le hg).2.1 (lt_graph hg) (g_sym hg) (g_sym hpk) (g_loop hpk)
    have hw := rst_minor (lt_graph hg) (lt_graph hpk) M
    have hk := kz_width 4 (by omega) (by omega)
    have : Wd.widthG 4 (kz 4) ≤ Wd.widthG n z := hw
    omega
/-- What the law asks of reductions. -/
theorem series_yes {n : Nat} {z : Nat → Int} {L : List StZ} (hg : graphB n 8 z = true) (h : redG n (natG z) = some L) : Wd.widthG n z ≤ 2 ∧ (modG n 4 z (kz 4)).isSome = false ∧ L.length = n ∧ areT n (natG z) (2 ^ n - 1) L = true := by
  obtain ⟨h1, h2, h3⟩ := red_yes (gq_of hg) (graphB_le hg).2.1 h
  have hw : Wd.widthG n z ≤ 2 := h1
  refine ⟨hw, ?_, h2, h3⟩
  cases hm : (modG n 4 z (kz 4)).isSome
  · rfl
  · have := found_four hg hm
    omega
theorem series_no {n : Nat} {z : Nat → Int} (hg : graphB n 8 z = true) (h : redG n (natG z) = none) : 3 ≤ Wd.widthG n z ∧ (modG n 4 z (kz 4)).isSome = true := by
  have h4 := four_found hg (red_no (gq_of hg) (graphB_le hg).2.1 h)
  exact ⟨found_four hg h4, h4⟩

end Go.Proofs.YtahbaeajnppjfaaDoor
