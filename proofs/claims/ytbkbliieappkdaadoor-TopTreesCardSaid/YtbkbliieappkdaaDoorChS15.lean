/- The core: what is left of a graph when corners are taken away one by one. -/
import Derived.Test.YtbkbliieappkdaaDoorChS14
import Derived.Test.YtbkbliieappkdaaDoorChC3a
namespace Go.Proofs.YtbkbliieappkdaaDoor.Ch
set_option linter.unusedSimpArgs false
set_option linter.unusedVariables false
open Go.RowKit

theorem crnTo_iff {r : Nat → Nat} {n T v : Nat} : crnTo r T v n = true ↔ T.testBit v = true ∧ ∃ u, u < n ∧ T.testBit u = true ∧ u ≠ v ∧ ∀ d, (r v).testBit d = true → T.testBit d = true → (r u).testBit d = true := by
  unfold crnTo covB
  rw [Bool.and_eq_true, List.any_eq_true]
  refine and_congr Iff.rfl ⟨?_, ?_⟩
  · rintro ⟨u, hu, h⟩
    rw [Bool.and_eq_true, Bool.and_eq_true, diff_zero, bne_iff_ne] at h
    refine ⟨u, List.mem_range.1 hu, h.1, h.2.1, fun d h1 h2 => h.2.2 d ?_⟩
    rw [Nat.testBit_and, h1, h2]; rfl
  · rintro ⟨u, hu, h1, h2, h3⟩
    refine ⟨u, List.mem_range.2 hu, ?_⟩
    rw [Bool.and_eq_true, Bool.and_eq_true, diff_zero, bne_iff_ne]
    refine ⟨h1, h2, fun d h => ?_⟩
    rw [Nat.testBit_and, Bool.and_eq_true] at h
    exact h3 d h.1 h.2

/-- A corner folded onto what covers it, for any graph. -/
theorem Net.retr {m j i : Nat} {s : Nat → Nat} (N : Net (m + 1) s) (hj : j < m + 1) (hi : i < m + 1) (hij : i ≠ j) (hc : ∀ d, (s j).testBit d = true → (s i).testBit d = true) :
    Retr (m + 1) m s (fun x => wo j (s (eI j x))) (eI j) (fI j i) := by
  have hef : ∀ x, eI j (fI j i x) = if x = j then i else x := by
    intro x
    unfold eI fI
    split <;> (try split) <;> (try split) <;> omega
  have helt : ∀ x, x < m → eI j x < m + 1 := fun x hx => by unfold eI; split <;> omega
  have hflt : ∀ x, x < m + 1 → fI j i x < m := fun x hx => by unfold fI; split <;> (try split) <;> omega
  refine ⟨helt, hflt, fun x hx => ?_, fun a b ha hb hab => ?_, fun x y hx hy hxy => ?_, N.refl, fun x d hx hd => ?_, N.rin, fun a b ha hb => ?_⟩
  · unfold fI eI
    split <;> (try split) <;> (try split) <;> omega
  · show (wo j (s (eI j (fI j i a)))).testBit _ = true
    rw [testBit_wo, hef, hef]
    by_cases ha' : a = j
    · subst ha'
      rw [if_pos rfl]
      by_cases hb' : b = a
      · rw [if_pos hb']; exact N.refl i hi
      · rw [if_neg hb']; exact hc b hab
    · rw [if_neg ha']
      by_cases hb' : b = j
      · subst hb'
        rw [if_pos rfl, N.sym _ _ ha hi]
        rw [N.sym _ _ ha hj] at hab
        exact hc a hab
      · rw [if_neg hb']; exact hab
  · change (wo j (s (eI j x))).testBit y = true at hxy
    rw [testBit_wo] at hxy; exact hxy
  · rw [hef]
    by_cases hx' : x = j
    · subst hx'; rw [if_pos rfl]; exact hc d hd
    · rw [if_neg hx']; exact hd
  · change (wo j (s (eI j a))).testBit b = true at hb
    rw [testBit_wo] at hb
    have := N.rin _ _ (helt a ha) hb
    unfold eI at this
    split at this <;> omega

/-- The game on the nodes of a set, renamed to the first numbers. -/
structure Sub (n : Nat) (r : Nat → Nat) (T m : Nat) (e s : Nat → Nat) : Prop where
  net : Net m s
  lt : ∀ x, x < m → e x < n
  mem : ∀ x, x < m → T.testBit (e x) = true
  inj : ∀ x y, x < m → y < m → e x = e y → x = y
  onto : ∀ v, v < n → T.testBit v = true → ∃ x, x < m ∧ e x = v
  bit : ∀ x y, x < m → y < m → (s x).testBit y = (r (e x)).testBit (e y)
  size : szS n T = m

theorem szS_all (n : Nat) : szS n (2 ^ n - 1) = n := by
  unfold szS
  have : (List.range n).countP (fun v => (2 ^ n - 1).testBit v) = (List.range n).length := by
    rw [List.countP_eq_length]
    intro v hv
    rw [Nat.testBit_two_pow_sub_one]
    exact decide_eq_true (List.mem_range.1 hv)
  rw [this, List.length_range]
theorem szS_off {n T v : Nat} (hv : v < n) (h : T.testBit v = true) : szS n (diff T (2 ^ v)) + 1 = szS n T := by
  unfold szS
  have h1 := countP_split (fun j => T.testBit j) (fun j => j == v) (List.range n)
  have h2 : (List.range n).countP (fun j => T.testBit j && j == v) = 1 := by
    have h3 : (List.range n).countP (fun j => T.testBit j && j == v) = (List.range n).count v := by
      unfold List.count
      congr 1
      funext j
      by_cases hj : j = v
      · subst hj; rw [h]; rfl
      · rw [beq_eq_false_iff_ne.2 hj, Bool.and_false]
    rw [h3, List.nodup_range.count, if_pos (List.mem_range.2 hv)]
  have h4 : (List.range n).countP (fun j => (diff T (2 ^ v)).testBit j) = (List.range n).countP (fun j => T.testBit j && !(j == v)) := by
    congr 1
    funext j
    rw [testBit_off]
    congr 2
    by_cases hj : j = v
    · subst hj; simp
    · rw [beq_eq_false_iff_ne.2 hj]; exact decide_eq_false (Ne.symm hj)
  rw [h4]
  omega

theorem Sub.start {n : Nat} {r : Nat → Nat} (N : Net n r) : Sub n r (2 ^ n - 1) n id r :=
  ⟨N, fun _ h => h, fun x hx => by rw [Nat.testBit_two_pow_sub_one]; exact decide_eq_true hx, fun _ _ _ _ h => h, fun v hv _ => ⟨v, hv, rfl⟩, fun _ _ _ _ => rfl, szS_all n⟩

/-- One corner less. -/
theorem Sub.step {n T m v : Nat} {r e s : Nat → Nat} (H : Sub n r T m e s) (hv : v < n) (h : crnTo r T v n = true) :
    ∃ m' e' s', Sub n r (diff T (2 ^ v)) m' e' s' ∧ ∀ k, k = 1 ∨ k = 2 → ((bestOf m (ranksF m s (chs m k)) (chs m k)).2 = -1 ↔ (bestOf m' (ranksF m' s' (chs m' k)) (chs m' k)).2 = -1) := by
  obtain ⟨hTv, u, hu, hTu, huv, hc⟩ := crnTo_iff.1 h
  obtain ⟨j, hj, rfl⟩ := H.onto v hv hTv
  obtain ⟨i, hi, rfl⟩ := H.onto u hu hTu
  have hij : i ≠ j := fun e1 => huv (by rw [e1])
  obtain ⟨m, rfl⟩ : ∃ m', m = m' + 1 := ⟨m - 1, by omega⟩
  have N := H.net
  have R := N.retr hj hi hij (fun d hd => by
    have hdm := N.rin j d hj hd
    rw [H.bit j d hj hdm] at hd
    rw [H.bit i d hi hdm]
    exact hc _ hd (H.mem d hdm))
  have h8 := N.eight
  have heI : ∀ x, x < m → eI j x ≠ j := fun x _ => by unfold eI; split <;> omega
  refine ⟨m, fun x => e (eI j x), fun x => wo j (s (eI j x)), ⟨⟨by omega, by omega, fun x hx => ?_, R.mut N.sym, R.sin, R.conn (by omega) N.sym N.conn⟩, fun x hx => H.lt _ (R.elt x hx), fun x hx => ?_, fun x y hx hy hxy => ?_, fun w hw hTw => ?_, fun x y hx hy => ?_, ?_⟩, fun k hk => R.best hk (by omega) (chs_le _ _ (by omega))⟩
  · show (wo j (s (eI j x))).testBit x = true
    rw [testBit_wo]; exact N.refl _ (R.elt x hx)
  · rw [testBit_off, H.mem _ (R.elt x hx), Bool.true_and, Bool.not_eq_true', decide_eq_false_iff_not]
    intro e1
    exact heI x hx (H.inj _ _ hj (R.elt x hx) e1).symm
  · exact eI_inj.1 (H.inj _ _ (R.elt x hx) (R.elt y hy) hxy)
  · rw [testBit_off, Bool.and_eq_true, Bool.not_eq_true', decide_eq_false_iff_not] at hTw
    obtain ⟨x, hx, rfl⟩ := H.onto w hw hTw.1
    have hxj : x ≠ j := fun e1 => hTw.2 (by rw [e1])
    refine ⟨if x < j then x else x - 1, by split <;> omega, ?_⟩
    have h1 : eI j (if x < j then x else x - 1) = x := by
      unfold eI
      by_cases h : x < j
      · rw [if_pos h, if_pos h]
      · rw [if_neg h, if_neg (by omega)]; omega
    show e (eI j _) = e x
    rw [h1]
  · show (wo j (s (eI j x))).testBit y = _
    rw [testBit_wo, H.bit _ _ (R.elt x hx) (R.elt y hy)]
  · have := szS_off hv hTv
    have := H.size
    omega

/-- Without a corner, and with more than one node, the cat escapes from one sweep. -/
theorem Net.escape {m : Nat} {s : Nat → Nat} (N : Net m s) (h2 : 2 ≤ m) (hno : ∀ w u, w < m → u < m → u ≠ w → ∃ d, (s w).testBit d = true ∧ (s u).testBit d = false) :
    (bestOf m (ranksF m s (chs m 1)) (chs m 1)).2 = -1 := by
  apply Classical.byContradiction
  intro hb
  rw [← ne_eq, best_ne] at hb
  obtain ⟨ab, hab, hl⟩ := hb
  have key : ∀ i a c, a < m → c < m → lev m s (chs m 1) i (a, a, c) → (s a).testBit c = true := by
    intro i
    induction i with
    | zero =>
      intro a c ha hc h
      rw [lev_zero] at h
      rcases ctch_iff.1 h.2 with rfl | rfl <;> exact N.refl _ hc
    | succ i ih =>
      intro a c ha hc h
      rw [lev_succ] at h
      rcases h with h | ⟨-, -, t, ht, hm, hl⟩
      · exact ih a c ha hc h
      · obtain ⟨x, y⟩ := t
        obtain ⟨h3, h4, h5⟩ := (chs_mem (.inl rfl)).1 ht
        obtain rfl : x = y := by rcases h5 with h5 | h5 <;> omega
        have hax : (s a).testBit x = true := by rcases canM_iff.1 hm with h | h <;> exact h.1
        rcases hl with hl | hl
        · have h : c = x := by rcases ctch_iff.1 hl with h | h <;> exact h
          rw [h]; exact hax
        · by_cases hcx : x = c
          · rw [← hcx]; exact hax
          · obtain ⟨d, hd1, hd2⟩ := hno c x hc h4 hcx
            obtain ⟨hdm, hd3⟩ := hl d hd1
            rw [ih x d h4 hdm hd3] at hd2
            cases hd2
  obtain ⟨a, b⟩ := ab
  obtain ⟨h3, h4, h5⟩ := (chs_mem (.inl rfl)).1 hab
  obtain rfl : a = b := by rcases h5 with h5 | h5 <;> omega
  obtain ⟨w, hw, hwa⟩ : ∃ w, w < m ∧ a ≠ w := by
    by_cases h : a = 0
    · exact ⟨1, by omega, by omega⟩
    · exact ⟨0, by omega, h⟩
  obtain ⟨d, hd1, hd2⟩ := hno w a hw h4 hwa
  have hd := N.rin w d hw hd1
  rw [key 4096 a d h4 hd (hl d hd)] at hd2
  cases hd2

/-- Without a corner there is one node, or there are four. -/
theorem Net.nofew {m : Nat} {s : Nat → Nat} (N : Net m s) (hno : ∀ w u, w < m → u < m → u ≠ w → ∃ d, (s w).testBit d = true ∧ (s u).testBit d = false) : m = 1 ∨ 4 ≤ m := by
  have h1 := N.one
  apply Classical.byContradiction
  intro hm
  have hcon : ∀ K : List Nat, (∀ d, d < m → d ∈ K) → (∀ d, d ∈ K → d < m) → Bare s K ∨ (∃ w u, Crn s K w u) → False := by
    intro K hK hK' h
    rcases h with h | ⟨w, u, h⟩
    · have := conn_any N.one N.rin N.sym N.conn (fun x => x = 0) (x := 0) (by omega) rfl (fun a b ha h1 h2 => by
        rw [h1] at h2
        exact h 0 (hK 0 (by omega)) b (hK b (N.rin 0 b (by omega) h2)) h2) 1 (by omega)
      omega
    · obtain ⟨d, hd1, hd2⟩ := hno w u (hK' w h.1) (hK' u h.2.1) h.2.2.1
      rw [h.2.2.2 d (hK d (N.rin w d (hK' w h.1) hd1)) hd1] at hd2
      cases hd2
  have h23 : m = 2 ∨ m = 3 := by omega
  rcases h23 with rfl | rfl
  · exact hcon [0, 1] (fun d hd => by simp; omega) (fun d hd => by simp at hd; omega) (N.two_l (by omega) (by omega) (by omega))
  · exact hcon [0, 1, 2] (fun d hd => by simp; omega) (fun d hd => by simp at hd; omega) (N.three_l (by omega) (by omega) (by omega) (by omega) (by omega) (by omega))

theorem Sub.nocorner {n T m : Nat} {r e s : Nat → Nat} (N : Net n r) (H : Sub n r T m e s) (h : leastC r n T = none) : ∀ w u, w < m → u < m → u ≠ w → ∃ d, (s w).testBit d = true ∧ (s u).testBit d = false := by
  intro w u hw hu huw
  apply Classical.byContradiction
  intro hno
  unfold leastC at h
  rw [List.find?_range_eq_none] at h
  have h1 := h (e w) (H.lt w hw)
  have h2 : crnTo r T (e w) n = true := by
    refine crnTo_iff.2 ⟨H.mem w hw, e u, H.lt u hu, H.mem u hu, fun e1 => huw (H.inj _ _ hu hw e1), fun d hd hT => ?_⟩
    obtain ⟨x, hx, rfl⟩ := H.onto d (N.rin _ d (H.lt w hw) hd) hT
    rw [← H.bit w x hw hx] at hd
    rw [← H.bit u x hu hx]
    cases hb : (s u).testBit x
    · exact absurd ⟨x, hd, hb⟩ hno
    · rfl
  rw [h2] at h1
  cases h1

theorem Strip.sub {n S : Nat} {r : Nat → Nat} {L : List Nat} {T : Nat} (h : Strip r n S L T) {m : Nat} {e s : Nat → Nat} (H : Sub n r S m e s) :
    ∃ m' e' s', Sub n r T m' e' s' ∧ ∀ k, k = 1 ∨ k = 2 → ((bestOf m (ranksF m s (chs m k)) (chs m k)).2 = -1 ↔ (bestOf m' (ranksF m' s' (chs m' k)) (chs m' k)).2 = -1) := by
  induction h with
  | start => exact ⟨m, e, s, H, fun _ _ => Iff.rfl⟩
  | step h0 h1 ih =>
    obtain ⟨m1, e1, s1, H1, hb1⟩ := ih
    obtain ⟨hv, hcr⟩ := leastC_some h1
    obtain ⟨m2, e2, s2, H2, hb2⟩ := H1.step hv hcr
    exact ⟨m2, e2, s2, H2, fun k hk => (hb1 k hk).trans (hb2 k hk)⟩

/-- One sweep catches the cat exactly if the core is one node; else the core has four at least. -/
theorem core_one {n : Nat} {r : Nat → Nat} (N : Net n r) {L : List Nat} {T : Nat} (h : Strip r n (2 ^ n - 1) L T) (hn : leastC r n T = none) :
    (szS n T = 1 ∧ (bestOf n (ranksF n r (chs n 1)) (chs n 1)).2 ≠ -1) ∨ (4 ≤ szS n T ∧ (bestOf n (ranksF n r (chs n 1)) (chs n 1)).2 = -1) := by
  obtain ⟨m, e, s, H, hb⟩ := h.sub (Sub.start N)
  have hno := H.nocorner N hn
  have hbb := hb 1 (.inl rfl)
  rcases H.net.nofew hno with hm | hm
  · subst hm
    left
    refine ⟨H.size, fun h => ?_⟩
    have h1 := hbb.1 h
    have h2 : (bestOf 1 (ranksF 1 s (chs 1 1)) (chs 1 1)).2 ≠ -1 := by
      rw [best_ne]
      refine ⟨(0, 0), (chs_mem (.inl rfl)).2 ⟨Nat.le_refl _, by omega, .inr rfl⟩, fun c hc => lev_mono (Nat.zero_le _) ?_⟩
      obtain rfl : c = 0 := by omega
      exact lev_zero.2 ⟨(chs_mem (.inl rfl)).2 ⟨Nat.le_refl _, by omega, .inr rfl⟩, ctch_iff.2 (.inl rfl)⟩
    exact h2 h1
  · right
    exact ⟨by rw [H.size]; exact hm, hbb.2 (H.net.escape (by omega) hno)⟩

end Go.Proofs.YtbkbliieappkdaaDoor.Ch
