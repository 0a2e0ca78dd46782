/- The size of the core doesn't hang on the order in which corners are taken away, nor on the nodes' names. -/
import Derived.Test.YtmkcnpphdghbaaaS15
namespace Go.Proofs.Ytmkcnpphdghbaaa
set_option linter.unusedSimpArgs false
set_option linter.unusedVariables false
open Go.RowKit

theorem nodup_map_on {α β : Type} {f : α → β} : ∀ {l : List α}, l.Nodup → (∀ x ∈ l, ∀ y ∈ l, f x = f y → x = y) → (l.map f).Nodup
  | [], _, _ => List.nodup_nil
  | a :: l, hd, hi => by
    rw [List.nodup_cons] at hd
    rw [List.map_cons, List.nodup_cons]
    refine ⟨fun h => ?_, nodup_map_on hd.2 fun x hx y hy => hi x (by simp [hx]) y (by simp [hy])⟩
    obtain ⟨b, hb, e⟩ := List.mem_map.1 h
    exact hd.1 (by rw [← hi b (by simp [hb]) a (by simp) e]; exact hb)
theorem len_of_map {α β : Type} {f : α → β} {l : List α} {l' : List β} (d : l.Nodup) (d' : l'.Nodup) (hi : ∀ x ∈ l, ∀ y ∈ l, f x = f y → x = y) (hm : ∀ b, b ∈ l' ↔ ∃ a ∈ l, f a = b) : l.length = l'.length := by
  have p : (l.map f).Perm l' := (List.perm_ext_iff_of_nodup (nodup_map_on d hi) d').2 fun b => by rw [List.mem_map]; exact (hm b).symm
  have := p.length_eq
  rwa [List.length_map] at this

/-- The nodes of two sets, renamed. -/
structure Iso (n : Nat) (r r' : Nat → Nat) (S S' : Nat) (f : Nat → Nat) : Prop where
  lt : ∀ v, v < n → S.testBit v = true → f v < n
  mem : ∀ v, v < n → S.testBit v = true → S'.testBit (f v) = true
  inj : ∀ v u, v < n → u < n → S.testBit v = true → S.testBit u = true → f v = f u → v = u
  onto : ∀ w, w < n → S'.testBit w = true → ∃ v, v < n ∧ S.testBit v = true ∧ f v = w
  bit : ∀ v u, v < n → u < n → S.testBit v = true → S.testBit u = true → (r' (f v)).testBit (f u) = (r v).testBit u

theorem Iso.size {n : Nat} {r r' : Nat → Nat} {S S' : Nat} {f : Nat → Nat} (I : Iso n r r' S S' f) : szS n S = szS n S' := by
  unfold szS
  rw [List.countP_eq_length_filter, List.countP_eq_length_filter]
  refine len_of_map (f := f) (List.nodup_range.filter _) (List.nodup_range.filter _) (fun x hx y hy h => ?_) (fun b => ?_)
  · rw [List.mem_filter, List.mem_range] at hx hy
    exact I.inj x y hx.1 hy.1 hx.2 hy.2 h
  · rw [List.mem_filter, List.mem_range]
    constructor
    · rintro ⟨h1, h2⟩
      obtain ⟨v, hv, hS, rfl⟩ := I.onto b h1 h2
      exact ⟨v, by rw [List.mem_filter, List.mem_range]; exact ⟨hv, hS⟩, rfl⟩
    · rintro ⟨v, hv, rfl⟩
      rw [List.mem_filter, List.mem_range] at hv
      exact ⟨I.lt v hv.1 hv.2, I.mem v hv.1 hv.2⟩
theorem Iso.crn {n : Nat} {r r' : Nat → Nat} {S S' : Nat} {f : Nat → Nat} (I : Iso n r r' S S' f) (hr' : ∀ v u, v < n → (r' v).testBit u = true → u < n) {v : Nat} (hv : v < n) (h : crnTo r S v n = true) : crnTo r' S' (f v) n = true := by
  obtain ⟨h1, u, hu, h2, h3, h4⟩ := crnTo_iff.1 h
  refine crnTo_iff.2 ⟨I.mem v hv h1, f u, I.lt u hu h2, I.mem u hu h2, fun e => h3 (I.inj u v hu hv h2 h1 e), fun d hd hS => ?_⟩
  obtain ⟨x, hx, hxS, rfl⟩ := I.onto d (hr' _ _ (I.lt v hv h1) hd) hS
  rw [I.bit v x hv hx h1 hxS] at hd
  rw [I.bit u x hu hx h2 hxS]
  exact h4 x hd hxS
theorem Iso.crn_back {n : Nat} {r r' : Nat → Nat} {S S' : Nat} {f : Nat → Nat} (I : Iso n r r' S S' f) (hr : ∀ v u, v < n → (r v).testBit u = true → u < n) {v : Nat} (hv : v < n) (hS : S.testBit v = true) (h : crnTo r' S' (f v) n = true) : crnTo r S v n = true := by
  obtain ⟨-, u', hu', h2, h3, h4⟩ := crnTo_iff.1 h
  obtain ⟨u, hu, huS, rfl⟩ := I.onto u' hu' h2
  refine crnTo_iff.2 ⟨hS, u, hu, huS, fun e => h3 (by rw [e]), fun d hd hdS => ?_⟩
  have hdn := hr v d hv hd
  rw [← I.bit u d hu hdn huS hdS]
  rw [← I.bit v d hv hdn hS hdS] at hd
  exact h4 (f d) hd (I.mem d hdn hdS)
theorem Iso.off {n : Nat} {r r' : Nat → Nat} {S S' : Nat} {f : Nat → Nat} (I : Iso n r r' S S' f) {v : Nat} (hv : v < n) (hS : S.testBit v = true) : Iso n r r' (diff S (2 ^ v)) (diff S' (2 ^ f v)) f := by
  have hoff : ∀ x, (diff S (2 ^ v)).testBit x = true → S.testBit x = true ∧ v ≠ x := fun x h => by
    rw [testBit_off, Bool.and_eq_true, Bool.not_eq_true', decide_eq_false_iff_not] at h; exact h
  refine ⟨fun x hx h => I.lt x hx (hoff x h).1, fun x hx h => ?_, fun x y hx hy h h' e => I.inj x y hx hy (hoff x h).1 (hoff y h').1 e, fun w hw h => ?_, fun x y hx hy h h' => I.bit x y hx hy (hoff x h).1 (hoff y h').1⟩
  · obtain ⟨h1, h2⟩ := hoff x h
    rw [testBit_off, I.mem x hx h1, Bool.true_and, Bool.not_eq_true', decide_eq_false_iff_not]
    exact fun e => h2 (I.inj v x hv hx hS h1 e)
  · rw [testBit_off, Bool.and_eq_true, Bool.not_eq_true', decide_eq_false_iff_not] at h
    obtain ⟨x, hx, hxS, rfl⟩ := I.onto w hw h.1
    refine ⟨x, hx, ?_, rfl⟩
    rw [testBit_off, hxS, Bool.true_and, Bool.not_eq_true', decide_eq_false_iff_not]
    exact fun e => h.2 (by rw [e])
theorem Iso.trans {n : Nat} {r r' r'' : Nat → Nat} {S S' S'' : Nat} {f g : Nat → Nat} (I : Iso n r r' S S' f) (J : Iso n r' r'' S' S'' g) : Iso n r r'' S S'' (fun x => g (f x)) :=
  ⟨fun v hv h => J.lt _ (I.lt v hv h) (I.mem v hv h), fun v hv h => J.mem _ (I.lt v hv h) (I.mem v hv h),
    fun v u hv hu h h' e => I.inj v u hv hu h h' (J.inj _ _ (I.lt v hv h) (I.lt u hu h') (I.mem v hv h) (I.mem u hu h') e),
    fun w hw h => by
      obtain ⟨x, hx, hxS, rfl⟩ := J.onto w hw h
      obtain ⟨y, hy, hyS, rfl⟩ := I.onto x hx hxS
      exact ⟨y, hy, hyS, rfl⟩,
    fun v u hv hu h h' => by rw [J.bit _ _ (I.lt v hv h) (I.lt u hu h') (I.mem v hv h) (I.mem u hu h'), I.bit v u hv hu h h']⟩
theorem Iso.same {n : Nat} {r : Nat → Nat} (S : Nat) : Iso n r r S S id :=
  ⟨fun _ h _ => h, fun _ _ h => h, fun _ _ _ _ _ _ e => e, fun w hw h => ⟨w, hw, h, rfl⟩, fun _ _ _ _ _ _ => rfl⟩
/-- Two nodes that reach the same within a set may stand for each other. -/
theorem Iso.twin {n : Nat} {r : Nat → Nat} {S v w : Nat} (hsym : ∀ x y, x < n → y < n → (r x).testBit y = (r y).testBit x) (hrefl : ∀ x, x < n → (r x).testBit x = true) (hv : v < n) (hw : w < n) (hvS : S.testBit v = true) (hwS : S.testBit w = true) (hvw : v ≠ w)
    (h : ∀ d, d < n → S.testBit d = true → (r v).testBit d = (r w).testBit d) : Iso n r r (diff S (2 ^ v)) (diff S (2 ^ w)) (fun x => if x = w then v else x) := by
  have hoff : ∀ a x, (diff S (2 ^ a)).testBit x = true ↔ S.testBit x = true ∧ a ≠ x := fun a x => by
    rw [testBit_off, Bool.and_eq_true, Bool.not_eq_true', decide_eq_false_iff_not]
  refine ⟨fun x hx _ => by split <;> omega, fun x hx hS => ?_, fun x y hx hy hS hS' e => ?_, fun x hx hS => ?_, fun x y hx hy hS hS' => ?_⟩
  · rw [hoff] at hS ⊢
    split
    · exact ⟨hvS, Ne.symm hvw⟩
    · rename_i h1; exact ⟨hS.1, Ne.symm h1⟩
  · rw [hoff] at hS hS'
    split at e <;> split at e
    · omega
    · exact absurd e hS'.2
    · exact absurd e.symm hS.2
    · exact e
  · rw [hoff] at hS
    by_cases hxv : x = v
    · exact ⟨w, hw, (hoff v w).2 ⟨hwS, hvw⟩, by rw [if_pos rfl, hxv]⟩
    · exact ⟨x, hx, (hoff v x).2 ⟨hS.1, Ne.symm hxv⟩, by rw [if_neg (Ne.symm hS.2)]⟩
  · rw [hoff] at hS hS'
    split
    · rename_i h1
      subst h1
      split
      · rename_i h2
        subst h2
        rw [hrefl v hv, hrefl _ hx]
      · exact h y hy hS'.1
    · split
      · rename_i h2
        subst h2
        rw [hsym x v hx hv, hsym x y hx hy]
        exact h x hx hS.1
      · rfl

/-- How many nodes are left when corners are taken away in some order, as long as there are any. -/
inductive Ends (r : Nat → Nat) (n : Nat) : Nat → Nat → Prop
  | stop {S : Nat} : (∀ v, v < n → crnTo r S v n = false) → Ends r n S (szS n S)
  | take {S v c : Nat} : v < n → crnTo r S v n = true → Ends r n (diff S (2 ^ v)) c → Ends r n S c

theorem Ends.some {r : Nat → Nat} {n : Nat} : ∀ (k S : Nat), szS n S ≤ k → ∃ c, Ends r n S c
  | 0, S, h => ⟨szS n S, .stop fun v hv => by
      cases hc : crnTo r S v n
      · rfl
      · have := szS_lt hv (crnTo_in hc); omega⟩
  | k + 1, S, h => by
    by_cases hno : ∀ v, v < n → crnTo r S v n = false
    · exact ⟨_, .stop hno⟩
    · obtain ⟨v, hv, hc⟩ : ∃ v, v < n ∧ crnTo r S v n = true := by
        apply Classical.byContradiction
        intro hn
        apply hno
        intro v hv
        cases hc : crnTo r S v n
        · rfl
        · exact absurd ⟨v, hv, hc⟩ hn
      obtain ⟨c, hE⟩ := Ends.some (r := r) (n := n) k (diff S (2 ^ v)) (by have := szS_lt hv (crnTo_in hc); omega)
      exact ⟨c, .take hv hc hE⟩

/-- A corner stays one when another node goes, unless that one alone covers it. -/
theorem crn_stays {r : Nat → Nat} {n S v w : Nat} (hwS : S.testBit w = true) (hvw : v ≠ w) {x : Nat} (hx : x < n) (hxS : S.testBit x = true) (hxw : x ≠ w) (hxv : x ≠ v) (h : ∀ d, (r w).testBit d = true → S.testBit d = true → (r x).testBit d = true) :
    crnTo r (diff S (2 ^ v)) w n = true := by
  refine crnTo_iff.2 ⟨?_, x, hx, ?_, hxw, fun d hd hS => h d hd ?_⟩
  · rw [testBit_off, hwS]; simp [hvw]
  · rw [testBit_off, hxS]; simp [Ne.symm hxv]
  · rw [testBit_off, Bool.and_eq_true] at hS; exact hS.1

theorem Ends.same {n : Nat} {r r' : Nat → Nat} (N : Net n r) (N' : Net n r') : ∀ (k : Nat) {S S' : Nat} {f : Nat → Nat} {c c' : Nat}, szS n S ≤ k → Iso n r r' S S' f → Ends r n S c → Ends r' n S' c' → c = c' := by
  intro k
  induction k generalizing r r' with
  | zero =>
    intro S S' f c c' hk I h h'
    have hs := I.size
    cases h with
    | stop h0 =>
      cases h' with
      | stop h0' => exact hs
      | take hv hc _ => have := szS_lt hv (crnTo_in hc); omega
    | take hv hc _ => have := szS_lt hv (crnTo_in hc); omega
  | succ k ih =>
    intro S S' f c c' hk I h h'
    cases h with
    | stop h0 =>
      cases h' with
      | stop h0' => exact I.size
      | @take _ v' _ hv' hc' _ =>
        exfalso
        obtain ⟨v, hv, hvS, rfl⟩ := I.onto v' hv' (crnTo_in hc')
        have := I.crn_back N.rin hv hvS hc'
        rw [h0 v hv] at this
        cases this
    | @take _ v _ hv hc hE =>
      have hvS := crnTo_in hc
      have hlt := szS_lt hv hvS
      cases h' with
      | stop h0' =>
        exfalso
        have := I.crn N'.rin hv hc
        rw [h0' _ (I.lt v hv hvS)] at this
        cases this
      | @take _ v' _ hv' hc' hE' =>
        obtain ⟨w, hw, hwS, rfl⟩ := I.onto v' hv' (crnTo_in hc')
        have hcw := I.crn_back N.rin hw hwS hc'
        have hltw := szS_lt hw hwS
        by_cases hvw : v = w
        · subst hvw
          exact ih N N' (by omega) (I.off hv hvS) hE hE'
        obtain ⟨-, u, hu, huS, huv, hcu⟩ := crnTo_iff.1 hc
        obtain ⟨-, x, hx, hxS, hxw, hcx⟩ := crnTo_iff.1 hcw
        -- twins: the one goes for the other
        have htwin : (∀ d, d < n → S.testBit d = true → (r v).testBit d = (r w).testBit d) → c = c' := fun ht =>
          ih N N' (by omega) ((Iso.twin N.sym N.refl hv hw hvS hwS hvw ht).trans (I.off hw hwS)) hE hE'
        by_cases hxv : x = v
        · subst hxv
          by_cases huw : u = w
          · subst huw
            refine htwin fun d hd hS => ?_
            rw [Bool.eq_iff_iff]
            exact ⟨fun h => hcu d h hS, fun h => hcx d h hS⟩
          · -- u covers w, too
            have hcw1 := crn_stays (v := x) hwS hvw hu huS huw huv fun d hd hS => hcu d (hcx d hd hS) hS
            by_cases hcv1 : crnTo r (diff S (2 ^ w)) x n = true
            · obtain ⟨e, hEe⟩ := Ends.some (r := r) (n := n) _ (diff (diff S (2 ^ x)) (2 ^ w)) (Nat.le_refl _)
              have hcomm : diff (diff S (2 ^ x)) (2 ^ w) = diff (diff S (2 ^ w)) (2 ^ x) := by
                apply Nat.eq_of_testBit_eq
                intro i
                rw [testBit_off, testBit_off, testBit_off, testBit_off, Bool.and_assoc, Bool.and_assoc, Bool.and_comm (!decide (x = i))]
              have e1 := ih N N (by omega) (Iso.same _) hE (Ends.take hw hcw1 hEe)
              have e2 := ih N N' (by omega) (I.off hw hwS) (Ends.take hv hcv1 (by rw [← hcomm]; exact hEe)) hE'
              rw [e1, e2]
            · exfalso
              apply hcv1
              exact crn_stays (v := w) hvS (Ne.symm hvw) hu huS huv huw hcu
        · have hcw1 := crn_stays (v := v) hwS hvw hx hxS hxw hxv hcx
          have hcv1 : crnTo r (diff S (2 ^ w)) v n = true := by
            by_cases huw : u = w
            · subst huw
              exact crn_stays (v := u) hvS (Ne.symm hvw) hx hxS hxv hxw fun d hd hS => hcx d (hcu d hd hS) hS
            · exact crn_stays (v := w) hvS (Ne.symm hvw) hu huS huv huw hcu
          obtain ⟨e, hEe⟩ := Ends.some (r := r) (n := n) _ (diff (diff S (2 ^ v)) (2 ^ w)) (Nat.le_refl _)
          have hcomm : diff (diff S (2 ^ v)) (2 ^ w) = diff (diff S (2 ^ w)) (2 ^ v) := by
            apply Nat.eq_of_testBit_eq
            intro i
            rw [testBit_off, testBit_off, testBit_off, testBit_off, Bool.and_assoc, Bool.and_assoc, Bool.and_comm (!decide (v = i))]
          have e1 := ih N N (by omega) (Iso.same _) hE (Ends.take hw hcw1 hEe)
          have e2 := ih N N' (by omega) (I.off hw hwS) (Ends.take hv hcv1 (by rw [← hcomm]; exact hEe)) hE'
          rw [e1, e2]

theorem Strip.ends {r : Nat → Nat} {n S : Nat} {L : List Nat} {T : Nat} (h : Strip r n S L T) {c : Nat} (hE : Ends r n T c) : Ends r n S c := by
  induction h with
  | start => exact hE
  | step h0 h1 ih =>
    obtain ⟨h2, h3⟩ := leastC_some h1
    exact ih (.take h2 h3 hE)
/-- The cores of two graphs that differ in the nodes' names alone have as many nodes. -/
theorem core_size {n : Nat} {r r' : Nat → Nat} (N : Net n r) (N' : Net n r') {f : Nat → Nat} (I : Iso n r r' (2 ^ n - 1) (2 ^ n - 1) f) {L L' : List Nat} {T T' : Nat} (h : Strip r n (2 ^ n - 1) L T) (hn : leastC r n T = none)
    (h' : Strip r' n (2 ^ n - 1) L' T') (hn' : leastC r' n T' = none) : szS n T = szS n T' := by
  have hst : ∀ {r : Nat → Nat} {T : Nat}, leastC r n T = none → ∀ v, v < n → crnTo r T v n = false := fun {r T} h v hv => by
    unfold leastC at h
    rw [List.find?_range_eq_none] at h
    simpa using h v hv
  exact Ends.same N N' n (szS_le n _) I (h.ends (.stop (hst hn))) (h'.ends (.stop (hst hn')))

end Go.Proofs.Ytmkcnpphdghbaaa
