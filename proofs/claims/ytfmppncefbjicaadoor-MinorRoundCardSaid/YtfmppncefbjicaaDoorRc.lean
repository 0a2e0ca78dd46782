/- A drawing region that ends in two operations in one forced order: the first comes behind all others, be it by way of others, the second behind it. The others may make memory. -/
import Derived.Test.YtfmppncefbjicaaDoorRb
namespace Go.Proofs.YtfmppncefbjicaaDoor
set_option linter.unusedSimpArgs false
set_option linter.unusedVariables false
open Go.RowKit Go.Shelf

theorem ready_snoc {q : List Oper} {t : Oper} {lst : Array Bool} {b : Bool} (hpre : ∀ (i : Nat) (o : Oper), q[i]? = some o → ∀ e ∈ o.after, e.on < i) (hon : ∀ e ∈ t.after, e.on < q.length) (hs : lst.size = q.length) :
    Region.ready .any (q ++ [t]).toArray (lst.push b) = Region.ready .any q.toArray lst ++ (if b = false ∧ (t.after.all fun e => !Region.binds .any e || lst.getD e.on false) = true then [q.length] else []) := by
  unfold Region.ready
  rw [show (q ++ [t]).toArray.size = q.length + 1 by simp, List.range_succ, List.filter_append, show q.toArray.size = q.length by simp]
  congr 1
  · refine List.filter_congr fun i hi => ?_
    have hi' := List.mem_range.1 hi
    rw [getD_push_lt hs hi']
    have e1 : (q ++ [t]).toArray[i]? = some q[i] := by simp [List.getElem?_append_left hi', hi']
    have e2 : q.toArray[i]? = some q[i] := by simp [hi']
    rw [e1, e2]
    have hafter := hpre i q[i] (by simp [hi'])
    congr 1
    simp only [Option.map_some, Option.getD_some]
    rw [Bool.eq_iff_iff, Array.all_eq_true_iff_forall_mem, Array.all_eq_true_iff_forall_mem]
    constructor <;> intro h e he <;> have h1 := h e he <;> have h2 := hafter e he
    · rwa [getD_push_lt hs (by omega)] at h1
    · rwa [getD_push_lt hs (by omega)]
  · have e1 : (q ++ [t]).toArray[q.length]? = some t := by simp
    have e3 : (lst.push b).getD q.length true = b := by simp [Array.getD, hs, Array.getElem_push]
    have e5 : (t.after.all fun e => !Region.binds .any e || (lst.push b).getD e.on false) = (t.after.all fun e => !Region.binds .any e || lst.getD e.on false) := by
      rw [Bool.eq_iff_iff, Array.all_eq_true_iff_forall_mem, Array.all_eq_true_iff_forall_mem]
      constructor <;> intro h e he <;> have h1 := h e he
      · rwa [getD_push_lt hs (hon e he)] at h1
      · rwa [getD_push_lt hs (hon e he)]
    simp only [List.filter, e1, e3, Option.map_some, Option.getD_some, e5]
    cases b <;> cases (t.after.all fun e => !Region.binds .any e || lst.getD e.on false) <;> rfl

def lastB3 (pre : List Oper) (t1 t2 : Oper) : Bool :=
  ((List.range pre.length).all fun i => match pre[i]? with
    | none => true
    | some o => (o.after.all fun e => decide (e.on < i)) && (match o.guard with | none => true | some (j, _) => decide (j < i))) &&
  ((List.range pre.length).all fun j => (t1.after.any fun e => Region.binds .any e && e.on == j) || (pre.any fun o => o.after.any fun e => Region.binds .any e && e.on == j)) && (t1.after.all fun e => decide (e.on < pre.length)) &&
  ((t2.after.any fun e => Region.binds .any e && e.on == pre.length) && (t2.after.all fun e => decide (e.on < pre.length + 1)) && t2.guard.isNone)
def t1N (t : Oper) : Oper := { t with guard := none }
theorem lastB3_B2 {pre : List Oper} {t1 t2 : Oper} (h : lastB3 pre t1 t2 = true) : lastB2 pre (t1N t1) = true := by
  unfold lastB3 at h
  unfold lastB2
  simp only [Bool.and_eq_true] at h ⊢
  exact ⟨⟨h.1.1, rfl⟩, h.1.2⟩
theorem setPush {l : Array Bool} {i k : Nat} (hs : l.size = k) (hi : i < k) (b : Bool) : (l.push b).setIfInBounds i true = (l.setIfInBounds i true).push b := by
  apply Array.ext
  · simp
  · intro j h1 h2
    simp at h1
    by_cases hji : i = j
    · subst hji
      simp [Array.getElem_push, hs, hi]
    · rw [Array.getElem_setIfInBounds_ne (by simpa using h1) hji]
      simp only [Array.getElem_push, Array.size_setIfInBounds]
      split
      · rw [Array.getElem_setIfInBounds_ne _ hji]
      · rfl
theorem setLast {l : Array Bool} {k : Nat} (hs : l.size = k) (b : Bool) : (l.push b).setIfInBounds k true = l.push true := by
  subst hs
  apply Array.ext
  · simp
  · intro j h1 h2
    simp at h1
    by_cases hji : l.size = j
    · subst hji
      simp [Array.getElem_push]
    · rw [Array.getElem_setIfInBounds_ne (by simpa using h1) hji]
      simp only [Array.getElem_push]
      rw [dif_pos (by omega), dif_pos (by omega)]

section
variable {F : Fence} {n : Nat} {P : Program} {C : World → Prop}
theorem lastAny3 {pre : List Oper} {t1 t2 : Oper} (hB : lastB3 pre t1 t2 = true) (hd : noDefer pre = true) {Q : Act → Prop} {Q' : Exit → Act → World → Prop}
    (hQ : ∀ a w, C w → Q a → Region.wanted t1 (yielded (pre ++ [t1] ++ [t2]).toArray a.tmps) = true ∧ t1.wpIn F n P a w (fun a' w' => t2.wpIn F n P a' w' (fun a'' w'' => Q' .normal a'' w'') Q') Q') :
    ∀ (fuel : Nat) (listed : Array Bool) (a : Act) (w : World), listed.size = pre.length → Clo pre listed → C w → wpAnyQIn F n P .any pre.toArray C Q fuel listed a → wpAnyIn F n P .any (pre ++ [t1] ++ [t2]).toArray Q' (fuel + 1 + 1) ((listed.push false).push false) a w := by
  have hB2 := lastB3_B2 hB
  have hB' := hB
  unfold lastB3 at hB'
  simp only [Bool.and_eq_true, List.all_eq_true, List.mem_range] at hB'
  obtain ⟨⟨_, hon1'⟩, ⟨hbind', hon2'⟩, hgd2'⟩ := hB'
  have hon1 : ∀ e ∈ t1.after, e.on < pre.length := fun e he => by simpa using (Array.all_eq_true_iff_forall_mem.1 hon1') e he
  have hon2 : ∀ e ∈ t2.after, e.on < (pre ++ [t1]).length := fun e he => by
    have := (Array.all_eq_true_iff_forall_mem.1 hon2') e he
    simpa using this
  have hgd2 : t2.guard = none := by simpa using hgd2'
  have hbind : ∃ e ∈ t2.after, Region.binds .any e = true ∧ e.on = pre.length := by
    obtain ⟨i, hi, h1⟩ := Array.any_eq_true.1 hbind'
    simp only [Bool.and_eq_true, beq_iff_eq] at h1
    exact ⟨_, Array.getElem_mem hi, h1⟩
  have hpre : ∀ (i : Nat) (o : Oper), pre[i]? = some o → ∀ e ∈ o.after, e.on < i := fun i o h => (lastB2_pre hB2 h).1
  have hpre1 : ∀ (i : Nat) (o : Oper), (pre ++ [t1])[i]? = some o → ∀ e ∈ o.after, e.on < i := by
    intro i o h e he
    by_cases hi : i < pre.length
    · rw [List.getElem?_append_left hi] at h; exact hpre i o h e he
    · have hl := (List.getElem?_eq_some_iff.1 h).1
      simp at hl
      have : i = pre.length := by omega
      subst this
      simp at h
      subst h
      exact hon1 e he
  have rd : ∀ (listed : Array Bool) (b1 b2 : Bool), listed.size = pre.length → Region.ready .any (pre ++ [t1] ++ [t2]).toArray ((listed.push b1).push b2) =
      (Region.ready .any pre.toArray listed ++ (if b1 = false ∧ (t1.after.all fun e => !Region.binds .any e || listed.getD e.on false) = true then [pre.length] else [])) ++ (if b2 = false ∧ (t2.after.all fun e => !Region.binds .any e || (listed.push b1).getD e.on false) = true then [pre.length + 1] else []) := by
    intro listed b1 b2 hs
    rw [ready_snoc hpre1 hon2 (by simp [hs]), ready_snoc hpre hon1 hs]
    simp
  have t2no : ∀ (listed : Array Bool), listed.size = pre.length → (t2.after.all fun e => !Region.binds .any e || (listed.push false).getD e.on false) = false := by
    intro listed hs
    rw [Bool.eq_false_iff]
    intro h
    obtain ⟨e, he, hb, ho⟩ := hbind
    have := Array.all_eq_true_iff_forall_mem.1 h e he
    rw [hb, ho] at this
    simp [Array.getD, hs, Array.getElem_push] at this
  have fin : ∀ (fuel : Nat) (listed : Array Bool) (a : Act) (w : World), listed.size = pre.length → C w → Region.ready .any pre.toArray listed = [] → Q a → wpAnyIn F n P .any (pre ++ [t1] ++ [t2]).toArray Q' (fuel + 1 + 1) ((listed.push false).push false) a w := by
    intro fuel listed a w hs hw hr hq
    have hall := ready_none2 hB2 hs hr
    have hr2 := rd listed false false hs
    have ha1 : (t1.after.all fun e => !Region.binds .any e || listed.getD e.on false) = true := by
      rw [Array.all_eq_true_iff_forall_mem]
      intro e he
      rw [hall _ (hon1 e he)]; simp
    rw [hr, if_pos ⟨rfl, ha1⟩, if_neg (by rw [t2no listed hs]; simp), List.nil_append, List.append_nil] at hr2
    obtain ⟨hwt, hgo⟩ := hQ a w hw hq
    refine ⟨fun h => by (rw [hr2] at h; cases h), fun i hi => ?_⟩
    rw [hr2, List.mem_singleton] at hi
    subst hi
    unfold wpOpIn
    rw [show (pre ++ [t1] ++ [t2]).toArray[pre.length]? = some t1 by simp]
    simp only [hwt, if_true]
    refine Oper.wpIn_mono ?_ hgo
    intro a1 w1 h1
    rw [setPush (k := pre.length + 1) (by simp [hs]) (by omega), setLast hs]
    have hr3 := rd listed true false hs
    have ha2 : (t2.after.all fun e => !Region.binds .any e || (listed.push true).getD e.on false) = true := by
      rw [Array.all_eq_true_iff_forall_mem]
      intro e he
      have h3 := hon2 e he
      simp at h3
      by_cases h4 : e.on = pre.length
      · rw [h4]; simp [Array.getD, hs, Array.getElem_push]
      · rw [getD_push_lt hs (by omega), hall _ (by omega)]; simp
    rw [hr, if_neg (by simp), if_pos ⟨rfl, ha2⟩, List.nil_append, List.nil_append] at hr3
    refine ⟨fun h => by (rw [hr3] at h; cases h), fun i hi => ?_⟩
    rw [hr3, List.mem_singleton] at hi
    subst hi
    unfold wpOpIn
    rw [show (pre ++ [t1] ++ [t2]).toArray[pre.length + 1]? = some t2 by simp]
    have hw2 : Region.wanted t2 (yielded (pre ++ [t1] ++ [t2]).toArray a1.tmps) = true := by unfold Region.wanted; rw [hgd2]
    simp only [hw2, if_true]
    refine Oper.wpIn_mono ?_ h1
    intro a2 w2 h2
    rw [setLast (k := pre.length + 1) (by simp [hs])]
    have hr4 := rd listed true true hs
    rw [hr, if_neg (by simp), if_neg (by simp), List.nil_append, List.nil_append] at hr4
    cases fuel with
    | zero => exact ⟨hr4, h2⟩
    | succ f => exact ⟨fun _ => h2, fun i hi => by rw [hr4] at hi; cases hi⟩
  intro fuel
  induction fuel with
  | zero => intro listed a w hs hcl hw h; exact fin 0 listed a w hs hw h.1 h.2
  | succ fuel ih =>
    intro listed a w hs hcl hw h
    by_cases hr : Region.ready .any pre.toArray listed = []
    · exact fin _ listed a w hs hw hr (h.1 hr)
    · have hnall : ¬ ∀ j, j < pre.length → listed.getD j false = true := fun hall => hr (ready_full hs hall)
      have hr2 := rd listed false false hs
      rw [if_neg (fun hx => hnall (clo_all hB2 hcl fun e he hb => by
        have := Array.all_eq_true_iff_forall_mem.1 hx.2 e he
        rw [hb] at this
        simpa using this)), if_neg (by rw [t2no listed hs]; simp), List.append_nil, List.append_nil] at hr2
      refine ⟨fun h0 => by (rw [hr2] at h0; exact absurd h0 hr), fun i hi => ?_⟩
      rw [hr2] at hi
      have hh := h.2 i hi
      have hcl' := clo_ready hs hcl hi
      have hik : i < pre.length := by
        unfold Region.ready at hi
        simpa using (List.mem_filter.1 hi).1
      have next := fun a' w' (hw' : C w') => ih (listed.setIfInBounds i true) a' w' (by simpa using hs) hcl' hw'
      rw [setPush (k := pre.length + 1) (by simp [hs]) (by omega), setPush hs hik]
      unfold qOpIn at hh
      unfold wpOpIn
      have e1 : (pre ++ [t1] ++ [t2]).toArray[i]? = some pre[i] := by
        rw [List.append_assoc]
        simp [List.getElem?_append_left hik, hik]
      have e2 : pre.toArray[i]? = some pre[i] := by simp [hik]
      rw [e2] at hh
      rw [e1]
      obtain ⟨ha, hh⟩ := hh
      have hwant : Region.wanted pre[i] (yielded (pre ++ [t1] ++ [t2]).toArray a.tmps) = Region.wanted pre[i] (yielded pre.toArray a.tmps) := by
        have hgd := (lastB2_pre hB2 (show pre[i]? = some pre[i] by simp [hik])).2
        unfold Region.wanted
        cases hg : pre[i].guard with
        | none => rfl
        | some jb =>
          obtain ⟨j, b⟩ := jb
          have hj := hgd j b hg
          have : (pre ++ [t1] ++ [t2]).toArray[j]? = pre.toArray[j]? := by
            rw [List.append_assoc]
            simp [List.getElem?_append_left (show j < pre.length by omega)]
          simp only [yielded, this]
      simp only [hwant]
      have hdi : ∀ c, pre[i].op ≠ .defer c := noDefer_at (ops := pre.toArray) (by simpa using hd) (i := i) e2
      by_cases hwt : Region.wanted pre[i] (yielded pre.toArray a.tmps) = true
      · rw [if_pos hwt] at hh
        simp only [if_pos hwt]
        exact wpIn_quiet_op hdi hw next ha hh
      · rw [if_neg hwt] at hh
        simp only [if_neg hwt]
        exact ⟨ha w hw, next _ _ hw hh⟩

/-- A region that ends in two operations in one order, the others calls among them that may make memory. -/
theorem last_two {id : Nat} {Q : Exit → Act → World → Prop} {a : Act} {w : World} {l : List Oper} (B : Nat) (w0 : World) (hw : Below B w0 w) (hm : P.follows .mixedOrders = true) (hl : l.isEmpty = false) (hl2 : (initOf l).isEmpty = false) (hB : Region.lexB .any (initOf (initOf l)).toArray = true) (hL : lastB3 (initOf (initOf l)) (lastOf (initOf l)) (lastOf l) = true) (hd : noDefer (initOf (initOf l)) = true)
    (h : wpQuietIn F n P (initOf (initOf l)).toArray (fun w' => ∃ x : BelowW B w0, w' = x.w) (fun a' => ∀ w', (∃ x : BelowW B w0, w' = x.w) → Region.wanted (lastOf (initOf l)) (yielded l.toArray a'.tmps) = true ∧ wpListIn F n P l.toArray Q [lastOf (initOf l), lastOf l] a' w') (initOf (initOf l)) a) : (Code.region id l.toArray true).wpIn F n P Q a w := by
  have hne : l ≠ [] := by intro e; subst e; cases hl
  have hne2 : initOf l ≠ [] := by intro e; rw [e] at hl2; cases hl2
  have he : l = initOf (initOf l) ++ [lastOf (initOf l)] ++ [lastOf l] := by rw [init_last _ hne2, init_last _ hne]
  have hg2 : (lastOf l).guard = none := by
    unfold lastB3 at hL
    simp only [Bool.and_eq_true] at hL
    simpa using hL.2.2
  generalize initOf (initOf l) = pre at *
  generalize lastOf (initOf l) = t1 at *
  generalize lastOf l = t2 at *
  subst he
  simp only [Region.lexB, Bool.and_eq_true] at hB
  refine wpIn_region_any hm ?_
  have hsz : (pre ++ [t1] ++ [t2]).toArray.size = pre.length + 1 + 1 := by simp
  rw [hsz]
  have hrep : Array.replicate (pre.length + 1 + 1) false = ((Array.replicate pre.length false).push false).push false := by rw [Array.replicate_succ, Array.replicate_succ]
  rw [hrep]
  refine lastAny3 (C := fun w' => ∃ x : BelowW B w0, w' = x.w) (Q := fun a' => ∀ w', (∃ x : BelowW B w0, w' = x.w) → Region.wanted t1 (yielded (pre ++ [t1] ++ [t2]).toArray a'.tmps) = true ∧ wpListIn F n P (pre ++ [t1] ++ [t2]).toArray Q [t1, t2] a' w') hL hd (fun a' w' hw' hq => ?_) _ _ _ _ (by simp) (fun i o _ h => by simp [Array.getD] at h) ⟨⟨_, hw.drew⟩, rfl⟩ ?_
  · obtain ⟨h1, h2⟩ := hq w' hw'
    refine ⟨h1, ?_⟩
    simp only [wpListIn, h1, if_true] at h2
    refine Oper.wpIn_mono ?_ h2
    intro a2 w2 h3
    have hw2 : Region.wanted t2 (yielded (pre ++ [t1] ++ [t2]).toArray a2.tmps) = true := by unfold Region.wanted; rw [hg2]
    simp only [hw2, if_true] at h3
    exact h3
  · have := wpAnyQIn_lex (F := F) (n := n) (C := fun w' => ∃ x : BelowW B w0, w' = x.w) (md := .any) hB.1 pre 0 (Array.replicate pre.length false) a (by simp) (by simpa using hB.2) h
    simpa using this
end

end Go.Proofs.YtfmppncefbjicaaDoor
