/- A drawing region whose last operation comes behind all others, be it by way of others (as last_round of Ra, whose last operation names each other one). -/
import Derived.Test.YtfmppncefbjicaaDoorRa
namespace Go.Proofs.YtfmppncefbjicaaDoor
set_option linter.unusedSimpArgs false
set_option linter.unusedVariables false
open Go.RowKit Go.Shelf

def lastB2 (pre : List Oper) (last : Oper) : Bool :=
  ((List.range pre.length).all fun i => match pre[i]? with
    | none => true
    | some o => (o.after.all fun e => decide (e.on < i)) && (match o.guard with | none => true | some (j, _) => decide (j < i))) &&
  ((List.range pre.length).all fun j => (last.after.any fun e => Region.binds .any e && e.on == j) || (pre.any fun o => o.after.any fun e => Region.binds .any e && e.on == j)) && last.guard.isNone && last.after.all fun e => decide (e.on < pre.length)
theorem lastB2_pre {pre : List Oper} {last : Oper} (h : lastB2 pre last = true) {i : Nat} {o : Oper} (ho : pre[i]? = some o) :
    (∀ e ∈ o.after, e.on < i) ∧ (∀ j b, o.guard = some (j, b) → j < i) := by
  unfold lastB2 at h
  simp only [Bool.and_eq_true, List.all_eq_true, List.mem_range] at h
  have hi := (List.getElem?_eq_some_iff.1 ho).1
  have h1 := h.1.1.1 i hi
  rw [ho] at h1
  simp only [Bool.and_eq_true] at h1
  refine ⟨fun e he => ?_, fun j b hg => ?_⟩
  · simpa using (Array.all_eq_true_iff_forall_mem.1 h1.1) e he
  · have h2 := h1.2
    rw [hg] at h2
    simpa using h2
theorem lastB2_last {pre : List Oper} {last : Oper} (h : lastB2 pre last = true) : (∀ j, j < pre.length → (∃ e ∈ last.after, Region.binds .any e = true ∧ e.on = j) ∨ ∃ o ∈ pre, ∃ e ∈ o.after, Region.binds .any e = true ∧ e.on = j) ∧ last.guard = none ∧ ∀ e ∈ last.after, e.on < pre.length := by
  unfold lastB2 at h
  simp only [Bool.and_eq_true, List.all_eq_true, List.mem_range] at h
  refine ⟨fun j hj => ?_, by simpa using h.1.2, fun e he => by simpa using (Array.all_eq_true_iff_forall_mem.1 h.2) e he⟩
  have h1 := h.1.1.2 j hj
  rw [Bool.or_eq_true] at h1
  rcases h1 with h1 | h1
  · obtain ⟨i, hi, h1⟩ := Array.any_eq_true.1 h1
    simp only [Bool.and_eq_true, beq_iff_eq] at h1
    exact .inl ⟨_, Array.getElem_mem hi, h1⟩
  · obtain ⟨o, ho, h1⟩ := List.any_eq_true.1 h1
    obtain ⟨i, hi, h1⟩ := Array.any_eq_true.1 h1
    simp only [Bool.and_eq_true, beq_iff_eq] at h1
    exact .inr ⟨o, ho, _, Array.getElem_mem hi, h1⟩
/-- What was done has been waited for. -/
def Clo (pre : List Oper) (listed : Array Bool) : Prop := ∀ (i : Nat) (o : Oper), pre[i]? = some o → listed.getD i false = true → ∀ e ∈ o.after, Region.binds .any e = true → listed.getD e.on false = true
theorem clo_all {pre : List Oper} {last : Oper} (hB : lastB2 pre last = true) {listed : Array Bool} (hc : Clo pre listed) (hl : ∀ e ∈ last.after, Region.binds .any e = true → listed.getD e.on false = true) : ∀ j, j < pre.length → listed.getD j false = true := by
  have key : ∀ d j, pre.length - j ≤ d → j < pre.length → listed.getD j false = true := by
    intro d
    induction d with
    | zero => intro j h1 h2; omega
    | succ d ih =>
      intro j h1 h2
      rcases (lastB2_last hB).1 j h2 with ⟨e, he, hb, hj⟩ | ⟨o, ho, e, he, hb, hj⟩
      · rw [← hj]; exact hl e he hb
      · obtain ⟨i, hi⟩ := List.mem_iff_getElem?.1 ho
        have hon := (lastB2_pre hB hi).1 e he
        have hil := (List.getElem?_eq_some_iff.1 hi).1
        rw [← hj]
        exact hc i o hi (ih i (by omega) hil) e he hb
  exact fun j hj => key _ j (Nat.le_refl _) hj
theorem clo_ready {pre : List Oper} {listed : Array Bool} (hs : listed.size = pre.length) (hc : Clo pre listed) {i : Nat} (hi : i ∈ Region.ready .any pre.toArray listed) : Clo pre (listed.setIfInBounds i true) := by
  unfold Region.ready at hi
  obtain ⟨h1, h2⟩ := List.mem_filter.1 hi
  have hik : i < pre.length := by simpa using h1
  have e2 : pre.toArray[i]? = some pre[i] := by simp [hik]
  rw [e2] at h2
  simp only [Option.map_some, Option.getD_some, Bool.and_eq_true, Array.all_eq_true_iff_forall_mem] at h2
  have hup : ∀ j, listed.getD j false = true → (listed.setIfInBounds i true).getD j false = true := fun j hj => by
    by_cases e : i = j
    · subst e; simp [Array.getD, hs, hik]
    · simp only [Array.getD] at hj ⊢
      split at hj
      · rename_i hjl
        rw [dif_pos (by simpa using hjl)]
        exact (Array.getElem_setIfInBounds_ne (by simpa using hjl) e).trans hj
      · cases hj
  intro k o ho hk e he hb
  by_cases hki : k = i
  · subst hki
    have : o = pre[k] := by rw [List.getElem?_eq_getElem hik] at ho; exact (Option.some.inj ho).symm
    subst this
    have := h2.2 e he
    rw [hb] at this
    exact hup _ (by simpa using this)
  · refine hup _ (hc k o ho ?_ e he hb)
    simp only [Array.getD] at hk ⊢
    split at hk
    · rename_i hjl
      rw [dif_pos (by simpa using hjl)]
      exact (Array.getElem_setIfInBounds_ne (by simpa using hjl) (fun e => hki e.symm)).symm.trans hk
    · cases hk

theorem ready_push2 {pre : List Oper} {last : Oper} (hB : lastB2 pre last = true) {listed : Array Bool} (hs : listed.size = pre.length) (hcl : Clo pre listed) :
    Region.ready .any (pre ++ [last]).toArray (listed.push false) = Region.ready .any pre.toArray listed ++ (if (∀ j, j < pre.length → listed.getD j false = true) then [pre.length] else []) := by
  unfold Region.ready
  rw [show (pre ++ [last]).toArray.size = pre.length + 1 by simp, List.range_succ, List.filter_append, show pre.toArray.size = pre.length by simp]
  congr 1
  · refine List.filter_congr fun i hi => ?_
    have hi' := List.mem_range.1 hi
    rw [getD_push_lt hs hi']
    have e1 : (pre ++ [last]).toArray[i]? = some pre[i] := by simp [List.getElem?_append_left hi', hi']
    have e2 : pre.toArray[i]? = some pre[i] := by simp [hi']
    rw [e1, e2]
    have hafter := (lastB2_pre hB (show pre[i]? = some pre[i] by simp [hi'])).1
    congr 1
    simp only [Option.map_some, Option.getD_some]
    rw [Bool.eq_iff_iff, Array.all_eq_true_iff_forall_mem, Array.all_eq_true_iff_forall_mem]
    constructor <;> intro h e he <;> have h1 := h e he <;> have h2 := hafter e he
    · rwa [getD_push_lt hs (by omega)] at h1
    · rwa [getD_push_lt hs (by omega)]
  · have e1 : (pre ++ [last]).toArray[pre.length]? = some last := by simp
    have e3 : (listed.push false).getD pre.length true = false := by simp [Array.getD, hs, Array.getElem_push]
    have e4 : (listed.push false)[pre.length]? = some false := by rw [← hs]; simp
    obtain ⟨hl, _, hon⟩ := lastB2_last hB
    by_cases hall : ∀ j, j < pre.length → listed.getD j false = true
    · rw [if_pos hall]
      have : (last.after.all fun e => !Region.binds .any e || (listed.push false).getD e.on false) = true := by
        rw [Array.all_eq_true_iff_forall_mem]
        intro e he
        rw [getD_push_lt hs (hon e he), hall _ (hon e he)]
        simp
      simp only [List.filter, e1, e3, Option.map_some, Option.getD_some, this]
      rfl
    · rw [if_neg hall]
      have : (last.after.all fun e => !Region.binds .any e || (listed.push false).getD e.on false) = false := by
        rw [Bool.eq_false_iff]
        intro h
        refine hall (clo_all hB hcl fun e he hb => ?_)
        have := Array.all_eq_true_iff_forall_mem.1 h e he
        rw [hb, getD_push_lt hs (hon e he)] at this
        simpa using this
      simp only [List.filter, e1, e3, Option.map_some, Option.getD_some, this]
      rfl

theorem ready_none2 {pre : List Oper} {last : Oper} (hB : lastB2 pre last = true) {listed : Array Bool} (hs : listed.size = pre.length) (h : Region.ready .any pre.toArray listed = []) :
    ∀ j, j < pre.length → listed.getD j false = true := by
  intro j
  induction j using Nat.strongRecOn with
  | _ j ih =>
    intro hj
    apply Classical.byContradiction
    intro hf
    have hm : j ∈ Region.ready .any pre.toArray listed := by
      unfold Region.ready
      refine List.mem_filter.2 ⟨by simpa using hj, ?_⟩
      have e2 : pre.toArray[j]? = some pre[j] := by simp [hj]
      have e5 : listed.getD j true = false := by
        have : listed.getD j true = listed.getD j false := by simp [Array.getD, hs, hj]
        rw [this]; simpa using hf
      have hafter := (lastB2_pre hB (show pre[j]? = some pre[j] by simp [hj])).1
      have : (pre[j].after.all fun e => !Region.binds .any e || listed.getD e.on false) = true := by
        rw [Array.all_eq_true_iff_forall_mem]
        intro e he
        rw [ih e.on (hafter e he) (by have := hafter e he; omega)]
        simp
      rw [e2, e5]
      simp only [Option.map_some, Option.getD_some, this]
      rfl
    rw [h] at hm; cases hm

section
variable {F : Fence} {n : Nat} {P : Program} {ops : Array Oper} {md : Region.Mode} {C : World → Prop}
theorem lastAny2 {pre : List Oper} {last : Oper} (hB : lastB2 pre last = true) (hd : noDefer pre = true) {Q : Act → Prop} {Q' : Exit → Act → World → Prop} (hQ : ∀ a w, C w → Q a → last.wpIn F n P a w (fun a' w' => Q' .normal a' w') Q') :
    ∀ (fuel : Nat) (listed : Array Bool) (a : Act) (w : World), listed.size = pre.length → Clo pre listed → C w → wpAnyQIn F n P .any pre.toArray C Q fuel listed a → wpAnyIn F n P .any (pre ++ [last]).toArray Q' (fuel + 1) (listed.push false) a w := by
  have fin : ∀ (fuel : Nat) (listed : Array Bool) (a : Act) (w : World), listed.size = pre.length → Clo pre listed → C w → Region.ready .any pre.toArray listed = [] → Q a → wpAnyIn F n P .any (pre ++ [last]).toArray Q' (fuel + 1) (listed.push false) a w := by
    intro fuel listed a w hs hcl hw hr hq
    have hall := ready_none2 hB hs hr
    have hr2 := ready_push2 hB hs hcl
    rw [hr, if_pos hall, List.nil_append] at hr2
    refine ⟨fun h => by (rw [hr2] at h; cases h), fun i hi => ?_⟩
    rw [hr2, List.mem_singleton] at hi
    subst hi
    unfold wpOpIn
    rw [show (pre ++ [last]).toArray[pre.length]? = some last by simp]
    have hg : Region.wanted last (yielded (pre ++ [last]).toArray a.tmps) = true := by unfold Region.wanted; rw [(lastB2_last hB).2.1]
    simp only [hg, if_true]
    refine Oper.wpIn_mono ?_ (hQ a w hw hq)
    intro a' w' hq'
    have hr3 : Region.ready .any (pre ++ [last]).toArray ((listed.push false).setIfInBounds pre.length true) = [] := by
      refine ready_full (by simp [hs]) fun j hj => ?_
      by_cases hj' : j = pre.length
      · subst hj'; simp [Array.getD, hs]
      · have h1 := hall j (by simp at hj; omega)
        have : j < pre.length := by simp at hj; omega
        simp [Array.getD, hs, this, Array.getElem_push] at h1 ⊢
        refine ⟨by omega, ?_⟩
        rw [Array.getElem_setIfInBounds_ne (by simp [hs]; omega) (by omega)]
        simp [Array.getElem_push, hs, this, h1]
    cases fuel with
    | zero => exact ⟨hr3, hq'⟩
    | succ f => exact ⟨fun _ => hq', fun i hi => by rw [hr3] at hi; cases hi⟩
  intro fuel
  induction fuel with
  | zero => intro listed a w hs hcl hw h; exact fin 0 listed a w hs hcl hw h.1 h.2
  | succ fuel ih =>
    intro listed a w hs hcl hw h
    by_cases hr : Region.ready .any pre.toArray listed = []
    · exact fin _ listed a w hs hcl hw hr (h.1 hr)
    · have hnall : ¬ ∀ j, j < pre.length → listed.getD j false = true := fun hall => hr (ready_full hs hall)
      have hr2 := ready_push2 hB hs hcl
      rw [if_neg hnall, List.append_nil] at hr2
      refine ⟨fun h0 => by (rw [hr2] at h0; exact absurd h0 hr), fun i hi => ?_⟩
      rw [hr2] at hi
      have hh := h.2 i hi
      have hcl' := clo_ready hs hcl hi
      have hik : i < pre.length := by
        unfold Region.ready at hi
        simpa using (List.mem_filter.1 hi).1
      have hset : (listed.push false).setIfInBounds i true = (listed.setIfInBounds i true).push false := by
        apply Array.ext
        · simp
        · intro j h1 h2
          simp at h1
          by_cases hji : i = j
          · subst hji
            simp [Array.getElem_push, hs, hik]
          · rw [Array.getElem_setIfInBounds_ne (by simpa using h1) hji]
            simp only [Array.getElem_push, Array.size_setIfInBounds]
            split
            · rw [Array.getElem_setIfInBounds_ne _ hji]
            · rfl
      have next := fun a' w' (hw' : C w') => ih (listed.setIfInBounds i true) a' w' (by simpa using hs) hcl' hw'
      rw [hset]
      unfold qOpIn at hh
      unfold wpOpIn
      have e1 : (pre ++ [last]).toArray[i]? = some pre[i] := by simp [List.getElem?_append_left hik, hik]
      have e2 : pre.toArray[i]? = some pre[i] := by simp [hik]
      rw [e2] at hh
      rw [e1]
      obtain ⟨ha, hh⟩ := hh
      have hwant : Region.wanted pre[i] (yielded (pre ++ [last]).toArray a.tmps) = Region.wanted pre[i] (yielded pre.toArray a.tmps) := by
        have hgd := (lastB2_pre hB (show pre[i]? = some pre[i] by simp [hik])).2
        unfold Region.wanted
        cases hg : pre[i].guard with
        | none => rfl
        | some jb =>
          obtain ⟨j, b⟩ := jb
          have hj := hgd j b hg
          have : (pre ++ [last]).toArray[j]? = pre.toArray[j]? := by simp [List.getElem?_append_left (show j < pre.length by omega)]
          simp only [yielded, this]
      simp only [hwant]
      have hdi : ∀ c, pre[i].op ≠ .defer c := noDefer_at (ops := pre.toArray) (by simpa using hd) (i := i) e2
      by_cases hwt : Region.wanted pre[i] (yielded pre.toArray a.tmps) = true
      · rw [if_pos hwt] at hh
        simp only [if_pos hwt]
        exact wpIn_quiet_op hdi hw next ha hh
      · rw [if_neg hwt] at hh
        simp only [if_neg hwt]
        exact ⟨ha w hw, next _ _ hw hh⟩

/-- A region whose last operation comes behind all others. -/
theorem last_round2 {id : Nat} {Q : Exit → Act → World → Prop} {a : Act} {w : World} {l : List Oper} (hm : P.follows .mixedOrders = true) (hl : l.isEmpty = false) (hB : Region.lexB .any (initOf l).toArray = true) (hL : lastB2 (initOf l) (lastOf l) = true) (hd : noDefer (initOf l) = true)
    (h : wpQuietIn F n P (initOf l).toArray (fun w' => ∃ n, w' = w.drewN n) (fun a' => ∀ w', (∃ n, w' = w.drewN n) → wpListIn F n P [lastOf l].toArray Q [lastOf l] a' w') (initOf l) a) : (Code.region id l.toArray true).wpIn F n P Q a w := by
  have hne : l ≠ [] := by intro e; subst e; cases hl
  have hsz : l.toArray.size = (initOf l).length + 1 := by
    have := congrArg List.length (init_last l hne)
    simp at this ⊢
    omega
  have hl' : l.toArray = (initOf l ++ [lastOf l]).toArray := by rw [init_last l hne]
  simp only [Region.lexB, Bool.and_eq_true] at hB
  refine wpIn_region_any hm ?_
  rw [hsz, hl']
  have hrep : Array.replicate ((initOf l).length + 1) false = (Array.replicate (initOf l).length false).push false := Array.replicate_succ
  rw [hrep]
  refine lastAny2 (C := fun w' => ∃ n, w' = w.drewN n) (Q := fun a' => ∀ w', (∃ n, w' = w.drewN n) → wpListIn F n P [lastOf l].toArray Q [lastOf l] a' w') hL hd ?_ _ _ _ _ (by simp) (fun i o _ h => by simp [Array.getD] at h) ⟨1, rfl⟩ ?_
  · intro a' w' hw' hq
    have := hq w' hw'
    have hg : Region.wanted (lastOf l) (yielded [lastOf l].toArray a'.tmps) = true := by unfold Region.wanted; rw [(lastB2_last hL).2.1]
    simp only [wpListIn, hg, if_true] at this
    exact this
  · have := wpAnyQIn_lex (F := F) (n := n) (C := fun w' => ∃ n, w' = w.drewN n) (md := .any) hB.1 (initOf l) 0 (Array.replicate (initOf l).length false) a (by simp) (by simpa using hB.2) h
    simpa using this
end

end Go.Proofs.YtfmppncefbjicaaDoor
