/- A map of one's own that is ranged over: its entries' births, and the laws at 'range' and at 'next'. -/
import Derived.Test.YtmkcnpphdghbaaaMap
import Derived.Maps.RangeWalk
namespace Go.Proofs.Ytmkcnpphdghbaaa
set_option linter.unusedSimpArgs false
set_option linter.unusedVariables false
open Go.RowKit Go.Maps
section
variable {P : Program} {kt : TypeId} {K V : Type}

/-- Block b is a map whose entries are F's, each born at a time of its own. -/
def MapB (P : Program) (kt : TypeId) (enc : K → Value) (val : V → Value) (w : World) (b : Nat) (F : K → Option V) : Prop :=
  ∃ es clock, w.heap[b]? = some (.map es clock) ∧ (∀ e ∈ es.toList, ∃ x v, e.key = enc x ∧ e.val = val v ∧ F x = some v) ∧
    (∀ x v, F x = some v → ∃ e ∈ es.toList, e.key = enc x ∧ e.val = val v) ∧ es.toList.Pairwise (fun p q => p.key ≠ q.key) ∧ (∀ e ∈ es.toList, e.born < clock) ∧ (es.toList.map (·.born)).Nodup

theorem MapB.is {enc : K → Value} {val : V → Value} {w : World} {b : Nat} {F : K → Option V} (h : MapB P kt enc val w b F) : MapIs P kt enc val w b F := by
  obtain ⟨es, clock, h1, h2, h3, h4, _⟩ := h
  exact ⟨es, clock, h1, h2, h3, h4⟩
theorem MapB.lt {enc : K → Value} {val : V → Value} {w : World} {b : Nat} {F : K → Option V} (h : MapB P kt enc val w b F) : b < w.heap.size := h.is.lt
theorem MapB.below {enc : K → Value} {val : V → Value} {w w' : World} {b B : Nat} {F : K → Option V} (h : MapB P kt enc val w b F) (hb : Below B w w') (hB : b < B) : MapB P kt enc val w' b F := by
  obtain ⟨es, clock, h1, h2⟩ := h
  exact ⟨es, clock, by rw [hb.block b hB]; exact h1, h2⟩
theorem MapB.made (enc : K → Value) (val : V → Value) (w : World) : MapB P kt enc val (w.alloc (.map #[] 0)) w.heap.size (fun _ => none) :=
  ⟨#[], 0, by show (w.heap.push _)[w.heap.size]? = _; simp, by simp, by simp, by simp, by simp, by simp⟩

/-- What a store runs to. -/
theorem MapB.store {enc : K → Value} {val : V → Value} {w : World} {b : Nat} {F : K → Option V} [DecidableEq K] (h : MapB P kt enc val w b F) (KK : Keyed P kt) (hinj : ∀ x y, enc x = enc y → x = y) (hkey : ∀ x v, F x = some v → ∃ l, keyOf P kt (enc x) = some l)
    {t e : TypeId} (ht : P.underlying t = some (.map kt e)) (x : K) (v : V) (hx : ∃ l, keyOf P kt (enc x) = some l) :
    ∃ w', (Instr.mapUpdate t (.map (some b)) (enc x) (val v)).run P w = .ok () w' ∧ MapB P kt enc val w' b (fun y => if y = x then some v else F y) ∧ w.grownBy w' (some b) ∧ w'.heap.size = w.heap.size := by
  obtain ⟨es, clock, hb, h1, h2, h3, h4, h5⟩ := h
  obtain ⟨w', hrun, hM, hg, hz⟩ := MapIs.store (P := P) ⟨es, clock, hb, h1, h2, h3⟩ KK hinj hkey ht x v hx
  refine ⟨w', hrun, ?_, hg, hz⟩
  obtain ⟨lx, hlx⟩ := hx
  have hall : ∀ e ∈ es.toList, ∃ l, keyOf P kt e.key = some l := fun e he => by
    obtain ⟨y, v, hk, _, hF⟩ := h1 e he
    obtain ⟨l, hl⟩ := hkey y v hF
    exact ⟨l, by rw [hk]; exact hl⟩
  rcases KK.find w hlx es.toList hall with ⟨f1, f2⟩ | ⟨j, e0, f1, f2, f3⟩
  · have hr2 : (Instr.mapUpdate t (.map (some b)) (enc x) (val v)).run P w = .ok () (ChangeMaps.setBlock w b (.map (es.push { key := enc x, val := val v, born := clock }) (clock + 1))) := by
      simp [Instr.mapUpdate, run_underlying ht, MapKept.run_getObj_map hb, KK.check w _ hlx, f1, Result.andThen, MapKept.run_setObj_map _ hb, ChangeMaps.setBlock]
    rw [hrun] at hr2
    simp only [Result.ok.injEq, true_and] at hr2
    subst hr2
    obtain ⟨es', clock', hb', m1, m2, m3⟩ := hM
    rw [ChangeMaps.heap_setBlock_same hb _] at hb'
    simp only [Option.some.injEq, Obj.map.injEq] at hb'
    obtain ⟨rfl, rfl⟩ := hb'
    refine ⟨_, _, ChangeMaps.heap_setBlock_same hb _, m1, m2, m3, ?_, ?_⟩
    · intro e he
      simp only [Array.toList_push, List.mem_append, List.mem_singleton] at he
      rcases he with he | rfl
      · have := h4 e he; omega
      · exact Nat.lt_succ_self _
    · simp only [Array.toList_push, List.map_append, List.map_cons, List.map_nil]
      rw [List.nodup_append]
      refine ⟨h5, by simp, ?_⟩
      intro c hc d hd
      simp only [List.mem_singleton] at hd
      subst hd
      obtain ⟨e, he, rfl⟩ := List.mem_map.1 hc
      exact Nat.ne_of_lt (h4 e he)
  · have hkey0 : (es[j]?.map (·.key)).getD (enc x) = enc x := by
      have : es[j]? = some e0 := by rw [← Array.getElem?_toList]; exact f2
      rw [this]; simp [f3]
    have hr2 : (Instr.mapUpdate t (.map (some b)) (enc x) (val v)).run P w = .ok () (ChangeMaps.setBlock w b (.map (es.modify j fun e => { e with key := enc x, val := val v }) clock)) := by
      simp [Instr.mapUpdate, run_underlying ht, MapKept.run_getObj_map hb, KK.check w _ hlx, f1, Result.andThen, MapKept.run_setObj_map _ hb, ChangeMaps.setBlock, hkey0, KK.stays w hlx]
    rw [hrun] at hr2
    simp only [Result.ok.injEq, true_and] at hr2
    subst hr2
    obtain ⟨es', clock', hb', m1, m2, m3⟩ := hM
    rw [ChangeMaps.heap_setBlock_same hb _] at hb'
    simp only [Option.some.injEq, Obj.map.injEq] at hb'
    obtain ⟨rfl, rfl⟩ := hb'
    have hmb : (es.modify j fun e => { e with key := enc x, val := val v }).toList.map (·.born) = es.toList.map (·.born) := by
      apply List.ext_getElem?
      intro i
      rw [List.getElem?_map, List.getElem?_map, Array.getElem?_toList, Array.getElem?_modify, Array.getElem?_toList]
      by_cases hij : j = i
      · subst hij
        cases es[j]? <;> simp
      · simp [hij]
    refine ⟨_, _, ChangeMaps.heap_setBlock_same hb _, m1, m2, m3, ?_, by rw [hmb]; exact h5⟩
    intro e he
    have : e.born ∈ es.toList.map (·.born) := by rw [← hmb]; exact List.mem_map.2 ⟨e, he, rfl⟩
    obtain ⟨e', he', heq⟩ := List.mem_map.1 this
    rw [← heq]
    exact h4 e' he'
end

section
variable {P : Program} (w : World) {ops : Array Oper} {rest : List Oper} {o : Oper} {a : Act} {Q : Exit → Act → World → Prop}

/-- 'range m'. -/
theorem wpList_range_at (hg : o.guard = none) (m : Operand) (t : TypeId) (hop : o.op = Op.range t m) (k e : TypeId) (ht : P.underlying t = some (.map k e)) (b : Nat) (es : Array MapEntry) (clock : Nat)
    (hm : a.eval m = .map (some b)) (hb : w.heap[b]? = some (.map es clock))
    (hK : wpList P ops Q rest (a.put o.dst (.pointer (some ⟨w.heap.size, 0, none⟩))) (w.alloc (.mapIter (some b) clock #[] clock))) :
    wpList P ops Q (o :: rest) a w := by
  refine wpList_plain hg fun K' hK' => ?_
  have hrun := run_range_map (P := P) w t k e b es clock ht hb
  unfold Oper.wp
  simp [execOp, hop, hm, hrun, Result.andThen]
  exact hK' _ _ hK

/-- 'next'. -/
theorem wpList_next_at (hg : o.guard = none) (it : Operand) (hop : o.op = Op.next it false) (b r since c0 : Nat) (seen : Array Nat) (es : Array MapEntry) (clock : Nat)
    (hit : a.eval it = .pointer (some ⟨r, 0, none⟩)) (hne : r ≠ b) (hr : w.heap[r]? = some (.mapIter (some b) since seen c0)) (hb : w.heap[b]? = some (.map es clock)) (hold : ∀ x ∈ es.toList, x.born < since) (hsc : since ≤ c0)
    (hn : (es.toList.map (·.born)).Nodup)
    (hDone : (leftOf es seen).size = 0 → wpList P ops Q rest (a.put o.dst (.tuple #[.bool false])) w)
    (hMore : ∀ (e : MapEntry) (w' : World), e ∈ (leftOf es seen).toList → w.grownBy w' (some r) → w'.heap.size = w.heap.size → w'.heap[r]? = some (.mapIter (some b) since (seen.push e.born) clock) →
      (Instr.entry (.pointer (some ⟨r, 0, none⟩))).run P w' = .ok (.tuple #[e.key, e.val]) w' → wpList P ops Q rest (a.put o.dst (.tuple #[.bool true, e.key, e.val])) w') :
    wpList P ops Q (o :: rest) a w := by
  refine wpList_plain hg fun K' hK' => ?_
  unfold Oper.wp
  rcases run_next_at (P := P) w o.type r b since c0 seen es clock hr hb hold hsc with ⟨h0, hrun⟩ | ⟨e, he, w1, hal, hrun⟩
  · simp [execOp, hop, hit, hrun, Result.andThen]
    exact hK' _ _ (hDone h0)
  · simp [execOp, hop, hit, hrun, Result.andThen]
    have hr1 : w1.heap[r]? = some (.mapIter (some b) since seen c0) := by rcases hal with rfl | rfl <;> exact hr
    have hb1 : w1.heap[b]? = some (.map es clock) := by rcases hal with rfl | rfl <;> exact hb
    have hset := MapKept.heap_set (o' := .mapIter (some b) since (seen.push e.born) clock) hr1
    have hb' : (ChangeMaps.setBlock w1 r (.mapIter (some b) since (seen.push e.born) clock)).heap[b]? = some (.map es clock) := (hset.2 b (fun e1 => hne e1.symm)).trans hb1
    refine hK' _ _ (hMore e _ he ?_ ?_ hset.1 (run_entry_at _ r b since seen es clock e hset.1 hb' (mem_left he).1 hn))
    · rcases hal with rfl | rfl <;> exact ⟨rfl, rfl, rfl, by simp [ChangeMaps.setBlock], fun i _ hi => hset.2 i (fun e1 => hi (by rw [e1]))⟩
    · rcases hal with rfl | rfl <;> simp [ChangeMaps.setBlock]
end

end Go.Proofs.Ytmkcnpphdghbaaa
