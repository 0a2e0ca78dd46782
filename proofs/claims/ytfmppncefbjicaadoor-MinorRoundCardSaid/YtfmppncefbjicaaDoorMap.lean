/- A map of one's own whose keys are structs, arrays or numbers: what a block holds, read as a partial function of plain keys. -/
import Derived.Test.YtfmppncefbjicaaDoorLib
import Derived.Maps.Keyed
import Derived.DeepKeys4
namespace Go.Proofs.YtfmppncefbjicaaDoor
set_option linter.unusedSimpArgs false
set_option linter.unusedVariables false
open Go.RowKit Go.Maps
section
variable {P : Program} {kt : TypeId} {K V : Type}

/-- Block b is a map whose entries are F's: a key x lies there as enc x, its value as val v. -/
def MapIs (P : Program) (kt : TypeId) (enc : K → Value) (val : V → Value) (w : World) (b : Nat) (F : K → Option V) : Prop :=
  ∃ es clock, w.heap[b]? = some (.map es clock) ∧ (∀ e ∈ es.toList, ∃ x v, e.key = enc x ∧ e.val = val v ∧ F x = some v) ∧
    (∀ x v, F x = some v → ∃ e ∈ es.toList, e.key = enc x ∧ e.val = val v) ∧ es.toList.Pairwise (fun p q => p.key ≠ q.key)

theorem MapIs.lt {enc : K → Value} {val : V → Value} {w : World} {b : Nat} {F : K → Option V} (h : MapIs P kt enc val w b F) : b < w.heap.size := by
  obtain ⟨es, clock, hb, _⟩ := h
  exact (Array.getElem?_eq_some_iff.1 hb).1
theorem MapIs.below {enc : K → Value} {val : V → Value} {w w' : World} {b B : Nat} {F : K → Option V} (h : MapIs P kt enc val w b F) (hb : Below B w w') (hB : b < B) : MapIs P kt enc val w' b F := by
  obtain ⟨es, clock, h1, h2⟩ := h
  exact ⟨es, clock, by rw [hb.block b hB]; exact h1, h2⟩
theorem MapIs.setCell {enc : K → Value} {val : V → Value} {w : World} {b : Nat} {F : K → Option V} (h : MapIs P kt enc val w b F) (a : Addr) (u : Value) (ha : b ≠ a.block) : MapIs P kt enc val (w.setCell a u) b F := by
  obtain ⟨es, clock, h1, h2⟩ := h
  exact ⟨es, clock, by rw [Below.heap_setCell _ _ _ _ ha]; exact h1, h2⟩
theorem MapIs.made (enc : K → Value) (val : V → Value) (w : World) : MapIs P kt enc val (w.alloc (.map #[] 0)) w.heap.size (fun _ => none) :=
  ⟨#[], 0, by show (w.heap.push _)[w.heap.size]? = _; simp, by simp, by simp, by simp⟩
theorem MapIs.congr {enc : K → Value} {val : V → Value} {w : World} {b : Nat} {F G : K → Option V} (h : MapIs P kt enc val w b F) (hFG : ∀ x, F x = G x) : MapIs P kt enc val w b G := by
  have : F = G := funext hFG
  rw [← this]; exact h

/-- What a look-up runs to. -/
theorem MapIs.look {enc : K → Value} {val : V → Value} {w : World} {b : Nat} {F : K → Option V} (h : MapIs P kt enc val w b F) (KK : Keyed P kt) (hinj : ∀ x y, enc x = enc y → x = y) (hkey : ∀ x v, F x = some v → ∃ l, keyOf P kt (enc x) = some l)
    {t e : TypeId} (ht : P.underlying t = some (.map kt e)) {z : Value} (hz : (zeroValue e).run P w = .ok z w) (c : Bool) (x : K) (hx : ∃ l, keyOf P kt (enc x) = some l) :
    (Instr.lookup t (.map (some b)) (enc x) c).run P w = .ok (match F x with | some v => (if c then .tuple #[val v, .bool true] else val v) | none => (if c then .tuple #[z, .bool false] else z)) w := by
  obtain ⟨es, clock, hb, h1, h2, h3⟩ := h
  obtain ⟨lx, hlx⟩ := hx
  have hall : ∀ e ∈ es.toList, ∃ l, keyOf P kt e.key = some l := fun e he => by
    obtain ⟨y, v, hk, _, hF⟩ := h1 e he
    obtain ⟨l, hl⟩ := hkey y v hF
    exact ⟨l, by rw [hk]; exact hl⟩
  rcases KK.find w hlx es.toList hall with ⟨f1, f2⟩ | ⟨j, e0, f1, f2, f3⟩
  · have hn : F x = none := by
      cases hF : F x with
      | none => rfl
      | some v =>
        obtain ⟨e, he, hk, _⟩ := h2 x v hF
        exact absurd hk (f2 e he)
    rw [hn]
    simp [Instr.lookup, run_underlying ht, MapKept.run_getObj_map hb, KK.check w _ hlx, f1, hz, Result.andThen]
  · have hm : e0 ∈ es.toList := List.mem_of_getElem? f2
    obtain ⟨y, v, hk, hv, hF⟩ := h1 e0 hm
    have hxy : y = x := hinj _ _ (by rw [← hk, f3])
    subst hxy
    rw [hF]
    simp [Instr.lookup, run_underlying ht, MapKept.run_getObj_map hb, KK.check w _ hlx, f1, hv, Result.andThen]

/-- What a store runs to: the block reads as F with x at v; no other block has turned. -/
theorem MapIs.store {enc : K → Value} {val : V → Value} {w : World} {b : Nat} {F : K → Option V} [DecidableEq K] (h : MapIs P kt enc val w b F) (KK : Keyed P kt) (hinj : ∀ x y, enc x = enc y → x = y) (hkey : ∀ x v, F x = some v → ∃ l, keyOf P kt (enc x) = some l)
    {t e : TypeId} (ht : P.underlying t = some (.map kt e)) (x : K) (v : V) (hx : ∃ l, keyOf P kt (enc x) = some l) :
    ∃ w', (Instr.mapUpdate t (.map (some b)) (enc x) (val v)).run P w = .ok () w' ∧ MapIs P kt enc val w' b (fun y => if y = x then some v else F y) ∧ w.grownBy w' (some b) ∧ w'.heap.size = w.heap.size := by
  obtain ⟨es, clock, hb, h1, h2, h3⟩ := h
  obtain ⟨lx, hlx⟩ := hx
  have hall : ∀ e ∈ es.toList, ∃ l, keyOf P kt e.key = some l := fun e he => by
    obtain ⟨y, v, hk, _, hF⟩ := h1 e he
    obtain ⟨l, hl⟩ := hkey y v hF
    exact ⟨l, by rw [hk]; exact hl⟩
  have grown : ∀ o, w.grownBy (ChangeMaps.setBlock w b o) (some b) := fun o => ⟨rfl, rfl, rfl, by simp [ChangeMaps.setBlock], fun i _ hi => ChangeMaps.heap_setBlock_other hb _ (fun e => hi (by rw [e]))⟩
  rcases KK.find w hlx es.toList hall with ⟨f1, f2⟩ | ⟨j, e0, f1, f2, f3⟩
  · refine ⟨ChangeMaps.setBlock w b (.map (es.push { key := enc x, val := val v, born := clock }) (clock + 1)), ?_, ⟨_, _, ChangeMaps.heap_setBlock_same hb _, ?_, ?_, ?_⟩, grown _, by simp [ChangeMaps.setBlock]⟩
    · simp [Instr.mapUpdate, run_underlying ht, MapKept.run_getObj_map hb, KK.check w _ hlx, f1, Result.andThen, MapKept.run_setObj_map _ hb, ChangeMaps.setBlock]
    · intro e he
      simp only [Array.toList_push, List.mem_append, List.mem_singleton] at he
      rcases he with he | rfl
      · obtain ⟨y, u, hk, hv, hF⟩ := h1 e he
        refine ⟨y, u, hk, hv, ?_⟩
        have : y ≠ x := fun e2 => f2 e he (by rw [hk, e2])
        simp [this, hF]
      · exact ⟨x, v, rfl, rfl, by simp⟩
    · intro y u hF
      by_cases hy : y = x
      · subst hy
        simp only [if_pos] at hF
        cases hF
        exact ⟨_, by simp only [Array.toList_push, List.mem_append, List.mem_singleton]; exact Or.inr rfl, rfl, rfl⟩
      · simp only [if_neg hy] at hF
        obtain ⟨e, he, hk, hv⟩ := h2 y u hF
        exact ⟨e, by simp only [Array.toList_push, List.mem_append]; exact Or.inl he, hk, hv⟩
    · simp only [Array.toList_push]
      rw [List.pairwise_append]
      refine ⟨h3, by simp, ?_⟩
      intro a ha c hc
      simp only [List.mem_singleton] at hc
      subst hc
      exact f2 a ha
  · have hm : e0 ∈ es.toList := List.mem_of_getElem? f2
    have hjlt : j < es.size := by have := (List.getElem?_eq_some_iff.1 f2).1; simpa using this
    have hkey0 : (es[j]?.map (·.key)).getD (enc x) = enc x := by
      have : es[j]? = some e0 := by rw [← Array.getElem?_toList]; exact f2
      rw [this]; simp [f3]
    have hml : (es.modify j fun e => { e with key := enc x, val := val v }).toList = es.toList.set j { e0 with key := enc x, val := val v } := by
      apply List.ext_getElem?
      intro i
      rw [Array.getElem?_toList, Array.getElem?_modify, List.getElem?_set]
      by_cases hij : j = i
      · subst hij
        have : es[j]? = some e0 := by rw [← Array.getElem?_toList]; exact f2
        have h5 : es[j] = e0 := (Array.getElem?_eq_some_iff.1 this).2
        simp [hjlt, h5]
      · simp [hij]
    have hkeys : ∀ i e, es.toList[i]? = some e → e.key = enc x → i = j := by
      intro i e hi hk
      rw [List.pairwise_iff_getElem] at h3
      obtain ⟨hi1, hi2⟩ := List.getElem?_eq_some_iff.1 hi
      obtain ⟨hj1, hj2⟩ := List.getElem?_eq_some_iff.1 f2
      rcases Nat.lt_trichotomy i j with hlt | heq | hgt
      · exact absurd (by rw [hi2, hj2, hk, f3]) (h3 i j hi1 hj1 hlt)
      · exact heq
      · exact absurd (by rw [hi2, hj2, hk, f3]) (h3 j i hj1 hi1 hgt)
    refine ⟨ChangeMaps.setBlock w b (.map (es.modify j fun e => { e with key := enc x, val := val v }) clock), ?_, ⟨_, _, ChangeMaps.heap_setBlock_same hb _, ?_, ?_, ?_⟩, grown _, by simp [ChangeMaps.setBlock]⟩
    · simp [Instr.mapUpdate, run_underlying ht, MapKept.run_getObj_map hb, KK.check w _ hlx, f1, Result.andThen, MapKept.run_setObj_map _ hb, ChangeMaps.setBlock, hkey0, KK.stays w hlx]
    · intro e he
      rw [hml] at he
      obtain ⟨i, hi⟩ := List.mem_iff_getElem?.1 he
      rw [List.getElem?_set] at hi
      by_cases hij : j = i
      · subst hij
        have hjl : j < es.toList.length := by simpa using hjlt
        simp only [if_pos, hjl] at hi
        cases hi
        exact ⟨x, v, rfl, rfl, by simp⟩
      · simp only [if_neg hij] at hi
        obtain ⟨y, u, hk, hv, hF⟩ := h1 e (List.mem_of_getElem? hi)
        refine ⟨y, u, hk, hv, ?_⟩
        have : y ≠ x := fun e2 => hij (hkeys i e hi (by rw [hk, e2])).symm
        simp [this, hF]
    · intro y u hF
      by_cases hy : y = x
      · subst hy
        simp only [if_pos] at hF
        cases hF
        have hjl : j < es.toList.length := by simpa using hjlt
        refine ⟨{ e0 with key := enc y, val := val v }, ?_, rfl, rfl⟩
        rw [hml]
        exact List.mem_iff_getElem?.2 ⟨j, by rw [List.getElem?_set]; simp only [if_pos, hjl]⟩
      · simp only [if_neg hy] at hF
        obtain ⟨e, he, hk, hv⟩ := h2 y u hF
        obtain ⟨i, hi⟩ := List.mem_iff_getElem?.1 he
        have hij : ¬ j = i := fun e2 => by
          subst e2
          rw [f2] at hi
          cases hi
          exact hy (hinj _ _ (by rw [← hk, f3]))
        exact ⟨e, by rw [hml]; exact List.mem_iff_getElem?.2 ⟨i, by rw [List.getElem?_set]; simp only [if_neg hij]; exact hi⟩, hk, hv⟩
    · rw [hml, List.pairwise_iff_getElem]
      rw [List.pairwise_iff_getElem] at h3
      intro a c ha hc hac
      simp only [List.length_set] at ha hc
      have hj0 : (es.toList[j]'(by simpa using hjlt)).key = enc x := by
        obtain ⟨hj1, hj2⟩ := List.getElem?_eq_some_iff.1 f2
        rw [hj2, f3]
      have := h3 a c ha hc hac
      rw [List.getElem_set, List.getElem_set]
      split
      · rename_i h; subst h
        split
        · omega
        · exact fun h => this (hj0.trans h)
      · split
        · rename_i h; subst h
          exact fun h => this (h.trans hj0.symm)
        · exact this
end

/-! ### keys of three numbers -/

theorem keyOf_three {P : Program} {k kf : TypeId} {fs : Array Field} {d : Nat} (hk : P.underlying k = some (.struct fs)) (hkt : P.keyType k = true) (hc : P.cellsOf k = 3) (hd : P.types.size = d + 1)
    (hfs : fs.toList.map (fun f => (f.type, f.offset)) = [(kf, 0), (kf, 1), (kf, 2)]) (hn : fs.all (·.name != "_") = true) (hf : P.underlying kf = some (.int .i64)) (hcf : P.cellsOf kf = 1)
    (a b c : Int) (ha : (Lit.int .i64 a).wf = true) (hb : (Lit.int .i64 b).wf = true) (hc' : (Lit.int .i64 c).wf = true) : ∃ l, keyOf P k (.agg #[.int .i64 a, .int .i64 b, .int .i64 c]) = some l := by
  have hm : fs.toList.mapM (fun f => P.keyLits (d + 1) f.type (([Value.int .i64 a, .int .i64 b, .int .i64 c].drop f.offset).take (P.cellsOf f.type))) =
      [(kf, 0), (kf, 1), (kf, 2)].mapM (fun p : TypeId × Nat => P.keyLits (d + 1) p.1 (([Value.int .i64 a, .int .i64 b, .int .i64 c].drop p.2).take (P.cellsOf p.1))) := by
    rw [← hfs, List.mapM_map]; rfl
  apply Option.isSome_iff_exists.1
  unfold keyOf
  rw [hk]
  simp only [hkt, Value.formed, hk, hc, List.size_toArray, List.length_cons, List.length_nil, Bool.true_and, beq_self_eq_true, if_true, Value.cells, hd]
  unfold Program.keyLits
  simp only [hk, hc, List.length_cons, List.length_nil, hn, and_self, if_true]
  rw [hm]
  simp only [List.mapM_cons, List.mapM_nil, hcf, Program.keyLits, hf, List.drop_zero, List.drop_succ_cons, List.take_succ_cons, List.take_zero, ha, hb, hc', true_and, if_true]
  rfl

/-- 'make(map[K]V, n)'. -/
theorem run_makeMap_hint {P : Program} {t k e : TypeId} (ht : P.underlying t = some (.map k e)) (q : IntKind) (n : Int) (w : World) :
    (Instr.makeMap t (some (.int q n))).run P w = .ok (.map (some w.heap.size)) (w.alloc (.map #[] 0)) := by
  simp [Instr.makeMap, run_underlying ht]
  rfl

end Go.Proofs.YtfmppncefbjicaaDoor
