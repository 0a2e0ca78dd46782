/- The contract of slices.SortFunc over pairs of one's own, at the order of package ears' pairs. -/
import Derived.Test.YtcpdedgmhpehiaaDoorEpd
import Derived.Test.YtcpdedgmhpehiaaDoorSh
import Derived.Shelf.SlSortCmp.NoneTotal
namespace Go.Proofs.YtcpdedgmhpehiaaDoor
set_option linter.unusedSimpArgs false
set_option linter.unusedVariables false
open Go.RowKit Go.Maps Go.Shelf Go.Lib Go.Sort

def encP (x : Nat × Nat) : List Value := [.int .i64 x.1, .int .i64 x.2]
theorem swoP : Go.Sort.SWO (ltOf cmpP) where
  irrefl x := by
    rw [Bool.eq_false_iff]; intro h
    exact ltP_irr x (cmpP_lt.1 h)
  trans x y z h1 h2 := by
    have h1 := cmpP_lt.1 h1
    have h2 := cmpP_lt.1 h2
    exact cmpP_lt.2 (by unfold ltP at *; omega)
  ntrans x y z h1 h2 := by
    rw [Bool.eq_false_iff] at *
    intro h
    have h := cmpP_lt.1 h
    have g1 : ¬ ltP x y := fun e => h1 (cmpP_lt.2 e)
    have g2 : ¬ ltP y z := fun e => h2 (cmpP_lt.2 e)
    unfold ltP at *; omega

/-- Pairs that a slice holds. -/
def PairsAt (w : World) (v : Value) (L : List (Nat × Nat)) : Prop :=
  ∃ a c, v = .slice a L.length c ∧ ∀ wx, Below w.heap.size w wx → ∀ i p, L[i]? = some p → ∃ g, a = some ⟨g, 0, none⟩ ∧ wx.cell? ⟨g, i * 2, none⟩ = some (.int .i64 p.1) ∧ wx.cell? ⟨g, i * 2 + 1, none⟩ = some (.int .i64 p.2)
theorem PairsOwn.at_ {w : World} {base : Nat} {v : Value} {L : List (Nat × Nat)} (h : PairsOwn w base v L) : PairsAt w v L := by
  obtain ⟨a, c, rfl⟩ := own_form h
  exact ⟨a, c, rfl, h.cells⟩
theorem PairsAt.below {w w' : World} {v : Value} {L : List (Nat × Nat)} (h : PairsAt w v L) (hb : Below w.heap.size w w') : PairsAt w' v L := by
  obtain ⟨a, c, hv, hc⟩ := h
  exact ⟨a, c, hv, fun wx hx => hc wx (hb.trans (hx.mono hb.size))⟩
theorem PairsAt.nil (w : World) (a : Option Addr) (c : Nat) : PairsAt w (.slice a 0 c) [] := ⟨a, c, rfl, fun _ _ i p h => by simp at h⟩

theorem below_sort {base g m : Nat} {w : World} {d : Array (Nat × Nat)} {os : Array Obj} (hb : base ≤ g) (hg : base ≤ w.heap.size) : Below base w (sortWorldK encP 2 w g 0 m d os) := by
  refine ⟨rfl, rfl, rfl, size_sortWorldK_c encP 2 w g 0 m d os, fun k hk => ?_⟩
  show ((w.heap.modify g _) ++ os)[k]? = w.heap[k]?
  rw [Array.getElem?_append_left (by simp; omega), Array.getElem?_modify, if_neg (by omega)]

theorem holds_pairs {w : World} {base g cap : Nat} {L : List (Nat × Nat)} (h : PairsOwn w base (.slice (some ⟨g, 0, none⟩) L.length cap) L) : HoldsK encP 2 w g 0 L.toArray := by
  intro j hj
  rw [size_flatK] at hj
  have hjl : j < L.length * 2 := by simpa using hj
  rw [get_flatK _ _ _ _ hj]
  have hi : j / 2 < L.length := by omega
  obtain ⟨p, hp⟩ : ∃ p, L[j / 2]? = some p := ⟨L[j / 2], by simp⟩
  obtain ⟨p1, p2⟩ := pairCells_get L (j / 2) p hp
  have e1 : L.toArray[j / 2]! = p := by
    rw [List.getElem!_toArray, List.getElem!_eq_getElem?_getD, hp]; rfl
  rw [e1, Nat.zero_add]
  refine ⟨?_, ?_⟩
  · rw [World.ownsRow.cellAt h j hjl]
    have : j % 2 = 0 ∨ j % 2 = 1 := by omega
    rcases this with e | e
    · rw [e, show j = j / 2 * 2 by omega, p1]; rfl
    · rw [e, show j = j / 2 * 2 + 1 by omega, p2]
      rfl
  · rcases h.2 with h1 | ⟨g', cap', cur, hv, hg, hh, _⟩
    · omega
    · simp only [Value.slice.injEq, Option.some.injEq, Addr.mk.injEq] at hv
      obtain ⟨⟨rfl, _⟩, _⟩ := hv
      simp [World.frozen?, hh]

theorem sortPairs_any {w : World} {base : Nat} {v : Value} {L : List (Nat × Nat)} (h : PairsOwn w base v L) (hb : base ≤ w.heap.size) (hl : L.length ≤ 65536) :
    Calls Tryd.prog 118 #[v, .func (.func 119) #[] #[]] w fun e w' => e = .returned (.tuple #[]) ∧ Below base w w' ∧ ∃ M, M.Perm L ∧ M.Pairwise (fun p q => ¬ ltP q p) ∧ PairsAt w' v M := by
  by_cases h0 : L.length = 0
  · have hL : L = [] := List.length_eq_zero_iff.1 h0
    subst hL
    obtain ⟨a, c, rfl⟩ := own_form h
    have hcon := AnyF.slices_SortFunc_none { Tryd.sortPairs with } a c (.func (.func 119) #[] #[]) w
    change Calls Tryd.prog 118 _ _ _ at hcon
    refine hcon.mono ?_
    rintro e w' ⟨he, rfl⟩
    exact ⟨he, Below.refl _ _, [], .refl _, .nil, PairsAt.nil _ _ _⟩
  · obtain ⟨g, cap, rfl, hg1, hg2⟩ := own_form' h h0
    have eg : ∀ args w, (callFunc 119 args).run Tryd.prog w = .ok (.enter 119 args) w := enters_of Tryd.func119 (by kernel_rfl) rfl
    have hsz : L.toArray.size = L.length := by simp
    have hcon := AnyQ.slices_SortFunc Tryd.sortPairs 2 Tryd.isAgg66 Tryd.sizeOf66 encP (fun _ => rfl) (fun x v hv => by simp [encP] at hv; rcases hv with rfl | rfl <;> rfl) cmpP swoP 119 #[] g 0 cap L.toArray w eg (fun _ _ _ _ x y => pairs1_any x y _) (holds_pairs h) hg2 (by simp; omega)
    change Calls Tryd.prog 118 _ _ _ at hcon
    rw [hsz] at hcon
    refine hcon.mono ?_
    rintro e w' ⟨he, d', n, os, hp, hs, rfl⟩
    have hd : d'.size = L.length := by rw [hp.1, hsz]
    refine ⟨he, below_sort hg1 hb, d'.toList, ?_, ?_, some ⟨g, 0, none⟩, cap, by rw [show d'.toList.length = L.length from (Array.length_toList (xs := d')).trans hd], fun wx hx i p hi => ⟨g, rfl, ?_⟩⟩
    · have h3 := hp.2.2
      rw [← hd, Array.extract_size] at h3
      rw [hd, ← hsz, Array.extract_size] at h3
      simpa using h3
    · rw [List.pairwise_iff_getElem]
      intro i j hi hj hij
      simp only [Array.length_toList] at hi hj
      have := hs i j (Nat.zero_le _) hij (by omega)
      rw [getElem!_pos d' j hj, getElem!_pos d' i hi] at this
      intro hlt
      rw [show ltOf cmpP d'[j] d'[i] = true from cmpP_lt.2 (by simpa using hlt)] at this
      cases this
    · have hH := holdsK_sortWorldK_c encP 2 w g 0 L.toArray d' n os (holds_pairs h) hg2 (by rw [hd, hsz])
      have hi' : i < d'.size := by have := (List.getElem?_eq_some_iff.1 hi).1; simpa using this
      have hpi : d'[i]! = p := by
        rw [getElem!_pos d' i hi']
        have := (List.getElem?_eq_some_iff.1 hi).2
        simpa using this
      have hgl : g < (sortWorldK encP 2 w g 0 n d' os).heap.size := Nat.lt_of_lt_of_le hg2 (size_sortWorldK_c encP 2 w g 0 n d' os)
      refine ⟨?_, ?_⟩
      · rw [hx.cell (p := ⟨g, i * 2, none⟩) hgl]
        have := (hH.cell hi' (show 0 < 2 by omega)).1
        rw [hpi, Nat.zero_add, Nat.add_zero] at this
        exact this
      · rw [hx.cell (p := ⟨g, i * 2 + 1, none⟩) hgl]
        have := (hH.cell hi' (show 1 < 2 by omega)).1
        rw [hpi, Nat.zero_add] at this
        exact this

end Go.Proofs.YtcpdedgmhpehiaaDoor
