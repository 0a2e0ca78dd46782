/- The order that strip takes: it is the only one, and it takes the graph apart. -/
import Derived.Test.YtbodgdbcbaggdaaDoorC3c
import Derived.Test.YtbodgdbcbaggdaaDoorS15
namespace Go.Proofs.YtbodgdbcbaggdaaDoor
set_option linter.unusedSimpArgs false
set_option linter.unusedVariables false
open Go.RowKit

/-- A list of numbers, read as an order. -/
def zL (L : List Nat) (i : Nat) : Int := ((L.getD i 0 : Nat) : Int)
theorem leftAt_congr {S : Nat} {y z : Nat → Int} : ∀ {i : Nat}, (∀ j, j < i → y j = z j) → leftAt S y i = leftAt S z i
  | 0, _ => rfl
  | i + 1, h => by
    unfold leftAt
    rw [leftAt_congr (i := i) (fun j hj => h j (by omega)), h i (by omega)]
theorem zL_left {L : List Nat} {v j : Nat} (hj : j < L.length) : zL (L ++ [v]) j = zL L j := by
  unfold zL
  rw [List.getD_eq_getElem?_getD, List.getD_eq_getElem?_getD, List.getElem?_append_left hj]
theorem zL_last {L : List Nat} {v : Nat} : zL (L ++ [v]) L.length = v := by
  unfold zL
  rw [List.getD_eq_getElem?_getD, List.getElem?_append_right (Nat.le_refl _)]
  simp

theorem Strip.get {r : Nat → Nat} {n S : Nat} {L : List Nat} {T : Nat} (h : Strip r n S L T) :
    T = leftAt S (zL L) L.length ∧ ∀ i, i < L.length → ∃ v : Nat, zL L i = v ∧ leastC r n (leftAt S (zL L) i) = some v := by
  induction h with
  | start => exact ⟨rfl, fun i hi => by simp at hi⟩
  | @step L T v h0 h1 ih =>
    obtain ⟨ih1, ih2⟩ := ih
    have hc : ∀ i, i ≤ L.length → leftAt S (zL (L ++ [v])) i = leftAt S (zL L) i := fun i hi => leftAt_congr fun j hj => zL_left (by omega)
    constructor
    · rw [List.length_append, List.length_singleton]
      show _ = diff (leftAt S (zL (L ++ [v])) L.length) _
      rw [hc _ (Nat.le_refl _), ← ih1, zL_last, Int.toNat_natCast]
    · intro i hi
      rw [List.length_append, List.length_singleton] at hi
      rw [hc i (by omega)]
      rcases Nat.lt_or_ge i L.length with h2 | h2
      · rw [zL_left h2]
        exact ih2 i h2
      · obtain rfl : i = L.length := by omega
        rw [zL_last, ← ih1]
        exact ⟨v, rfl, h1⟩

theorem Strip.same {r : Nat → Nat} {n S : Nat} {L L' : List Nat} {T T' : Nat} (h : Strip r n S L T) (h' : Strip r n S L' T') (hn : leastC r n T = none) (hn' : leastC r n T' = none) : T = T' := by
  obtain ⟨a1, a2⟩ := h.get
  obtain ⟨b1, b2⟩ := h'.get
  have key : ∀ i, i ≤ L.length → i ≤ L'.length → leftAt S (zL L) i = leftAt S (zL L') i := by
    intro i
    induction i with
    | zero => intro _ _; rfl
    | succ i ih =>
      intro h1 h2
      have e := ih (by omega) (by omega)
      obtain ⟨v, hv, hl⟩ := a2 i (by omega)
      obtain ⟨u, hu, hl'⟩ := b2 i (by omega)
      rw [e, hl'] at hl
      have huv : u = v := Option.some.inj hl
      show diff _ _ = diff _ _
      rw [e, hv, hu, huv]
  rcases Nat.lt_trichotomy L.length L'.length with h1 | h1 | h1
  · obtain ⟨u, hu, hl⟩ := b2 _ h1
    rw [← key _ (Nat.le_refl _) (by omega), ← a1, hn] at hl
    cases hl
  · rw [a1, b1, key _ (Nat.le_refl _) (by omega), h1]
  · obtain ⟨u, hu, hl⟩ := a2 _ h1
    rw [key _ (by omega) (Nat.le_refl _), ← b1, hn'] at hl
    cases hl

theorem Strip.full {r : Nat → Nat} {n S : Nat} {L : List Nat} {T : Nat} (h : Strip r n S L T) : L.length + szS n T = szS n S := by
  induction h with
  | start => simp
  | step h0 h1 ih =>
    obtain ⟨h2, h3⟩ := leastC_some h1
    have := szS_off h2 (crnTo_in h3)
    rw [List.length_append, List.length_singleton]
    omega

/-- What strip takes, and the node that is left, take the graph apart. -/
theorem Strip.takes {r : Nat → Nat} {n : Nat} {L : List Nat} {T t : Nat} (h : Strip r n (2 ^ n - 1) L T) (hT : T = 2 ^ t) (h1 : szS n T = 1) : takesB r n (L ++ [t]).length (zL (L ++ [t])) = true := by
  have hf := h.full
  rw [szS_all] at hf
  have hlt := h.pow (by have := Nat.one_le_two_pow (n := n); omega)
  have htn : t < n := by
    rw [hT] at hlt
    exact (Nat.pow_lt_pow_iff_right (by omega)).1 hlt
  obtain ⟨a1, a2⟩ := h.get
  have hc : ∀ i, i ≤ L.length → leftAt (2 ^ n - 1) (zL (L ++ [t])) i = leftAt (2 ^ n - 1) (zL L) i := fun i hi => leftAt_congr fun j hj => zL_left (by omega)
  unfold takesB
  rw [List.length_append, List.length_singleton, show L.length + 1 = n by omega, beq_self_eq_true, Bool.true_and, List.all_eq_true]
  intro i hi
  have hi := List.mem_range.1 hi
  unfold okTake
  rw [hc i (by omega)]
  rcases Nat.lt_or_ge i L.length with h2 | h2
  · obtain ⟨v, hv, hl⟩ := a2 i h2
    obtain ⟨h3, h4⟩ := leastC_some hl
    rw [zL_left h2, hv, Int.toNat_natCast, crnTo_in h4, h4, inB_iff.2 ⟨by omega, by omega⟩]
    simp
  · obtain rfl : i = L.length := by omega
    rw [zL_last, Int.toNat_natCast, ← a1, hT, Nat.testBit_two_pow, inB_iff.2 ⟨by omega, by omega⟩, decide_eq_true (show n ≤ L.length + 1 by omega)]
    simp

/-- Without a corner there are no pairs. -/
theorem corn_nil {r : Nat → Nat} {n T : Nat} (h : leastC r n T = none) : cornTo (covP r T) n n = [] := by
  have hno : ∀ v u, v < n → u < n → covP r T v u = false := by
    intro v u hv hu
    unfold leastC at h
    rw [List.find?_range_eq_none] at h
    have h1 := h v hv
    cases hq : covP r T v u
    · rfl
    · exfalso
      have h2 : crnTo r T v n = true := by
        unfold covP at hq
        rw [Bool.and_eq_true, Bool.and_eq_true] at hq
        unfold crnTo
        rw [hq.1.1, Bool.true_and, List.any_eq_true]
        exact ⟨u, List.mem_range.2 hu, by rw [hq.1.2, hq.2]; rfl⟩
      rw [h2] at h1
      cases h1
  have hrow : ∀ v, v < n → ∀ m, m ≤ n → rowTo (covP r T v) v m = [] := by
    intro v hv m
    induction m with
    | zero => intro _; rfl
    | succ m ih =>
      intro hm
      unfold rowTo
      rw [hno v m hv (by omega)]
      exact ih (by omega)
  have hall : ∀ m, m ≤ n → cornTo (covP r T) n m = [] := by
    intro m
    induction m with
    | zero => intro _; rfl
    | succ m ih =>
      intro hm
      unfold cornTo
      rw [ih (by omega), hrow m (by omega) n (Nat.le_refl _)]
      rfl
  exact hall n (Nat.le_refl _)

theorem NatsOwn.ints {w : World} {base : Nat} {v : Value} {L : List Nat} (h : NatsOwn w base v L) (hL : L.length ≤ 4096) : ∃ a cap, v = .slice a L.length cap ∧ IntsAt w a L.length (zL L) := by
  by_cases h0 : L.length = 0
  · obtain ⟨a, cap, hv⟩ := own_form h
    exact ⟨a, cap, hv, by unfold maxLen; omega, fun h => by omega⟩
  · unfold NatsOwn at h
    obtain ⟨g, cap, rfl, h1, h2⟩ := own_form' h h0
    refine ⟨_, cap, rfl, by unfold maxLen; omega, fun _ => ⟨g, 0, rfl, h2, fun i hi => ?_⟩⟩
    rw [Nat.zero_add, World.ownsRow.cellAt h i (by omega)]
    unfold zL
    rw [List.getElem?_map, List.getD_eq_getElem?_getD]
    rw [List.getElem?_eq_getElem hi]
    rfl

end Go.Proofs.YtbodgdbcbaggdaaDoor
