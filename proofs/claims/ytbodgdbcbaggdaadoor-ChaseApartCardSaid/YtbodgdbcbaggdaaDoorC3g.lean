/- The contract of the reference's Apart; the order that strip takes is the only one. -/
import Derived.Test.YtbodgdbcbaggdaaDoorC3f
import Derived.Test.YtbodgdbcbaggdaaDoorC3h
namespace Go.Proofs.YtbodgdbcbaggdaaDoor
set_option linter.unusedSimpArgs false
set_option linter.unusedVariables false
open Go.RowKit Go.Maps

theorem zL_ext {L L' : List Nat} (hl : L.length = L'.length) (h : ∀ i, i < L.length → zL L i = zL L' i) : L = L' := by
  apply List.ext_getElem hl
  intro i h1 h2
  have := h i h1
  unfold zL at this
  rw [List.getD_eq_getElem?_getD, List.getD_eq_getElem?_getD, List.getElem?_eq_getElem h1, List.getElem?_eq_getElem h2] at this
  simp only [Option.getD_some] at this
  omega
theorem Strip.same_list {r : Nat → Nat} {n S : Nat} {L L' : List Nat} {T T' : Nat} (h : Strip r n S L T) (h' : Strip r n S L' T') (hn : leastC r n T = none) (hn' : leastC r n T' = none) : L = L' := by
  have hT := h.same h' hn hn'
  have f1 := h.full
  have f2 := h'.full
  obtain ⟨a1, a2⟩ := h.get
  obtain ⟨b1, b2⟩ := h'.get
  have hl : L.length = L'.length := by rw [hT] at f1; omega
  have key : ∀ i, i ≤ L.length → leftAt S (zL L) i = leftAt S (zL L') i ∧ ∀ j, j < i → zL L j = zL L' j := by
    intro i
    induction i with
    | zero => intro _; exact ⟨rfl, fun j hj => by omega⟩
    | succ i ih =>
      intro h1
      obtain ⟨e, ej⟩ := ih (by omega)
      obtain ⟨v, hv, hl1⟩ := a2 i (by omega)
      obtain ⟨u, hu, hl2⟩ := b2 i (by omega)
      rw [e, hl2] at hl1
      have huv : u = v := Option.some.inj hl1
      constructor
      · show diff _ _ = diff _ _
        rw [e, hv, hu, huv]
      · intro j hj
        rcases Nat.lt_or_ge j i with h3 | h3
        · exact ej j h3
        · rw [show j = i by omega, hv, hu, huv]
  exact zL_ext hl (key _ (Nat.le_refl _)).2

def ApROut (n : Nat) (r : Nat → Nat) (w : World) (e : Ending) (w' : World) : Prop :=
  Below w.heap.size w w' ∧ ((bestOf n (ranksF n r (chs n 1)) (chs n 1)).2 = -1 → e = .returned (.tuple #[.slice none 0 0, .int .i64 5])) ∧
    ((bestOf n (ranksF n r (chs n 1)) (chs n 1)).2 ≠ -1 → ∃ v L t, e = .returned (.tuple #[v, .int .i64 0]) ∧ Strip r n (2 ^ n - 1) L (2 ^ t) ∧ leastC r n (2 ^ t) = none ∧ szS n (2 ^ t) = 1 ∧ NatsOwn w' w.heap.size v (L ++ [t]))

set_option maxRecDepth 20000 in
set_option maxHeartbeats 2000000 in
theorem ApartR_any {n : Nat} {g : Nat → Nat} (N : Net n (rG g)) {a : Option Addr} (cap : Nat) {w : World} (G : GrAt w a n g) :
    Calls Tryd.prog 12 #[.slice a n cap] w (ApROut n (rG g) w) := by
  have hn := G.small
  have hpow : ((2 : Int) ^ n - 1) = ((2 ^ n - 1 : Nat) : Int) := by rw [pow_cast]; have := Nat.one_le_two_pow (n := n); omega
  have w1 : wrap64 ((2 : Int) ^ n) = 2 ^ n := by have := pow_bd n hn; exact IntWalk.wrap64_in _ ⟨by omega, by omega⟩
  have w2 : wrap64 ((2 : Int) ^ n - 1) = ((2 ^ n - 1 : Nat) : Int) := by rw [← hpow]; have := pow_bd n hn; exact IntWalk.wrap64_in _ ⟨by omega, by omega⟩
  have hg0 := G.ints.1
  unfold maxLen at hg0
  have hall : 2 ^ n - 1 < 2 ^ n := by have := Nat.one_le_two_pow (n := n); omega
  have HG := Lib.hid G
  clear G hpow
  go_enter Tryd.func12, Tryd.ntmps12
  go_wp2_with fail
  go_at_call 27
  refine (apartR_nil N n (2 ^ n - 1) id (rG g) a cap _ (Sub.start N) hall HG.out).mono ?_
  rintro e w1 ⟨hb1, hnil, hyes⟩
  have HB1 := Lib.hid hb1
  clear hb1
  by_cases hbest : (bestOf n (ranksF n (rG g) (chs n 1)) (chs n 1)).2 = -1
  · obtain rfl := hnil hbest
    have HBEST := Lib.hid hbest
    clear hnil hyes hbest
    go_wp2_with fail
    go_ret2
    exact ⟨HB1.out, fun _ => rfl, fun h => absurd HBEST.out h⟩
  · obtain ⟨v, L, t, rfl, hst, hno, hone, hown⟩ := hyes hbest
    rw [List.nil_append] at hown
    obtain ⟨rg, rc, hv, -, -⟩ := own_form' hown (by simp)
    obtain ⟨ln, hln⟩ : ∃ x, x = List.length (L ++ [t] : List Nat) := ⟨_, rfl⟩
    rw [← hln] at hv
    subst hv
    have HST := Lib.hid hst
    have HNO := Lib.hid hno
    have HONE := Lib.hid hone
    have HOWN := Lib.hid hown
    have HBEST := Lib.hid hbest
    clear hnil hyes hbest hst hno hone hown hln
    go_wp2_with fail
    go_ret2
    exact ⟨HB1.out, fun h => absurd h HBEST.out, fun _ => ⟨_, L, t, rfl, HST.out, HNO.out, HONE.out, HOWN.out⟩⟩

end Go.Proofs.YtbodgdbcbaggdaaDoor
