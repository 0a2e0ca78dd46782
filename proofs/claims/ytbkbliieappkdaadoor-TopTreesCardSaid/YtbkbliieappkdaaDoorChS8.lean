/- Renaming the nodes changes no rank. -/
import Derived.Test.YtbkbliieappkdaaDoorChS7
import Derived.Test.YtbkbliieappkdaaDoorChS3
namespace Go.Proofs.YtbkbliieappkdaaDoor.Ch
set_option linter.unusedSimpArgs false
set_option linter.unusedVariables false
open Go.RowKit

theorem canM_from (r : Nat → Nat) (a b c d : Nat) : canM r (b, a) (c, d) = canM r (a, b) (c, d) := by
  unfold canM
  dsimp only
  rw [Bool.or_comm, Bool.and_comm, Bool.and_comm ((r b).testBit c)]
theorem canM_to (r : Nat → Nat) (a b c d : Nat) : canM r (a, b) (d, c) = canM r (a, b) (c, d) := by
  unfold canM
  dsimp only
  rw [Bool.or_comm]

/-- Two nodes in order. -/
def srt (a b : Nat) : Nat × Nat := (min a b, max a b)
theorem srt_or (a b : Nat) : srt a b = (a, b) ∨ srt a b = (b, a) := by
  unfold srt
  rcases Nat.le_total a b with h | h
  · left; rw [Nat.min_eq_left h, Nat.max_eq_right h]
  · right; rw [Nat.min_eq_right h, Nat.max_eq_left h]
theorem srt_le {a b : Nat} (h : a ≤ b) : srt a b = (a, b) := by unfold srt; rw [Nat.min_eq_left h, Nat.max_eq_right h]
theorem srt_comm (a b : Nat) : srt a b = srt b a := by unfold srt; rw [Nat.min_comm, Nat.max_comm]
theorem canM_srt (r : Nat → Nat) (a b c d : Nat) : canM r (srt a b) (srt c d) = canM r (a, b) (c, d) := by
  rcases srt_or a b with h | h <;> rcases srt_or c d with h' | h' <;> rw [h, h']
  · exact canM_to r a b c d
  · exact canM_from r a b c d
  · rw [canM_to, canM_from]
theorem srt_mem {n k a b : Nat} (hk : k = 1 ∨ k = 2) (ha : a < n) (hb : b < n) (h : k = 2 ∨ a = b) : srt a b ∈ chs n k := by
  unfold srt
  rw [chs_mem hk]
  refine ⟨by omega, by omega, ?_⟩
  rcases h with h | h
  · exact .inl h
  · right; omega
theorem ctch_srt (a b c : Nat) : ctchB ((srt a b).1, (srt a b).2, c) = ctchB (a, b, c) := by
  rcases srt_or a b with h | h <;> rw [h]
  unfold ctchB
  dsimp only
  rw [Bool.or_comm]

/-- A renaming of the first n nodes that turns one reach into another. -/
structure Turn (n : Nat) (r s : Nat → Nat) (f : Nat → Nat) : Prop where
  lt : ∀ v, v < n → f v < n
  inj : ∀ v u, v < n → u < n → f v = f u → v = u
  onto : ∀ w, w < n → ∃ v, v < n ∧ f v = w
  bit : ∀ v u, v < n → u < n → (s (f v)).testBit (f u) = (r v).testBit u
  rin : ∀ v u, v < n → (r v).testBit u = true → u < n
  sin : ∀ v u, v < n → (s v).testBit u = true → u < n

theorem Turn.canM {n : Nat} {r s f : Nat → Nat} (T : Turn n r s f) {a b c d : Nat} (ha : a < n) (hb : b < n) (hc : c < n) (hd : d < n) :
    canM s (f a, f b) (f c, f d) = Proofs.YtbkbliieappkdaaDoor.Ch.canM r (a, b) (c, d) := by
  unfold Proofs.YtbkbliieappkdaaDoor.Ch.canM
  dsimp only
  rw [T.bit a c ha hc, T.bit b d hb hd, T.bit a d ha hd, T.bit b c hb hc]
theorem Turn.ctch {n : Nat} {r s f : Nat → Nat} (T : Turn n r s f) {a b c : Nat} (ha : a < n) (hb : b < n) (hc : c < n) : ctchB (f a, f b, f c) = ctchB (a, b, c) := by
  unfold ctchB
  dsimp only
  have h1 : (f c == f a) = (c == a) := by
    by_cases h : c = a
    · subst h; rw [beq_self_eq_true, beq_self_eq_true]
    · rw [beq_eq_false_iff_ne.2 h, beq_eq_false_iff_ne.2 (fun e => h (T.inj _ _ hc ha e))]
  have h2 : (f c == f b) = (c == b) := by
    by_cases h : c = b
    · subst h; rw [beq_self_eq_true, beq_self_eq_true]
    · rw [beq_eq_false_iff_ne.2 h, beq_eq_false_iff_ne.2 (fun e => h (T.inj _ _ hc hb e))]
  rw [h1, h2]

theorem Turn.lev {n k : Nat} {r s f : Nat → Nat} (T : Turn n r s f) (hk : k = 1 ∨ k = 2) : ∀ {i a b c : Nat}, (a, b) ∈ chs n k → c < n →
    (lev n s (chs n k) i ((srt (f a) (f b)).1, (srt (f a) (f b)).2, f c) ↔ Proofs.YtbkbliieappkdaaDoor.Ch.lev n r (chs n k) i (a, b, c))
  | 0, a, b, c, hab, hc => by
    obtain ⟨h1, h2, h3⟩ := (chs_mem hk).1 hab
    have hm : srt (f a) (f b) ∈ chs n k := srt_mem hk (T.lt _ (by omega)) (T.lt _ h2) (h3.imp id (fun e => by rw [e]))
    rw [lev_zero, lev_zero, ctch_srt, T.ctch (by omega) h2 hc]
    exact ⟨fun h => ⟨hab, h.2⟩, fun h => ⟨hm, h.2⟩⟩
  | i + 1, a, b, c, hab, hc => by
    obtain ⟨h1, h2, h3⟩ := (chs_mem hk).1 hab
    have hm : srt (f a) (f b) ∈ chs n k := srt_mem hk (T.lt _ (by omega)) (T.lt _ h2) (h3.imp id (fun e => by rw [e]))
    rw [lev_succ, lev_succ, Turn.lev T hk hab hc]
    refine or_congr Iff.rfl ?_
    unfold winP
    dsimp only
    constructor
    · rintro ⟨-, -, t, ht, hmv, hl⟩
      refine ⟨hab, hc, ?_⟩
      obtain ⟨g1, g2, g3⟩ := (chs_mem hk).1 (show (t.1, t.2) ∈ chs n k from ht)
      obtain ⟨x, hx, ex⟩ := T.onto t.1 (by omega)
      obtain ⟨y, hy, ey⟩ := T.onto t.2 g2
      have hxy : srt x y ∈ chs n k := srt_mem hk hx hy (g3.imp id (fun e => T.inj _ _ hx hy (by rw [ex, ey, e])))
      have et : t = srt (f x) (f y) := by rw [ex, ey, srt_le g1]
      have et2 : srt (f (srt x y).1) (f (srt x y).2) = srt (f x) (f y) := by
        rcases srt_or x y with h | h <;> rw [h]
        exact srt_comm _ _
      refine ⟨srt x y, hxy, ?_, ?_⟩
      · have := hmv
        rw [et, canM_srt, T.canM (by omega) h2 hx hy] at this
        have h4 := canM_srt r a b x y
        rw [srt_le h1] at h4
        rw [h4]; exact this
      · rcases hl with hl | hl
        · left
          rw [et, ctch_srt, T.ctch hx hy hc] at hl
          rw [ctch_srt]; exact hl
        · right
          intro d hd
          have hdn := T.rin c d hc hd
          refine ⟨hdn, ?_⟩
          have h5 := (hl (f d) (by rw [T.bit c d hc hdn]; exact hd)).2
          refine (Turn.lev T hk (a := (srt x y).1) (b := (srt x y).2) hxy hdn).1 ?_
          rw [et2, ← et]; exact h5
    · rintro ⟨-, -, t, ht, hmv, hl⟩
      refine ⟨hm, T.lt c hc, ?_⟩
      obtain ⟨g1, g2, g3⟩ := (chs_mem hk).1 (show (t.1, t.2) ∈ chs n k from ht)
      refine ⟨srt (f t.1) (f t.2), srt_mem hk (T.lt _ (by omega)) (T.lt _ g2) (g3.imp id (fun e => by rw [e])), ?_, ?_⟩
      · show Proofs.YtbkbliieappkdaaDoor.Ch.canM s (srt (f a) (f b)) _ = true
        rw [canM_srt, T.canM (by omega) h2 (by omega) g2]
        exact hmv
      · rcases hl with hl | hl
        · left
          rw [ctch_srt, T.ctch (by omega) g2 hc]; exact hl
        · right
          intro d hd
          have hdn := T.sin (f c) d (T.lt c hc) hd
          refine ⟨hdn, ?_⟩
          obtain ⟨x, hx, rfl⟩ := T.onto d hdn
          rw [T.bit c x hc hx] at hd
          exact (Turn.lev T hk (a := t.1) (b := t.2) ht hx).2 (hl x hd).2

/-- Renaming the nodes keeps the number of rounds. -/
theorem Turn.best {n k : Nat} {r s f : Nat → Nat} (T : Turn n r s f) (hk : k = 1 ∨ k = 2) :
    (bestOf n (ranksF n s (chs n k)) (chs n k)).2 = (bestOf n (ranksF n r (chs n k)) (chs n k)).2 := by
  refine best_same fun v _ => ?_
  constructor
  · rintro ⟨t, ht, h⟩
    obtain ⟨g1, g2, g3⟩ := (chs_mem hk).1 (show (t.1, t.2) ∈ chs n k from ht)
    obtain ⟨x, hx, ex⟩ := T.onto t.1 (by omega)
    obtain ⟨y, hy, ey⟩ := T.onto t.2 g2
    have hxy : srt x y ∈ chs n k := srt_mem hk hx hy (g3.imp id (fun e => T.inj _ _ hx hy (by rw [ex, ey, e])))
    have et : t = srt (f x) (f y) := by rw [ex, ey, srt_le g1]
    have et2 : srt (f (srt x y).1) (f (srt x y).2) = srt (f x) (f y) := by
      rcases srt_or x y with h | h <;> rw [h]
      exact srt_comm _ _
    refine ⟨srt x y, hxy, fun c hc => ?_⟩
    refine (T.lev hk (a := (srt x y).1) (b := (srt x y).2) hxy hc).1 ?_
    rw [et2, ← et]
    exact h (f c) (T.lt c hc)
  · rintro ⟨t, ht, h⟩
    obtain ⟨g1, g2, g3⟩ := (chs_mem hk).1 (show (t.1, t.2) ∈ chs n k from ht)
    refine ⟨srt (f t.1) (f t.2), srt_mem hk (T.lt _ (by omega)) (T.lt _ g2) (g3.imp id (fun e => by rw [e])), fun c hc => ?_⟩
    obtain ⟨x, hx, rfl⟩ := T.onto c hc
    exact (T.lev hk (a := t.1) (b := t.2) ht hx).2 (h x hx)

end Go.Proofs.YtbkbliieappkdaaDoor.Ch
