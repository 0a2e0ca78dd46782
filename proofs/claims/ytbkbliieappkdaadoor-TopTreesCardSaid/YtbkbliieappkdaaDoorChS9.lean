/- A retract of a game: what a corner that is taken away leaves behind. More choices, no later level. -/
import Derived.Test.YtbkbliieappkdaaDoorChS8
namespace Go.Proofs.YtbkbliieappkdaaDoor.Ch
set_option linter.unusedSimpArgs false
set_option linter.unusedVariables false
open Go.RowKit

theorem lev_sub {n : Nat} {r : Nat → Nat} {C D : List (Nat × Nat)} (hCD : ∀ t ∈ C, t ∈ D) : ∀ {i : Nat} {p : Pl}, lev n r C i p → lev n r D i p
  | 0, p, h => by rw [lev_zero] at h ⊢; exact ⟨hCD _ h.1, h.2⟩
  | i + 1, p, h => by
    rw [lev_succ] at h ⊢
    rcases h with h | ⟨h1, h2, t, ht, hm, hl⟩
    · exact .inl (lev_sub hCD h)
    · exact .inr ⟨hCD _ h1, h2, t, hCD t ht, hm, hl.imp id fun h d hd => ⟨(h d hd).1, lev_sub hCD (h d hd).2⟩⟩
theorem chs_one_two {n : Nat} : ∀ t ∈ chs n 1, t ∈ chs n 2 := fun t ht => by
  obtain ⟨h1, h2, -⟩ := (chs_mem (.inl rfl)).1 (show (t.1, t.2) ∈ chs n 1 from ht)
  exact (chs_mem (.inr rfl)).2 ⟨h1, h2, .inl rfl⟩
/-- Two sweeps need at most as many rounds as one. -/
theorem two_one {n : Nat} {r : Nat → Nat} (h : (bestOf n (ranksF n r (chs n 1)) (chs n 1)).2 ≠ -1) :
    (bestOf n (ranksF n r (chs n 2)) (chs n 2)).2 ≠ -1 ∧ (bestOf n (ranksF n r (chs n 2)) (chs n 2)).2 ≤ (bestOf n (ranksF n r (chs n 1)) (chs n 1)).2 := by
  have h1 := best_ge (n := n) (F := ranksF n r (chs n 1)) (C := chs n 1)
  have h2 := best_big (n := n) (r := r) (C := chs n 1)
  have h3 := @best_lev n r (chs n 1)
  have h4 := @best_lev n r (chs n 2)
  generalize (bestOf n (ranksF n r (chs n 1)) (chs n 1)).2 = A at *
  generalize (bestOf n (ranksF n r (chs n 2)) (chs n 2)).2 = B at *
  obtain ⟨ab, hab, hl⟩ := (h3 (v := A.toNat) (by omega)).1 ⟨h, by omega⟩
  have := (h4 (v := A.toNat) (by omega)).2 ⟨ab, chs_one_two _ hab, fun c hc => lev_sub chs_one_two (hl c hc)⟩
  omega

theorem lev_last {n : Nat} {r : Nat → Nat} {C : List (Nat × Nat)} (hn : n < 16) (hC : C.length ≤ 256) {p : Pl} : ∀ {i : Nat}, lev n r C i p → lev n r C 4096 p := by
  intro i h
  rcases Nat.le_total i 4096 with h1 | h1
  · exact lev_mono h1 h
  · have h2 := ranksG_stay (n := n) (r := r) (C := C) (i := 4096) (ranks_fix hn hC) (i - 4096)
    rw [show 4096 + (i - 4096) = i by omega] at h2
    unfold lev at h ⊢
    rw [h2] at h; exact h

/-- A game on m nodes that is a retract of one on n: `e` lays it in, `f` folds back, and what a node reaches, the place that it folds to reaches, too. -/
structure Retr (n m : Nat) (r s : Nat → Nat) (e f : Nat → Nat) : Prop where
  elt : ∀ x, x < m → e x < n
  flt : ∀ x, x < n → f x < m
  fe : ∀ x, x < m → f (e x) = x
  hom : ∀ a b, a < n → b < n → (r a).testBit b = true → (s (f a)).testBit (f b) = true
  emb : ∀ x y, x < m → y < m → (s x).testBit y = true → (r (e x)).testBit (e y) = true
  refl : ∀ x, x < n → (r x).testBit x = true
  sub : ∀ x d, x < n → (r x).testBit d = true → (r (e (f x))).testBit d = true
  rin : ∀ v u, v < n → (r v).testBit u = true → u < n
  sin : ∀ v u, v < m → (s v).testBit u = true → u < m

theorem canM_iff {r : Nat → Nat} {a b c d : Nat} : canM r (a, b) (c, d) = true ↔ ((r a).testBit c = true ∧ (r b).testBit d = true) ∨ ((r a).testBit d = true ∧ (r b).testBit c = true) := by
  unfold canM
  rw [Bool.or_eq_true, Bool.and_eq_true, Bool.and_eq_true]
theorem ctch_iff {a b c : Nat} : ctchB (a, b, c) = true ↔ c = a ∨ c = b := by
  unfold ctchB
  rw [Bool.or_eq_true, beq_iff_eq, beq_iff_eq]

theorem Retr.canF {n m : Nat} {r s e f : Nat → Nat} (T : Retr n m r s e f) {a b c d : Nat} (ha : a < n) (hb : b < n) (hc : c < n) (hd : d < n) (h : canM r (a, b) (c, d) = true) : canM s (f a, f b) (f c, f d) = true := by
  rw [canM_iff] at h ⊢
  exact h.imp (fun h => ⟨T.hom _ _ ha hc h.1, T.hom _ _ hb hd h.2⟩) fun h => ⟨T.hom _ _ ha hd h.1, T.hom _ _ hb hc h.2⟩
theorem Retr.canE {n m : Nat} {r s e f : Nat → Nat} (T : Retr n m r s e f) {a b c d : Nat} (ha : a < m) (hb : b < m) (hc : c < m) (hd : d < m) (h : canM s (a, b) (c, d) = true) : canM r (e a, e b) (e c, e d) = true := by
  rw [canM_iff] at h ⊢
  exact h.imp (fun h => ⟨T.emb _ _ ha hc h.1, T.emb _ _ hb hd h.2⟩) fun h => ⟨T.emb _ _ ha hd h.1, T.emb _ _ hb hc h.2⟩

/-- What is caught in the large game is caught by the folded sweeps. -/
theorem Retr.down {n m k : Nat} {r s e f : Nat → Nat} (T : Retr n m r s e f) (hk : k = 1 ∨ k = 2) : ∀ {i a b c : Nat}, c < m → lev n r (chs n k) i (a, b, e c) → (a, b) ∈ chs n k →
    lev m s (chs m k) i ((srt (f a) (f b)).1, (srt (f a) (f b)).2, c)
  | 0, a, b, c, hc, h, hab => by
    obtain ⟨h1, h2, h3⟩ := (chs_mem hk).1 hab
    rw [lev_zero] at h ⊢
    refine ⟨srt_mem hk (T.flt _ (by omega)) (T.flt _ h2) (h3.imp id (fun e => by rw [e])), ?_⟩
    rw [ctch_srt, ctch_iff]
    rcases ctch_iff.1 h.2 with h | h
    · left; rw [← h, T.fe c hc]
    · right; rw [← h, T.fe c hc]
  | i + 1, a, b, c, hc, h, hab => by
    obtain ⟨h1, h2, h3⟩ := (chs_mem hk).1 hab
    have hm : srt (f a) (f b) ∈ chs m k := srt_mem hk (T.flt _ (by omega)) (T.flt _ h2) (h3.imp id (fun e => by rw [e]))
    rw [lev_succ] at h ⊢
    rcases h with h | ⟨-, -, t, ht, hmv, hl⟩
    · exact .inl (Retr.down T hk hc h hab)
    · obtain ⟨g1, g2, g3⟩ := (chs_mem hk).1 (show (t.1, t.2) ∈ chs n k from ht)
      refine .inr ⟨hm, hc, srt (f t.1) (f t.2), srt_mem hk (T.flt _ (by omega)) (T.flt _ g2) (g3.imp id (fun e => by rw [e])), ?_, ?_⟩
      · show canM s (srt (f a) (f b)) _ = true
        rw [canM_srt]
        exact T.canF (by omega) h2 (by omega) g2 hmv
      · rcases hl with hl | hl
        · left
          rw [ctch_srt, ctch_iff]
          rcases ctch_iff.1 hl with h | h
          · left; rw [← h, T.fe c hc]
          · right; rw [← h, T.fe c hc]
        · right
          intro d hd
          have hdm := T.sin c d hc hd
          exact ⟨hdm, Retr.down T hk (a := t.1) (b := t.2) hdm (hl (e d) (T.emb c d hc hdm hd)).2 ht⟩

/-- A cat within reach of a sweep is caught by one move. -/
theorem lev_one {n k : Nat} {r : Nat → Nat} (hk : k = 1 ∨ k = 2) (hr : ∀ x, x < n → (r x).testBit x = true) {a b c : Nat} (hab : (a, b) ∈ chs n k) (hc : c < n) (h : (r a).testBit c = true ∨ (r b).testBit c = true) :
    lev n r (chs n k) 1 (a, b, c) := by
  obtain ⟨h1, h2, h3⟩ := (chs_mem hk).1 hab
  rw [lev_succ]
  refine .inr ⟨hab, hc, ?_⟩
  rcases hk with rfl | rfl
  · obtain rfl : a = b := by rcases h3 with h3 | h3 <;> omega
    have h' : (r a).testBit c = true := h.elim id id
    exact ⟨(c, c), (chs_mem (.inl rfl)).2 ⟨Nat.le_refl _, hc, .inr rfl⟩, canM_iff.2 (.inl ⟨h', h'⟩), .inl (ctch_iff.2 (.inl rfl))⟩
  · rcases h with h | h
    · refine ⟨srt c b, srt_mem (.inr rfl) hc h2 (.inl rfl), ?_, ?_⟩
      · have := canM_srt r a b c b
        rw [srt_le h1] at this
        show canM r (a, b) (srt c b) = true
        rw [this]
        exact canM_iff.2 (.inl ⟨h, hr b h2⟩)
      · left; rw [ctch_srt]; exact ctch_iff.2 (.inl rfl)
    · refine ⟨srt a c, srt_mem (.inr rfl) (by omega) hc (.inl rfl), ?_, ?_⟩
      · have := canM_srt r a b a c
        rw [srt_le h1] at this
        show canM r (a, b) (srt a c) = true
        rw [this]
        exact canM_iff.2 (.inl ⟨hr a (by omega), h⟩)
      · left; rw [ctch_srt]; exact ctch_iff.2 (.inr rfl)

/-- Sweeps that catch the folded cat catch the cat itself, at most one move later. -/
theorem Retr.up {n m k : Nat} {r s e f : Nat → Nat} (T : Retr n m r s e f) (hk : k = 1 ∨ k = 2) : ∀ {i a b c : Nat}, c < n → lev m s (chs m k) i (a, b, f c) → (a, b) ∈ chs m k →
    lev n r (chs n k) (i + 1) ((srt (e a) (e b)).1, (srt (e a) (e b)).2, c)
  | 0, a, b, c, hc, h, hab => by
    obtain ⟨h1, h2, h3⟩ := (chs_mem hk).1 hab
    have hm : srt (e a) (e b) ∈ chs n k := srt_mem hk (T.elt _ (by omega)) (T.elt _ h2) (h3.imp id (fun e => by rw [e]))
    have hs := T.sub c c hc (T.refl c hc)
    rw [lev_zero] at h
    refine lev_one hk T.refl hm hc ?_
    have h4 : (r (e a)).testBit c = true ∨ (r (e b)).testBit c = true := by
      rcases ctch_iff.1 h.2 with h | h
      · left; rw [← h]; exact hs
      · right; rw [← h]; exact hs
    rcases srt_or (e a) (e b) with h5 | h5 <;> rw [h5]
    · exact h4
    · exact h4.symm
  | i + 1, a, b, c, hc, h, hab => by
    obtain ⟨h1, h2, h3⟩ := (chs_mem hk).1 hab
    have hm : srt (e a) (e b) ∈ chs n k := srt_mem hk (T.elt _ (by omega)) (T.elt _ h2) (h3.imp id (fun e => by rw [e]))
    rw [lev_succ] at h
    rw [lev_succ]
    rcases h with h | ⟨-, -, t, ht, hmv, hl⟩
    · exact .inl (Retr.up T hk hc h hab)
    · obtain ⟨g1, g2, g3⟩ := (chs_mem hk).1 (show (t.1, t.2) ∈ chs m k from ht)
      have htn : srt (e t.1) (e t.2) ∈ chs n k := srt_mem hk (T.elt _ (by omega)) (T.elt _ g2) (g3.imp id (fun e => by rw [e]))
      refine .inr ⟨hm, hc, srt (e t.1) (e t.2), htn, ?_, ?_⟩
      · show canM r (srt (e a) (e b)) _ = true
        rw [canM_srt]
        exact T.canE (by omega) h2 (by omega) g2 hmv
      · right
        intro d hd
        have hdn := T.rin c d hc hd
        refine ⟨hdn, ?_⟩
        rcases hl with hl | hl
        · have hs := T.sub c d hc hd
          have h4 : (r (e t.1)).testBit d = true ∨ (r (e t.2)).testBit d = true := by
            rcases ctch_iff.1 hl with h | h
            · left; rw [← h]; exact hs
            · right; rw [← h]; exact hs
          refine lev_mono (show 1 ≤ i + 1 by omega) (lev_one hk T.refl htn hdn ?_)
          rcases srt_or (e t.1) (e t.2) with h5 | h5 <;> rw [h5]
          · exact h4
          · exact h4.symm
        · exact Retr.up T hk (a := t.1) (b := t.2) hdn (hl (f d) (T.hom c d hc hdn hd)).2 ht

/-- Sweeps catch the cat in a game exactly if they catch it in a retract. -/
theorem Retr.best {n m k : Nat} {r s e f : Nat → Nat} (T : Retr n m r s e f) (hk : k = 1 ∨ k = 2) (hn : n < 16) (hC : (chs n k).length ≤ 256) :
    (bestOf n (ranksF n r (chs n k)) (chs n k)).2 = -1 ↔ (bestOf m (ranksF m s (chs m k)) (chs m k)).2 = -1 := by
  refine Decidable.not_iff_not.1 ?_
  rw [← ne_eq, ← ne_eq, best_ne, best_ne]
  constructor
  · rintro ⟨t, ht, h⟩
    obtain ⟨g1, g2, g3⟩ := (chs_mem hk).1 (show (t.1, t.2) ∈ chs n k from ht)
    exact ⟨srt (f t.1) (f t.2), srt_mem hk (T.flt _ (by omega)) (T.flt _ g2) (g3.imp id (fun e => by rw [e])), fun c hc => T.down hk hc (h (e c) (T.elt c hc)) ht⟩
  · rintro ⟨t, ht, h⟩
    obtain ⟨g1, g2, g3⟩ := (chs_mem hk).1 (show (t.1, t.2) ∈ chs m k from ht)
    exact ⟨srt (e t.1) (e t.2), srt_mem hk (T.elt _ (by omega)) (T.elt _ g2) (g3.imp id (fun e => by rw [e])), fun c hc => lev_last hn hC (T.up hk hc (h (f c) (T.flt c hc)) ht)⟩

end Go.Proofs.YtbkbliieappkdaaDoor.Ch
