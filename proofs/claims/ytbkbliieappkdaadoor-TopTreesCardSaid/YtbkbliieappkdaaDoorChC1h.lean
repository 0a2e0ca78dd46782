/- The contract of package chase's rankAll. -/
import Derived.Test.YtbkbliieappkdaaDoorChC1g
import Derived.Deep.RegionHeld3
namespace Go.Proofs.YtbkbliieappkdaaDoor.Ch
set_option linter.unusedSimpArgs false
set_option linter.unusedVariables false
open Go.RowKit Go.Maps
attribute [local go_sem] i64_bit toNat_eq_one toNat_ne_one toNat_eq_zero toNat_ne_zero i64_and i64_or i64_andNot i64_or_pow i64_andNot_pow

/-! ### the ranks, in plain words -/

def allPl (n : Nat) (C : List (Nat × Nat)) : List Pl := C.flatMap fun ab => (List.range n).map fun c => (ab.1, ab.2, c)
def noRank (n : Nat) (r : Nat → Nat) (C : List (Nat × Nat)) (i : Nat) : Nat := (allPl n C).countP fun p => (ranksG n r C i p).isNone

theorem mem_nextL {n : Nat} {r : Nat → Nat} {F : Pl → Option Nat} {C : List (Nat × Nat)} {p : Pl} (h : p ∈ nextL n r F C) : (p.1, p.2.1) ∈ C ∧ p.2.2 < n ∧ F p = none := by
  unfold nextL foundOf at h
  simp only [List.mem_flatMap, List.mem_map, List.mem_filter, List.mem_range, Bool.and_eq_true, Option.isNone_iff_eq_none] at h
  obtain ⟨ab, hab, c, ⟨hc, _, hn⟩, rfl⟩ := h
  exact ⟨hab, hc, hn⟩
theorem nextL_all {n : Nat} {r : Nat → Nat} {F : Pl → Option Nat} {C : List (Nat × Nat)} {p : Pl} (h : p ∈ nextL n r F C) : p ∈ allPl n C := by
  obtain ⟨h1, h2, _⟩ := mem_nextL h
  unfold allPl
  simp only [List.mem_flatMap, List.mem_map, List.mem_range]
  exact ⟨_, h1, p.2.2, h2, rfl⟩

theorem countP_lt {α : Type} (p q : α → Bool) : ∀ (l : List α) (a : α), a ∈ l → p a = true → q a = false → (∀ b, q b = true → p b = true) → l.countP q < l.countP p
  | x :: l, a, ha, hp, hq, hi => by
    rcases List.mem_cons.1 ha with rfl | ha
    · rw [List.countP_cons_of_pos hp, List.countP_cons_of_neg (by simp [hq])]
      exact Nat.lt_succ_of_le (List.countP_mono_left fun b _ h => hi b h)
    · have := countP_lt p q l a ha hp hq hi
      by_cases h1 : q x = true
      · rw [List.countP_cons_of_pos h1, List.countP_cons_of_pos (hi x h1)]; omega
      · rw [List.countP_cons_of_neg h1]
        by_cases h2 : p x = true
        · rw [List.countP_cons_of_pos h2]; omega
        · rw [List.countP_cons_of_neg h2]; exact this

theorem noRank_lt {n : Nat} {r : Nat → Nat} {C : List (Nat × Nat)} {i : Nat} (h : nextL n r (ranksG n r C i) C ≠ []) : noRank n r C (i + 1) < noRank n r C i := by
  obtain ⟨p, hp⟩ := List.exists_mem_of_ne_nil _ h
  refine countP_lt _ _ _ p (nextL_all hp) (by rw [(mem_nextL hp).2.2]; rfl) ?_ ?_
  · show (stepF (ranksG n r C i) (nextL n r (ranksG n r C i) C) (i + 1) p).isNone = false
    unfold stepF; rw [if_pos hp]; rfl
  · intro b hb
    change (stepF (ranksG n r C i) (nextL n r (ranksG n r C i) C) (i + 1) b).isNone = true at hb
    unfold stepF at hb
    split at hb
    · cases hb
    · exact hb
theorem noRank_le (n : Nat) (r : Nat → Nat) (C : List (Nat × Nat)) (i : Nat) : noRank n r C i ≤ C.length * n := by
  unfold noRank
  refine Nat.le_trans List.countP_le_length ?_
  unfold allPl
  induction C with
  | nil => simp
  | cons x C ih => simp only [List.flatMap_cons, List.length_append, List.length_map, List.length_range, List.length_cons]; rw [Nat.succ_mul]; omega

theorem stepF_nil (F : Pl → Option Nat) (v : Nat) : stepF F [] v = F := by funext p; simp [stepF]
theorem ranksG_stay {n : Nat} {r : Nat → Nat} {C : List (Nat × Nat)} {i : Nat} (h : nextL n r (ranksG n r C i) C = []) : ∀ j, ranksG n r C (i + j) = ranksG n r C i
  | 0 => rfl
  | j + 1 => by
    have ih := ranksG_stay h j
    show stepF (ranksG n r C (i + j)) (nextL n r (ranksG n r C (i + j)) C) (i + j + 1) = _
    rw [ih, h, stepF_nil]
/-- The ranks, all of them. -/
def ranksF (n : Nat) (r : Nat → Nat) (C : List (Nat × Nat)) : Pl → Option Nat := ranksG n r C 4096
theorem ranksF_eq {n : Nat} {r : Nat → Nat} {C : List (Nat × Nat)} {i : Nat} (h : nextL n r (ranksG n r C i) C = []) (hi : i ≤ 4096) : ranksF n r C = ranksG n r C i := by
  have := ranksG_stay h (4096 - i)
  rw [show i + (4096 - i) = 4096 by omega] at this
  exact this

/-! ### memory -/

theorem grownBy_of_below {w w' : World} (h : Below w.heap.size w w') (row : Option Nat) : w.grownBy w' row := ⟨h.os, h.tape, h.output, h.size, fun k hk _ => h.block k hk⟩
theorem grownBy_trans {a b c : World} {row : Option Nat} (h : a.grownBy b row) (g : b.grownBy c row) : a.grownBy c row :=
  ⟨g.os.trans h.os, g.tape.trans h.tape, g.output.trans h.output, Nat.le_trans h.size g.size, fun k hk hne => (g.block k (Nat.lt_of_lt_of_le hk h.size) hne).trans (h.block k hk hne)⟩
theorem grownBy_drew {a b : World} {row : Option Nat} (h : a.grownBy b row) : a.grownBy b.drew row := ⟨h.os, h.tape, h.output, h.size, h.block⟩

theorem GameAt.drew {w : World} {gp n b cb cc mb : Nat} {r : Nat → Nat} {C : List (Nat × Nat)} {F : Pl → Option Nat} (h : GameAt w gp n b cb cc mb r C F) : GameAt w.drew gp n b cb cc mb r C F := h.below (Below.refl _ _).drew

theorem GameAt.store {w : World} {gp n b cb cc mb : Nat} {r : Nat → Nat} {C : List (Nat × Nat)} {F : Pl → Option Nat} (h : GameAt w gp n b cb cc mb r C F) (h1 : mb ≠ gp) (h2 : mb ≠ b) (h3 : mb ≠ cb)
    (p : Pl) (v : Nat) (hp : p.1 < n ∧ p.2.1 < n ∧ p.2.2 < n) (hv : v < 65536) :
    ∃ w', (Instr.mapUpdate 95 (.map (some mb)) (encPl p) (.int .i64 v)).run Tryd.prog w = .ok () w' ∧ GameAt w' gp n b cb cc mb r C (fun q => if q = p then some v else F q) ∧ w.grownBy w' (some mb) ∧ w'.heap.size = w.heap.size := by
  have hn := h.town.small
  obtain ⟨w', hrun, hM, hg, hz⟩ := h.mp.store keyed_Pl encPl_inj (fun x v hx => key_Pl (by have := h.inF x v hx; omega)) Tryd.underlying95 p v (key_Pl (by omega))
  have cl : ∀ (blk o : Nat), blk < w.heap.size → mb ≠ blk → w'.cell? ⟨blk, o, none⟩ = w.cell? ⟨blk, o, none⟩ := fun blk o hb hne =>
    World.cell?_of_block (hg.block blk hb (fun e => hne (Option.some.inj e).symm))
  refine ⟨w', hrun, ?_, hg, hz⟩
  exact {
    town := ⟨Nat.lt_of_lt_of_le h.town.lt hg.size, hn, fun i hi => by rw [cl b i h.town.lt h2]; exact h.town.cell i hi, h.town.bd⟩
    gl := Nat.lt_of_lt_of_le h.gl hg.size
    cl := Nat.lt_of_lt_of_le h.cl hg.size
    g0 := by rw [cl gp 0 h.gl h1]; exact h.g0
    g1 := by rw [cl gp 1 h.gl h1]; exact h.g1
    g2 := by rw [cl gp 2 h.gl h1]; exact h.g2
    g3 := by rw [cl gp 3 h.gl h1]; exact h.g3
    ch := fun i ab hi => by rw [cl cb _ h.cl h3, cl cb _ h.cl h3]; exact h.ch i ab hi
    mp := hM
    inC := h.inC
    inF := fun q u hq => by
      split at hq
      · rename_i e; subst e; cases hq; exact ⟨hp.1, hp.2.1, hp.2.2, hv⟩
      · exact h.inF q u hq
    few := h.few }

/-- The ranks 0 along the first choices. -/
def baseTo (C : List (Nat × Nat)) (k : Nat) : Pl → Option Nat := fun p => if (p.1, p.2.1) ∈ C.take k ∧ ctchB p = true then some 0 else none
theorem baseTo_zero (C : List (Nat × Nat)) : baseTo C 0 = fun _ => none := by funext p; simp [baseTo]
theorem baseTo_all (C : List (Nat × Nat)) : baseTo C C.length = baseF C := by funext p; simp [baseTo, baseF]
theorem baseTo_succ (C : List (Nat × Nat)) (k : Nat) (x y : Nat) (h : C[k]? = some (x, y)) : (fun q => if q = (x, y, y) then some 0 else if q = (x, y, x) then some 0 else baseTo C k q) = baseTo C (k + 1) := by
  funext q
  obtain ⟨a, b, c⟩ := q
  unfold baseTo
  rw [take_snoc' C k (x, y) h]
  simp only [List.mem_append, List.mem_singleton, Prod.mk.injEq, ctchB, Bool.or_eq_true, beq_iff_eq]
  by_cases h1 : a = x ∧ b = y
  · obtain ⟨rfl, rfl⟩ := h1
    by_cases h2 : c = b
    · subst h2; simp
    · by_cases h3 : c = a
      · subst h3; simp
      · simp [h2, h3]
  · have h2 : ¬ (a = x ∧ b = y ∧ c = y) := fun h => h1 ⟨h.1, h.2.1⟩
    have h3 : ¬ (a = x ∧ b = y ∧ c = x) := fun h => h1 ⟨h.1, h.2.1⟩
    simp [h1, h2, h3]
theorem stepTo_succ (F : Pl → Option Nat) (L : List Pl) (k v : Nat) (p : Pl) (h : L[k]? = some p) : (fun q => if q = p then some v else stepF F (L.take k) v q) = stepF F (L.take (k + 1)) v := by
  funext q
  unfold stepF
  rw [take_snoc' L k p h]
  simp only [List.mem_append, List.mem_singleton]
  by_cases h1 : q = p
  · simp [h1]
  · simp [h1]

/-- The form of a slice of one's own. -/
theorem own_form {w : World} {base : Nat} {e : TypeId} {size : Nat} {v : Value} {n : Nat} {xs : List Value} (h : w.ownsRow base e size v n xs) : ∃ a cap, v = .slice a n cap := by
  rcases h.2 with h1 | ⟨g, cap, cur, hv, _⟩
  · exact ⟨none, 0, by rw [h1.1, h1.2]⟩
  · exact ⟨_, cap, hv⟩
theorem own_form' {w : World} {base : Nat} {e : TypeId} {size : Nat} {v : Value} {n : Nat} {xs : List Value} (h : w.ownsRow base e size v n xs) (hn : n ≠ 0) : ∃ g cap, v = .slice (some ⟨g, 0, none⟩) n cap ∧ base ≤ g ∧ g < w.heap.size := by
  rcases h.2 with h1 | ⟨g, cap, cur, hv, hg, hh, _⟩
  · exact absurd h1.2 hn
  · exact ⟨g, cap, hv, hg, (Array.getElem?_eq_some_iff.1 hh).1⟩

end Go.Proofs.YtbkbliieappkdaaDoor.Ch
