/- Copies of a graph of one's own, graphs in a slice: for the law WidthParts. -/
import Derived.Test.YtombmfphodikjaaW63
import Derived.Test.YtombmfphodikjaaW46
namespace Go.Proofs.Ytombmfphodikjaa
set_option linter.unusedSimpArgs false
set_option linter.unusedVariables false
open Go.RowKit Go.Maps

set_option maxRecDepth 20000 in
set_option maxHeartbeats 1000000 in
theorem CloneG_own {n : Nat} {z : Nat → Int} {a : Option Addr} (cap : Nat) {w : World} (h0 : 0 < n) (hn : n ≤ 1000000) (h : IntsAt w a n z) : Calls Try.prog 42 #[.slice a n cap] w fun e w' => ∃ v', e = .returned v' ∧ w'.ownsRow w.heap.size 3 1 v' n (intL z n) ∧ Below w.heap.size w w' := by
  obtain ⟨i0, hi0, hz1, hz2, hz3⟩ := info_parts info_int
  have hq := fun w a n c => Lib.run_eql_slice_nil (P := Try.prog) w 23 3 a n c 0 0 Try.underlying23
  obtain ⟨b, off, rfl, h4, h5⟩ := h.2 h0
  · go_enter Try.func42, Try.ntmps42
    have hnews : ∀ j u, ((List.range n).map fun i => Value.int .i64 (z i))[j]? = some u → (w.alloc (.cells #[] 3)).cell? ((⟨b, off, none⟩ : Addr).add j) = some u := by
      intro j u hu
      by_cases hj : j < n
      · rw [map_range_get _ hj] at hu
        cases hu
        have e1 : (⟨b, off, none⟩ : Addr).add j = ⟨b, off + j, none⟩ := by
          unfold Addr.add
          split
          · rename_i h0; subst h0; rfl
          · rfl
        rw [e1, ((Below.refl w.heap.size w).alloc (Nat.le_refl _) _).cell (p := ⟨b, off + j, none⟩) h4]
        exact h5 j hj
      · simp [hj] at hu
    have HN := Lib.hid hnews
    clear hnews
    go_wp2_with (at_builtin; refine wpList_append_own _ rfl _ _ 23 rfl w.heap.size 3 i0 (.int .i64 0) 1 8 Try.underlying23 hi0 hz1 hz2 hz3 rfl (by decide) _ _ _ rfl (World.ownsRow_made w #[] 0 (Nat.le_refl _) (Nat.zero_le _) rfl) ⟨b, off, none⟩ n cap ((List.range n).map fun i => Value.int .i64 (z i)) rfl (by simp) HN.out ?c2 ?c3 ?c4 ?c5 ?_)
    case c2 => intro u hu; obtain ⟨i, _, rfl⟩ := List.mem_map.1 hu; rfl
    case c3 => unfold maxLen; omega
    case c4 => omega
    case c5 => simp
    intro v' w1 hown hgr _
    have HO := Lib.hid hown
    have HG := Lib.hid hgr
    clear hown hgr
    go_wp2_with fail
    go_ret
    have ho := HO.out
    have hb : Below w.heap.size w w1 := ((Below.refl w.heap.size w).alloc (Nat.le_refl _) _).grown HG.out (by simp) (fun k hk => by simp [Value.ownBlock] at hk; omega)
    exact ⟨_, rfl, ho, hb⟩

set_option maxRecDepth 20000 in
set_option maxHeartbeats 1000000 in
theorem Few_own {n : Nat} {z : Nat → Int} {v : Value} {w : World} (h0 : 0 < n) (hn : n ≤ 9) (h : SliceArg w v n z) : Calls Try.prog 13 #[v] w fun e w' => ∃ g c, e = .returned (.slice (some ⟨g, 0, none⟩) n c) ∧ Mine w' g n z ∧ w.heap.size ≤ g ∧ Below w.heap.size w w' := by
  have hi := h.ints
  rcases h with ⟨rfl, rfl⟩ | ⟨x, cap, rfl, h1, h2, h3⟩
  · omega
  · obtain ⟨a', cap', e, hI⟩ := hi
    cases e
    have HI := Lib.hid hI
    unfold maxLen at h2
    clear h3 hI
    go_enter Try.func13, Try.ntmps13
    go_wp2_with (go_at_call 42; refine (CloneG_own _ h0 (by omega) HI.out).mono ?_; rintro e w1 ⟨v, rfl, ho, hb⟩; obtain ⟨g, c, rfl, _, hg, _, _, hm⟩ := own_mine ho h0; have HMI := Lib.hid hm; clear ho hm)
    go_ret
    exact ⟨g, c, rfl, HMI.out, hg, hb⟩

/-! ### graphs whose width is at most one less -/

def tru (n : Nat) (r : Nat → Nat) (x : Nat) : Int := if x < n then ((r x : Nat) : Int) else 0
theorem tru_graph {n : Nat} {r : Nat → Nat} (h : Plain n r) : graphB n 9 (tru n r) = true := by
  have h2 := h.graph
  unfold graphB at h2 ⊢
  simp only [Bool.and_eq_true, decide_eq_true_eq, List.all_eq_true, List.mem_range, beq_iff_eq] at h2 ⊢
  refine ⟨h2.1, fun i hi => ?_⟩
  obtain ⟨h3, h4⟩ := h2.2 i hi
  have e : ∀ x, x < n → tru n r x = ((r x : Nat) : Int) := fun x hx => by unfold tru; rw [if_pos hx]
  refine ⟨?_, fun j hj => by rw [e i hi, e j hj]; exact h4 j hj⟩
  unfold okCellZ at h3 ⊢
  rw [e i hi]; exact h3
theorem tru_in {n : Nat} {r : Nat → Nat} (h : Plain n r) : InI64 (tru n r) := by
  intro i
  unfold tru
  split
  · rename_i hi
    have h1 := h.bd i hi
    have h2 := pow_le9 h.le
    omega
  · omega
theorem tru_wid {n : Nat} {r : Nat → Nat} (h : Plain n r) : widthG n (tru n r) = wid n r := by
  have e : ∀ x, x < n → natG (tru n r) x = r x := fun x hx => by show (tru n r x).toNat = r x; unfold tru; rw [if_pos hx, Int.toNat_natCast]
  have hb : ∀ i, i < n → natG (tru n r) i < 2 ^ n := fun i hi => by rw [e i hi]; exact h.bd i hi
  exact Nat.le_antisymm (rst_sub h.bd hb fun u x hu _ hx => by rw [e u hu] at hx; exact hx) (rst_sub hb h.bd fun u x hu _ hx => by rw [e u hu]; exact hx)

/-- Graphs in a slice, whose widths are that of a graph or one less. -/
structure LessAt (w : World) (b N W : Nat) : Prop where
  lt : b < w.heap.size
  each : ∀ i : Nat, i < N → ∃ a m c z, w.cell? ⟨b, i, none⟩ = some (.slice a m c) ∧ IntsAt w a m z ∧ InI64 z ∧ graphB m 9 z = true ∧ widthG m z ≤ W ∧ W ≤ widthG m z + 1
theorem LessAt.below {w w' : World} {b N W : Nat} (h : LessAt w b N W) (hb : Below w.heap.size w w') : LessAt w' b N W := by
  refine ⟨Nat.lt_of_lt_of_le h.lt hb.size, fun i hi => ?_⟩
  obtain ⟨a, m, c, z, h1, h2, h3⟩ := h.each i hi
  exact ⟨a, m, c, z, by rw [hb.cell (p := ⟨b, i, none⟩) h.lt]; exact h1, h2.below hb, h3⟩
theorem ints_congr {w : World} {a : Option Addr} {n : Nat} {z z' : Nat → Int} (h : IntsAt w a n z) (he : ∀ i, i < n → z' i = z i) : IntsAt w a n z' := by
  refine ⟨h.1, fun hn => ?_⟩
  obtain ⟨b, off, h1, h2, h3⟩ := h.2 hn
  exact ⟨b, off, h1, h2, fun i hi => by rw [he i hi]; exact h3 i hi⟩
theorem less_of {w : World} {a : Option Addr} {n W : Nat} {r : Nat → Nat} (c : Nat) (hp : Plain n r) (h : IntsAt w a n (fun i => ((r i : Nat) : Int))) (h1 : wid n r ≤ W) (h2 : W ≤ wid n r + 1) : ∃ a' m c' z, Value.slice a n c = .slice a' m c' ∧ IntsAt w a' m z ∧ InI64 z ∧ graphB m 9 z = true ∧ widthG m z ≤ W ∧ W ≤ widthG m z + 1 :=
  ⟨a, n, c, tru n r, rfl, ints_congr h fun i hi => by unfold tru; rw [if_pos hi], tru_in hp, tru_graph hp, by rw [tru_wid hp]; exact h1, by rw [tru_wid hp]; exact h2⟩

theorem idx_any (kI : Int) {l : Nat} (h0 : 0 < l) (h1 : l ≤ 65536) : ∃ i : Nat, i < l ∧ wrap64 ((IntKind.u64.wrap kI).tmod (l : Int)) = (i : Int) := by
  have hU : 0 ≤ IntKind.u64.wrap kI := by rw [IntKind.wrap_u64]; omega
  generalize IntKind.u64.wrap kI = U at *
  rw [Int.tmod_eq_emod_of_nonneg hU]
  have a := Int.emod_nonneg U (show (l : Int) ≠ 0 by omega)
  have b := Int.emod_lt_of_pos U (show (0 : Int) < l by omega)
  generalize U % (l : Int) = r at *
  exact ⟨r.toNat, by omega, by rw [IntWalk.wrap64_in _ (by omega)]; omega⟩

/-- What without makes, of rows that are numbers of nodes. -/
theorem without_less {w : World} {base : Nat} {u : Value} {n v W : Nat} {r : Nat → Nat} {z : Nat → Int} (hz : ∀ i, i < n → z i = ((r i : Nat) : Int)) (hp : Plain n r) (h2 : 2 ≤ n) (hv : v < n) (h : WoOwn w base u z v (n - 1)) (h3 : wid (n - 1) (woN r v) ≤ W) (h4 : W ≤ wid (n - 1) (woN r v) + 1) :
    ∃ a m c y, u = .slice a m c ∧ IntsAt w a m y ∧ InI64 y ∧ graphB m 9 y = true ∧ widthG m y ≤ W ∧ W ≤ widthG m y + 1 := by
  obtain ⟨a, c, rfl, hi⟩ := (h.arg (by omega)).ints
  exact less_of c (woN_plain hp h2 hv) (ints_congr hi fun i hi => by unfold woZ woN; rw [hz _ (unD_lt hi), Int.toNat_natCast]) h3 h4

theorem Mine.drewN {w : World} {g m : Nat} {z : Nat → Int} (h : Mine w g m z) (k : Nat) : Mine (w.drewN k) g m z := ⟨h.lt, h.cell, h.free⟩
theorem Row.cellAdd2 {w : World} {b : Nat} {e : TypeId} {xs : List Value} (h : Row w b e xs) : ∀ j u, xs[j]? = some u → w.cell? ((⟨b, 0, none⟩ : Addr).add j) = some u := by
  intro j u hj
  have e1 : (⟨b, 0, none⟩ : Addr).add j = ⟨b, j, none⟩ := by
    unfold Addr.add
    split
    · rename_i h0; subst h0; rfl
    · simp
  rw [e1]
  exact h.cell hj
theorem info_graph : (Try.prog.info? 23).map (fun i => (i.zero, i.size, i.bytes)) = some (some (.slice none 0 0), 1, 24) := by kernel_rfl

end Go.Proofs.Ytombmfphodikjaa
