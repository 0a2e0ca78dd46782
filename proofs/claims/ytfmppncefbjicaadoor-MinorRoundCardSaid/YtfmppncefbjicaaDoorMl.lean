/- Package minor: the contracts of joined, of the reference's Contract (link and join alike). -/
import Derived.Test.YtfmppncefbjicaaDoorMk
import Derived.Test.YtfmppncefbjicaaDoorRb
namespace Go.Proofs.YtfmppncefbjicaaDoor
set_option linter.unusedSimpArgs false
set_option linter.unusedVariables false
open Go.RowKit Go.Maps
attribute [local go_sem] i64_bit toNat_eq_one toNat_ne_one toNat_eq_zero toNat_ne_zero i64_and i64_or i64_andNot i64_or_pow i64_andNot_pow

/-- Two nodes made neighbours, as functions. -/
def upF (f : Nat → Nat) (x y t : Nat) : Nat := if t = x then f x ||| 2 ^ y else f t
def lnkF (f : Nat → Nat) (x y : Nat) : Nat → Nat := upF (upF f x y) y x
theorem upF_lt {m x y : Nat} {f : Nat → Nat} (hf : ∀ i, i < m → f i < 256) (hy : y < 8) : ∀ i, i < m → upF f x y i < 256 := fun i hi => by
  unfold upF
  have h3 : 2 ^ y < 256 := Nat.pow_lt_pow_right (a := 2) (m := y) (n := 8) (by omega) hy
  split
  · rename_i e
    rw [← e]
    exact Nat.or_lt_two_pow (n := 8) (hf i hi) h3
  · exact hf i hi
theorem lnkF_lt {n x y : Nat} {f : Nat → Nat} (hf : ∀ i, i < n → f i < 2 ^ n) (hx : x < n) (hy : y < n) : ∀ i, i < n → lnkF f x y i < 2 ^ n := fun i hi => by
  have hp : ∀ {k : Nat}, k < n → 2 ^ k < 2 ^ n := fun h => Nat.pow_lt_pow_right (by omega) h
  have h1 : ∀ i, i < n → upF f x y i < 2 ^ n := fun i hi => by
    unfold upF
    split
    · exact Nat.or_lt_two_pow (hf x hx) (hp hy)
    · exact hf i hi
  show upF (upF f x y) y x i < 2 ^ n
  unfold upF
  split
  · exact Nat.or_lt_two_pow (h1 y hy) (hp hx)
  · exact h1 i hi
/-- A node joined with some, one after another. -/
def jnF (f : Nat → Nat) (a : Nat) (pre : List Nat) : Nat → Nat := pre.foldl (fun g u => lnkF g a u) f
theorem jnF_snoc (f : Nat → Nat) (a : Nat) (pre : List Nat) (u : Nat) : jnF f a (pre ++ [u]) = lnkF (jnF f a pre) a u := by simp [jnF]
theorem jnF_lt {n a : Nat} (ha : a < n) : ∀ (pre : List Nat) (f : Nat → Nat), (∀ i, i < n → f i < 2 ^ n) → (∀ u ∈ pre, u < n) → ∀ i, i < n → jnF f a pre i < 2 ^ n := by
  intro pre
  induction pre with
  | nil => intro f hf _; exact hf
  | cons u pre ih => intro f hf hp; exact ih _ (lnkF_lt hf ha (hp u (List.mem_cons_self ..))) fun x hx => hp x (List.mem_cons_of_mem _ hx)

theorem ownsRow_low {w : World} {base base' : Nat} {e : TypeId} {size : Nat} {v : Value} {n : Nat} {xs : List Value} (h : w.ownsRow base e size v n xs) (hb : base' ≤ base) : w.ownsRow base' e size v n xs :=
  ⟨h.1, h.2.imp_right fun ⟨g, c, cur, hv, hg, r⟩ => ⟨g, c, cur, hv, Nat.le_trans hb hg, r⟩⟩
/-- A graph in a block of one's own. -/
def GOwn (w : World) (base : Nat) (v : Value) (n : Nat) (f : Nat → Nat) : Prop := w.ownsRow base 3 1 v n ((List.range n).map fun i => Value.int .i64 (f i : Nat))
theorem GOwn.at_ {w : World} {base g n c : Nat} {f : Nat → Nat} (h : GOwn w base (.slice (some ⟨g, 0, none⟩) n c) n f) {x : Nat} (hx : x < n) : w.cell? ⟨g, x, none⟩ = some (.int .i64 (f x : Nat)) := by
  rw [World.ownsRow.cellAt h x (by omega)]
  exact map_range_get _ hx
theorem GOwn.up {w : World} {base g n c : Nat} {f : Nat → Nat} (h : GOwn w base (.slice (some ⟨g, 0, none⟩) n c) n f) {x : Nat} (hx : x < n) (y : Nat) : GOwn (w.setCell ⟨g, x, none⟩ (.int .i64 (f x ||| 2 ^ y : Nat))) base (.slice (some ⟨g, 0, none⟩) n c) n (upF f x y) := by
  have := (World.ownsRow.stored h x (.int .i64 (f x ||| 2 ^ y : Nat))).1
  rw [map_range_set] at this
  unfold GOwn
  rw [show ((List.range n).map fun i => Value.int .i64 (upF f x y i : Nat)) = (List.range n).map fun i => if i = x then .int .i64 (f x ||| 2 ^ y : Nat) else Value.int .i64 (f i : Nat) from List.map_congr_left fun i _ => by unfold upF; split <;> rfl]
  exact this
theorem GOwn.cap {w : World} {base g n c : Nat} {f : Nat → Nat} (h : GOwn w base (.slice (some ⟨g, 0, none⟩) n c) n f) : n ≤ c := by
  rcases h.2 with ⟨h1, _⟩ | ⟨g', c', cur, hv, _, _, h5, _⟩
  · simp at h1
  · simp only [Value.slice.injEq] at hv
    omega
theorem GOwn.base {w : World} {base g n c : Nat} {f : Nat → Nat} (h : GOwn w base (.slice (some ⟨g, 0, none⟩) n c) n f) (hn : 0 < n) : base ≤ g := by
  rcases h.2 with ⟨h1, _⟩ | ⟨g', c', cur, hv, h2, _⟩
  · simp at h1
  · simp only [Value.slice.injEq, Option.some.injEq, Addr.mk.injEq] at hv
    rw [hv.1.1]; exact h2
theorem GOwn.ints {w : World} {base g n c : Nat} {f : Nat → Nat} (h : GOwn w base (.slice (some ⟨g, 0, none⟩) n c) n f) (hn : n ≤ 1000) : IntsAt w (some ⟨g, 0, none⟩) n (fun i => ((f i : Nat) : Int)) :=
  ⟨by unfold maxLen; omega, fun h0 => ⟨g, 0, rfl, by
    rcases h.2 with ⟨h1, _⟩ | ⟨g', c', cur, hv, _, h3, _⟩
    · simp at h1
    · simp only [Value.slice.injEq, Option.some.injEq, Addr.mk.injEq] at hv
      rw [hv.1.1]; exact (Array.getElem?_eq_some_iff.1 h3).1, fun i hi => by rw [Nat.zero_add]; exact h.at_ hi⟩⟩

set_option maxRecDepth 20000 in
set_option maxHeartbeats 2000000 in
theorem link_own {f : Nat → Nat} {m base g c x y B : Nat} {w : World} (hO : GOwn w base (.slice (some ⟨g, 0, none⟩) m c) m f) (hf : ∀ i, i < m → f i < 256) (hm : m ≤ 8) (hx : x < m) (hy : y < m) (hB : B ≤ base) :
    Calls Tryd.prog 90 #[.slice (some ⟨g, 0, none⟩) m c, .int .i64 x, .int .i64 y] w fun e w' => e = .returned (.tuple #[]) ∧ GOwn w' base (.slice (some ⟨g, 0, none⟩) m c) m (lnkF f x y) ∧ Below B w w' ∧ (∀ B', KeepsFrom B' w w') ∧ ∀ b T L, b ≠ g → Row w b T L → Row w' b T L := by
  have hx16 : x < 16 := by omega
  have hy16 : y < 16 := by omega
  have hcap := GOwn.cap hO
  have hbg := GOwn.base hO (by omega)
  have c1 := hO.at_ hx
  have f1 := World.ownsRow.frozenAt hO x
  have hO1 := hO.up hx y
  have hf1 := upF_lt hf (show y < 8 by omega) (x := x)
  have c2' := hO1.at_ hy
  have hO2 : GOwn ((w.setCell ⟨g, x, none⟩ (.int .i64 (f x ||| 2 ^ y : Nat))).setCell ⟨g, y, none⟩ (.int .i64 ((upF f x y) y ||| 2 ^ x : Nat))) base (.slice (some ⟨g, 0, none⟩) m c) m (lnkF f x y) := hO1.up hy x
  have hor1 := i64_or_pow (f x) y (by have := hf x hx; omega) hy16
  have hor2 := i64_or_pow ((upF f x y) y) x (by have := hf1 y hy; omega) hx16
  have HO1 := Lib.hid hO1
  have HO2 := Lib.hid hO2
  have hpy := pow_bd y hy16
  have hpx := pow_bd x hx16
  have HFX := Lib.hid (hf x hx)
  have HFY := Lib.hid (hf1 y hy)
  have HUP : Hid (upF f x y = upF f x y) := Lib.hid rfl
  generalize lnkF f x y = F2 at *
  generalize hb1 : (upF f x y) y = b1 at *
  generalize upF f x y = F1 at *
  generalize f x = a1 at *
  clear hO hO1 hO2 hf hf1 hb1
  go_enter Tryd.func90, Tryd.ntmps90
  go_wp2_with fail
  refine wp_region_still_tail 8 (by kernel_rfl) (by kernel_rfl) ?_
  simp only [List.take_succ_cons, List.take_zero, List.drop_succ_cons, List.drop_zero]
  repeat still_step
  refine wpStill_nil ?_
  change wpList _ _ _ _ _ w.drew
  go_wp2_with fail
  rw [hor1]
  obtain ⟨w2, hw2⟩ : ∃ z, z = (w.setCell ⟨g, x, none⟩ (.int .i64 (a1 ||| 2 ^ y : Nat))).drew := ⟨_, rfl⟩
  have HR2 : Hid (GOwn w2 base (.slice (some ⟨g, 0, none⟩) m c) m F1) := Lib.hid (by rw [hw2]; exact HO1.out)
  have HB2 : Hid (Below B w w2) := Lib.hid (by rw [hw2]; exact below_drewN ((Below.refl B w).setCell (p := ⟨g, x, none⟩) (Nat.le_trans hB hbg) _) 1)
  have HW2 : Hid (∀ b T L, b ≠ g → Row w b T L → Row w2 b T L) := Lib.hid fun b T L hb h => by rw [hw2]; exact (h.other hb _).drewN 1
  have HK2 : Hid (∀ B', KeepsFrom B' w w2) := Lib.hid fun B' => by rw [hw2]; exact (keeps_set B' w g x _).trans ((keeps_drewN _ 1).from B')
  have c2 : w2.cell? ⟨g, y, none⟩ = some (.int .i64 b1) := by rw [hw2]; exact c2'
  have f2 := World.ownsRow.frozenAt HR2.out y
  have HR3 : Hid (GOwn ((w2.setCell ⟨g, y, none⟩ (.int .i64 (b1 ||| 2 ^ x : Nat))).drew) base (.slice (some ⟨g, 0, none⟩) m c) m F2) := Lib.hid (by rw [hw2]; exact HO2.out)
  rw [← hw2]
  clear hw2 c1 f1 c2'
  refine wp_region_still_tail 8 (by kernel_rfl) (by kernel_rfl) ?_
  simp only [List.take_succ_cons, List.take_zero, List.drop_succ_cons, List.drop_zero]
  repeat still_step
  refine wpStill_nil ?_
  change wpList _ _ _ _ _ w2.drew
  go_wp2_with fail
  rw [hor2]
  go_end0
  exact ⟨rfl, HR3.out, below_drewN (HB2.out.setCell (p := ⟨g, y, none⟩) (Nat.le_trans hB hbg) _) 1, fun B' => (HK2.out B').trans ((keeps_set B' w2 g y _).trans ((keeps_drewN _ 1).from B')), fun b T L hb h => ((HW2.out b T L hb h).other hb _).drewN 1⟩

set_option maxRecDepth 20000 in
set_option maxHeartbeats 2000000 in
theorem join_own {f : Nat → Nat} {m base g c x y B : Nat} {w : World} (hO : GOwn w base (.slice (some ⟨g, 0, none⟩) m c) m f) (hf : ∀ i, i < m → f i < 256) (hm : m ≤ 8) (hx : x < m) (hy : y < m) (hB : B ≤ base) :
    Calls Tryd.prog 67 #[.slice (some ⟨g, 0, none⟩) m c, .int .i64 x, .int .i64 y] w fun e w' => e = .returned (.tuple #[]) ∧ GOwn w' base (.slice (some ⟨g, 0, none⟩) m c) m (lnkF f x y) ∧ Below B w w' ∧ (∀ B', KeepsFrom B' w w') ∧ ∀ b T L, b ≠ g → Row w b T L → Row w' b T L := by
  have hx16 : x < 16 := by omega
  have hy16 : y < 16 := by omega
  have hcap := GOwn.cap hO
  have hbg := GOwn.base hO (by omega)
  have c1 := hO.at_ hx
  have f1 := World.ownsRow.frozenAt hO x
  have hO1 := hO.up hx y
  have hf1 := upF_lt hf (show y < 8 by omega) (x := x)
  have c2' := hO1.at_ hy
  have hO2 : GOwn ((w.setCell ⟨g, x, none⟩ (.int .i64 (f x ||| 2 ^ y : Nat))).setCell ⟨g, y, none⟩ (.int .i64 ((upF f x y) y ||| 2 ^ x : Nat))) base (.slice (some ⟨g, 0, none⟩) m c) m (lnkF f x y) := hO1.up hy x
  have hor1 := i64_or_pow (f x) y (by have := hf x hx; omega) hy16
  have hor2 := i64_or_pow ((upF f x y) y) x (by have := hf1 y hy; omega) hx16
  have HO1 := Lib.hid hO1
  have HO2 := Lib.hid hO2
  have hpy := pow_bd y hy16
  have hpx := pow_bd x hx16
  have HFX := Lib.hid (hf x hx)
  have HFY := Lib.hid (hf1 y hy)
  have HUP : Hid (upF f x y = upF f x y) := Lib.hid rfl
  generalize lnkF f x y = F2 at *
  generalize hb1 : (upF f x y) y = b1 at *
  generalize upF f x y = F1 at *
  generalize f x = a1 at *
  clear hO hO1 hO2 hf hf1 hb1
  go_enter Tryd.func67, Tryd.ntmps67
  go_wp2_with fail
  refine wp_region_still_tail 8 (by kernel_rfl) (by kernel_rfl) ?_
  simp only [List.take_succ_cons, List.take_zero, List.drop_succ_cons, List.drop_zero]
  repeat still_step
  refine wpStill_nil ?_
  change wpList _ _ _ _ _ w.drew
  go_wp2_with fail
  rw [hor1]
  obtain ⟨w2, hw2⟩ : ∃ z, z = (w.setCell ⟨g, x, none⟩ (.int .i64 (a1 ||| 2 ^ y : Nat))).drew := ⟨_, rfl⟩
  have HR2 : Hid (GOwn w2 base (.slice (some ⟨g, 0, none⟩) m c) m F1) := Lib.hid (by rw [hw2]; exact HO1.out)
  have HB2 : Hid (Below B w w2) := Lib.hid (by rw [hw2]; exact below_drewN ((Below.refl B w).setCell (p := ⟨g, x, none⟩) (Nat.le_trans hB hbg) _) 1)
  have HW2 : Hid (∀ b T L, b ≠ g → Row w b T L → Row w2 b T L) := Lib.hid fun b T L hb h => by rw [hw2]; exact (h.other hb _).drewN 1
  have HK2 : Hid (∀ B', KeepsFrom B' w w2) := Lib.hid fun B' => by rw [hw2]; exact (keeps_set B' w g x _).trans ((keeps_drewN _ 1).from B')
  have c2 : w2.cell? ⟨g, y, none⟩ = some (.int .i64 b1) := by rw [hw2]; exact c2'
  have f2 := World.ownsRow.frozenAt HR2.out y
  have HR3 : Hid (GOwn ((w2.setCell ⟨g, y, none⟩ (.int .i64 (b1 ||| 2 ^ x : Nat))).drew) base (.slice (some ⟨g, 0, none⟩) m c) m F2) := Lib.hid (by rw [hw2]; exact HO2.out)
  rw [← hw2]
  clear hw2 c1 f1 c2'
  refine wp_region_still_tail 8 (by kernel_rfl) (by kernel_rfl) ?_
  simp only [List.take_succ_cons, List.take_zero, List.drop_succ_cons, List.drop_zero]
  repeat still_step
  refine wpStill_nil ?_
  change wpList _ _ _ _ _ w2.drew
  go_wp2_with fail
  rw [hor2]
  go_end0
  exact ⟨rfl, HR3.out, below_drewN (HB2.out.setCell (p := ⟨g, y, none⟩) (Nat.le_trans hB hbg) _) 1, fun B' => (HK2.out B').trans ((keeps_set B' w2 g y _).trans ((keeps_drewN _ 1).from B')), fun b T L hb h => ((HW2.out b T L hb h).other hb _).drewN 1⟩

set_option maxRecDepth 20000 in
set_option maxHeartbeats 1000000 in
theorem CloneT_own {n cap b off : Nat} {f : Nat → Nat} {w : World} (hn : n ≤ 1000000) (hn0 : 0 < n) (h4 : b < w.heap.size) (h5 : ∀ i, i < n → w.cell? ⟨b, off + i, none⟩ = some (.int .i64 (f i : Nat))) :
    Calls Tryd.prog 101 #[.slice (some ⟨b, off, none⟩) n cap] w fun e w' => ∃ v, e = .returned v ∧ GOwn w' w.heap.size v n f ∧ Below w.heap.size w w' := by
  obtain ⟨i0, hi0, hz1, hz2, hz3⟩ := info_parts info_int
  have hq := fun w a n c => Lib.run_eql_slice_nil (P := Tryd.prog) w 74 3 a n c 0 0 Tryd.underlying74
  obtain ⟨x, hx⟩ : ∃ x : Addr, x = ⟨b, off, none⟩ := ⟨_, rfl⟩
  rw [← hx]
  go_enter Tryd.func101, Tryd.ntmps101
  have hnews : ∀ j u, ((List.range n).map fun i => Value.int .i64 (f i : Nat))[j]? = some u → (w.alloc (.cells #[] 3)).cell? (x.add j) = some u := by
    intro j u hu
    by_cases hj : j < n
    · rw [map_range_get _ hj] at hu
      cases hu
      have e1 : (⟨b, off, none⟩ : Addr).add j = ⟨b, off + j, none⟩ := by
        unfold Addr.add
        split
        · rename_i h0; subst h0; rfl
        · rfl
      rw [hx, e1, ((Below.refl w.heap.size w).alloc (Nat.le_refl _) _).cell (p := ⟨b, off + j, none⟩) h4]
      exact h5 j hj
    · simp [hj] at hu
  have HN := Lib.hid hnews
  clear hnews
  go_wp2_with (at_builtin; refine wpList_append_own _ rfl _ _ 74 rfl w.heap.size 3 i0 (.int .i64 0) 1 8 Tryd.underlying74 hi0 hz1 hz2 hz3 rfl (by decide) _ _ _ rfl (World.ownsRow_made w #[] 0 (Nat.le_refl _) (Nat.zero_le _) rfl) x n cap ((List.range n).map fun i => Value.int .i64 (f i : Nat)) rfl (by simp) HN.out ?c2 ?c3 ?c4 ?c5 ?_)
  case c2 => intro u hu; obtain ⟨i, _, rfl⟩ := List.mem_map.1 hu; rfl
  case c3 => unfold maxLen; omega
  case c4 => omega
  case c5 => simp
  intro v' w1 hown hgr _
  have HO := Lib.hid hown
  have HG := Lib.hid hgr
  clear hown hgr
  go_wp2_with fail
  go_ret
  have ho := HO.out
  have hb : Below w.heap.size w w1 := ((Below.refl w.heap.size w).alloc (Nat.le_refl _) _).grown HG.out (by simp) (fun k hk => by simp [Value.ownBlock] at hk; omega)
  try simp only [Nat.zero_add, List.nil_append] at ho
  exact ⟨_, rfl, ho, hb⟩

section
attribute [local go_sem] Oper.semAt_some wide_fn wide_fn_in
set_option maxRecDepth 100000 in
set_option maxHeartbeats 4000000 in
theorem joined_any {n a c : Nat} {r : Nat → Nat} {ad : Option Addr} {w : World} (G : Tn w ad n r) (cap : Nat) (ha : a < n) (hc : c < n) (hT : Tab w) :
    Calls Tryd.prog 81 #[.slice ad n cap, .int .i64 a, .int .i64 c] w fun e w' => ∃ u, e = .returned u ∧ WoOwn w' w.heap.size u (fun i => ((jnF r a (bitsOf (diff (r c) (2 ^ a))) i : Nat) : Int)) c (n - 1) ∧ Below w.heap.size w w' := by
  have hn8 := G.le
  have h8 := pow_le8 hn8
  obtain ⟨hml, hI⟩ := G.at_.ints
  obtain ⟨b, off, rfl, hlt, hcell⟩ := hI G.at_.pos
  have HR := Lib.hid G.bd
  have HT := Lib.hid hT
  have hS : diff (r c) (2 ^ a) < 2 ^ n := Nat.lt_of_le_of_lt (diff_le _ _) (G.bd c hc)
  have hS16 : diff (r c) (2 ^ a) < 1024 := by omega
  have HS := Lib.hid hS
  have hrc := G.bd c hc
  have hrc16 : r c < 65536 := by omega
  have ha16 : a < 16 := by omega
  have han := i64_andNot_pow (r c) a hrc16 ha16
  have hpa := pow_bd a ha16
  have han2 : bits .andNot .i64 ((r c : Nat) : Int) (IntKind.i64.wrap ((2 : Int) ^ a)) = ((diff (r c) (2 ^ a) : Nat) : Int) := by rw [IntWalk.i64_in ((2 : Int) ^ a) (by omega)]; exact han
  unfold maxLen at hml
  refine (callsIn_wide (n := 9)).1 ?_
  refine callsIn_of_wp_marks Tryd.func81 rfl trivial ?_ rfl
  simp only [Tryd.ntmps81, List.size_toArray, List.length_cons, List.length_nil, Nat.reduceAdd, Nat.reduceSub, Array.replicate_succ, Array.replicate_zero, List.push_toArray, List.append_toArray, List.nil_append, List.cons_append]
  obtain ⟨w0, hw0, r0, hb0, hs0⟩ := new1 w 3 [.int .i64 a]
  have hcell0 : ∀ i, i < n → w0.cell? ⟨b, off + i, none⟩ = some (.int .i64 (r i : Nat)) := fun i hi => by rw [hb0.cell (p := ⟨b, off + i, none⟩) hlt]; exact hcell i hi
  have HCL := Lib.hid (CloneT_own (cap := cap) (f := r) (n := n) (by omega) (by omega) (Nat.lt_of_lt_of_le hlt hb0.size) hcell0)
  have hn0 : n ≠ 0 := by omega
  gi_wp2_with (rw [← hw0]; gi_at_call 101; refine (callsIn_wide.2 HCL.out).mono ?_; rintro e w1 ⟨v1, rfl, ho1, hb1⟩; obtain ⟨g, c1, rfl, hg1, hg2⟩ := own_form' ho1 hn0; have HOX := Lib.hid ho1; have HBX := Lib.hid hb1; clear ho1 hb1)
  have ho1 := HOX.out
  have hb1 := HBX.out
  have HO1 := Lib.hid ho1
  have r0' := r0.below hb1 (by omega)
  have HB1 := Lib.hid (hb0.trans (hb1.mono hb0.size))
  have HG := Lib.hid G
  obtain ⟨w2, hw2, r2, hb2, hs2⟩ := new1 w1 74 [.slice (some ⟨g, 0, none⟩) n c1]
  have HO2 : Hid (GOwn w2 w0.heap.size (.slice (some ⟨g, 0, none⟩) n c1) n r) := Lib.hid (by rw [hw2]; exact World.ownsRow.alloc HO1.out _)
  have q0 := r0'.below hb2 r0'.lt
  have HB2 := Lib.hid (HB1.out.trans (hb2.mono HB1.out.size))
  have hs1 := hb1.size
  have ccell : w2.cell? ⟨b, off + c, none⟩ = some (.int .i64 (r c : Nat)) := by rw [HB2.out.cell (p := ⟨b, off + c, none⟩) hlt]; exact hcell c hc
  have ca := q0.cell (i := 0) rfl
  obtain ⟨S, hSd⟩ : ∃ S, S = diff (r c) (2 ^ a) := ⟨_, rfl⟩
  rw [← hSd] at HS han han2 hS16 hS
  have HSD := Lib.hid hSd
  have hl01 : w.heap.size < w1.heap.size := by omega
  clear hb0 hb1 hb2 ho1 r0 r0' hcell hcell0 G hT hSd
  rw [← hw2]
  clear hw2
  refine last_round2 (by kernel_rfl) rfl (by kernel_rfl) (by kernel_rfl) (by kernel_rfl) ?_
  dsimp only [initOf, lastOf]
  repeat (gi_big_quiet_step (fail))
  refine wpQuietIn_nil ?_
  rintro _ ⟨nq, rfl⟩
  have HND := Lib.hid (nodes_any S (w2.drewN nq))
  clear ccell ca han han2
  gi_wp2_with fail
  refine (callsIn_wide.2 HND.out).mono ?_
  rintro e w9 ⟨rfl, rfl⟩
  have hrs0 := (Row.new (w2.drewN nq) 3 [.int .i64 S])
  have hb30 : Below w2.heap.size w2 ((w2.drewN nq).alloc (.cells #[.int .i64 S] 3)) := (below_drewN (Below.refl _ _) nq).alloc (Nat.le_refl _) _
  obtain ⟨w3, hw3⟩ : ∃ z, z = (w2.drewN nq).alloc (.cells #[.int .i64 S] 3) := ⟨_, rfl⟩
  have hrs : Row w3 w2.heap.size 3 [.int .i64 S] := by rw [hw3]; exact hrs0
  have hb3 : Below w2.heap.size w2 w3 := by rw [hw3]; exact hb30
  rw [← hw3]
  clear hw3 hrs0 hb30 HND
  gi_wp2_with fail
  have HO3 : Hid (GOwn w3 w0.heap.size (.slice (some ⟨g, 0, none⟩) n c1) n r) := Lib.hid (ownsRow_below HO2.out hb3 (Nat.le_refl _))
  have p0 := q0.below hb3 q0.lt
  have p2 := r2.below hb3 r2.lt
  have HB3 := Lib.hid (HB2.out.trans (hb3.mono HB2.out.size))
  have hs3 := hb3.size
  have hs0' : w.heap.size ≤ w0.heap.size := by omega
  clear hb3 q0 r2 HO2 HO1 HOX HBX HCL
  refine range_nodes (nodes_seq S hS16 _ w3 (by have := hrs.lt; exact this) (hrs.cell (i := 0) rfl) (HT.out.below HB3.out)) Tab.put (Below.refl _ _) rfl (enters_of Tryd.func109 (by kernel_rfl) rfl) rfl
    (fun pre W => GOwn W w0.heap.size (.slice (some ⟨g, 0, none⟩) n c1) n (jnF r a pre) ∧ Row W w.heap.size 3 [.int .i64 a] ∧ Row W w1.heap.size 74 [.slice (some ⟨g, 0, none⟩) n c1] ∧ (∀ u ∈ pre, u < n) ∧ Below w.heap.size w W)
    (fun _ _ _ => False)
    ((ownFrom_ownsRow _ _ _ _ (fun _ => Value.slice (some ⟨g, 0, none⟩) n c1) (fun _ => n) (fun pre => (List.range n).map fun i => Value.int .i64 (jnF r a pre i : Nat))).and (((own_row _ _ _).from _).and (((own_row _ _ _).from _).and ((ownFrom_pure _ _).and (ownFrom_below (Nat.le_refl _) HB3.out.size)))))
    (fun c => ownFrom_pure _ _)
    ⟨HO3.out, p0, p2, by simp, HB3.out⟩ (fun _ W h => HT.out.below h.2.2.2.2) ?a1 ?assign ?body ?done ?stop
  case assign =>
    intro l x W K hx hK
    gi_wp2
    exact hK
  case body =>
    rintro l pre x W hx hpfx ⟨o5, o0, o2, hpre, hB⟩
    have hxn := bitsOf_lt HS.out hx
    have HST := Lib.hid (jnF_snoc r a pre x)
    have HPR : Hid (∀ u ∈ pre ++ [x], u < n) := Lib.hid fun u hu => by
      rcases List.mem_append.1 hu with h | h
      · exact hpre u h
      · rw [List.mem_singleton.1 h]; exact hxn
    have hbd := fun i hi => Nat.lt_of_lt_of_le (jnF_lt ha pre r HR.out hpre i hi) h8
    have c0 := o0.cell (i := 0) rfl
    have c2 := o2.cell (i := 0) rfl
    have HLK := Lib.hid (link_own (B := w0.heap.size) o5 hbd hn8 ha hxn (Nat.le_refl _))
    have l0 := o0.lt
    have l2 := o2.lt
    have H0 := Lib.hid o0
    have H2 := Lib.hid o2
    have HB := Lib.hid hB
    clear hpre hpfx hbd o5 o0 o2 hB
    gi_wp2_with (gi_at_call 90; refine (CallsIn.inRound l (callsIn_wide.2 HLK.out)).mono ?_; rintro e W5 ⟨rfl, ho5, hb5, hk5, hw5⟩)
    exact ⟨hk5 _, by rw [HST.out]; exact ho5, hw5 _ _ _ (by omega) H0.out, hw5 _ _ _ (by omega) H2.out, HPR.out, HB.out.trans (hb5.mono (by omega))⟩
  case done =>
    rintro D W hD ⟨o5, o0, o2, hpre, hB⟩ hK
    have c2 := o2.cell (i := 0) rfl
    have HM := Lib.hid (Marks.one (B := w.heap.size) (Nat.le_trans HB3.out.size hD) hK)
    have hbd := jnF_lt ha (bitsOf S) r HR.out hpre
    have HWO := Lib.hid (minorWithout_any (cap := c1) (GOwn.ints o5 (by omega)) hc (by omega) (fun i hi => ⟨Int.natCast_nonneg _, by have := hbd i hi; rw [pow_cast n]; exact_mod_cast this⟩))
    have HB := Lib.hid hB
    clear hbd hpre o5 o0 hB hK
    gi_wp2_with (gi_at_call 79; refine (callsIn_wide.2 HWO.out).mono ?_; rintro e W6 ⟨⟨u, rfl, hu⟩, hb6⟩)
    exact leaves_marks (HM.out.keeps (keeps_below hb6)) (fun w' hs => ⟨_, results_tmp rfl _ _ _, u, rfl, by rw [← HSD.out]; exact ownsRow_shut hs (ownsRow_low hu HB.out.size), (HB.out.trans (hb6.mono HB.out.size)).trans hs.below⟩)
  case stop => exact fun _ _ _ _ _ _ h _ => h.elim
end

end Go.Proofs.YtfmppncefbjicaaDoor
