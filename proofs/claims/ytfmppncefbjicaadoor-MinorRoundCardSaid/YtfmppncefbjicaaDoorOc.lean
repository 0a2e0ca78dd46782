/- Package minor: reductions: do. -/
import Derived.Test.YtfmppncefbjicaaDoorKp
import Derived.Test.YtfmppncefbjicaaDoorOb
namespace Go.Proofs.YtfmppncefbjicaaDoor
set_option linter.unusedSimpArgs false
set_option linter.unusedVariables false
open Go.RowKit Go.Maps
attribute [local go_sem] i64_bit toNat_eq_one toNat_ne_one toNat_eq_zero toNat_ne_zero i64_and i64_or i64_andNot i64_or_pow i64_andNot_pow

set_option maxRecDepth 20000 in
set_option maxHeartbeats 2000000 in
theorem link_kep {f : Nat → Nat} {m base g c x y B : Nat} {w : World} (hO : GOwn w base (.slice (some ⟨g, 0, none⟩) m c) m f) (hf : ∀ i, i < m → f i < 256) (hm : m ≤ 8) (hx : x < m) (hy : y < m) (hB : B ≤ base) :
    Calls Tryd.prog 90 #[.slice (some ⟨g, 0, none⟩) m c, .int .i64 x, .int .i64 y] w fun e w' => e = .returned (.tuple #[]) ∧ GOwn w' base (.slice (some ⟨g, 0, none⟩) m c) m (lnkF f x y) ∧ Below B w w' ∧ (∀ B', KeepsFrom B' w w') ∧ w.heap.size ≤ w'.heap.size ∧ ∀ b, b < w.heap.size → b ≠ g → w'.heap[b]? = w.heap[b]? := by
  have hx16 : x < 16 := by omega
  have hy16 : y < 16 := by omega
  have hcap := GOwn.cap hO
  have hbg := GOwn.base hO (by omega)
  have c1 := hO.at_ hx
  have f1 := World.ownsRow.frozenAt hO x
  have hO1 := hO.up hx y
  have hf1 := upF_lt hf (show y < 8 by omega) (x := x)
  have c2' := hO1.at_ hy
  have hO2 : GOwn ((w.setCell ⟨g, x, none⟩ (.int .i64 (f x ||| 2 ^ y : Nat))).setCell ⟨g, y, none⟩ (.int .i64 ((upF f x y) y ||| 2 ^ x : Nat))) base (.slice (some ⟨g, 0, none⟩) m c) m (lnkF f x y) := hO1.up hy x
  have hor1 := i64_or_pow (f x) y (by have := hf x hx; omega) hy16
  have hor2 := i64_or_pow ((upF f x y) y) x (by have := hf1 y hy; omega) hx16
  have HO1 := Lib.hid hO1
  have HO2 := Lib.hid hO2
  have hpy := pow_bd y hy16
  have hpx := pow_bd x hx16
  have HFX := Lib.hid (hf x hx)
  have HFY := Lib.hid (hf1 y hy)
  have HUP : Hid (upF f x y = upF f x y) := Lib.hid rfl
  generalize lnkF f x y = F2 at *
  generalize hb1 : (upF f x y) y = b1 at *
  generalize upF f x y = F1 at *
  generalize f x = a1 at *
  clear hO hO1 hO2 hf hf1 hb1
  go_enter Tryd.func90, Tryd.ntmps90
  go_wp2_with fail
  refine wp_region_still_tail 8 (by kernel_rfl) (by kernel_rfl) ?_
  simp only [List.take_succ_cons, List.take_zero, List.drop_succ_cons, List.drop_zero]
  repeat still_step
  refine wpStill_nil ?_
  change wpList _ _ _ _ _ w.drew
  go_wp2_with fail
  rw [hor1]
  obtain ⟨w2, hw2⟩ : ∃ z, z = (w.setCell ⟨g, x, none⟩ (.int .i64 (a1 ||| 2 ^ y : Nat))).drew := ⟨_, rfl⟩
  have HR2 : Hid (GOwn w2 base (.slice (some ⟨g, 0, none⟩) m c) m F1) := Lib.hid (by rw [hw2]; exact HO1.out)
  have HB2 : Hid (Below B w w2) := Lib.hid (by rw [hw2]; exact below_drewN ((Below.refl B w).setCell (p := ⟨g, x, none⟩) (Nat.le_trans hB hbg) _) 1)
  have HW2 : Hid (w.heap.size ≤ w2.heap.size ∧ ∀ b, b < w.heap.size → b ≠ g → w2.heap[b]? = w.heap[b]?) := Lib.hid (by
    rw [hw2]
    exact ⟨by simp [World.drew], fun b hb hne => by
      rw [show ((w.setCell ⟨g, x, none⟩ (.int .i64 (a1 ||| 2 ^ y : Nat))).drew).heap = (w.setCell ⟨g, x, none⟩ (.int .i64 (a1 ||| 2 ^ y : Nat))).heap from rfl]
      exact Below.heap_setCell _ _ _ _ hne⟩)
  have HK2 : Hid (∀ B', KeepsFrom B' w w2) := Lib.hid fun B' => by rw [hw2]; exact (keeps_set B' w g x _).trans ((keeps_drewN _ 1).from B')
  have c2 : w2.cell? ⟨g, y, none⟩ = some (.int .i64 b1) := by rw [hw2]; exact c2'
  have f2 := World.ownsRow.frozenAt HR2.out y
  have HR3 : Hid (GOwn ((w2.setCell ⟨g, y, none⟩ (.int .i64 (b1 ||| 2 ^ x : Nat))).drew) base (.slice (some ⟨g, 0, none⟩) m c) m F2) := Lib.hid (by rw [hw2]; exact HO2.out)
  rw [← hw2]
  clear hw2 c1 f1 c2'
  refine wp_region_still_tail 8 (by kernel_rfl) (by kernel_rfl) ?_
  simp only [List.take_succ_cons, List.take_zero, List.drop_succ_cons, List.drop_zero]
  repeat still_step
  refine wpStill_nil ?_
  change wpList _ _ _ _ _ w2.drew
  go_wp2_with fail
  rw [hor2]
  go_end0
  exact ⟨rfl, HR3.out, below_drewN (HB2.out.setCell (p := ⟨g, y, none⟩) (Nat.le_trans hB hbg) _) 1, fun B' => (HK2.out B').trans ((keeps_set B' w2 g y _).trans ((keeps_drewN _ 1).from B')), by have := HW2.out.1; simpa [World.drew] using this, fun b hb hne => by
    rw [show ((w2.setCell ⟨g, y, none⟩ (.int .i64 (b1 ||| 2 ^ x : Nat))).drew).heap = (w2.setCell ⟨g, y, none⟩ (.int .i64 (b1 ||| 2 ^ x : Nat))).heap from rfl, Below.heap_setCell _ _ _ _ hne]
    exact HW2.out.2 b hb hne⟩

/-- A node's number taken out of the sets of some nodes, one after another. -/
def cut1 (f : Nat → Nat) (v u : Nat) : Nat → Nat := fun t => if t = u then diff (f u) (2 ^ v) else f t
def cutF (f : Nat → Nat) (v : Nat) (pre : List Nat) : Nat → Nat := pre.foldl (fun h u => cut1 h v u) f
theorem cutF_snoc (f : Nat → Nat) (v : Nat) (pre : List Nat) (u : Nat) : cutF f v (pre ++ [u]) = cut1 (cutF f v pre) v u := by simp [cutF]
theorem cutF_lt {n v : Nat} : ∀ (pre : List Nat) (f : Nat → Nat), (∀ i, i < n → f i < 2 ^ n) → (∀ u ∈ pre, u < n) → ∀ i, i < n → cutF f v pre i < 2 ^ n := by
  intro pre
  induction pre with
  | nil => intro f hf _; exact hf
  | cons u pre ih =>
    intro f hf hp
    refine ih _ (fun i hi => ?_) fun x hx => hp x (List.mem_cons_of_mem _ hx)
    show cut1 f v u i < 2 ^ n
    unfold cut1
    split
    · exact Nat.lt_of_le_of_lt (diff_le _ _) (hf u (hp u (List.mem_cons_self ..)))
    · exact hf i hi
/-- What the reduction of a node leaves of the neighbours. -/
def doL (n : Nat) (f : Nat → Nat) (v : Nat) : Nat → Nat := if szS n (f v) = 2 then lnkF f (lowN (f v)) (lowN (diff (f v) (2 ^ lowN (f v)))) else f
def doF (n : Nat) (f : Nat → Nat) (v : Nat) : Nat → Nat := cutF (doL n f v) v (bitsOf (doL n f v v))
theorem doL_lt {n v : Nat} {f : Nat → Nat} (hn8 : n ≤ 8) (hf : ∀ i, i < n → f i < 2 ^ n) (hv : v < n) : ∀ i, i < n → doL n f v i < 2 ^ n := by
  unfold doL
  split
  · rename_i h2
    have hpos : 0 < f v := by
      apply Nat.pos_of_ne_zero
      intro h0
      have h9 : szS n 0 = 0 := by unfold szS; rw [List.countP_eq_zero]; simp
      rw [h0, h9] at h2; cases h2
    have hfv := hf v hv
    have hdp : 0 < diff (f v) (2 ^ lowN (f v)) := by
      apply Nat.pos_of_ne_zero
      intro h0
      have h9 := szS_cov1 (n := n) (m := 0) (A := f v) (B := 0) (lowN (f v)) id (fun x _ hx => by
        by_cases e : x = lowN (f v)
        · exact Or.inl e
        · have := congrArg (fun q => q.testBit x) h0
          rw [show (diff (f v) (2 ^ lowN (f v))).testBit x = true by rw [testBit_diff, hx, Nat.testBit_two_pow, decide_eq_false (Ne.symm e)]; rfl] at this
          simp at this)
      have h10 : szS 0 0 = 0 := rfl
      omega
    exact lnkF_lt hf (lowN_ltm hn8 hpos hfv) (lowN_ltm hn8 hdp (Nat.lt_of_le_of_lt (diff_le _ _) hfv))
  · exact hf
theorem GOwn.put {w : World} {base g n c : Nat} {f : Nat → Nat} (h : GOwn w base (.slice (some ⟨g, 0, none⟩) n c) n f) {x : Nat} (hx : x < n) (y : Nat) : GOwn (w.setCell ⟨g, x, none⟩ (.int .i64 (y : Nat))) base (.slice (some ⟨g, 0, none⟩) n c) n (fun t => if t = x then y else f t) := by
  have := (World.ownsRow.stored h x (.int .i64 (y : Nat))).1
  rw [map_range_set] at this
  unfold GOwn
  rw [show ((List.range n).map fun i => Value.int .i64 ((if i = x then y else f i : Nat) : Nat)) = (List.range n).map fun i => if i = x then .int .i64 (y : Nat) else Value.int .i64 (f i : Nat) from List.map_congr_left fun i _ => by split <;> rfl]
  exact this

theorem GOwn.other {w : World} {base g n c pb : Nat} {f : Nat → Nat} (h : GOwn w base (.slice (some ⟨g, 0, none⟩) n c) n f) (hne : g ≠ pb) (i : Nat) (x : Value) : GOwn (w.setCell ⟨pb, i, none⟩ x) base (.slice (some ⟨g, 0, none⟩) n c) n f :=
  ⟨h.1, h.2.imp_right fun ⟨g', cap, cur, hv, hg, hh, r⟩ => ⟨g', cap, cur, hv, hg, by
    have e : g = g' := by simp only [Value.slice.injEq, Option.some.injEq, Addr.mk.injEq] at hv; exact hv.1.1
    rw [Below.heap_setCell _ _ _ _ (by rw [← e]; exact hne)]; exact hh, r⟩⟩
theorem kep_link {w w0 W : World} {pb g n c : Nat} (h : Kep w w0 pb (.slice (some ⟨g, 0, none⟩) n c)) (hs : w0.heap.size ≤ W.heap.size) (hw : ∀ b, b < w0.heap.size → b ≠ g → W.heap[b]? = w0.heap[b]?) : Kep w W pb (.slice (some ⟨g, 0, none⟩) n c) :=
  ⟨Nat.le_trans h.size hs, fun b hb hne hv => by
    rw [hw b (Nat.lt_of_lt_of_le hb h.size) (fun e => hv (by rw [e]; rfl))]
    exact h.same b hb hne hv⟩

section
attribute [local go_sem] Oper.semAt_some wide_fn wide_fn_in
set_option maxRecDepth 100000 in
set_option maxHeartbeats 4000000 in
theorem do_any {n pb g c base left v : Nat} {f : Nat → Nat} {wB w : World} (R : RestAt w pb g c base n f left) (hn8 : n ≤ 8) (hl : left < 2 ^ n) (hf : ∀ i, i < n → f i < 2 ^ n) (hv : v < n) (hk2 : szS n (f v) ≤ 2) (hTB : Tab wB) (hBw : Below wB.heap.size wB w) (hbase : wB.heap.size ≤ base) (hpb : wB.heap.size ≤ pb) (hgp : g ≠ pb) :
    Calls Tryd.prog 96 #[ptrV pb, .agg (stpV (stpN n f v)).toArray] w fun e w' => e = .returned (.tuple #[]) ∧ RestAt w' pb g c base n (doF n f v) (diff left (2 ^ v)) ∧ Kep w w' pb (.slice (some ⟨g, 0, none⟩) n c) ∧ Below wB.heap.size wB w' := by
  have h8 := pow_le8 hn8
  obtain ⟨hgb, hgl⟩ := World.ownsRow.lt R.near g rfl
  have hpl := R.row.lt
  have HF := Lib.hid hf
  have HT := Lib.hid hTB
  refine (callsIn_wide (n := 9)).1 ?_
  refine callsIn_of_wp_marks Tryd.func96 rfl trivial ?_ rfl
  simp only [Tryd.ntmps96, List.size_toArray, List.length_cons, List.length_nil, Nat.reduceAdd, Nat.reduceSub, Array.replicate_succ, Array.replicate_zero, List.push_toArray, List.append_toArray, List.nil_append, List.cons_append]
  obtain ⟨K, hK⟩ : ∃ K : Int, K = ((szS n (f v) : Nat) : Int) := ⟨_, rfl⟩
  obtain ⟨A, hA⟩ : ∃ A : Int, A = if szS n (f v) = 0 then (-1 : Int) else ((lowN (f v) : Nat) : Int) := ⟨_, rfl⟩
  obtain ⟨D, hD⟩ : ∃ D : Int, D = if szS n (f v) = 2 then ((lowN (diff (f v) (2 ^ lowN (f v))) : Nat) : Int) else (-1 : Int) := ⟨_, rfl⟩
  have hsv : stpV (stpN n f v) = [.int .i64 K, .int .i64 v, .int .i64 A, .int .i64 D] := by rw [hK, hA, hD]; rfl
  rw [hsv]
  clear hsv
  obtain ⟨w0, hw0, r1, r2, hb0, hsz⟩ := new2 w 111 88 [ptrV pb] [.int .i64 K, .int .i64 v, .int .i64 A, .int .i64 D]
  have R0 := R.below hb0
  have K0 : Kep w w0 pb (.slice (some ⟨g, 0, none⟩) n c) := (Kep.refl w pb _).below hb0 (Nat.le_refl _)
  have B0 : Below wB.heap.size wB w0 := hBw.trans (hb0.mono hBw.size)
  have hcB := hBw.size
  clear R hBw hf hTB
  by_cases h2 : szS n (f v) = 2
  · have hpos : 0 < f v := by
      apply Nat.pos_of_ne_zero
      intro h0
      have h9 : szS n 0 = 0 := by unfold szS; rw [List.countP_eq_zero]; simp
      rw [h0, h9] at h2; cases h2
    have hfv := HF.out v hv
    have hdp : 0 < diff (f v) (2 ^ lowN (f v)) := by
      apply Nat.pos_of_ne_zero
      intro h0
      have h9 := szS_cov1 (n := n) (m := 0) (A := f v) (B := 0) (lowN (f v)) id (fun x _ hx => by
        by_cases e : x = lowN (f v)
        · exact Or.inl e
        · have := congrArg (fun q => q.testBit x) h0
          rw [show (diff (f v) (2 ^ lowN (f v))).testBit x = true by rw [testBit_diff, hx, Nat.testBit_two_pow, decide_eq_false (Ne.symm e)]; rfl] at this
          simp at this)
      have h10 : szS 0 0 = 0 := rfl
      omega
    have hxa := lowN_ltm hn8 hpos hfv
    have hxd := lowN_ltm hn8 hdp (Nat.lt_of_le_of_lt (diff_le _ _) hfv)
    have HDL : Hid (doL n f v = lnkF f (lowN (f v)) (lowN (diff (f v) (2 ^ lowN (f v))))) := Lib.hid (by unfold doL; rw [if_pos h2])
    have hK2 : K = 2 := by rw [hK, h2]; rfl
    rw [if_neg (by omega)] at hA
    rw [if_pos h2] at hD
    subst hK2
    obtain ⟨xa, hea⟩ : ∃ xa, xa = lowN (f v) := ⟨_, rfl⟩
    obtain ⟨xd, hed⟩ : ∃ xd, xd = lowN (diff (f v) (2 ^ lowN (f v))) := ⟨_, rfl⟩
    rw [← hea] at hA hxa
    rw [← hed] at hD hxd HDL
    rw [← hea] at HDL
    subst hA hD
    clear hK h2 hk2 hea hed hpos hdp hfv
    have c1 := r1.cell (i := 0) rfl
    have cp := R0.row.cell (i := 0) rfl
    have q0 := r2.cell (i := 0) rfl
    have q2 := r2.cell (i := 2) rfl
    have q3 := r2.cell (i := 3) rfl
    have HLK := Lib.hid fun nq => link_kep (B := wB.heap.size) (w := w0.drewN nq) (x := xa) (y := xd) (c := c) (g := g) (m := n) (f := f) (base := base) R0.near (fun i hi => Nat.lt_of_lt_of_le (HF.out i hi) h8) hn8 hxa hxd hbase
    have H1 := Lib.hid r1
    have H2 := Lib.hid r2
    have HR0 := Lib.hid R0
    have HK0 := Lib.hid K0
    have HB0 := Lib.hid B0
    clear r1 r2 R0 K0 B0 hb0
    gi_wp2
    rw [← hw0]
    clear hw0
    refine last_round2 (by kernel_rfl) rfl (by kernel_rfl) (by kernel_rfl) (by kernel_rfl) ?_
    dsimp only [initOf, lastOf]
    repeat (gi_big_quiet_step (fail))
    refine wpQuietIn_nil ?_
    rintro _ ⟨nq, rfl⟩
    clear c1 cp q0 q2 q3
    gi_wp2_with fail
    refine (callsIn_wide.2 (HLK.out nq)).mono ?_
    rintro e W1 ⟨rfl, O1, hb1, hk1, hs1, hw1⟩
    have hrow : ∀ b T L, b ≠ g → Row w0 b T L → Row W1 b T L := fun b T L hb h => by
      unfold Row at *
      rw [hw1 b (Array.getElem?_eq_some_iff.1 h).1 hb]; exact h
    have p0 := hrow _ _ _ (Ne.symm hgp) HR0.out.row
    have p1 := hrow _ _ _ (by omega) H1.out
    have p2 := hrow _ _ _ (by omega) H2.out
    have K1 := kep_link HK0.out hs1 hw1
    have B1 : Below wB.heap.size wB W1 := (below_drewN HB0.out nq).trans hb1
    rw [← HDL.out] at O1
    have hs2 : w.heap.size + 1 < W1.heap.size := Nat.lt_of_lt_of_le hsz hs1
    clear hb1 hk1 hs1 hw1 hrow HLK H1 H2 HR0 HK0 HB0 HDL
    gi_wp2
    have HLT : Hid (∀ i, i < n → doL n f v i < 2 ^ n) := Lib.hid (doL_lt hn8 HF.out hv)
    obtain ⟨K', A', D', p2'⟩ : ∃ K' A' D' : Int, Row W1 (w.heap.size + 1) 88 [.int .i64 K', .int .i64 v, .int .i64 A', .int .i64 D'] := ⟨_, _, _, p2⟩
    clear p2
    have p2 := p2'
    clear p2'
    obtain ⟨f1, hf1⟩ : ∃ f1, f1 = doL n f v := ⟨_, rfl⟩
    have HFO : Hid (doF n f v = cutF f1 v (bitsOf (f1 v))) := Lib.hid (by unfold doF; rw [← hf1])
    rw [← hf1] at O1 HLT
    clear hf1
    obtain ⟨s, hs⟩ : ∃ s, s = f1 v := ⟨_, rfl⟩
    have hsn : s < 2 ^ n := by rw [hs]; exact HLT.out v hv
    rw [← hs] at HFO
    have c1 := p1.cell (i := 0) rfl
    have cp := p0.cell (i := 0) rfl
    have q1 := p2.cell (i := 1) rfl
    have cv := O1.at_ hv
    rw [← hs] at cv
    have H0 := Lib.hid p0
    have H1' := Lib.hid p1
    have H2' := Lib.hid p2
    have HO1 := Lib.hid O1
    have HK1 := Lib.hid K1
    have HB1 := Lib.hid B1
    clear p0 p1 p2 O1 K1 B1 hs
    refine last_round2 (by kernel_rfl) rfl (by kernel_rfl) (by kernel_rfl) (by kernel_rfl) ?_
    dsimp only [initOf, lastOf]
    repeat (gi_big_quiet_step (fail))
    refine wpQuietIn_nil ?_
    rintro _ ⟨nq, rfl⟩
    clear c1 cp q1 cv
    have HND := Lib.hid (nodes_any s (W1.drewN nq))
    gi_wp2_with fail
    refine (callsIn_wide.2 HND.out).mono ?_
    rintro e w9 ⟨rfl, rfl⟩
    have hrs0 := (Row.new (W1.drewN nq) 3 [.int .i64 s])
    have hb30 : Below W1.heap.size W1 ((W1.drewN nq).alloc (.cells #[.int .i64 s] 3)) := (below_drewN (Below.refl _ _) nq).alloc (Nat.le_refl _) _
    obtain ⟨w3, hw3⟩ : ∃ z, z = (W1.drewN nq).alloc (.cells #[.int .i64 s] 3) := ⟨_, rfl⟩
    have hrs : Row w3 W1.heap.size 3 [.int .i64 s] := by rw [hw3]; exact hrs0
    have hb3 : Below W1.heap.size W1 w3 := by rw [hw3]; exact hb30
    rw [← hw3]
    clear hw3 hrs0 hb30 HND
    gi_wp2_with fail
    have G0 := H0.out.below hb3 H0.out.lt
    have G1 := H1'.out.below hb3 H1'.out.lt
    have G2 := H2'.out.below hb3 H2'.out.lt
    have GO : GOwn w3 base (.slice (some ⟨g, 0, none⟩) n c) n f1 := ownsRow_below HO1.out hb3 (Nat.le_refl _)
    have GK := HK1.out.below hb3 HK1.out.size
    have GB : Below wB.heap.size wB w3 := HB1.out.trans (hb3.mono HB1.out.size)
    have hs3 := hb3.size
    refine range_nodes (nodes_seq s (by omega) _ w3 hrs.lt (hrs.cell (i := 0) rfl) (HT.out.below GB)) Tab.put (Below.refl _ _) rfl (enters_of Tryd.func109 (by kernel_rfl) rfl) rfl
      (fun pre W => GOwn W base (.slice (some ⟨g, 0, none⟩) n c) n (cutF f1 v pre) ∧ Row W pb 118 [.slice (some ⟨g, 0, none⟩) n c, .int .i64 left] ∧ Row W w.heap.size 111 [ptrV pb] ∧ Row W (w.heap.size + 1) 88 [.int .i64 K', .int .i64 v, .int .i64 A', .int .i64 D'] ∧ (∀ u ∈ pre, u < n) ∧ Kep w W pb (.slice (some ⟨g, 0, none⟩) n c) ∧ Below wB.heap.size wB W)
      (fun _ _ _ => False)
      ((ownFrom_ownsRow _ _ _ _ (fun _ => Value.slice (some ⟨g, 0, none⟩) n c) (fun _ => n) (fun pre => (List.range n).map fun i => Value.int .i64 (cutF f1 v pre i : Nat))).and (((own_row _ _ _).from _).and (((own_row _ _ _).from _).and (((own_row _ _ _).from _).and ((ownFrom_pure _ _).and ((ownFrom_kep (by omega)).and (ownFrom_below (Nat.le_refl _) GB.size)))))))
      (fun c => ownFrom_pure _ _)
      ⟨GO, G0, G1, G2, by simp, GK, GB⟩ (fun _ W h => HT.out.below h.2.2.2.2.2.2) ?a1 ?assign ?body ?done ?stop
    case assign =>
      intro l x W K hx hK
      gi_wp2
      exact hK
    case body =>
      rintro l pre x W hx hpfx ⟨o5, o0, o1, o2, hpre, hKp, hB⟩
      have hxn := bitsOf_lt hsn hx
      have HPR : Hid (∀ u ∈ pre ++ [x], u < n) := Lib.hid fun u hu => by
        rcases List.mem_append.1 hu with h | h
        · exact hpre u h
        · rw [List.mem_singleton.1 h]; exact hxn
      have hfx := cutF_lt (v := v) pre f1 HLT.out hpre x hxn
      obtain ⟨y, hy⟩ : ∃ y, y = cutF f1 v pre x := ⟨_, rfl⟩
      have c1 := o1.cell (i := 0) rfl
      have c0 := o0.cell (i := 0) rfl
      have q1 := o2.cell (i := 1) rfl
      have cx := o5.at_ hxn
      have fx := World.ownsRow.frozenAt o5 x
      rw [← hy] at cx hfx
      have hy16 : y < 65536 := by omega
      have hv16 : v < 16 := by omega
      have hpv := pow_bd v hv16
      have han := i64_andNot_pow y v hy16 hv16
      have han2 : bits .andNot .i64 ((y : Nat) : Int) (IntKind.i64.wrap ((2 : Int) ^ v)) = ((diff y (2 ^ v) : Nat) : Int) := by rw [IntWalk.i64_in ((2 : Int) ^ v) (by omega)]; exact han
      have O5 := Lib.hid o5
      have P0 := Lib.hid o0
      have P1 := Lib.hid o1
      have P2 := Lib.hid o2
      have HKP := Lib.hid hKp
      have HB := Lib.hid hB
      have HY := Lib.hid hy
      clear hpre hpfx o5 o0 o1 o2 hKp hB hy
      gi_wp2
      refine last_round2 (by kernel_rfl) rfl (by kernel_rfl) (by kernel_rfl) (by kernel_rfl) ?_
      dsimp only [initOf, lastOf]
      repeat (gi_big_quiet_step (fail))
      refine wpQuietIn_nil ?_
      rintro _ ⟨nq, rfl⟩
      gi_wp2
      refine ⟨((keeps_drewN W nq).from _).trans (keeps_set _ _ _ _ _), ?_, (P0.out.drewN nq).other (Ne.symm hgp) _, (P1.out.drewN nq).other (by simp; omega) _, (P2.out.drewN nq).other (by simp; omega) _, HPR.out, kep_link (HKP.out.drewN nq) (by simp) (fun b _ hne => Below.heap_setCell _ _ _ _ hne), (below_drewN HB.out nq).setCell (p := ⟨g, x, none⟩) (Nat.le_trans hbase hgb) _⟩
      rw [cutF_snoc]
      have h := GOwn.put (show GOwn (W.drewN nq) base (.slice (some ⟨g, 0, none⟩) n c) n (cutF f1 v pre) from O5.out) hxn (diff y (2 ^ v))
      rw [HY.out] at h ⊢
      exact h
    case done =>
      rintro E W hE ⟨o5, o0, o1, o2, hpre, hKp, hB⟩ hKd
      have c1 := o1.cell (i := 0) rfl
      have c0 := o0.cell (i := 1) rfl
      have q1 := o2.cell (i := 1) rfl
      have f0 := o0.free 1
      have l0 := o0.lt
      have hl16 : left < 65536 := by omega
      have hv16 : v < 16 := by omega
      have hpv := pow_bd v hv16
      have han := i64_andNot_pow left v hl16 hv16
      have han2 : bits .andNot .i64 ((left : Nat) : Int) (IntKind.i64.wrap ((2 : Int) ^ v)) = ((diff left (2 ^ v) : Nat) : Int) := by rw [IntWalk.i64_in ((2 : Int) ^ v) (by omega)]; exact han
      have O5 := Lib.hid o5
      have P0 := Lib.hid o0
      have HKP := Lib.hid hKp
      have HB := Lib.hid hB
      have HKD := Lib.hid hKd
      clear o5 o0 o1 o2 hpre hKp hB hKd
      gi_wp2
      refine last_round2 (by kernel_rfl) rfl (by kernel_rfl) (by kernel_rfl) (by kernel_rfl) ?_
      dsimp only [initOf, lastOf]
      repeat (gi_big_quiet_step (fail))
      refine wpQuietIn_nil ?_
      rintro _ ⟨nq, rfl⟩
      gi_wp2
      have hO : GOwn ((W.drewN nq).setCell ⟨pb, 1, none⟩ (.int .i64 (diff left (2 ^ v) : Nat))) base (.slice (some ⟨g, 0, none⟩) n c) n (doF n f v) := by
        rw [HFO.out]
        exact GOwn.other (show GOwn (W.drewN nq) base (.slice (some ⟨g, 0, none⟩) n c) n (cutF f1 v (bitsOf s)) from O5.out) hgp 1 _
      have hP := (P0.out.drewN nq).set 1 (.int .i64 (diff left (2 ^ v) : Nat))
      have hKW := (HKP.out.drewN nq).set 1 (.int .i64 (diff left (2 ^ v) : Nat))
      have hBW := (below_drewN HB.out nq).setCell (p := ⟨pb, 1, none⟩) hpb (.int .i64 (diff left (2 ^ v) : Nat))
      exact leaves_marks (B := w.heap.size) (ds := [markAt E]) ((Marks.one (by omega) HKD.out).keeps (((keeps_drewN W nq).from _).trans (keeps_set _ _ _ _ _))) (fun w' hs => ⟨_, results_none rfl _ _ _, rfl, ⟨hs.row hP, ownsRow_shut hs hO⟩, hKW.below hs.below (Nat.le_refl _), hBW.trans (hs.below.mono hcB)⟩)
    case stop => exact fun _ _ _ _ _ _ h _ => h.elim
  · have HDL : Hid (doL n f v = f) := Lib.hid (by unfold doL; rw [if_neg h2])
    have hK2 : (K == 2) = false := by rw [hK]; simp; omega
    have hK3 : ¬ K = 2 := by rw [hK]; omega
    clear hK hA hD h2 hk2
    have c1 := r1.cell (i := 0) rfl
    have q0 := r2.cell (i := 0) rfl
    gi_wp2
    rw [← hw0]
    clear c1 q0 hw0
    have O1 : GOwn w0 base (.slice (some ⟨g, 0, none⟩) n c) n (doL n f v) := by rw [HDL.out]; exact R0.near
    have p0 := R0.row
    have p1 := r1
    have p2 := r2
    have K1 := K0
    have B1 := B0
    have hs2 := hsz
    clear R0 r1 r2 K0 B0 hsz hb0 HDL
    generalize w0 = W1 at *
    have HLT : Hid (∀ i, i < n → doL n f v i < 2 ^ n) := Lib.hid (doL_lt hn8 HF.out hv)
    obtain ⟨K', A', D', p2'⟩ : ∃ K' A' D' : Int, Row W1 (w.heap.size + 1) 88 [.int .i64 K', .int .i64 v, .int .i64 A', .int .i64 D'] := ⟨_, _, _, p2⟩
    clear p2
    have p2 := p2'
    clear p2'
    obtain ⟨f1, hf1⟩ : ∃ f1, f1 = doL n f v := ⟨_, rfl⟩
    have HFO : Hid (doF n f v = cutF f1 v (bitsOf (f1 v))) := Lib.hid (by unfold doF; rw [← hf1])
    rw [← hf1] at O1 HLT
    clear hf1
    obtain ⟨s, hs⟩ : ∃ s, s = f1 v := ⟨_, rfl⟩
    have hsn : s < 2 ^ n := by rw [hs]; exact HLT.out v hv
    rw [← hs] at HFO
    have c1 := p1.cell (i := 0) rfl
    have cp := p0.cell (i := 0) rfl
    have q1 := p2.cell (i := 1) rfl
    have cv := O1.at_ hv
    rw [← hs] at cv
    have H0 := Lib.hid p0
    have H1' := Lib.hid p1
    have H2' := Lib.hid p2
    have HO1 := Lib.hid O1
    have HK1 := Lib.hid K1
    have HB1 := Lib.hid B1
    clear p0 p1 p2 O1 K1 B1 hs
    refine last_round2 (by kernel_rfl) rfl (by kernel_rfl) (by kernel_rfl) (by kernel_rfl) ?_
    dsimp only [initOf, lastOf]
    repeat (gi_big_quiet_step (fail))
    refine wpQuietIn_nil ?_
    rintro _ ⟨nq, rfl⟩
    clear c1 cp q1 cv
    have HND := Lib.hid (nodes_any s (W1.drewN nq))
    gi_wp2_with fail
    refine (callsIn_wide.2 HND.out).mono ?_
    rintro e w9 ⟨rfl, rfl⟩
    have hrs0 := (Row.new (W1.drewN nq) 3 [.int .i64 s])
    have hb30 : Below W1.heap.size W1 ((W1.drewN nq).alloc (.cells #[.int .i64 s] 3)) := (below_drewN (Below.refl _ _) nq).alloc (Nat.le_refl _) _
    obtain ⟨w3, hw3⟩ : ∃ z, z = (W1.drewN nq).alloc (.cells #[.int .i64 s] 3) := ⟨_, rfl⟩
    have hrs : Row w3 W1.heap.size 3 [.int .i64 s] := by rw [hw3]; exact hrs0
    have hb3 : Below W1.heap.size W1 w3 := by rw [hw3]; exact hb30
    rw [← hw3]
    clear hw3 hrs0 hb30 HND
    gi_wp2_with fail
    have G0 := H0.out.below hb3 H0.out.lt
    have G1 := H1'.out.below hb3 H1'.out.lt
    have G2 := H2'.out.below hb3 H2'.out.lt
    have GO : GOwn w3 base (.slice (some ⟨g, 0, none⟩) n c) n f1 := ownsRow_below HO1.out hb3 (Nat.le_refl _)
    have GK := HK1.out.below hb3 HK1.out.size
    have GB : Below wB.heap.size wB w3 := HB1.out.trans (hb3.mono HB1.out.size)
    have hs3 := hb3.size
    refine range_nodes (nodes_seq s (by omega) _ w3 hrs.lt (hrs.cell (i := 0) rfl) (HT.out.below GB)) Tab.put (Below.refl _ _) rfl (enters_of Tryd.func109 (by kernel_rfl) rfl) rfl
      (fun pre W => GOwn W base (.slice (some ⟨g, 0, none⟩) n c) n (cutF f1 v pre) ∧ Row W pb 118 [.slice (some ⟨g, 0, none⟩) n c, .int .i64 left] ∧ Row W w.heap.size 111 [ptrV pb] ∧ Row W (w.heap.size + 1) 88 [.int .i64 K', .int .i64 v, .int .i64 A', .int .i64 D'] ∧ (∀ u ∈ pre, u < n) ∧ Kep w W pb (.slice (some ⟨g, 0, none⟩) n c) ∧ Below wB.heap.size wB W)
      (fun _ _ _ => False)
      ((ownFrom_ownsRow _ _ _ _ (fun _ => Value.slice (some ⟨g, 0, none⟩) n c) (fun _ => n) (fun pre => (List.range n).map fun i => Value.int .i64 (cutF f1 v pre i : Nat))).and (((own_row _ _ _).from _).and (((own_row _ _ _).from _).and (((own_row _ _ _).from _).and ((ownFrom_pure _ _).and ((ownFrom_kep (by omega)).and (ownFrom_below (Nat.le_refl _) GB.size)))))))
      (fun c => ownFrom_pure _ _)
      ⟨GO, G0, G1, G2, by simp, GK, GB⟩ (fun _ W h => HT.out.below h.2.2.2.2.2.2) ?a2 ?assign2 ?body2 ?done2 ?stop2
    case assign2 =>
      intro l x W K hx hK
      gi_wp2
      exact hK
    case body2 =>
      rintro l pre x W hx hpfx ⟨o5, o0, o1, o2, hpre, hKp, hB⟩
      have hxn := bitsOf_lt hsn hx
      have HPR : Hid (∀ u ∈ pre ++ [x], u < n) := Lib.hid fun u hu => by
        rcases List.mem_append.1 hu with h | h
        · exact hpre u h
        · rw [List.mem_singleton.1 h]; exact hxn
      have hfx := cutF_lt (v := v) pre f1 HLT.out hpre x hxn
      obtain ⟨y, hy⟩ : ∃ y, y = cutF f1 v pre x := ⟨_, rfl⟩
      have c1 := o1.cell (i := 0) rfl
      have c0 := o0.cell (i := 0) rfl
      have q1 := o2.cell (i := 1) rfl
      have cx := o5.at_ hxn
      have fx := World.ownsRow.frozenAt o5 x
      rw [← hy] at cx hfx
      have hy16 : y < 65536 := by omega
      have hv16 : v < 16 := by omega
      have hpv := pow_bd v hv16
      have han := i64_andNot_pow y v hy16 hv16
      have han2 : bits .andNot .i64 ((y : Nat) : Int) (IntKind.i64.wrap ((2 : Int) ^ v)) = ((diff y (2 ^ v) : Nat) : Int) := by rw [IntWalk.i64_in ((2 : Int) ^ v) (by omega)]; exact han
      have O5 := Lib.hid o5
      have P0 := Lib.hid o0
      have P1 := Lib.hid o1
      have P2 := Lib.hid o2
      have HKP := Lib.hid hKp
      have HB := Lib.hid hB
      have HY := Lib.hid hy
      clear hpre hpfx o5 o0 o1 o2 hKp hB hy
      gi_wp2
      refine last_round2 (by kernel_rfl) rfl (by kernel_rfl) (by kernel_rfl) (by kernel_rfl) ?_
      dsimp only [initOf, lastOf]
      repeat (gi_big_quiet_step (fail))
      refine wpQuietIn_nil ?_
      rintro _ ⟨nq, rfl⟩
      gi_wp2
      refine ⟨((keeps_drewN W nq).from _).trans (keeps_set _ _ _ _ _), ?_, (P0.out.drewN nq).other (Ne.symm hgp) _, (P1.out.drewN nq).other (by simp; omega) _, (P2.out.drewN nq).other (by simp; omega) _, HPR.out, kep_link (HKP.out.drewN nq) (by simp) (fun b _ hne => Below.heap_setCell _ _ _ _ hne), (below_drewN HB.out nq).setCell (p := ⟨g, x, none⟩) (Nat.le_trans hbase hgb) _⟩
      rw [cutF_snoc]
      have h := GOwn.put (show GOwn (W.drewN nq) base (.slice (some ⟨g, 0, none⟩) n c) n (cutF f1 v pre) from O5.out) hxn (diff y (2 ^ v))
      rw [HY.out] at h ⊢
      exact h
    case done2 =>
      rintro E W hE ⟨o5, o0, o1, o2, hpre, hKp, hB⟩ hKd
      have c1 := o1.cell (i := 0) rfl
      have c0 := o0.cell (i := 1) rfl
      have q1 := o2.cell (i := 1) rfl
      have f0 := o0.free 1
      have l0 := o0.lt
      have hl16 : left < 65536 := by omega
      have hv16 : v < 16 := by omega
      have hpv := pow_bd v hv16
      have han := i64_andNot_pow left v hl16 hv16
      have han2 : bits .andNot .i64 ((left : Nat) : Int) (IntKind.i64.wrap ((2 : Int) ^ v)) = ((diff left (2 ^ v) : Nat) : Int) := by rw [IntWalk.i64_in ((2 : Int) ^ v) (by omega)]; exact han
      have O5 := Lib.hid o5
      have P0 := Lib.hid o0
      have HKP := Lib.hid hKp
      have HB := Lib.hid hB
      have HKD := Lib.hid hKd
      clear o5 o0 o1 o2 hpre hKp hB hKd
      gi_wp2
      refine last_round2 (by kernel_rfl) rfl (by kernel_rfl) (by kernel_rfl) (by kernel_rfl) ?_
      dsimp only [initOf, lastOf]
      repeat (gi_big_quiet_step (fail))
      refine wpQuietIn_nil ?_
      rintro _ ⟨nq, rfl⟩
      gi_wp2
      have hO : GOwn ((W.drewN nq).setCell ⟨pb, 1, none⟩ (.int .i64 (diff left (2 ^ v) : Nat))) base (.slice (some ⟨g, 0, none⟩) n c) n (doF n f v) := by
        rw [HFO.out]
        exact GOwn.other (show GOwn (W.drewN nq) base (.slice (some ⟨g, 0, none⟩) n c) n (cutF f1 v (bitsOf s)) from O5.out) hgp 1 _
      have hP := (P0.out.drewN nq).set 1 (.int .i64 (diff left (2 ^ v) : Nat))
      have hKW := (HKP.out.drewN nq).set 1 (.int .i64 (diff left (2 ^ v) : Nat))
      have hBW := (below_drewN HB.out nq).setCell (p := ⟨pb, 1, none⟩) hpb (.int .i64 (diff left (2 ^ v) : Nat))
      exact leaves_marks (B := w.heap.size) (ds := [markAt E]) ((Marks.one (by omega) HKD.out).keeps (((keeps_drewN W nq).from _).trans (keeps_set _ _ _ _ _))) (fun w' hs => ⟨_, results_none rfl _ _ _, rfl, ⟨hs.row hP, ownsRow_shut hs hO⟩, hKW.below hs.below (Nat.le_refl _), hBW.trans (hs.below.mono hcB)⟩)
    case stop2 => exact fun _ _ _ _ _ _ h _ => h.elim
end

end Go.Proofs.YtfmppncefbjicaaDoor
