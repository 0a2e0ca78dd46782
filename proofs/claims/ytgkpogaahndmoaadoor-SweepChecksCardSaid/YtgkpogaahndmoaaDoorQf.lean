/- The contract of package sweep's breadths. -/
import Derived.Test.YtgkpogaahndmoaaDoorQe
import Derived.Stop.RegionWithIn
namespace Go.Proofs.YtgkpogaahndmoaaDoor
set_option linter.unusedSimpArgs false
set_option linter.unusedVariables false
open Go.RowKit Go.Maps
attribute [local go_sem] i64_bit toNat_eq_one toNat_ne_one toNat_eq_zero toNat_ne_zero i64_and i64_or i64_andNot i64_or_pow i64_andNot_pow

def tabL (N : Nat) (G : Nat → Nat) : List Value := (List.range N).map fun g => Value.int .i64 (G g : Nat)
theorem tabL_get {N : Nat} {G : Nat → Nat} {g : Nat} (h : g < N) : (tabL N G)[g]? = some (.int .i64 (G g : Nat)) := map_range_get _ h
theorem tabL_set {N : Nat} {G : Nat → Nat} {g x : Nat} : (tabL N G).set g (.int .i64 (x : Nat)) = tabL N (fun i => if i = g then x else G i) := by
  unfold tabL
  rw [map_range_set]
  congr 1
  funext i
  by_cases h : i = g <;> simp [h]
theorem tabL_zero (N : Nat) : (tabL N (fun _ => 0)).toArray = madeCells #[.int .i64 0] N := by
  have h : tabL N (fun _ => 0) = (madeCells #[.int .i64 0] N).toList := by
    unfold tabL madeCells
    simp [Nat.mod_one]
  rw [h]

/-- How broad a layout becomes that goes on with a node. -/
def tbd (n : Nat) (r : Nat → Nat) (gone v : Nat) : Nat := szS n (bord r (gone ||| 2 ^ v))
/-- The least breadth of what is still to come, that of what is there counted in. -/
def lst (n : Nat) (r : Nat → Nat) (S : Nat) : Nat := max (rst n (tbd n r) S) (szS n (bord r S))
def minF (f : Nat → Nat) (b : Nat) (pre : List Nat) : Nat := pre.foldl (fun acc v => min acc (f v)) b
theorem minF_snoc (f : Nat → Nat) (b : Nat) (pre : List Nat) (x : Nat) : minF f b (pre ++ [x]) = min (minF f b pre) (f x) := by simp [minF]
theorem minF_le (f : Nat → Nat) (b : Nat) : ∀ pre, minF f b pre ≤ b := by
  intro pre
  unfold minF
  induction pre generalizing b with
  | nil => exact Nat.le_refl _
  | cons x pre ih => exact Nat.le_trans (ih _) (Nat.min_le_left _ _)
theorem filter_range {p : Nat → Bool} {n : Nat} (h : ∀ i, n ≤ i → p i = false) : ∀ d, (List.range (n + d)).filter p = (List.range n).filter p := by
  intro d
  induction d with
  | zero => rfl
  | succ d ih => rw [Nat.add_succ, List.range_succ, List.filter_append, ih]; simp [h (n + d) (by omega)]
theorem bestW_min {n : Nat} {t : Nat → Nat → Nat} {g : Nat} : ∀ k, bestW n t g k = minF (fun v => max (rst n t (g ||| 2 ^ v)) (t g v)) n ((List.range k).filter fun i => !g.testBit i) := by
  intro k
  induction k with
  | zero => rfl
  | succ k ih =>
    rw [bestW_succ, List.range_succ, List.filter_append]
    cases h : g.testBit k
    · simp only [h, Bool.false_eq_true, if_false, Bool.not_false, List.filter_cons_of_pos, List.filter_nil]
      rw [minF_snoc, ih]
    · simp only [h, if_true, Bool.not_true, List.filter_cons_of_neg, Bool.false_eq_true, not_false_eq_true, List.filter_nil, List.append_nil]
      exact ih
theorem bits_rest {n g : Nat} (hn : n ≤ 10) : bitsOf (diff (2 ^ n - 1) g) = (List.range n).filter fun i => !g.testBit i := by
  unfold bitsOf
  have h := filter_range (p := fun i => (diff (2 ^ n - 1) g).testBit i) (n := n) (fun i hi => by
    rw [testBit_diff, Nat.testBit_two_pow_sub_one, decide_eq_false (by omega)]; rfl) (10 - n)
  rw [show n + (10 - n) = 10 by omega] at h
  rw [h]
  apply List.filter_congr
  intro i hi
  rw [testBit_diff, Nat.testBit_two_pow_sub_one, decide_eq_true (List.mem_range.1 hi)]; rfl
theorem rst_min {n : Nat} {r : Nat → Nat} {g : Nat} (hn : n ≤ 10) (h : g < 2 ^ n) (hne : g ≠ 2 ^ n - 1) : minF (fun v => lst n r (g ||| 2 ^ v)) n (bitsOf (diff (2 ^ n - 1) g)) = rst n (tbd n r) g := by
  rw [rst_best h hne, bestW_min, bits_rest hn]
  rfl
theorem lst_le {n : Nat} {r : Nat → Nat} {g : Nat} (h : g < 2 ^ n) : lst n r g ≤ n := Nat.max_le.2 ⟨rst_le h, szS_le _ _⟩

/-- A region whose last operation comes behind all others, the others calls among them that may make memory. -/
theorem last_below {F : Fence} {m : Nat} {P : Program} {id : Nat} {Q : Exit → Act → World → Prop} {a : Act} {w : World} {l : List Oper} (B : Nat) (w0 : World) (hw : Below B w0 w) (hm : P.follows .mixedOrders = true) (hl : l.isEmpty = false) (hB : Region.lexB .any (initOf l).toArray = true) (hL : lastB (initOf l) (lastOf l) = true) (hd : noDefer (initOf l) = true)
    (h : wpQuietIn F m P (initOf l).toArray (fun w' => ∃ x : BelowW B w0, w' = x.w) (fun a' => ∀ w', (∃ x : BelowW B w0, w' = x.w) → wpListIn F m P [lastOf l].toArray Q [lastOf l] a' w') (initOf l) a) : (Code.region id l.toArray true).wpIn F m P Q a w := by
  have hne : l ≠ [] := by intro e; subst e; cases hl
  have hsz : l.toArray.size = (initOf l).length + 1 := by
    have := congrArg List.length (init_last l hne)
    simp at this ⊢
    omega
  have hl' : l.toArray = (initOf l ++ [lastOf l]).toArray := by rw [init_last l hne]
  simp only [Region.lexB, Bool.and_eq_true] at hB
  refine wpIn_region_any hm ?_
  rw [hsz, hl']
  have hrep : Array.replicate ((initOf l).length + 1) false = (Array.replicate (initOf l).length false).push false := Array.replicate_succ
  rw [hrep]
  refine lastAny (C := fun w' => ∃ x : BelowW B w0, w' = x.w) (Q := fun a' => ∀ w', (∃ x : BelowW B w0, w' = x.w) → wpListIn F m P [lastOf l].toArray Q [lastOf l] a' w') hL hd ?_ _ _ _ _ (by simp) ⟨⟨_, hw.drew⟩, rfl⟩ ?_
  · intro a' w' hw' hq
    have := hq w' hw'
    have hg : Region.wanted (lastOf l) (yielded [lastOf l].toArray a'.tmps) = true := by unfold Region.wanted; rw [(lastB_last hL).2.1]
    simp only [wpListIn, hg, if_true] at this
    exact this
  · have := wpAnyQIn_lex (F := F) (n := m) (C := fun w' => ∃ x : BelowW B w0, w' = x.w) (md := .any) hB.1 (initOf l) 0 (Array.replicate (initOf l).length false) a (by simp) (by simpa using hB.2) h
    simpa using this

theorem tabL_congr {N : Nat} {F G : Nat → Nat} (h : ∀ g, g < N → F g = G g) : tabL N F = tabL N G := by
  unfold tabL
  apply List.map_congr_left
  intro g hg
  rw [h g (List.mem_range.1 hg)]
theorem bord_full {n : Nat} {r : Nat → Nat} (hn : n ≤ 10) (hr : ∀ i, i < n → r i < 2 ^ n) : bord r (2 ^ n - 1) = 0 := by
  have hp := Nat.two_pow_pos n
  apply Nat.eq_of_testBit_eq
  intro i
  rw [Nat.zero_testBit, Bool.eq_false_iff]
  intro hb
  obtain ⟨h1, u, h2, h3⟩ := (testBit_bord hn (by omega)).1 hb
  rw [Nat.testBit_two_pow_sub_one, decide_eq_true_eq] at h1
  rw [Nat.testBit_two_pow_sub_one, decide_eq_false_iff_not] at h3
  have := Nat.testBit_lt_two_pow (Nat.lt_of_lt_of_le (hr i h1) (Nat.pow_le_pow_right (by omega) (show n ≤ u by omega)))
  rw [this] at h2; cases h2

def BreadthsPost (w : World) (n : Nat) (r : Nat → Nat) (e : Ending) (w' : World) : Prop :=
  ∃ tb, e = .returned (.slice (some ⟨tb, 0, none⟩) (2 ^ n) (2 ^ n)) ∧ Row w' tb 3 (tabL (2 ^ n) (lst n r)) ∧ w.heap.size ≤ tb ∧ Below w.heap.size w w'

section
attribute [local go_sem] Oper.semAt_some wide_fn wide_fn_in
set_option maxRecDepth 100000 in
set_option maxHeartbeats 2000000 in
theorem breadths_any {n : Nat} {r : Nat → Nat} {a : Option Addr} {w : World} (G : GrAt w a n r) (hn7 : n ≤ 7) (hr : ∀ i, i < n → r i < 2 ^ n) (cap : Nat) (hT : Tab w) :
    Calls Tryd.prog 78 #[.slice a n cap] w (BreadthsPost w n r) := by
  have HG := Lib.hid G
  have HR := Lib.hid hr
  have HT := Lib.hid hT
  have h7 := pow_le7 hn7
  have hpos := G.pos
  obtain ⟨N, hN⟩ : ∃ N : Nat, N = 2 ^ n := ⟨_, rfl⟩
  have hcast : (2 : Int) ^ n = (N : Int) := by rw [hN]; exact pow_cast n
  have hmk : ∀ w : World, (Instr.makeSlice 22 (.int .i64 (N : Int)) (.int .i64 (N : Int))).run Tryd.prog w = .ok (.slice (some ⟨w.heap.size, 0, none⟩) N N) (w.alloc (.cells (tabL N (fun _ => 0)).toArray 3)) := by
    have h := run_make_row' (P := Tryd.prog) 22 3 (.int .i64 0) 8 Tryd.underlying22 info_int rfl .i64 .i64 N (by omega) (by omega)
    rw [tabL_zero]; exact h
  have hpn := Nat.two_pow_pos n
  rw [show (N : Int) = ((2 ^ n - 1 : Nat) : Int) + 1 by omega] at hmk
  have HN := Lib.hid hN
  have hM : 2 ^ n - 1 < 2 ^ n := by omega
  clear G hr hT hN hcast
  refine (callsIn_wide (n := 9)).1 ?_
  refine callsIn_of_wp_marks Tryd.func78 rfl trivial ?_ rfl
  simp only [Tryd.ntmps78, List.size_toArray, List.length_cons, List.length_nil, Nat.reduceAdd, Nat.reduceSub, Array.replicate_succ, Array.replicate_zero, List.push_toArray, List.append_toArray, List.nil_append, List.cons_append]
  gi_wp2_with (gi_at_call 79; refine (callsIn_wide.2 (all_any _ _ _ _ (by omega))).mono ?_; rintro e w1 ⟨rfl, rfl⟩)
  obtain ⟨w0, hw0, r1, r2, r4, hb0, hsz⟩ := new3 w 3 22 3 (tabL N fun _ => 0) [.slice (some ⟨w.heap.size, 0, none⟩) N N] [.int .i64 (((2 ^ n - 1 : Nat) : Int) - 1)]
  rw [← hw0]
  clear hw0
  refine wpIn_loop (fun a' wr => ∃ (ds : List Deferred) (u0 u1 u2 u3 u4 u5 u6 u7 u8 u9 u10 u11 u12 u13 u14 u15 u16 u17 u18 u19 u20 u21 u22 u23 u24 u25 u26 u27 u28 u29 u30 u31 u32 u33 u34 u35 u36 u37 u38 u39 u40 u41 u42 u43 u44 u45 : Value), (∃ (k sb : Nat) (F : Nat → Nat), k ≤ 2 ^ n - 1 ∧ u0 = .slice a n cap ∧ u3 = .pointer (some ⟨w.heap.size + 1, 0, none⟩) ∧ u4 = .pointer (some ⟨sb, 0, none⟩) ∧ Marks w.heap.size wr ds ∧ Row wr w.heap.size 3 (tabL N F) ∧ Row wr (w.heap.size + 1) 22 [.slice (some ⟨w.heap.size, 0, none⟩) N N] ∧ Row wr sb 3 [.int .i64 ((k : Int) - 1)] ∧ w.heap.size + 1 < sb ∧ (∀ g, k ≤ g → g < 2 ^ n → F g = lst n r g) ∧ Below w.heap.size w wr) ∧ a' = { tmps := #[u0, u1, u2, u3, u4, u5, u6, u7, u8, u9, u10, u11, u12, u13, u14, u15, u16, u17, u18, u19, u20, u21, u22, u23, u24, u25, u26, u27, u28, u29, u30, u31, u32, u33, u34, u35, u36, u37, u38, u39, u40, u41, u42, u43, u44, u45], defers := ds }) (fun a' wr => (match a'.tmps.getD 4 undef with | .pointer (some p) => (intOf ((wr.cell? p).getD undef) + 1).toNat | _ => 0)) ?_ ?_
  ·
    refine ⟨_, _, _, _, _, _, _, _, _, _, _, _, _, _, _, _, _, _, _, _, _, _, _, _, _, _, _, _, _, _, _, _, _, _, _, _, _, _, _, _, _, _, _, _, _, _, _, ?_, rfl⟩
    exact ⟨2 ^ n - 1, _, _, Nat.le_refl _, rfl, rfl, rfl, trivial, r1, r2, r4, by omega, fun g h1 h2 => by
      have : g = 2 ^ n - 1 := by omega
      subst this
      show 0 = max (rst n (tbd n r) (2 ^ n - 1)) (szS n (bord r (2 ^ n - 1)))
      rw [rst_all, bord_full (by omega) HR.out, szS_zero]; rfl, hb0⟩
  ·
    rintro a' wr ⟨ds, u0, u1, u2, u3, u4, u5, u6, u7, u8, u9, u10, u11, u12, u13, u14, u15, u16, u17, u18, u19, u20, u21, u22, u23, u24, u25, u26, u27, u28, u29, u30, u31, u32, u33, u34, u35, u36, u37, u38, u39, u40, u41, u42, u43, u44, u45, hrel, rfl⟩
    dsimp only
    obtain ⟨k, sb, F, hk, rfl, rfl, rfl, hMk, q1, q2, q4, hsb, hF, hbr⟩ := hrel
    have HM := Lib.hid hMk
    have HF := Lib.hid hF
    clear hMk hF r1 r2 r4 hb0 hsz
    have c2 := q2.cell (i := 0) rfl
    have c4 := q4.cell (i := 0) rfl
    by_cases hk0 : 0 < k
    · obtain ⟨s, rfl⟩ : ∃ s, k = s + 1 := ⟨k - 1, by omega⟩
      rw [show ((s + 1 : Nat) : Int) - 1 = s by omega] at q4 c4
      have hs : s < 2 ^ n := by omega
      have hs16 : s < 65536 := by omega
      have hM16 : 2 ^ n - 1 < 65536 := by omega
      have hdl : diff (2 ^ n - 1) s < 2 ^ n := Nat.lt_of_le_of_lt (diff_le _ _) hM
      gi_wp2
      obtain ⟨wn, hwn, rt, hbn, hszn⟩ := new1 wr 3 [.int .i64 n]
      rw [← hwn]
      have p1 := q1.below hbn q1.lt
      have p2 := q2.below hbn q2.lt
      have p4 := q4.below hbn q4.lt
      have cc4 := p4.cell (i := 0) rfl
      clear hwn
      refine wpIn_mono (Q := fun e a' w' => match e with | .normal => a' = { tmps := #[.slice a n cap, u1, u2, .pointer (some ⟨w.heap.size + 1, 0, none⟩), .pointer (some ⟨sb, 0, none⟩), .pointer (some ⟨wr.heap.size, 0, none⟩), u6, u7, u8, u9, u10, u11, u12, u13, .int .i64 s, .bool true, u16, u17, .slice a n cap, .int .i64 n, .slice a n cap, .int .i64 (2 ^ n - 1 : Nat), .int .i64 s, .int .i64 (diff (2 ^ n - 1) s : Nat), .func (.func 96) #[] #[.pointer (some ⟨wn.heap.size, 0, none⟩)], u25, u26, u27, u28, u29, u30, u31, u32, u33, u34, u35, u36, u37, u38, u39, u40, u41, u42, u43, u44, u45], defers := ds } ∧ w' = (wn.alloc (.cells #[.int .i64 (diff (2 ^ n - 1) s : Nat)] 3)).drewN 1 | _ => False) ?_ ?_
      · gi_region_with (first | (gi_at_call 79; refine (callsIn_wide.2 (all_any _ _ _ _ (by omega))).mono ?_; rintro e w1 ⟨rfl, rfl⟩) | (gi_at_call 74; refine (callsIn_wide.2 (nodes_any _ _)).mono ?_; rintro e w1 ⟨rfl, rfl⟩))
        all_goals exact ⟨rfl, rfl⟩
      intro e a' w' hp
      cases e <;> try exact hp.elim
      obtain ⟨rfl, rfl⟩ := hp
      obtain ⟨wm, hwm, rs, hbm, hszm⟩ := new1 wn 3 [.int .i64 (diff (2 ^ n - 1) s : Nat)]
      rw [← hwm]
      clear hwm
      dsimp only
      have hbd : Below wr.heap.size wr (wm.drewN 1) := below_drewN (hbn.trans (hbm.mono hbn.size)) 1
      have d1 := q1.below hbd q1.lt
      have d2 := q2.below hbd q2.lt
      have d4 := q4.below hbd q4.lt
      have dt := (rt.below hbm rt.lt).drewN 1
      have dz := rs.drewN 1
      have hszd : wn.heap.size < (wm.drewN 1).heap.size := hszm
      have hbw := hbr.trans (hbd.mono hbr.size)
      generalize wm.drewN 1 = W0 at *
      clear rs rt p1 p2 p4 cc4 hbm hszm
      gi_wp2
      refine range_nodes (nodes_seq (diff (2 ^ n - 1) s) (by omega) _ W0 hszd (dz.cell (i := 0) rfl) (HT.out.below hbw)) Tab.put (Below.refl _ _) rfl (enters_of Tryd.func96 (by kernel_rfl) rfl) rfl
        (fun pre W => Row W wr.heap.size 3 [.int .i64 (minF (fun v => lst n r (s ||| 2 ^ v)) n pre : Nat)] ∧ Row W w.heap.size 3 (tabL N F) ∧ Row W (w.heap.size + 1) 22 [.slice (some ⟨w.heap.size, 0, none⟩) N N] ∧ Row W sb 3 [.int .i64 s] ∧ KeepsFrom w.heap.size wr W ∧ Below w.heap.size w W)
        (fun _ _ _ => False)
        (((own_row _ _ _).from _).and (((own_row _ _ _).from _).and (((own_row _ _ _).from _).and (((own_row _ _ _).from _).and ((ownFrom_keepsFrom hbd.size).and (ownFrom_below (Nat.le_refl _) hbw.size))))))
        (fun c => ownFrom_pure _ _)
        ⟨dt, d1, d2, d4, keeps_below hbd, hbw⟩ (fun _ W h => HT.out.below h.2.2.2.2.2) ?a1 ?assign ?body ?done ?stop
      case assign =>
        intro l x W K hx hK
        gi_wp2
        exact hK
      case body =>
        rintro l pre x W hx _ ⟨ot, o1, o2, o4, hKF, hB⟩
        obtain ⟨hx10, hxd⟩ := mem_bitsOf.1 hx
        have hxn := bitsOf_lt hdl hx
        have hxs : s.testBit x = false := by
          rw [testBit_diff, Bool.and_eq_true] at hxd
          simpa using hxd.2
        have hor : s ||| 2 ^ x < 2 ^ n := Nat.or_lt_two_pow hs (pow_lt_pow hxn)
        have hgt := or_pow_gt hxs
        have hFx := HF.out (s ||| 2 ^ x) (by omega) hor
        have horN : s ||| 2 ^ x < N := by rw [HN.out]; exact hor
        have cT := o1.cell (i := s ||| 2 ^ x) (tabL_get horN)
        rw [hFx] at cT
        have HST : Hid (minF (fun v => lst n r (s ||| 2 ^ v)) n (pre ++ [x]) = min (minF (fun v => lst n r (s ||| 2 ^ v)) n pre) (lst n r (s ||| 2 ^ x))) := Lib.hid (minF_snoc _ _ _ _)
        have hg := minF_le (fun v => lst n r (s ||| 2 ^ v)) n pre
        have hy := lst_le (r := r) hor
        generalize minF (fun v => lst n r (s ||| 2 ^ v)) n pre = g at *
        generalize lst n r (s ||| 2 ^ x) = y at *
        have hx16 : x < 16 := by omega
        have hx64 : x < 64 := by omega
        have hpw := pow_bd x hx16
        have ct := ot.cell (i := 0) rfl
        have c2' := o2.cell (i := 0) rfl
        have c4' := o4.cell (i := 0) rfl
        have ft := ot.free 0
        have lt := ot.lt
        clear hFx hxd
        gi_wp2
        refine last_round (by kernel_rfl) rfl (by kernel_rfl) (by kernel_rfl) (by kernel_rfl) ?_
        dsimp only [initOf, lastOf]
        repeat (gi_big_quiet_step ((fail)))
        refine wpQuietIn_nil ?_
        rintro _ ⟨nq, rfl⟩
        gi_wp2
        all_goals exact ⟨keeps_store _ _ _ _ _, by
          rw [HST.out]
          first
            | (rw [show min g y = y by omega]; exact (ot.drewN nq).set 0 _)
            | (rw [show min g y = g by omega]; exact (ot.drewN nq).set 0 _), (o1.drewN nq).other (Nat.ne_of_lt q1.lt) _, (o2.drewN nq).other (Nat.ne_of_lt q2.lt) _, (o4.drewN nq).other (Nat.ne_of_lt q4.lt) _, hKF.trans (keeps_store _ _ _ _ _), (below_drewN hB nq).setCell (p := ⟨wr.heap.size, 0, none⟩) hbr.size _⟩
      case done =>
        rintro D W hD ⟨ot, o1, o2, o4, hKF, hB⟩ hK
        have hMP := HM.out.push hKF hbr.size (Nat.le_trans hbd.size hD) hK
        have HM2 := Lib.hid hMP
        have hrm := rst_min (r := r) (n := n) (g := s) (by omega) hs (by omega)
        rw [hrm] at ot
        have hrl := rst_le (t := tbd n r) hs
        have HL : Hid (lst n r s = max (rst n (tbd n r) s) (szS n (bord r s))) := Lib.hid rfl
        have HBO : Hid (∀ u : BelowW W.heap.size W, Calls Tryd.prog 77 #[.slice a n cap, .int .i64 s] u.w fun e w' => e = .returned (.int .i64 (bord r s : Nat)) ∧ Below u.w.heap.size u.w w') := Lib.hid fun u =>
          border_any (HG.out.below (hB.trans (u.h.mono hB.size))) hn7 HR.out cap s hs (HT.out.below (hB.trans (u.h.mono hB.size)))
        have HCO : Hid (∀ u : BelowW W.heap.size W, Calls Tryd.prog 76 #[.int .i64 (bord r s : Nat)] u.w fun e w' => e = .returned (.int .i64 (szS n (bord r s) : Nat)) ∧ Below u.w.heap.size u.w w') := Lib.hid fun u =>
          (count_any (n := n) (by omega) (bord r s) (bord_lt hs) u.w).mono fun _ _ ⟨h1, h2⟩ => ⟨h1, by subst h2; exact Below.refl _ _⟩
        have hsl := szS_le n (bord r s)
        generalize bord r s = X at *
        generalize szS n X = Y at *
        generalize rst n (tbd n r) s = Z at *
        have k2 : ∀ u : BelowW W.heap.size W, u.w.cell? ⟨w.heap.size + 1, 0, none⟩ = some (.slice (some ⟨w.heap.size, 0, none⟩) N N) := fun u => (o2.below u.h o2.lt).cell (i := 0) rfl
        have k4 : ∀ u : BelowW W.heap.size W, u.w.cell? ⟨sb, 0, none⟩ = some (.int .i64 s) := fun u => (o4.below u.h o4.lt).cell (i := 0) rfl
        have kt : ∀ u : BelowW W.heap.size W, u.w.cell? ⟨wr.heap.size, 0, none⟩ = some (.int .i64 Z) := fun u => (ot.below u.h ot.lt).cell (i := 0) rfl
        have hsN : s < N := by rw [HN.out]; exact hs
        have o1l := o1.lt
        clear hrm hMP hK
        gi_wp2
        refine last_below W.heap.size W (Below.refl _ _) (by kernel_rfl) rfl (by kernel_rfl) (by kernel_rfl) (by kernel_rfl) ?_
        dsimp only [initOf, lastOf]
        repeat (gi_big_quiet_step (first | (gi_at_call 77; exact callsIn_wide.2 (calls_below (Nat.le_refl _) (HBO.out _))) | (gi_at_call 76; exact callsIn_wide.2 (calls_below (Nat.le_refl _) (HCO.out _)))))
        refine wpQuietIn_nil ?_
        rintro _ ⟨u, rfl⟩
        have v1 := o1.below u.h o1l
        have v2 := o2.below u.h o2.lt
        have v4 := o4.below u.h o4.lt
        have g1 := v1.cell (i := s) (tabL_get hsN)
        have f1 := v1.free s
        have l1 := v1.lt
        gi_wp2
        all_goals
          have hmx := HL.out
          obtain ⟨_, rfl, hnew, _, _⟩ := new1 (u.w.setCell ⟨w.heap.size, s, none⟩ (.int .i64 (lst n r s : Nat))) 3 [.int .i64 ((s : Int) - 1)]
          first
            | rw [← (show lst n r s = Y by omega)]
            | rw [← (show lst n r s = Z by omega)]
          refine ⟨⟨_, _, _, _, _, _, ⟨s, by omega, rfl, rfl, u.w.heap.size, rfl, HM2.out.keeps ((keeps_below u.h).trans ((keeps_set _ _ _ _ _).trans ((KeepsOthers.alloc _ _).from _))), fun i => if i = s then lst n r s else F i, ?tab, (v2.other (by simp) _).alloc _, by simpa using hnew, ?sz, fun g h1 h2 => ?fact, ?bel⟩, ⟨rfl, rfl, rfl, rfl, rfl⟩, rfl⟩, by simp [intOf]; omega⟩
          case tab => rw [← tabL_set]; exact (v1.set s _).alloc _
          case sz => have := q2.lt; have := hB.size; have := u.h.size; have := v2.lt; omega
          case fact =>
            by_cases e : g = s
            · subst e; show (if g = g then lst n r g else F g) = _; rw [if_pos rfl]
            · show (if g = s then lst n r s else F g) = _; rw [if_neg e]; exact HF.out g (by omega) h2
          case bel =>
            have h1 := (hB.trans (u.h.mono hB.size)).setCell (p := ⟨w.heap.size, s, none⟩) (Nat.le_refl _) (.int .i64 (lst n r s : Nat))
            exact h1.alloc h1.size _
      case stop => exact fun _ _ _ _ _ _ h _ => h.elim
    · have hk1 : k = 0 := by omega
      subst hk1
      have d1 : decide ((0 : Int) ≤ ((0 : Nat) : Int) - 1) = false := by simp
      gi_wp2
      exact leaves_marks HM.out (fun w' hs => ⟨_, results_tmp rfl _ _ _, w.heap.size, by rw [← HN.out]; rfl, by rw [← HN.out, ← tabL_congr (fun g hg => HF.out g (by omega) (by rw [← HN.out]; exact hg))]; exact hs.row q1, Nat.le_refl _, hbr.trans hs.below⟩)
end

set_option maxRecDepth 20000 in
set_option maxHeartbeats 2000000 in
theorem pathWidth_any {n : Nat} {r : Nat → Nat} {a : Option Addr} {w : World} (G : GrAt w a n r) (hn7 : n ≤ 7) (hr : ∀ i, i < n → r i < 2 ^ n) (cap : Nat) (hT : Tab w) :
    Calls Tryd.prog 53 #[.slice a n cap] w fun e w' => e = .returned (.int .i64 (lst n r 0 : Nat)) ∧ Below w.heap.size w w' := by
  have HB := Lib.hid (breadths_any G hn7 hr cap hT)
  have hp := Nat.two_pow_pos n
  have hl := lst_le (r := r) hp
  clear G hr hT
  go_enter Tryd.func53, Tryd.ntmps53
  go_wp2_with fail
  go_at_call 78
  refine HB.out.mono ?_
  rintro e w1 ⟨tb, rfl, hrow, htb, hb⟩
  have c0 := hrow.cell (i := 0) (tabL_get hp)
  go_wp2_with fail
  go_ret
  exact ⟨rfl, hb⟩

end Go.Proofs.YtgkpogaahndmoaaDoor
