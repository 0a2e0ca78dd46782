/- The contract of package sweep's isDecomposition. -/
import Derived.Test.YtgkpogaahndmoaaDoorQi
namespace Go.Proofs.YtgkpogaahndmoaaDoor
set_option linter.unusedSimpArgs false
set_option linter.unusedVariables false
open Go.RowKit Go.Maps
attribute [local go_sem] i64_bit toNat_eq_one toNat_ne_one toNat_eq_zero toNat_ne_zero i64_and i64_or i64_andNot i64_or_pow i64_andNot_pow

def togL (B : Nat → Nat) (k : Nat) : List Value := (List.range 7).map fun v => Value.int .i64 (togTo B v k : Nat)
/-- The same in the midst of a bag. -/
def togP (B : Nat → Nat) (k s : Nat) (pre : List Nat) (v : Nat) : Nat := if v ∈ pre then togTo B v k ||| s else togTo B v k
def togS (B : Nat → Nat) (k s : Nat) (pre : List Nat) : List Value := (List.range 7).map fun v => Value.int .i64 (togP B k s pre v : Nat)
theorem togS_nil (B : Nat → Nat) (k s : Nat) : togS B k s [] = togL B k := by simp [togS, togL, togP]
theorem togS_get {B : Nat → Nat} {k s x : Nat} {pre : List Nat} (hx : x < 7) : (togS B k s pre)[x]? = some (.int .i64 (togP B k s pre x : Nat)) := map_range_get _ hx
theorem togL_get {B : Nat → Nat} {k x : Nat} (hx : x < 7) : (togL B k)[x]? = some (.int .i64 (togTo B x k : Nat)) := map_range_get _ hx
theorem togS_snoc {B : Nat → Nat} {k s x : Nat} {pre : List Nat} : (togS B k s pre).set x (.int .i64 (togP B k s pre x ||| s : Nat)) = togS B k s (pre ++ [x]) := by
  unfold togS
  rw [map_range_set]
  apply List.map_congr_left
  intro i _
  unfold togP
  by_cases e : i = x
  · subst e
    rw [if_pos rfl, if_pos (show i ∈ pre ++ [i] by simp)]
    split
    · rw [Nat.or_assoc, Nat.or_self]
    · rfl
  · rw [if_neg e]
    by_cases hi : i ∈ pre
    · rw [if_pos hi, if_pos (by simp [hi])]
    · rw [if_neg hi, if_neg (by simp [hi, e])]
theorem togS_all {B : Nat → Nat} {k : Nat} : togS B k (B k) (bitsOf (B k)) = togL B (k + 1) := by
  unfold togS togL
  apply List.map_congr_left
  intro v hv
  have hv7 := List.mem_range.1 hv
  refine congrArg (fun t : Nat => Value.int .i64 (t : Int)) ?_
  unfold togP
  show _ = if (B k).testBit v then togTo B v k ||| B k else togTo B v k
  cases h : (B k).testBit v
  · rw [if_neg (fun hm => by rw [(mem_bitsOf.1 hm).2] at h; cases h)]; rfl
  · rw [if_pos (mem_bitsOf.2 ⟨by omega, h⟩)]; rfl
theorem bagOk_lt {n : Nat} {z : Nat → Int} {k : Nat} (h : bagOk n z k = true) : 0 ≤ z k ∧ z k < 2 ^ n ∧ setZ z k < 2 ^ n := by
  unfold bagOk at h
  rw [Bool.and_eq_true, inB_iff] at h
  have h2 := h.1.2
  rw [pow_cast] at h2
  refine ⟨h.1.1, h.1.2, ?_⟩
  show (z k).toNat < _
  have := h.1.1
  omega
theorem path_bad {n m : Nat} {r : Nat → Nat} {z : Nat → Int} {k : Nat} (hk : k < m) (h : bagOk n z k = false) : pathB n r m z = false := by
  rw [Bool.eq_false_iff]
  intro hp
  unfold pathB at hp
  simp only [Bool.and_eq_true, decide_eq_true_eq, List.all_eq_true, List.mem_range, beq_iff_eq] at hp
  rw [hp.1.1.2 k hk] at h
  cases h

theorem path_len {n m : Nat} {r : Nat → Nat} {z : Nat → Int} (h : ¬ (1 ≤ m ∧ m ≤ 30)) : pathB n r m z = false := by
  rw [Bool.eq_false_iff]
  intro hp
  exact h ⟨(path_iff.1 hp).1, (path_iff.1 hp).2.1⟩
theorem path_edge {n m : Nat} {r : Nat → Nat} {z : Nat → Int} {v : Nat} (hv : v < n) (h : ¬ diff (r v) (togTo (setZ z) v m) = 0) : pathB n r m z = false := by
  rw [Bool.eq_false_iff]
  intro hp
  unfold pathB at hp
  simp only [Bool.and_eq_true, decide_eq_true_eq, List.all_eq_true, List.mem_range, beq_iff_eq] at hp
  exact h (hp.1.2 v hv)
theorem path_end {n m : Nat} {r : Nat → Nat} {z : Nat → Int} (h1 : 1 ≤ m) (h2 : m ≤ 30) (h3 : ∀ i, i < m → bagOk n z i = true) (h4 : ∀ v, v < n → diff (r v) (togTo (setZ z) v m) = 0) : pathB n r m z = (seenTo (setZ z) m == 2 ^ n - 1) := by
  unfold pathB
  rw [decide_eq_true h1, decide_eq_true h2, List.all_eq_true.2 (fun i hi => h3 i (List.mem_range.1 hi)), List.all_eq_true.2 (fun v hv => beq_iff_eq.2 (h4 v (List.mem_range.1 hv)))]
  simp

section
attribute [local go_sem] Oper.semAt_some wide_fn wide_fn_in
set_option maxRecDepth 100000 in
set_option maxHeartbeats 2000000 in
theorem isDecomposition_any {n m : Nat} {r : Nat → Nat} {z : Nat → Int} {a o : Option Addr} {w : World} (G : GrAt w a n r) (hn7 : n ≤ 7) (hr : ∀ i, i < n → r i < 2 ^ n) (cap co : Nat) (hI : IntsAt w o m z) (hT : Tab w) :
    Calls Tryd.prog 59 #[.slice a n cap, .slice o m co] w fun e w' => e = .returned (.bool (pathB n r m z)) ∧ Below w.heap.size w w' := by
  have HG := Lib.hid G
  have HR := Lib.hid hr
  have HT := Lib.hid hT
  have HI := Lib.hid hI
  have h7 := pow_le7 hn7
  have hpos := G.pos
  have hml := hI.1
  unfold maxLen at hml
  obtain ⟨hml2, hI2⟩ := G.ints
  obtain ⟨b, off, rfl, hlt2, hc2⟩ := hI2 hpos
  have hbc2 : ∀ wx, Below w.heap.size w wx → ∀ i, i < n → wx.cell? ⟨b, off + i, none⟩ = some (.int .i64 (r i : Nat)) := fun wx hb i hi => by rw [hb.cell (p := ⟨b, off + i, none⟩) hlt2]; exact hc2 i hi
  have HC2 := Lib.hid hbc2
  unfold maxLen at hml2
  clear hbc2 hc2 hI2
  by_cases hm1 : 1 ≤ m
  rotate_left
  · have HF := Lib.hid (path_len (n := n) (r := r) (z := z) (m := m) (by omega))
    have d1 : decide ((m : Int) < 1) = true := by simp; omega
    clear G hr hT hI
    refine (callsIn_wide (n := 9)).1 ?_
    refine callsIn_of_wp_marks Tryd.func59 rfl trivial ?_ rfl
    simp only [Tryd.ntmps59, List.size_toArray, List.length_cons, List.length_nil, Nat.reduceAdd, Nat.reduceSub, Array.replicate_succ, Array.replicate_zero, List.push_toArray, List.append_toArray, List.nil_append, List.cons_append]
    gi_wp2
    exact leaves_marks (B := w.heap.size) (ds := []) trivial (fun w' hs => ⟨_, results_tmp rfl _ _ _, by rw [HF.out]; rfl, hs.below⟩)
  by_cases hm2 : m ≤ 30
  rotate_left
  · have HF := Lib.hid (path_len (n := n) (r := r) (z := z) (m := m) (by omega))
    have d1 : decide ((m : Int) < 1) = false := by simp; omega
    have d2 : decide (30 < (m : Int)) = true := by simp; omega
    clear G hr hT hI
    refine (callsIn_wide (n := 9)).1 ?_
    refine callsIn_of_wp_marks Tryd.func59 rfl trivial ?_ rfl
    simp only [Tryd.ntmps59, List.size_toArray, List.length_cons, List.length_nil, Nat.reduceAdd, Nat.reduceSub, Array.replicate_succ, Array.replicate_zero, List.push_toArray, List.append_toArray, List.nil_append, List.cons_append]
    gi_wp2
    exact leaves_marks (B := w.heap.size) (ds := []) trivial (fun w' hs => ⟨_, results_tmp rfl _ _ _, by rw [HF.out]; rfl, hs.below⟩)
  obtain ⟨ob, oo, rfl, hlt, hc⟩ := hI.2 (by omega)
  have hbc : ∀ wx, Below w.heap.size w wx → ∀ i, i < m → wx.cell? ⟨ob, oo + i, none⟩ = some (.int .i64 (z i)) := fun wx hb i hi => by rw [hb.cell (p := ⟨ob, oo + i, none⟩) hlt]; exact hc i hi
  have HC := Lib.hid hbc
  clear G hr hT hI hbc hc
  refine (callsIn_wide (n := 9)).1 ?_
  refine callsIn_of_wp_marks Tryd.func59 rfl trivial ?_ rfl
  simp only [Tryd.ntmps59, List.size_toArray, List.length_cons, List.length_nil, Nat.reduceAdd, Nat.reduceSub, Array.replicate_succ, Array.replicate_zero, List.push_toArray, List.append_toArray, List.nil_append, List.cons_append]
  obtain ⟨w0, hw0, r5, hb0, hsz⟩ := new1 w 109 (togL (setZ z) 0)
  have hw0' : w0 = w.alloc (.cells #[.int .i64 0, .int .i64 0, .int .i64 0, .int .i64 0, .int .i64 0, .int .i64 0, .int .i64 0] 109) := hw0
  gi_wp2
  rw [← hw0']
  clear hw0 hw0'
  refine wpIn_loop (fun a' wr => ∃ (ds : List Deferred) (u0 u1 u2 u3 u4 u5 u6 u7 u8 u9 u10 u11 u12 u13 u14 u15 u16 u17 u18 u19 u20 u21 u22 u23 u24 u25 u26 u27 u28 u29 u30 u31 u32 u33 u34 u35 u36 u37 u38 u39 u40 u41 u42 u43 u44 u45 u46 u47 u48 u49 u50 u51 u52 u53 u54 u55 u56 u57 u58 u59 u60 u61 u62 u63 u64 u65 u66 u67 u68 u69 u70 u71 u72 : Value), (∃ k : Nat, k ≤ m ∧ u23 = .int .i64 k ∧ u21 = .slice (some ⟨ob, oo, none⟩) m co ∧ u22 = .int .i64 m ∧ u0 = .slice (some ⟨b, off, none⟩) n cap ∧ u5 = .pointer (some ⟨w.heap.size, 0, none⟩) ∧ u6 = .int .i64 (seenTo (setZ z) k : Nat) ∧ u7 = .int .i64 (goneTo (setZ z) k : Nat) ∧ (∀ i, i < k → bagOk n z i = true) ∧ Marks w.heap.size wr ds ∧ Row wr w.heap.size 109 (togL (setZ z) k) ∧ Below w.heap.size w wr) ∧ a' = { tmps := #[u0, u1, u2, u3, u4, u5, u6, u7, u8, u9, u10, u11, u12, u13, u14, u15, u16, u17, u18, u19, u20, u21, u22, u23, u24, u25, u26, u27, u28, u29, u30, u31, u32, u33, u34, u35, u36, u37, u38, u39, u40, u41, u42, u43, u44, u45, u46, u47, u48, u49, u50, u51, u52, u53, u54, u55, u56, u57, u58, u59, u60, u61, u62, u63, u64, u65, u66, u67, u68, u69, u70, u71, u72], defers := ds }) (fun a' wr => m - (intOf (a'.tmps.getD 23 undef)).toNat) ?_ ?_
  ·
    refine ⟨_, _, _, _, _, _, _, _, _, _, _, _, _, _, _, _, _, _, _, _, _, _, _, _, _, _, _, _, _, _, _, _, _, _, _, _, _, _, _, _, _, _, _, _, _, _, _, _, _, _, _, _, _, _, _, _, _, _, _, _, _, _, _, _, _, _, _, _, _, _, _, _, _, _, ?_, rfl⟩
    exact ⟨0, Nat.zero_le _, rfl, rfl, rfl, rfl, rfl, rfl, rfl, by omega, trivial, r5, hb0⟩
  ·
    rintro a' wr ⟨ds, u0, u1, u2, u3, u4, u5, u6, u7, u8, u9, u10, u11, u12, u13, u14, u15, u16, u17, u18, u19, u20, u21, u22, u23, u24, u25, u26, u27, u28, u29, u30, u31, u32, u33, u34, u35, u36, u37, u38, u39, u40, u41, u42, u43, u44, u45, u46, u47, u48, u49, u50, u51, u52, u53, u54, u55, u56, u57, u58, u59, u60, u61, u62, u63, u64, u65, u66, u67, u68, u69, u70, u71, u72, hrel, rfl⟩
    dsimp only
    obtain ⟨k, hk, rfl, rfl, rfl, rfl, rfl, rfl, rfl, hok, hMk, q5, hbr⟩ := hrel
    have HM := Lib.hid hMk
    have HOK := Lib.hid hok
    have hsl := seenTo_lt (n := n) (B := setZ z) k fun i hi => (bagOk_lt (hok i hi)).2.2
    have hgl := goneTo_lt (n := n) (B := setZ z) k fun i hi => (bagOk_lt (hok i hi)).2.2
    clear hMk hok r5 hb0 hsz
    by_cases hltk : k < m
    · have ck := HC.out wr hbr k hltk
      by_cases hin : 0 ≤ z k ∧ z k < 2 ^ n
      rotate_left
      · have HF := Lib.hid (path_bad (r := r) hltk (show bagOk n z k = false by unfold bagOk; rw [inB_false hin]; rfl))
        have HIN := Lib.hid (inB_false hin)
        generalize seenTo (setZ z) k = S at *
        generalize goneTo (setZ z) k = D at *
        generalize hzk : z k = zk at *
        clear hin hzk
        gi_wp2_with (gi_at_call 72; refine (callsIn_wide.2 (isSet_any _ _ _ _ _ (by omega))).mono ?_; rintro e w1 ⟨rfl, rfl⟩; rw [HIN.out])
        have hbx : Below wr.heap.size wr (wr.alloc (.cells #[.int .i64 zk] 3)) := (Below.refl _ _).alloc (Nat.le_refl _) _
        exact leaves_marks (HM.out.keeps (keeps_below hbx)) (fun w' hs => ⟨_, results_tmp rfl _ _ _, by rw [HF.out]; rfl, (hbr.trans (hbx.mono hbr.size)).trans hs.below⟩)
      · have HIN := Lib.hid (inB_true hin.1 hin.2)
        obtain ⟨s, hs⟩ : ∃ s : Nat, z k = s := ⟨(z k).toNat, by omega⟩
        have hsz : setZ z k = s := by show (z k).toNat = s; omega
        have hs2 : s < 2 ^ n := by have h4 := hin.2; rw [hs, pow_cast] at h4; omega
        have HSS : Hid (seenTo (setZ z) (k + 1) = seenTo (setZ z) k ||| s) := Lib.hid (by show _ ||| setZ z k = _; rw [hsz])
        have HGG : Hid (goneTo (setZ z) (k + 1) = goneTo (setZ z) k ||| diff (seenTo (setZ z) k) s) := Lib.hid (by show _ ||| diff _ (setZ z k) = _; rw [hsz])
        have HBK : Hid (bagOk n z k = ((s &&& (goneTo (setZ z) k ||| diff (seenTo (setZ z) k) s)) == 0)) := Lib.hid (by unfold bagOk; rw [inB_true hin.1 hin.2, HGG.out, hsz]; rfl)
        have HSZ := Lib.hid hsz
        rw [hs] at ck HIN
        clear hin
        have hs16 : s < 65536 := by omega
        have hS16 : seenTo (setZ z) k < 65536 := by omega
        have hD16 : goneTo (setZ z) k < 65536 := by omega
        have hdd : diff (seenTo (setZ z) k) s < 65536 := diff_lt hS16
        have hgo : goneTo (setZ z) k ||| diff (seenTo (setZ z) k) s < 65536 := Nat.or_lt_two_pow (n := 16) hD16 hdd
        have hso : seenTo (setZ z) k ||| s < 65536 := Nat.or_lt_two_pow (n := 16) hS16 hs16
        have han : s &&& (goneTo (setZ z) k ||| diff (seenTo (setZ z) k) s) < 65536 := Nat.lt_of_le_of_lt Nat.and_le_left hs16
        generalize seenTo (setZ z) k = S at *
        generalize goneTo (setZ z) k = D at *
        have hbx : Below wr.heap.size wr (wr.alloc (.cells #[.int .i64 s] 3)) := (Below.refl _ _).alloc (Nat.le_refl _) _
        by_cases h0 : s &&& (D ||| diff S s) = 0
        rotate_left
        · have HF := Lib.hid (path_bad (r := r) hltk (by rw [HBK.out]; exact beq_eq_false_iff_ne.2 h0))
          have d1 : ((s &&& (D ||| diff S s) : Nat) : Int) ≠ 0 := by omega
          gi_wp2_with (gi_at_call 72; refine (callsIn_wide.2 (isSet_any _ _ _ _ _ (by omega))).mono ?_; rintro e w1 ⟨rfl, rfl⟩; rw [HIN.out])
          exact leaves_marks (HM.out.keeps (keeps_below hbx)) (fun w' hs => ⟨_, results_tmp rfl _ _ _, by rw [HF.out]; rfl, (hbr.trans (hbx.mono hbr.size)).trans hs.below⟩)
        · have HOK2 := Lib.hid (show ∀ i, i < k + 1 → bagOk n z i = true from fun i hi => by
            rcases Nat.lt_succ_iff_lt_or_eq.1 hi with h | h
            · exact HOK.out i h
            · rw [h, HBK.out, h0]; rfl)
          gi_wp2_with (first
            | (gi_at_call 72; refine (callsIn_wide.2 (isSet_any _ _ _ _ _ (by omega))).mono ?_; rintro e w1 ⟨rfl, rfl⟩; rw [HIN.out])
            | (gi_at_call 74; refine (callsIn_wide.2 (nodes_any _ _)).mono ?_; rintro e w1 ⟨rfl, rfl⟩))
          obtain ⟨wn, hwn, rv, rs, hbn, hszn⟩ := new2 wr 3 3 [.int .i64 s] [.int .i64 s]
          rw [← hwn]
          have p5 := q5.below hbn q5.lt
          have hbw := hbr.trans (hbn.mono hbr.size)
          clear hwn
          refine range_nodes (nodes_seq s (by omega) _ wn hszn (rs.cell (i := 0) rfl) (HT.out.below hbw)) Tab.put (Below.refl _ _) rfl (enters_of Tryd.func96 (by kernel_rfl) rfl) rfl
            (fun pre W => Row W w.heap.size 109 (togS (setZ z) k s pre) ∧ Row W wr.heap.size 3 [.int .i64 s] ∧ KeepsFrom w.heap.size wr W ∧ Below w.heap.size w W)
            (fun _ _ _ => False)
            (((own_row _ _ _).from _).and (((own_row _ _ _).from _).and ((ownFrom_keepsFrom hbn.size).and (ownFrom_below (Nat.le_refl _) hbw.size))))
            (fun c => ownFrom_pure _ _)
            ⟨by rw [togS_nil]; exact p5, rv, keeps_below hbn, hbw⟩ (fun _ W h => HT.out.below h.2.2.2) ?a1 ?assign ?body ?done ?stop
          case assign =>
            intro l x W K hx hK
            gi_wp2
            exact hK
          case body =>
            rintro l pre x W hx _ ⟨o5, ov, hKF, hB⟩
            have hxn := bitsOf_lt hs2 hx
            have hx7 : x < 7 := by omega
            have ct := o5.cell (i := x) (togS_get hx7)
            have HST := Lib.hid (togS_snoc (B := setZ z) (k := k) (s := s) (x := x) (pre := pre))
            have hP16 : togP (setZ z) k s pre x < 65536 := by
              have h1 := togTo_lt (v := x) (n := n) (B := setZ z) k fun i hi => (bagOk_lt (HOK.out i hi)).2.2
              unfold togP
              split
              · exact Nat.or_lt_two_pow (n := 16) (Nat.lt_of_lt_of_le h1 (by omega)) hs16
              · omega
            generalize togP (setZ z) k s pre x = p at *
            have cv := ov.cell (i := 0) rfl
            have ft := o5.free x
            have lt := o5.lt
            gi_wp2
            refine last_round (by kernel_rfl) rfl (by kernel_rfl) (by kernel_rfl) (by kernel_rfl) ?_
            dsimp only [initOf, lastOf]
            repeat (gi_big_quiet_step ((fail)))
            refine wpQuietIn_nil ?_
            rintro _ ⟨nq, rfl⟩
            gi_wp2
            have hk2 : ∀ B v, KeepsFrom B W ((W.drewN nq).setCell ⟨w.heap.size, x, none⟩ v) := fun B v => ((keeps_drewN W nq).from B).trans (keeps_set B _ _ _ _)
            exact ⟨hk2 _ _, by rw [← HST.out]; exact (o5.drewN nq).set x _, (ov.drewN nq).other (Nat.ne_of_gt q5.lt) _, hKF.trans (hk2 _ _), (below_drewN hB nq).setCell (p := ⟨w.heap.size, x, none⟩) (Nat.le_refl _) _⟩
          case done =>
            rintro D2 W hD ⟨o5, ov, hKF, hB⟩ hK
            have HM2 := Lib.hid (HM.out.push hKF hbr.size (Nat.le_trans hbn.size hD) hK)
            rw [← HSZ.out, togS_all] at o5
            gi_wp2
            refine ⟨⟨_, _, _, _, _, _, _, _, _, _, _, _, _, _, _, _, _, _, _, _, _, _, _, _, _, _, _, _, _, _, _, _, _, _, _, _, _, _, _, _, _, _, _, _, _, _, _, _, _, _, _, _, _, _, _, _, _, _, _, _, _, _, _, _, _, _, _, _, _, _, _, _, _, _, ?_, rfl⟩, ?_⟩
            · exact ⟨k + 1, by omega, by go_num, rfl, rfl, rfl, rfl, by rw [HSS.out], by rw [HGG.out], HOK2.out, HM2.out, o5, hB⟩
            · simp [intOf]; omega
          case stop => exact fun _ _ _ _ _ _ h _ => h.elim
    · have hke : k = m := by omega
      subst hke
      have hsz5 := q5.lt
      have hS16 : seenTo (setZ z) k < 65536 := by omega
      have HL : Hid (∀ v, togTo (setZ z) v k < 65536) := Lib.hid fun v => Nat.lt_of_lt_of_le (togTo_lt (n := n) (B := setZ z) k fun i hi => (bagOk_lt (HOK.out i hi)).2.2) (by omega)
      have HPE := Lib.hid (fun (h : ∀ v, v < n → diff (r v) (togTo (setZ z) v k) = 0) => path_end (r := r) hm1 hm2 HOK.out h)
      generalize seenTo (setZ z) k = S at *
      generalize goneTo (setZ z) k = D at *
      gi_wp2
      gi_loopw [57] (fun i w' => ∃ j : Nat, j ≤ n ∧ i = .int .i64 j ∧ (∀ v, v < j → diff (r v) (togTo (setZ z) v k) = 0) ∧ wr = w') (fun i _ => n - (intOf i).toNat)
      case atStart => exact ⟨0, Nat.zero_le _, rfl, by omega, rfl⟩
      case round =>
        obtain ⟨j, hj, rfl, hdj, rfl⟩ := hrel
        have HDJ := Lib.hid hdj
        clear hdj
        by_cases hltj : j < n
        · have cj := HC2.out wr hbr j hltj
          have ct := q5.cell (i := j) (togL_get (by omega))
          have hrj := HR.out j hltj
          have htj := HL.out j
          have HBE := Lib.hid (path_edge (z := z) (m := k) (r := r) hltj)
          have HD1 := Lib.hid (show diff (r j) (togTo (setZ z) j k) = 0 → ∀ v, v < j + 1 → diff (r v) (togTo (setZ z) v k) = 0 from fun h v hv => by
            rcases Nat.lt_succ_iff_lt_or_eq.1 hv with h2 | h2
            · exact HDJ.out v h2
            · rw [h2]; exact h)
          generalize togTo (setZ z) j k = T at *
          have HIP := Lib.hid (isPart_any (r j) T wr (by omega) htj)
          by_cases hd : diff (r j) T = 0
          · have HD2 := Lib.hid (HD1.out hd)
            rw [hd] at HIP
            gi_wp2_with (gi_at_call 80; refine (callsIn_wide.2 HIP.out).mono ?_; rintro e w1 ⟨rfl, rfl⟩)
            go_roundw
            case rel => exact ⟨j + 1, by omega, by go_num, HD2.out, by first | trivial | rfl⟩
            case measure => simp [intOf]; omega
          · have HF := Lib.hid (HBE.out hd)
            have hdb : (diff (r j) T == 0) = false := beq_eq_false_iff_ne.2 hd
            rw [hdb] at HIP
            gi_wp2_with (gi_at_call 80; refine (callsIn_wide.2 HIP.out).mono ?_; rintro e w1 ⟨rfl, rfl⟩)
            exact leaves_marks HM.out (fun w' hs => ⟨_, results_tmp rfl _ _ _, by rw [HF.out]; rfl, hbr.trans hs.below⟩)
        · have hje : j = n := by omega
          subst hje
          have HPP := Lib.hid (HPE.out HDJ.out)
          gi_wp2_with (gi_at_call 79; refine (callsIn_wide.2 (all_any _ _ _ _ (by omega))).mono ?_; rintro e w1 ⟨rfl, rfl⟩)
          exact leaves_marks HM.out (fun w' hs => ⟨_, results_tmp rfl _ _ _, by rw [HPP.out, ← cast_beq]; rfl, hbr.trans hs.below⟩)
end

end Go.Proofs.YtgkpogaahndmoaaDoor
