/- The contract of package sweep's follow. -/
import Derived.Test.YthbhhfeiianmcaaDoorQw
import Derived.Test.YthbhhfeiianmcaaDoorQq
import Derived.Maps.OwnIn
namespace Go.Proofs.YthbhhfeiianmcaaDoor
set_option linter.unusedSimpArgs false
set_option linter.unusedVariables false
open Go.RowKit Go.Maps
attribute [local go_sem] i64_bit toNat_eq_one toNat_ne_one toNat_eq_zero toNat_ne_zero i64_and i64_or i64_andNot i64_or_pow i64_andNot_pow

section
attribute [local go_sem] Oper.semAt_some wide_fn wide_fn_in
set_option maxRecDepth 100000 in
set_option maxHeartbeats 4000000 in
theorem follow_any {n m : Nat} {z : Nat → Int} {v : Value} {w : World} (hn7 : n ≤ 7) (hA : SliceArg w v m z) (hm1 : 1 ≤ m) (hm2 : m ≤ 30) (hz : ∀ k, k < m → 0 ≤ z k ∧ z k < 2 ^ n) (hT : Tab w) :
    Calls Tryd.prog 61 #[v] w fun e w' => ∃ u, e = .returned u ∧ ActsOwn 88 w' w.heap.size u (folL (setZ z) m (m + 1)) ∧ Below w.heap.size w w' := by
  have h7 := pow_le7 hn7
  have HA := Lib.hid hA
  have HZ := Lib.hid hz
  have HT := Lib.hid hT
  obtain ⟨i0, hi0, hz1, hz2, hz3⟩ := info_parts info_int
  obtain ⟨i1, hi1, hy1, hy2, hy3⟩ := info_parts info_act
  have hbags : ∀ k, k < m → setZ z k < 2 ^ n := fun k hk => by
    have := hz k hk
    rw [pow_cast] at this
    show (z k).toNat < _
    omega
  have HBG := Lib.hid hbags
  clear hA hz hbags hT
  refine (callsIn_wide (n := 9)).1 ?_
  refine callsIn_of_wp_marks Tryd.func61 rfl trivial ?_ rfl
  simp only [Tryd.ntmps61, List.size_toArray, List.length_cons, List.length_nil, Nat.reduceAdd, Nat.reduceSub, Array.replicate_succ, Array.replicate_zero, List.push_toArray, List.append_toArray, List.nil_append, List.cons_append]
  gi_wp2
  obtain ⟨w0, hw0, r3, hb0, hsz⟩ := new1 w 44 [.slice none 0 0]
  rw [← hw0]
  clear hw0
  have HB0 := Lib.hid hb0
  gi_wp2_with (gi_at_call 51; refine (callsIn_wide.2 (CloneI_own m z _ _ (by omega) (HA.out.below HB0.out))).mono ?_; rintro e w1 ⟨v1, rfl, hown, hb1⟩; have HO1 := Lib.hid hown; have HX1 := Lib.hid hb1; have HB1 := Lib.hid (HB0.out.trans (hb1.mono HB0.out.size)); clear hown hb1; gi_wp2_with (gi_at_builtin; refine wpListIn_append_own _ rfl _ _ 22 rfl w0.heap.size 3 i0 (.int .i64 0) 1 8 Tryd.underlying22 hi0 hz1 hz2 hz3 rfl (by decide) _ _ _ rfl (HO1.out.alloc _) ⟨w1.heap.size, 0, none⟩ 1 1 [.int .i64 0] rfl rfl ?d1 ?d2 ?d3 ?d4 ?d5 ?_))
  case d1 => exact cells_new _ _ _
  case d2 => intro u hu; simp at hu; subst hu; rfl
  case d3 => unfold maxLen; omega
  case d4 => omega
  case d5 => have := HX1.out.size; simp; omega
  intro v2 w2 hown2 hg2 _
  have hb2 : Below w.heap.size w w2 := (HB1.out.alloc HB1.out.size _).grown hg2 (by have := HB1.out.size; simp; omega) (fun k hk => Nat.le_trans HB0.out.size (World.ownsRow.lt HO1.out k hk).1)
  have HB2 := Lib.hid hb2
  obtain ⟨-, h0 | ⟨gb, gc, cur, rfl, hgb, hh, hc1, hc2, hcs, htk⟩⟩ := id hown2
  · omega
  have rl : Row w2 gb 3 cur.toList := by unfold Row; simpa using hh
  have hlk : ∀ k, k < m + 1 → cur.toList[k]? = some (.int .i64 (bagN (setZ z) m k : Nat)) := by
    intro k hk
    have h1 : (cur.toList.take ((m + 1) * 1))[k]? = cur.toList[k]? := by rw [List.getElem?_take, if_pos (by omega)]
    rw [← h1, htk]
    unfold bagN
    by_cases hkm : k < m
    · rw [List.getElem?_append_left (by unfold intL; simpa using hkm), if_pos hkm]
      unfold intL
      rw [map_range_get _ hkm]
      have := (HZ.out k hkm).1
      rw [show z k = ((setZ z k : Nat) : Int) by show z k = ((z k).toNat : Int); omega]
    · rw [if_neg hkm, show k = m by omega, List.getElem?_append_right (by unfold intL; simp)]
      unfold intL
      simp
  have HLK := Lib.hid hlk
  have q3 := ((r3.below HX1.out r3.lt).alloc (.cells #[.int .i64 0] 3)).grown hg2 (not_own_type HO1.out (r3.below HX1.out r3.lt) (by decide))
  have hbn : ∀ k, bagN (setZ z) m k < 2 ^ n := fun k => by
    unfold bagN
    split
    · rename_i h; exact HBG.out k h
    · exact Nat.two_pow_pos n
  have hwn : ∀ k, wasN (setZ z) m k < 2 ^ n := fun k => by
    cases k with
    | zero => exact Nat.two_pow_pos n
    | succ k => exact hbn k
  have HBN := Lib.hid hbn
  have HWN := Lib.hid hwn
  have hneq : w.heap.size ≠ gb := by omega
  generalize cur.toList = CL at *
  clear hbn hwn hlk hh hc1 hc2 hcs htk hown2 hg2 r3 hb0 HO1
  gi_wp2
  refine wpIn_loop (fun a' wr => ∃ (ds : List Deferred) (u0 u1 u2 u3 u4 u5 u6 u7 u8 u9 u10 u11 u12 u13 u14 u15 u16 u17 u18 u19 u20 u21 u22 u23 u24 u25 u26 u27 u28 u29 u30 u31 u32 u33 u34 u35 u36 u37 u38 u39 u40 : Value), (∃ (k : Nat) (pv : Value), k ≤ m + 1 ∧ u14 = .int .i64 (k : Nat) ∧ u12 = .slice (some ⟨gb, 0, none⟩) (m + 1) gc ∧ u13 = .int .i64 ((m : Int) + 1) ∧ u3 = .pointer (some ⟨w.heap.size, 0, none⟩) ∧ u4 = .int .i64 (wasN (setZ z) m k : Nat) ∧ Marks w.heap.size wr ds ∧ Row wr w.heap.size 44 [pv] ∧ Row wr gb 3 CL ∧ ActsOwn 88 wr w.heap.size pv (folL (setZ z) m k) ∧ Below w.heap.size w wr) ∧ a' = { tmps := #[u0, u1, u2, u3, u4, u5, u6, u7, u8, u9, u10, u11, u12, u13, u14, u15, u16, u17, u18, u19, u20, u21, u22, u23, u24, u25, u26, u27, u28, u29, u30, u31, u32, u33, u34, u35, u36, u37, u38, u39, u40], defers := ds }) (fun a' wr => m + 1 - (intOf (a'.tmps.getD 14 undef)).toNat) ?_ ?_
  ·
    refine ⟨_, _, _, _, _, _, _, _, _, _, _, _, _, _, _, _, _, _, _, _, _, _, _, _, _, _, _, _, _, _, _, _, _, _, _, _, _, _, _, _, _, _, ?_, rfl⟩
    exact ⟨0, _, Nat.zero_le _, rfl, rfl, rfl, rfl, rfl, trivial, q3, rl, ActsOwn.nil _ _ _, hb2⟩
  ·
    rintro a' wr ⟨ds, u0, u1, u2, u3, u4, u5, u6, u7, u8, u9, u10, u11, u12, u13, u14, u15, u16, u17, u18, u19, u20, u21, u22, u23, u24, u25, u26, u27, u28, u29, u30, u31, u32, u33, u34, u35, u36, u37, u38, u39, u40, hrel, rfl⟩
    dsimp only
    obtain ⟨k, pv, hk, rfl, rfl, rfl, rfl, rfl, hMk, p3, pl, hown, hbr⟩ := hrel
    have HM := Lib.hid hMk
    have HOW := Lib.hid hown
    clear hMk hown q3 rl hb2
    by_cases hltk : k < m + 1
    · have dk : decide ((k : Int) < (m : Int) + 1) = true := decide_eq_true (by omega)
      have ck := pl.cell (i := k) (HLK.out k hltk)
      have hnew := HBN.out k
      have hold := HWN.out k
      have HST : Hid (folL (setZ z) m (k + 1) = folL (setZ z) m k ++ actsOf (wasN (setZ z) m k) (bagN (setZ z) m k)) := Lib.hid rfl
      have HWS : Hid (wasN (setZ z) m (k + 1) = bagN (setZ z) m k) := Lib.hid rfl
      have hfl := fol_len (setZ z) m k
      generalize folL (setZ z) m k = L0 at *
      generalize bagN (setZ z) m k = new at *
      generalize wasN (setZ z) m k = old at *
      have hold16 : old < 65536 := by omega
      have hnew16 : new < 65536 := by omega
      gi_wp2_with (gi_at_call 74; refine (callsIn_wide.2 (nodes_any _ _)).mono ?_; rintro e w3 ⟨rfl, rfl⟩)
      obtain ⟨wnA, hwn, rs, hbn, hszn⟩ := new1 wr 3 [.int .i64 (diff old new : Nat)]
      rw [← hwn]
      clear hwn
      have t3 := p3.below hbn p3.lt
      have tl := pl.below hbn pl.lt
      have hO2 : wnA.ownsRow w.heap.size 88 2 _ (L0).length (actCells (L0)) := ownsRow_below (show wr.ownsRow w.heap.size 88 2 _ (L0).length (actCells (L0)) from HOW.out) hbn (Nat.le_refl _)
      have hbw := hbr.trans (hbn.mono hbr.size)
      have hdl : diff old new < 2 ^ n := Nat.lt_of_le_of_lt (diff_le _ _) hold
      refine range_nodes (nodes_seq (diff old new) (by omega) _ wnA hszn (rs.cell (i := 0) rfl) (HT.out.below hbw)) Tab.put (Below.refl _ _) rfl (enters_of Tryd.func96 (by kernel_rfl) rfl) rfl
        (fun pre W => ∃ pv, Row W w.heap.size 44 [pv] ∧ Row W gb 3 CL ∧ W.ownsRow w.heap.size 88 2 pv (L0 ++ pre.map fun x => (false, x)).length (actCells (L0 ++ pre.map fun x => (false, x))) ∧ KeepsFrom w.heap.size wr W ∧ Below w.heap.size w W)
        (fun _ _ _ => False)
        (ownFrom_ex fun pv => ((own_row _ _ _).from _).and (((own_row _ _ _).from _).and ((ownFrom_ownsRow _ _ _ _ (fun _ => pv) _ _).and ((ownFrom_keepsFrom hbn.size).and (ownFrom_below (Nat.le_refl _) hbw.size)))))
        (fun c => ownFrom_pure _ _)
        ⟨_, t3, tl, by simpa using hO2, keeps_below hbn, hbw⟩ (fun _ W h => by obtain ⟨_, _, _, _, _, h⟩ := h; exact HT.out.below h) ?a1 ?assign ?body ?done ?stop
      case assign =>
        intro l x W K hx hK
        gi_wp2
        exact hK
      case body =>
        rintro l pre x W hx hpx ⟨pw2, o3, ol, hown, hKF, hB⟩
        have hb10 := bits_len (diff old new)
        have hll : (L0 ++ pre.map fun x => (false, x)).length ≤ 10000 := by rw [List.length_append, List.length_map]; omega
        have HE : Hid (L0 ++ (pre ++ [x]).map (fun x => (false, x)) = (L0 ++ pre.map fun x => (false, x)) ++ [(false, x)]) := Lib.hid (by simp)
        have c3 := o3.cell (i := 0) rfl
        have hsz2 := hB.size
        have HO := Lib.hid hown
        have HKF := Lib.hid hKF
        have HB := Lib.hid hB
        clear hown hKF hB
        generalize (L0 ++ pre.map fun x => (false, x)) = M at *
        gi_wp2_with (gi_at_builtin; refine wpListIn_append_own _ rfl _ _ 44 rfl w.heap.size 88 i1 (.agg #[.bool false, .int .i64 0]) 2 16 Tryd.underlying44 hi1 hy1 hy2 hy3 rfl (by decide) pw2 M.length (actCells M) rfl (HO.out.alloc _) ⟨W.heap.size, 0, none⟩ 1 1 [.bool false, .int .i64 x] rfl rfl ?c1 ?c2 ?c3 ?c4 ?c5 ?_)
        case c1 => exact cells_new _ _ _
        case c2 => intro u hu; simp at hu; rcases hu with rfl | rfl <;> rfl
        case c3 => unfold maxLen; omega
        case c4 => omega
        case c5 => simp; omega
        intro v' w9 hown1 hg1 _
        obtain ⟨g', cap', rfl⟩ := ownsRow_succ hown1
        have z3 := (o3.alloc (.cells #[.bool false, .int .i64 x] 88)).grown hg1 (not_own_type HO.out o3 (by decide))
        have zl := (ol.alloc (.cells #[.bool false, .int .i64 x] 88)).grown hg1 (not_own_type HO.out ol (by decide))
        have hk1 : ∀ B, KeepsFrom B W w9 := fun B => ((KeepsOthers.alloc W (.cells #[.bool false, .int .i64 x] 88)).from B).trans (of_grown_own (HO.out.alloc _) hg1)
        have hb1 := (HB.out.alloc hsz2 (.cells #[.bool false, .int .i64 x] 88)).grown hg1 (by simp; omega) (fun k hk => (World.ownsRow.lt HO.out k hk).1)
        have cz := z3.cell (i := 0) rfl
        have fz := z3.free 0
        have lz := z3.lt
        have HO1 := Lib.hid hown1
        clear hown1
        gi_wp2
        refine ⟨(hk1 _).trans (keeps_set _ _ _ _ _), _, z3.set 0 _, zl.other (Ne.symm hneq) _, ?_, HKF.out.trans ((hk1 _).trans (keeps_set _ _ _ _ _)), hb1.setCell (p := ⟨w.heap.size, 0, none⟩) (Nat.le_refl _) _⟩
        rw [HE.out, List.length_append, actCells_snoc]
        exact HO1.out.kept (grownBy_setCell' w9 w.heap.size _) (.inr (not_own_type HO1.out z3 (by decide)).symm)
      case stop => exact fun _ _ _ _ _ _ h _ => h.elim
      case done =>
        rintro D W hD ⟨pwA, o3, ol, hown, hKF, hB⟩ hK
        have HMKA := Lib.hid (HM.out.push hKF hbr.size (Nat.le_trans hbn.size hD) hK)
        have HOXA := Lib.hid hown
        clear hown hKF hK
        have hfl2 : (L0 ++ (offs old new).map fun v => (false, v)).length ≤ 20 * 31 + 10 := by
          have := bits_len (diff old new)
          rw [List.length_append, List.length_map]
          unfold offs
          omega
        obtain ⟨WA, hWA⟩ : ∃ WA, WA = W := ⟨_, rfl⟩
        subst hWA
        have hBA := hB
        have oA3 := o3
        have oAl := ol
        clear hB o3 ol t3 tl hO2 hbw hdl hbn hszn rs
        gi_wp2_with (gi_at_call 74; refine (callsIn_wide.2 (nodes_any _ _)).mono ?_; rintro e w4 ⟨rfl, rfl⟩)
        obtain ⟨wnB, hwn, rs, hbn, hszn⟩ := new1 WA 3 [.int .i64 (diff new old : Nat)]
        rw [← hwn]
        clear hwn
        have t3 := oA3.below hbn oA3.lt
        have tl := oAl.below hbn oAl.lt
        have hO2 : wnB.ownsRow w.heap.size 88 2 _ ((L0 ++ (offs old new).map fun v => (false, v))).length (actCells ((L0 ++ (offs old new).map fun v => (false, v)))) := ownsRow_below (show WA.ownsRow w.heap.size 88 2 _ ((L0 ++ (offs old new).map fun v => (false, v))).length (actCells ((L0 ++ (offs old new).map fun v => (false, v)))) from HOXA.out) hbn (Nat.le_refl _)
        have hbw := hBA.trans (hbn.mono hBA.size)
        have hdl : diff new old < 2 ^ n := Nat.lt_of_le_of_lt (diff_le _ _) hnew
        refine range_nodes (nodes_seq (diff new old) (by omega) _ wnB hszn (rs.cell (i := 0) rfl) (HT.out.below hbw)) Tab.put (Below.refl _ _) rfl (enters_of Tryd.func96 (by kernel_rfl) rfl) rfl
          (fun pre W => ∃ pv, Row W w.heap.size 44 [pv] ∧ Row W gb 3 CL ∧ W.ownsRow w.heap.size 88 2 pv ((L0 ++ (offs old new).map fun v => (false, v)) ++ pre.map fun x => (true, x)).length (actCells ((L0 ++ (offs old new).map fun v => (false, v)) ++ pre.map fun x => (true, x))) ∧ KeepsFrom w.heap.size WA W ∧ Below w.heap.size w W)
          (fun _ _ _ => False)
          (ownFrom_ex fun pv => ((own_row _ _ _).from _).and (((own_row _ _ _).from _).and ((ownFrom_ownsRow _ _ _ _ (fun _ => pv) _ _).and ((ownFrom_keepsFrom hbn.size).and (ownFrom_below (Nat.le_refl _) hbw.size)))))
          (fun c => ownFrom_pure _ _)
          ⟨_, t3, tl, by simpa using hO2, keeps_below hbn, hbw⟩ (fun _ W h => by obtain ⟨_, _, _, _, _, h⟩ := h; exact HT.out.below h) ?a2 ?assign2 ?body2 ?done2 ?stop2
        case assign2 =>
          intro l x W K hx hK
          gi_wp2
          exact hK
        case body2 =>
          rintro l pre x W hx hpx ⟨pw2, o3, ol, hown, hKF, hB⟩
          have hb10 := bits_len (diff new old)
          have hll : ((L0 ++ (offs old new).map fun v => (false, v)) ++ pre.map fun x => (true, x)).length ≤ 10000 := by rw [List.length_append, List.length_map]; omega
          have HE : Hid ((L0 ++ (offs old new).map fun v => (false, v)) ++ (pre ++ [x]).map (fun x => (true, x)) = ((L0 ++ (offs old new).map fun v => (false, v)) ++ pre.map fun x => (true, x)) ++ [(true, x)]) := Lib.hid (by simp)
          have c3 := o3.cell (i := 0) rfl
          have hsz2 := hB.size
          have HO := Lib.hid hown
          have HKF := Lib.hid hKF
          have HB := Lib.hid hB
          clear hown hKF hB
          generalize ((L0 ++ (offs old new).map fun v => (false, v)) ++ pre.map fun x => (true, x)) = M at *
          gi_wp2_with (gi_at_builtin; refine wpListIn_append_own _ rfl _ _ 44 rfl w.heap.size 88 i1 (.agg #[.bool false, .int .i64 0]) 2 16 Tryd.underlying44 hi1 hy1 hy2 hy3 rfl (by decide) pw2 M.length (actCells M) rfl (HO.out.alloc _) ⟨W.heap.size, 0, none⟩ 1 1 [.bool true, .int .i64 x] rfl rfl ?c1 ?c2 ?c3 ?c4 ?c5 ?_)
          case c1 => exact cells_new _ _ _
          case c2 => intro u hu; simp at hu; rcases hu with rfl | rfl <;> rfl
          case c3 => unfold maxLen; omega
          case c4 => omega
          case c5 => simp; omega
          intro v' w9 hown1 hg1 _
          obtain ⟨g', cap', rfl⟩ := ownsRow_succ hown1
          have z3 := (o3.alloc (.cells #[.bool true, .int .i64 x] 88)).grown hg1 (not_own_type HO.out o3 (by decide))
          have zl := (ol.alloc (.cells #[.bool true, .int .i64 x] 88)).grown hg1 (not_own_type HO.out ol (by decide))
          have hk1 : ∀ B, KeepsFrom B W w9 := fun B => ((KeepsOthers.alloc W (.cells #[.bool true, .int .i64 x] 88)).from B).trans (of_grown_own (HO.out.alloc _) hg1)
          have hb1 := (HB.out.alloc hsz2 (.cells #[.bool true, .int .i64 x] 88)).grown hg1 (by simp; omega) (fun k hk => (World.ownsRow.lt HO.out k hk).1)
          have cz := z3.cell (i := 0) rfl
          have fz := z3.free 0
          have lz := z3.lt
          have HO1 := Lib.hid hown1
          clear hown1
          gi_wp2
          refine ⟨(hk1 _).trans (keeps_set _ _ _ _ _), _, z3.set 0 _, zl.other (Ne.symm hneq) _, ?_, HKF.out.trans ((hk1 _).trans (keeps_set _ _ _ _ _)), hb1.setCell (p := ⟨w.heap.size, 0, none⟩) (Nat.le_refl _) _⟩
          rw [HE.out, List.length_append, actCells_snoc]
          exact HO1.out.kept (grownBy_setCell' w9 w.heap.size _) (.inr (not_own_type HO1.out z3 (by decide)).symm)
        case stop2 => exact fun _ _ _ _ _ _ h _ => h.elim
        case done2 =>
          rintro D W hD ⟨pwB, o3, ol, hown, hKF, hB⟩ hK
          have HMKB := Lib.hid (HMKA.out.push hKF hBA.size (Nat.le_trans hbn.size hD) hK)
          have HOXB := Lib.hid hown
          clear hown hKF hK
          gi_wp2
          refine ⟨⟨_, _, _, _, _, _, _, _, _, _, _, _, _, _, _, _, _, _, _, _, _, _, _, _, _, _, _, _, _, _, _, _, _, _, _, _, _, _, _, _, _, _, ?_, rfl⟩, ?_⟩
          · refine ⟨k + 1, pwB, by omega, by go_num, rfl, rfl, rfl, by rw [HWS.out], HMKB.out, o3, ol, ?_, hB⟩
            rw [HST.out]
            unfold actsOf
            rw [← List.append_assoc]
            exact HOXB.out
          · simp [intOf]; omega
    · have hke : k = m + 1 := by omega
      subst hke
      have dk : decide (((m + 1 : Nat) : Int) < (m : Int) + 1) = false := decide_eq_false (by omega)
      have c3 := p3.cell (i := 0) rfl
      gi_wp2
      exact leaves_marks HM.out (fun w' hs => ⟨_, results_tmp rfl _ _ _, pv, rfl, ownsRow_shut hs HOW.out, hbr.trans hs.below⟩)
end
end Go.Proofs.YthbhhfeiianmcaaDoor
