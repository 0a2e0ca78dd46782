/- The contract of package ears' edges. -/
import Derived.Test.YtcpdedgmhpehiaaDoorEc
import Derived.Test.YtcpdedgmhpehiaaDoorPr
namespace Go.Proofs.YtcpdedgmhpehiaaDoor
set_option linter.unusedSimpArgs false
set_option linter.unusedVariables false
open Go.RowKit Go.Maps
attribute [local go_sem] i64_bit toNat_eq_one toNat_ne_one toNat_eq_zero toNat_ne_zero i64_and i64_or i64_andNot i64_or_pow i64_andNot_pow

/-- The edges from a node to some others, and from the first nodes. -/
def rowE (k : Nat) (pre : List Nat) : List (Nat × Nat) := (pre.filter fun x => decide (k < x)).map fun x => (k, x)
def edgesTo (r : Nat → Nat) : Nat → List (Nat × Nat)
  | 0 => []
  | k + 1 => edgesTo r k ++ rowE k (bitsOf (r k))
theorem rowE_snoc (k : Nat) (pre : List Nat) (x : Nat) : rowE k (pre ++ [x]) = if k < x then rowE k pre ++ [(k, x)] else rowE k pre := by
  unfold rowE
  rw [List.filter_append]
  by_cases h : k < x
  · simp [h]
  · simp [h]
theorem rowE_len (k : Nat) (pre : List Nat) : (rowE k pre).length ≤ pre.length := by
  unfold rowE; rw [List.length_map]; exact List.length_filter_le _ _
theorem edgesTo_len (r : Nat → Nat) : ∀ k, (edgesTo r k).length ≤ 10 * k
  | 0 => Nat.le_refl _
  | k + 1 => by
    have h1 := edgesTo_len r k
    have h2 := rowE_len k (bitsOf (r k))
    have h3 := bitsOf_len (r k)
    show (edgesTo r k ++ rowE k (bitsOf (r k))).length ≤ _
    rw [List.length_append]; omega

theorem of_grown_own {W w1 : World} {base B : Nat} {e : TypeId} {size : Nat} {v : Value} {n : Nat} {xs : List Value} (h : W.ownsRow base e size v n xs) (hg : W.grownBy w1 v.ownBlock) : KeepsFrom B W w1 :=
  ⟨hg.size, fun k o _ hk ho => (hg.block k (Array.getElem?_eq_some_iff.1 hk).1 (fun e1 => by
    rcases h.2 with ⟨h1, _⟩ | ⟨g, cap, cur, hv, _, hgb, _⟩
    · rw [h1] at e1; cases e1
    · rw [hv] at e1
      have e2 : k = g := by simpa [Value.ownBlock] using e1
      subst e2
      rw [hgb] at hk; cases hk; cases ho)).trans hk⟩

section
attribute [local go_sem] Oper.semAt_some wide_fn wide_fn_in
set_option maxRecDepth 100000 in
set_option maxHeartbeats 4000000 in
theorem edges_any {n : Nat} {r : Nat → Nat} {a : Option Addr} {w : World} (G : GrAt w a n r) (hn10 : n ≤ 10) (hr : ∀ i, i < n → r i < 2 ^ n) (cap : Nat) (hT : Tab w) :
    Calls Tryd.prog 92 #[.slice a n cap] w fun e w' => ∃ v, e = .returned v ∧ PairsOwn w' w.heap.size v (edgesTo r n) ∧ Below w.heap.size w w' := by
  obtain ⟨hml, hI⟩ := G.ints
  obtain ⟨b, off, rfl, hlt, hc⟩ := hI G.pos
  have h10 := pow_le10 hn10
  have hbc : ∀ wx, Below w.heap.size w wx → ∀ i, i < n → wx.cell? ⟨b, off + i, none⟩ = some (.int .i64 (r i : Nat)) := fun wx hb i hi => by rw [hb.cell (p := ⟨b, off + i, none⟩) hlt]; exact hc i hi
  have HC := Lib.hid hbc
  have HR := Lib.hid hr
  have HT := Lib.hid hT
  obtain ⟨i0, hi0, hz1, hz2, hz3⟩ := info_parts info_pair
  have hfi : Tryd.prog.follows .mixedOrders = true := by kernel_rfl
  unfold maxLen at hml
  clear hbc hc hI hr hT G
  refine (callsIn_wide (n := 9)).1 ?_
  refine callsIn_of_wp_marks Tryd.func92 rfl trivial ?_ rfl
  simp only [Tryd.ntmps92, List.size_toArray, List.length_cons, List.length_nil, Nat.reduceAdd, Nat.reduceSub, Array.replicate_succ, Array.replicate_zero, List.push_toArray, List.append_toArray, List.nil_append, List.cons_append]
  obtain ⟨w0, hw0, r3, hb0, hsz⟩ := new1 w 61 [.slice none 0 0]
  gi_wp2
  rw [← hw0]
  clear hw0
  refine wpIn_loop (fun a' wr => ∃ (ds : List Deferred) (u0 u1 u2 u3 u4 u5 u6 u7 u8 u9 u10 u11 u12 u13 u14 u15 u16 u17 u18 u19 u20 u21 u22 u23 u24 u25 u26 u27 : Value), (∃ (k : Nat) (v : Value), k ≤ n ∧ u9 = .int .i64 (k : Nat) ∧ u7 = .slice (some ⟨b, off, none⟩) n cap ∧ u8 = .int .i64 n ∧ u3 = .pointer (some ⟨w.heap.size, 0, none⟩) ∧ Marks w.heap.size wr ds ∧ Row wr w.heap.size 61 [v] ∧ PairsOwn wr w.heap.size v (edgesTo r k) ∧ Below w.heap.size w wr) ∧ a' = { tmps := #[u0, u1, u2, u3, u4, u5, u6, u7, u8, u9, u10, u11, u12, u13, u14, u15, u16, u17, u18, u19, u20, u21, u22, u23, u24, u25, u26, u27], defers := ds }) (fun a' wr => n - (intOf (a'.tmps.getD 9 undef)).toNat) ?_ ?_
  ·
    refine ⟨_, _, _, _, _, _, _, _, _, _, _, _, _, _, _, _, _, _, _, _, _, _, _, _, _, _, _, _, _, ?_, rfl⟩
    exact ⟨0, _, Nat.zero_le _, rfl, rfl, rfl, rfl, trivial, r3, ⟨rfl, Or.inl ⟨rfl, rfl⟩⟩, hb0⟩
  ·
    rintro a' wr ⟨ds, u0, u1, u2, u3, u4, u5, u6, u7, u8, u9, u10, u11, u12, u13, u14, u15, u16, u17, u18, u19, u20, u21, u22, u23, u24, u25, u26, u27, hrel, rfl⟩
    dsimp only
    obtain ⟨k, v, hk, rfl, rfl, rfl, rfl, hM, q3, hO, hbr⟩ := hrel
    have HM := Lib.hid hM
    clear hM r3 hb0 hsz
    by_cases hltk : k < n
    · have ck := HC.out wr hbr k hltk
      have hrk := HR.out k hltk
      gi_wp2_with (gi_at_call 91; refine (callsIn_wide.2 (nodes_any _ _)).mono ?_; rintro e w1 ⟨rfl, rfl⟩)
      obtain ⟨wn, hwn, rv, rs, hbn, hszn⟩ := new2 wr 3 3 [.int .i64 k] [.int .i64 (r k : Nat)]
      rw [← hwn]
      have p3 := q3.below hbn q3.lt
      have hO2 : PairsOwn wn w.heap.size v (edgesTo r k) := ownsRow_below hO hbn (Nat.le_refl _)
      have hbw := hbr.trans (hbn.mono hbr.size)
      have hlen0 := edgesTo_len r k
      have HST : Hid (edgesTo r (k + 1) = edgesTo r k ++ rowE k (bitsOf (r k))) := Lib.hid rfl
      generalize edgesTo r k = L0 at *
      refine range_nodes (nodes_seq (r k) (by omega) _ wn hszn (rs.cell (i := 0) rfl) (HT.out.below hbw)) Tab.put (Below.refl _ _) rfl (enters_of Tryd.func124 (by kernel_rfl) rfl) rfl
        (fun pre W => ∃ v, Row W w.heap.size 61 [v] ∧ PairsOwn W w.heap.size v (L0 ++ rowE k pre) ∧ Row W wr.heap.size 3 [.int .i64 k] ∧ KeepsFrom w.heap.size wr W ∧ Below w.heap.size w W)
        (fun _ _ _ => False)
        (ownFrom_ex fun v => ((own_row _ _ _).from _).and ((ownFrom_ownsRow _ _ _ _ (fun _ => v) _ _).and (((own_row _ _ _).from _).and ((ownFrom_keepsFrom hbn.size).and (ownFrom_below (Nat.le_refl _) hbw.size)))))
        (fun c => ownFrom_pure _ _)
        ⟨v, p3, by simpa [rowE] using hO2, rv, keeps_below hbn, hbw⟩ (fun _ W h => by obtain ⟨_, _, _, _, _, h⟩ := h; exact HT.out.below h) ?a1 ?assign ?body ?done ?stop
      case assign =>
        intro l x W K hx hK
        gi_wp2
        exact hK
      case body =>
        rintro l pre x W hx hpx ⟨v2, o3, hown, ov, hKF, hB⟩
        have hxn := bitsOf_lt hrk hx
        have hb10 := bitsOf_len (r k)
        have hll : (L0 ++ rowE k pre).length ≤ 110 := by
          have := rowE_len k pre
          rw [List.length_append]; omega
        have HRW := Lib.hid (rowE_snoc k pre x)
        have c3 := o3.cell (i := 0) rfl
        have cv := ov.cell (i := 0) rfl
        by_cases hkx : k < x
        · have hd : decide ((k : Int) < (x : Int)) = true := by simp; omega
          rw [if_pos hkx] at HRW
          have HL := Lib.hid hll
          have hsz2 := hB.size
          have HO := Lib.hid hown
          clear hown hll
          gi_wp2_with (gi_at_builtin; refine wpListIn_append_own _ rfl _ _ 61 rfl w.heap.size 66 i0 (.agg #[.int .i64 0, .int .i64 0]) 2 16 Tryd.underlying61 hi0 hz1 hz2 hz3 rfl (by decide) _ _ _ rfl (HO.out.alloc _) ⟨W.heap.size, 0, none⟩ 1 1 [.int .i64 k, .int .i64 x] rfl rfl ?c1 ?c2 ?c3 ?c4 ?c5 ?_)
          case c1 => exact cells_new _ _ _
          case c2 => intro u hu; simp at hu; rcases hu with rfl | rfl <;> rfl
          case c3 => have := HL.out; unfold maxLen; omega
          case c4 => have := HL.out; omega
          case c5 => simp; omega
          intro v' w1 hown1 hg1 _
          obtain ⟨g', cap', rfl⟩ := ownsRow_succ hown1
          have q3' := (o3.alloc (.cells #[.int .i64 k, .int .i64 x] 66)).grown hg1 (not_own_type HO.out o3 (by decide))
          have qv' := (ov.alloc (.cells #[.int .i64 k, .int .i64 x] 66)).grown hg1 (not_own_type HO.out ov (by decide))
          have hk1 : ∀ B, KeepsFrom B W w1 := fun B => ((KeepsOthers.alloc W (.cells #[.int .i64 k, .int .i64 x] 66)).from B).trans (of_grown_own (HO.out.alloc _) hg1)
          have hb1 := (hB.alloc hsz2 (.cells #[.int .i64 k, .int .i64 x] 66)).grown hg1 (by simp; omega) (fun k hk => (World.ownsRow.lt HO.out k hk).1)
          have c3' := q3'.cell (i := 0) rfl
          have f3' := q3'.free 0
          have l3' := q3'.lt
          have HO1 := Lib.hid hown1
          clear hown1
          gi_wp2
          have hE : (L0 ++ rowE k (pre ++ [x])) = (L0 ++ rowE k pre) ++ [(k, x)] := by rw [HRW.out, List.append_assoc]
          refine ⟨(hk1 _).trans (keeps_set _ _ _ _ _), _, q3'.set 0 _, ?_, qv'.other (Nat.ne_of_gt q3.lt) _, hKF.trans ((hk1 _).trans (keeps_set _ _ _ _ _)), hb1.setCell (p := ⟨w.heap.size, 0, none⟩) (Nat.le_refl _) _⟩
          rw [hE]
          unfold PairsOwn
          rw [pairCells_snoc, List.length_append (bs := [(k, x)]), List.length_singleton, List.length_append]
          exact HO1.out.kept (grownBy_setCell' w1 w.heap.size _) (.inr (not_own_type HO1.out q3' (by decide)).symm)
        · have hd : decide ((k : Int) < (x : Int)) = false := by simp; omega
          rw [if_neg hkx] at HRW
          gi_wp2
          exact ⟨KeepsFrom.refl _ _, v2, o3, by rw [HRW.out]; exact hown, ov, hKF, hB⟩
      case done =>
        rintro D W hD ⟨v2, o3, hown, ov, hKF, hB⟩ hK
        have HM2 := Lib.hid (HM.out.push hKF hbr.size (Nat.le_trans hbn.size hD) hK)
        rw [← HST.out] at hown
        gi_wp2
        refine ⟨⟨_, _, _, _, _, _, _, _, _, _, _, _, _, _, _, _, _, _, _, _, _, _, _, _, _, _, _, _, _, ?_, rfl⟩, ?_⟩
        · exact ⟨k + 1, v2, by omega, by go_num, rfl, rfl, rfl, HM2.out, o3, hown, hB⟩
        · simp [intOf]; omega
      case stop => exact fun _ _ _ _ _ _ h _ => h.elim
    · have hke : k = n := by omega
      subst hke
      have c3 := q3.cell (i := 0) rfl
      gi_wp2
      exact leaves_marks HM.out (fun w' hs => ⟨_, results_tmp rfl _ _ _, v, rfl, ownsRow_shut hs hO, hbr.trans hs.below⟩)
end

end Go.Proofs.YtcpdedgmhpehiaaDoor
