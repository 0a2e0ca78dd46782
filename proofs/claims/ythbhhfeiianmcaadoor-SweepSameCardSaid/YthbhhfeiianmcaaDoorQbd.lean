/- The contract of package sweep's spread, where nothing spreads. -/
import Derived.Test.YthbhhfeiianmcaaDoorQbc
namespace Go.Proofs.YthbhhfeiianmcaaDoor
set_option linter.unusedSimpArgs false
set_option linter.unusedVariables false
open Go.RowKit Go.Maps
attribute [local go_sem] i64_bit toNat_eq_one toNat_ne_one toNat_eq_zero toNat_ne_zero i64_and i64_or i64_andNot i64_or_pow i64_andNot_pow

section
attribute [local go_sem] Oper.semAt_some wide_fn wide_fn_in
set_option maxRecDepth 100000 in
set_option maxHeartbeats 4000000 in
theorem spread_any {n : Nat} {S r : Nat → Nat} {wB w : World} {pb sb sc cap H had most : Nat} {a : Option Addr} (hn7 : n ≤ 7) (hW : WatchAt w pb sb sc a n cap r S H had most) (hS : ∀ x, x < n → S x < 2 ^ n) (hr : ∀ i, i < n → r i < 2 ^ n) (hH : H < 2 ^ n) (hT : Tab wB) (hBw : Below wB.heap.size wB w) (hpB : wB.heap.size ≤ pb) (hsB : wB.heap.size ≤ sb) (hGB : GrAt wB a n r) (hst : ∀ v, v < n → H.testBit v = false → S v = 0 ∨ S v = r v) :
    Calls Tryd.prog 83 #[.pointer (some ⟨pb, 0, none⟩)] w fun e w' => e = .returned (.tuple #[]) ∧ WatchAt w' pb sb sc a n cap r S H had most ∧ Below wB.heap.size wB w' := by
  obtain ⟨hml, hI⟩ := hGB.ints
  obtain ⟨b, off, rfl, hlt, hc⟩ := hI hGB.pos
  have hbc : ∀ wx, Below wB.heap.size wB wx → ∀ i, i < n → wx.cell? ⟨b, off + i, none⟩ = some (.int .i64 (r i : Nat)) := fun wx hb i hi => by rw [hb.cell (p := ⟨b, off + i, none⟩) hlt]; exact hc i hi
  have HC := Lib.hid hbc
  unfold maxLen at hml
  clear hbc hc hI
  have hM : 2 ^ n - 1 < 2 ^ n := by have := Nat.two_pow_pos n; omega
  have hM16 : 2 ^ n - 1 < 65536 := by have := pow_le7 hn7; omega
  have hdl : diff (2 ^ n - 1) H < 2 ^ n := Nat.lt_of_le_of_lt (diff_le _ _) hM
  have HW := Lib.hid hW
  have HGB := Lib.hid hGB
  have HT := Lib.hid hT
  have HS := Lib.hid hS
  have HRR := Lib.hid hr
  have HST := Lib.hid hst
  have hne := hW.ne
  have h7 := pow_le7 hn7
  have hszB := hBw.size
  have hH16 : H < 65536 := by omega
  have hlw := hW.row.lt
  have hls := hW.smo.lt
  obtain ⟨w0, hw0, r2, r3, hb0, hsz⟩ := new2 w 89 4 [.pointer (some ⟨pb, 0, none⟩)] [.bool true]
  have HB0 := Lib.hid (hBw.trans (hb0.mono hszB))
  have R1 := HW.out.row.below hb0 hlw
  have M1 := HW.out.smo.below hb0 hls
  clear hW hGB hT hS hr hst hBw
  refine (callsIn_wide (n := 9)).1 ?_
  refine callsIn_of_wp_marks Tryd.func83 rfl trivial ?_ rfl
  simp only [Tryd.ntmps83, List.size_toArray, List.length_cons, List.length_nil, Nat.reduceAdd, Nat.reduceSub, Array.replicate_succ, Array.replicate_zero, List.push_toArray, List.append_toArray, List.nil_append, List.cons_append]
  gi_wp2
  rw [← hw0]
  clear hw0
  refine wpIn_loop (fun a' wr => ∃ (ds : List Deferred) (u0 u1 u2 u3 u4 u5 u6 u7 u8 u9 u10 u11 u12 u13 u14 u15 u16 u17 u18 u19 u20 u21 u22 u23 u24 u25 u26 u27 u28 u29 u30 u31 u32 u33 u34 u35 u36 u37 u38 u39 u40 u41 u42 u43 u44 u45 u46 u47 u48 : Value), (∃ (fl : Bool) (bb : Nat), u0 = .pointer (some ⟨pb, 0, none⟩) ∧ u1 = .pointer (some ⟨w.heap.size, 0, none⟩) ∧ u2 = .pointer (some ⟨bb, 0, none⟩) ∧ (fl = true → u48 = undef) ∧ Marks w.heap.size wr ds ∧ Row wr w.heap.size 89 [.pointer (some ⟨pb, 0, none⟩)] ∧ Row wr bb 4 [.bool fl] ∧ Row wr pb 93 [.slice (some ⟨b, off, none⟩) n cap, .slice (some ⟨sb, 0, none⟩) n sc, .int .i64 (H : Nat), .int .i64 (had : Nat), .int .i64 (most : Nat), .bool false] ∧ SmoAt wr sb n S ∧ w.heap.size < bb ∧ Below wB.heap.size wB wr) ∧ a' = { tmps := #[u0, u1, u2, u3, u4, u5, u6, u7, u8, u9, u10, u11, u12, u13, u14, u15, u16, u17, u18, u19, u20, u21, u22, u23, u24, u25, u26, u27, u28, u29, u30, u31, u32, u33, u34, u35, u36, u37, u38, u39, u40, u41, u42, u43, u44, u45, u46, u47, u48], defers := ds }) (fun a' wr => (match a'.tmps.getD 48 undef with | .bool _ => 0 | _ => 1)) ?_ ?_
  ·
    refine ⟨_, _, _, _, _, _, _, _, _, _, _, _, _, _, _, _, _, _, _, _, _, _, _, _, _, _, _, _, _, _, _, _, _, _, _, _, _, _, _, _, _, _, _, _, _, _, _, _, _, _, ?_, rfl⟩
    exact ⟨true, _, rfl, rfl, rfl, fun _ => rfl, trivial, r2, r3, R1, M1, Nat.lt_succ_self _, HB0.out⟩
  ·
    rintro a' wr ⟨ds, u0, u1, u2, u3, u4, u5, u6, u7, u8, u9, u10, u11, u12, u13, u14, u15, u16, u17, u18, u19, u20, u21, u22, u23, u24, u25, u26, u27, u28, u29, u30, u31, u32, u33, u34, u35, u36, u37, u38, u39, u40, u41, u42, u43, u44, u45, u46, u47, u48, hrel, rfl⟩
    dsimp only
    obtain ⟨fl, bb, rfl, rfl, rfl, hu1, hMk, q2, q3, qR, qM, hbb, hbr⟩ := hrel
    have HM := Lib.hid hMk
    have hwr : w.heap.size ≤ wr.heap.size := Nat.le_of_lt q2.lt
    clear hMk r2 r3 R1 M1 HB0
    have c3 := q3.cell (i := 0) rfl
    have f3 := q3.free 0
    have l3 := q3.lt
    cases fl
    · gi_wp2
      obtain ⟨CL, oc, hCL⟩ := qM
      exact leaves_marks HM.out (fun w' hs => ⟨_, results_none rfl _ _ _, rfl, ⟨hs.row qR, ⟨CL, hs.row oc, hCL⟩, hne, HGB.out.below (hbr.trans (hs.below.mono hszB))⟩, hbr.trans (hs.below.mono hszB)⟩)
    · obtain rfl := hu1 rfl
      have c2 := q2.cell (i := 0) rfl
      have d0 := qR.cell (i := 0) rfl
      have d2 := qR.cell (i := 2) rfl
      gi_wp2
      have p2 := q2.other (a := ⟨bb, 0, none⟩) (by simp; omega) (.bool false)
      have p3 := q3.set 0 (.bool false)
      have pR := qR.other (a := ⟨bb, 0, none⟩) (by simp; omega) (.bool false)
      have pM := qM.other (a := ⟨bb, 0, none⟩) (by simp; omega) (.bool false)
      have pB := hbr.setCell (p := ⟨bb, 0, none⟩) (by simp; omega) (.bool false)
      have hKW := keeps_set w.heap.size wr bb 0 (.bool false)
      generalize wr.setCell ⟨bb, 0, none⟩ (.bool false) = W0 at *
      have d0 := pR.cell (i := 0) rfl
      have d2 := pR.cell (i := 2) rfl
      have c2 := p2.cell (i := 0) rfl
      have hWs : w.heap.size ≤ W0.heap.size := Nat.le_of_lt p2.lt
      clear c3 f3 l3 q2 q3 qR qM hbr
      refine wpIn_mono (Q := fun e a' w' => match e with | .normal => a' = { tmps := #[.pointer (some ⟨pb, 0, none⟩), .pointer (some ⟨w.heap.size, 0, none⟩), .pointer (some ⟨bb, 0, none⟩), u3, .bool true, .pointer (some ⟨pb, 0, none⟩), .pointer (some ⟨pb, 0, none⟩), .pointer (some ⟨pb, 0, none⟩), .slice (some ⟨b, off, none⟩) n cap, .int .i64 (2 ^ n - 1 : Nat), .pointer (some ⟨pb, 0, none⟩), .pointer (some ⟨pb, 0, none⟩), .pointer (some ⟨pb, 2, none⟩), .int .i64 H, .int .i64 (diff (2 ^ n - 1) H : Nat), .func (.func 96) #[] #[.pointer (some ⟨W0.heap.size, 0, none⟩)], u16, u17, u18, u19, u20, u21, u22, u23, u24, u25, u26, u27, u28, u29, u30, u31, u32, u33, u34, u35, u36, u37, u38, u39, u40, u41, u42, u43, u44, u45, u46, u47, undef], defers := ds } ∧ w' = (W0.alloc (.cells #[.int .i64 (diff (2 ^ n - 1) H : Nat)] 3)).drewN 1 | _ => False) ?_ ?_
      · gi_region_with (first | (gi_at_call 79; refine (callsIn_wide.2 (all_any _ _ _ _ (by omega))).mono ?_; rintro e w1 ⟨rfl, rfl⟩) | (gi_at_call 74; refine (callsIn_wide.2 (nodes_any _ _)).mono ?_; rintro e w1 ⟨rfl, rfl⟩))
        all_goals exact ⟨rfl, rfl⟩
      intro e a' w' hp
      cases e <;> try exact hp.elim
      obtain ⟨rfl, rfl⟩ := hp
      dsimp only
      obtain ⟨wm, hwm, rs, hbm, hszm⟩ := new1 W0 3 [.int .i64 (diff (2 ^ n - 1) H : Nat)]
      rw [← hwm]
      clear hwm
      have hbd : Below W0.heap.size W0 (wm.drewN 1) := below_drewN hbm 1
      have t2 := p2.below hbd p2.lt
      have t3 := p3.below hbd p3.lt
      have tR := pR.below hbd pR.lt
      have tM := pM.below hbd pM.lt
      have dz := rs.drewN 1
      have hszd : W0.heap.size < (wm.drewN 1).heap.size := hszm
      have hbw1 := pB.trans (hbd.mono (Nat.le_trans hszB hWs))
      have hKF1 : KeepsFrom w.heap.size wr (wm.drewN 1) := hKW.trans (keeps_below hbd)
      generalize wm.drewN 1 = W1 at *
      clear rs hbm hszm hKW
      gi_wp2
      refine range_nodes (nodes_seq (diff (2 ^ n - 1) H) (by omega) _ W1 hszd (dz.cell (i := 0) rfl) (HT.out.below hbw1)) Tab.put (Below.refl _ _) rfl (enters_of Tryd.func96 (by kernel_rfl) rfl) rfl
        (fun _ W => Row W w.heap.size 89 [.pointer (some ⟨pb, 0, none⟩)] ∧ Row W bb 4 [.bool false] ∧ Row W pb 93 [.slice (some ⟨b, off, none⟩) n cap, .slice (some ⟨sb, 0, none⟩) n sc, .int .i64 (H : Nat), .int .i64 (had : Nat), .int .i64 (most : Nat), .bool false] ∧ SmoAt W sb n S ∧ KeepsFrom w.heap.size wr W ∧ Below wB.heap.size wB W)
        (fun _ _ _ => False)
        (((own_row _ _ _).from _).and (((own_row _ _ _).from _).and (((own_row _ _ _).from _).and ((ownFrom_smo _ _ _ _).and ((ownFrom_keepsFrom hKF1.1).and (ownFrom_below (Nat.le_refl _) hbw1.size))))))
        (fun c => ownFrom_pure _ _)
        ⟨t2, t3, tR, tM, hKF1, hbw1⟩ (fun _ W h => HT.out.below h.2.2.2.2.2) ?a1 ?assign ?body ?done ?stop
      case assign =>
        intro l x W K hx hK
        gi_wp2
        exact hK
      case body =>
        rintro l pre x W hx _ ⟨o2, o3, oR, oM, hKF, hB⟩
        obtain ⟨hx10, hxd⟩ := mem_bitsOf.1 hx
        have hxn := bitsOf_lt hdl hx
        have hgx : H.testBit x = false := by
          rw [testBit_diff, Bool.and_eq_true] at hxd
          simpa using hxd.2
        have hstx := HST.out x hxn hgx
        have HKF := Lib.hid hKF
        have HB := Lib.hid hB
        have cT := HC.out W hB x hxn
        have cx := oM.cell hxn
        have c0' := oR.cell (i := 0) rfl
        have c1' := oR.cell (i := 1) rfl
        have c2' := o2.cell (i := 0) rfl
        clear hKF hB hgx hxd d0 d2 c2
        generalize S x = sx at *
        generalize r x = rx at *
        by_cases h0 : sx = 0
        · subst h0
          gi_wp2
          refine quiet_round (by kernel_rfl) (by kernel_rfl) (by kernel_rfl) ?_
          repeat (gi_big_quiet_step ((fail)))
          refine wpQuietIn_nil ?_
          rintro _ ⟨nq, rfl⟩
          gi_wp2
          exact ⟨(keeps_drewN W nq).from _, o2.drewN nq, o3.drewN nq, oR.drewN nq, oM.drewN nq, HKF.out.trans ((keeps_drewN W nq).from _), below_drewN HB.out nq⟩
        · rcases hstx with h | h
          · exact absurd h h0
          subst h
          have hq : ((sx : Int) != 0) = true := by simp; omega
          gi_wp2
          refine quiet_round (by kernel_rfl) (by kernel_rfl) (by kernel_rfl) ?_
          repeat (gi_big_quiet_step ((fail)))
          refine wpQuietIn_nil ?_
          rintro _ ⟨nq, rfl⟩
          gi_wp2
          exact ⟨(keeps_drewN W nq).from _, o2.drewN nq, o3.drewN nq, oR.drewN nq, oM.drewN nq, HKF.out.trans ((keeps_drewN W nq).from _), below_drewN HB.out nq⟩
      case stop => exact fun _ _ _ _ _ _ h _ => h.elim
      case done =>
        rintro D W hD ⟨o2, o3, oR, oM, hKF, hB⟩ hK
        have HMD := Lib.hid (HM.out.push hKF hwr (Nat.le_trans hKF1.1 hD) hK)
        have c3 := o3.cell (i := 0) rfl
        clear hKF hK d0 d2 c2
        gi_wp2
        refine ⟨⟨_, _, _, _, _, _, _, _, _, _, _, _, _, _, _, _, _, _, _, _, _, _, _, _, _, _, _, _, _, _, _, _, _, _, _, _, _, _, _, _, _, _, _, _, _, _, _, _, _, _, ?_, rfl⟩, ?_⟩
        · obtain ⟨Wn, hWn, n3, hbn, hszn⟩ := new1 W 4 [.bool false]
          have m2 := o2.below hbn o2.lt
          have mR := oR.below hbn oR.lt
          have mM := oM.below hbn oM.lt
          have hlt2 := o2.lt
          have mB := hB.trans (hbn.mono hB.size)
          have mK := HMD.out.keeps (keeps_below hbn)
          rw [hWn] at m2 n3 mR mM mB mK
          refine ⟨false, W.heap.size, rfl, rfl, rfl, (fun h => by cases h), ?_, ?_, ?_, ?_, ?_, hlt2, ?_⟩
          · skip
            exact mK
          · exact m2
          · exact n3
          · exact mR
          · exact mM
          · exact mB
        · decide
end
end Go.Proofs.YthbhhfeiianmcaaDoor
