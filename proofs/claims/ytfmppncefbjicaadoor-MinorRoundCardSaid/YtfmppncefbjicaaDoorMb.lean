/- The contract of package minor's newTown. -/
import Derived.Sort.QuietIn
import Derived.Sort.CutIn
import Derived.Test.YtfmppncefbjicaaDoorMa
namespace Go.Proofs.YtfmppncefbjicaaDoor
set_option linter.unusedSimpArgs false
set_option linter.unusedVariables false
open Go.RowKit Go.Maps
attribute [local go_sem] i64_bit toNat_eq_one toNat_ne_one toNat_eq_zero toNat_ne_zero i64_and i64_or i64_andNot i64_or_pow i64_andNot_pow

/-- What newTown returns. -/
def townRes (a : Option Addr) (n cap : Nat) : Bool → Value
  | true => .tuple #[.slice a n cap, .bool true]
  | false => .tuple #[.slice none 0 0, .bool false]

/-- The end of a function with two results in boxes. -/
theorem leaves_two {F : Fence} {n B b2 b3 : Nat} {P : Program} {fn : Func} {tmps : Array Value} {R : Ending → World → Prop} {ds : List Deferred} {wr : World} {t2 t3 : TypeId} {v2 v3 : Value}
    (hM : Marks B wr ds) (r2 : Row wr b2 t2 [v2]) (r3 : Row wr b3 t3 [v3]) (hres : ∀ w', w'.cell? ⟨b2, 0, none⟩ = some v2 → w'.cell? ⟨b3, 0, none⟩ = some v3 → (results fn tmps).run P w' = .ok (.tuple #[v2, v3]) w')
    (hR : ∀ w', Shut B wr w' → R (.returned (.tuple #[v2, v3])) w') : LeavesInM F n P fn tmps R ds .returning wr :=
  leaves_marks hM (fun w' hs => ⟨_, hres w' ((hs.row r2).cell rfl) ((hs.row r3).cell rfl), hR w' hs⟩)

section
attribute [local go_sem] Oper.semAt_some wide_fn wide_fn_in
set_option maxRecDepth 100000 in
set_option maxHeartbeats 2000000 in
theorem newTown_any (n : Nat) (z : Nat → Int) (a : Option Addr) (cap : Nat) (w : World) (hI : IntsAt w a n z) (hz : ∀ i, -9223372036854775808 ≤ z i ∧ z i ≤ 9223372036854775807) (hT : Tab w) :
    Calls Tryd.prog 68 #[.slice a n cap] w fun e w' => e = .returned (townRes a n cap (graphB n 8 z)) ∧ Below w.heap.size w w' := by
  have hml := hI.1
  unfold maxLen at hml
  refine (callsIn_wide (n := 9)).1 ?_
  refine callsIn_of_wp_marks Tryd.func68 rfl trivial ?_ rfl
  simp only [Tryd.ntmps68, List.size_toArray, List.length_cons, List.length_nil, Nat.reduceAdd, Nat.reduceSub, Array.replicate_succ, Array.replicate_zero, List.push_toArray, List.append_toArray, List.nil_append, List.cons_append]
  by_cases hn : n < 1 ∨ 8 < n
  · have HF := Lib.hid (graphB_no (n := n) (most := 8) (z := z) (by omega))
    clear hI hz
    by_cases h1 : n < 1
    all_goals
      try (have h10 : 8 < n := by omega)
      clear hn
      gi_wp2
      refine leaves_marks (B := w.heap.size) (ds := []) trivial (fun w' hs => ?_)
      have r2 := hs.row ((Row.new w 74 [.slice none 0 0]).alloc (.cells #[.bool false] 4))
      have r3 := hs.row (Row.new (w.alloc (.cells #[.slice none 0 0] 74)) 4 [.bool false])
      rw [World.size_alloc] at r3
      have c2 := r2.cell (i := 0) rfl
      have c3 := r3.cell (i := 0) rfl
      refine ⟨.tuple #[.slice none 0 0, .bool false], ?_, ?_, ?_⟩
      · simp [results, Tryd.f68, go_sem, c2, c3]
      · rw [HF.out]; rfl
      · exact (((Below.refl _ _).alloc (Nat.le_refl _) _).alloc (by simp) _).trans hs.below
  · have h1 : 1 ≤ n := by omega
    have h10 : n ≤ 8 := by omega
    have hn16 : n < 16 := by omega
    obtain ⟨_, hI⟩ := hI
    obtain ⟨b, off, rfl, hlt, hc⟩ := hI (by omega)
    have hbc : ∀ wx, Below w.heap.size w wx → ∀ i, i < n → wx.cell? ⟨b, off + i, none⟩ = some (.int .i64 (z i)) := fun wx hb i hi => by rw [hb.cell (p := ⟨b, off + i, none⟩) hlt]; exact hc i hi
    have HC := Lib.hid hbc
    have HZ := Lib.hid hz
    have hpn := pow_bd n (by omega)
    have HT := Lib.hid hT
    clear hbc hc hz hn hI hT
    obtain ⟨w0, hw0, r2, r3, r4, hb0, hsz⟩ := new3 w 74 4 74 [.slice none 0 0] [.bool false] [.slice (some ⟨b, off, none⟩) n cap]
    gi_wp2
    rw [← hw0]
    clear hw0
    have c4 := r4.cell (i := 0) rfl
    have f2 := r2.free 0
    have f3 := r3.free 0
    have c2 := r2.cell (i := 0) rfl
    have c3 := r3.cell (i := 0) rfl
    have s2 := r2.lt
    have s3 := r3.lt
    gi_loopw [21] (fun i wr => ∃ k : Nat, k ≤ n ∧ i = .int .i64 k ∧ (∀ i, i < k → okCellZ n z i = true) ∧ w0 = wr) (fun i _ => n - (intOf i).toNat)
    case atStart => exact ⟨0, Nat.zero_le _, rfl, by omega, rfl⟩
    case round =>
      obtain ⟨k, hk, rfl, hok, rfl⟩ := hrel
      have HOK := Lib.hid hok
      clear hok
      by_cases hlt2 : k < n
      · have ck := HC.out w0 hb0 k hlt2
        have hk64 : k < 64 := by omega
        generalize hzk : z k = zk at *
        have HZK := Lib.hid hzk
        clear hzk
        by_cases g1 : 0 ≤ zk ∧ zk < 2 ^ n
        · obtain ⟨s, rfl⟩ : ∃ s : Nat, zk = s := ⟨zk.toNat, by omega⟩
          have hin := inB_true g1.1 g1.2
          have hs16 : s < 65536 := by have := nat_pow_cast g1.2 (by omega); rw [Int.toNat_natCast] at this; exact Nat.lt_trans this (pow_lt16 hn16)
          clear g1
          cases g3 : s.testBit k
          · have HOKK := Lib.hid (show okCellZ n z k = true by unfold okCellZ; rw [HZK.out, hin, bitZ_nat, g3]; rfl)
            gi_wp2_with (first | (gi_at_call 91; refine (callsIn_wide.2 (isSet_any _ _ _ _ _ hn16)).mono ?_; rintro e w1 ⟨rfl, rfl⟩; rw [hin]) | (gi_at_call 92; refine (callsIn_wide.2 (has_any _ _ _ hs16 hk64)).mono ?_; rintro e w2 ⟨rfl, rfl⟩; rw [g3]))
            go_roundw
            case rel => exact ⟨k + 1, by omega, by go_num, fun i hi => by rcases Nat.lt_succ_iff_lt_or_eq.1 hi with h | h; exact HOK.out i h; rw [h]; exact HOKK.out, by trivial⟩
            case measure => simp [intOf]; omega
          · have HF := Lib.hid (graphB_cell (most := 8) hlt2 (show okCellZ n z k = false by unfold okCellZ; rw [HZK.out, bitZ_nat, g3]; simp))
            gi_wp2_with (first | (gi_at_call 91; refine (callsIn_wide.2 (isSet_any _ _ _ _ _ hn16)).mono ?_; rintro e w1 ⟨rfl, rfl⟩; rw [hin]) | (gi_at_call 92; refine (callsIn_wide.2 (has_any _ _ _ hs16 hk64)).mono ?_; rintro e w2 ⟨rfl, rfl⟩; rw [g3]))
            refine leaves_two (B := w.heap.size) (ds := []) trivial ((r2.set 0 (.slice none 0 0)).other (by simp) (.bool false)) ((r3.other (by simp) (.slice none 0 0)).set 0 (.bool false)) (fun w' c2 c3 => by simp [results, Tryd.f68, go_sem, c2, c3]) (fun w' hs => ⟨by rw [HF.out]; rfl, (hb0.setCell (p := ⟨w.heap.size, 0, none⟩) (Nat.le_refl _) _).setCell (p := ⟨w.heap.size + 1, 0, none⟩) (by simp) _ |>.trans hs.below⟩)
        · have hin := inB_false g1
          have HF := Lib.hid (graphB_cell (most := 8) hlt2 (show okCellZ n z k = false by unfold okCellZ; rw [HZK.out, hin]; rfl))
          clear g1
          gi_wp2_with (gi_at_call 91; refine (callsIn_wide.2 (isSet_any _ _ _ _ _ hn16)).mono ?_; rintro e w1 ⟨rfl, rfl⟩; rw [hin])
          refine leaves_two (B := w.heap.size) (ds := []) trivial ((r2.set 0 (.slice none 0 0)).other (by simp) (.bool false)) ((r3.other (by simp) (.slice none 0 0)).set 0 (.bool false)) (fun w' c2 c3 => by simp [results, Tryd.f68, go_sem, c2, c3]) (fun w' hs => ⟨by rw [HF.out]; rfl, (hb0.setCell (p := ⟨w.heap.size, 0, none⟩) (Nat.le_refl _) _).setCell (p := ⟨w.heap.size + 1, 0, none⟩) (by simp) _ |>.trans hs.below⟩)
      · have hke : k = n := by omega
        subst hke
        have hnat : ∀ i, i < k → ∃ s : Nat, z i = s ∧ s < 2 ^ k := fun i hi => by
          have h := HOK.out i hi
          unfold okCellZ at h
          rw [Bool.and_eq_true] at h
          obtain ⟨h1, h2⟩ := inB_iff.1 h.1
          have := nat_pow_cast h2 h1
          exact ⟨(z i).toNat, by omega, this⟩
        have HN := Lib.hid hnat
        clear hnat
        gi_wp2
        refine wpIn_loop (fun a' wr => ∃ (ds : List Deferred) (u0 u1 u2 u3 u4 u5 u6 u7 u8 u9 u10 u11 u12 u13 u14 u15 u16 u17 u18 u19 u20 u21 u22 u23 u24 u25 u26 u27 u28 u29 u30 u31 u32 u33 u34 u35 u36 u37 u38 u39 u40 u41 u42 u43 u44 u45 u46 u47 u48 u49 u50 u51 u52 u53 u54 : Value), (∃ m : Nat, m ≤ k ∧ u38 = .int .i64 m ∧ u36 = .slice (some ⟨b, off, none⟩) k cap ∧ u37 = .int .i64 k ∧ u2 = .pointer (some ⟨w.heap.size, 0, none⟩) ∧ u3 = .pointer (some ⟨w.heap.size + 1, 0, none⟩) ∧ u4 = .pointer (some ⟨w.heap.size + 1 + 1, 0, none⟩) ∧ Marks w.heap.size wr ds ∧ Row wr w.heap.size 74 [.slice none 0 0] ∧ Row wr (w.heap.size + 1) 4 [.bool false] ∧ Row wr (w.heap.size + 1 + 1) 74 [.slice (some ⟨b, off, none⟩) k cap] ∧ Below w.heap.size w wr ∧ (∀ i, i < m → ∀ j, j < k → bitZ (z i) j = true → bitZ (z j) i = true)) ∧ a' = { tmps := #[u0, u1, u2, u3, u4, u5, u6, u7, u8, u9, u10, u11, u12, u13, u14, u15, u16, u17, u18, u19, u20, u21, u22, u23, u24, u25, u26, u27, u28, u29, u30, u31, u32, u33, u34, u35, u36, u37, u38, u39, u40, u41, u42, u43, u44, u45, u46, u47, u48, u49, u50, u51, u52, u53, u54], defers := ds }) (fun a' wr => k - (intOf (a'.tmps.getD 38 undef)).toNat) ?_ ?_
        ·
          refine ⟨_, _, _, _, _, _, _, _, _, _, _, _, _, _, _, _, _, _, _, _, _, _, _, _, _, _, _, _, _, _, _, _, _, _, _, _, _, _, _, _, _, _, _, _, _, _, _, _, _, _, _, _, _, _, _, _, ?_, rfl⟩
          exact ⟨0, Nat.zero_le _, rfl, rfl, rfl, rfl, rfl, rfl, trivial, r2, r3, r4, hb0, by omega⟩
        ·
          rintro a' wr ⟨ds, u0, u1, u2, u3, u4, u5, u6, u7, u8, u9, u10, u11, u12, u13, u14, u15, u16, u17, u18, u19, u20, u21, u22, u23, u24, u25, u26, u27, u28, u29, u30, u31, u32, u33, u34, u35, u36, u37, u38, u39, u40, u41, u42, u43, u44, u45, u46, u47, u48, u49, u50, u51, u52, u53, u54, hrel, rfl⟩
          dsimp only
          obtain ⟨m, hm, rfl, rfl, rfl, rfl, rfl, rfl, hM, q2, q3, q4, hbr, hmut⟩ := hrel
          clear r2 r3 r4 c2 c3 c4 f2 f3 s2 s3 hb0 hsz
          have HM := Lib.hid hM
          have HU := Lib.hid hmut
          clear hM hmut
          by_cases hltm : m < k
          · have cm := HC.out wr hbr m hltm
            obtain ⟨s, hzs, hs2⟩ := HN.out m hltm
            rw [hzs] at cm
            have HZS := Lib.hid hzs
            clear hzs
            gi_wp2_with (gi_at_call 93; refine (callsIn_wide.2 (nodes_any _ _)).mono ?_; rintro e w1 ⟨rfl, rfl⟩)
            obtain ⟨wn, hwn, rv, rs, hbn, hszn⟩ := new2 wr 3 3 [.int .i64 m] [.int .i64 s]
            rw [← hwn]
            have p2 := q2.below hbn q2.lt
            have p3 := q3.below hbn q3.lt
            have p4 := q4.below hbn q4.lt
            have hbw := hbr.trans (hbn.mono hbr.size)
            have hs10 : s < 1024 := Nat.lt_of_lt_of_le hs2 (by have : 2 ^ k ≤ 2 ^ 10 := Nat.pow_le_pow_right (by omega) (by omega); simpa using this)
            refine range_nodes (nodes_seq s hs10 _ wn hszn (rs.cell (i := 0) rfl) (HT.out.below hbw)) Tab.put (Below.refl _ _) rfl (enters_of Tryd.func109 (by kernel_rfl) rfl) rfl
              (fun pre W => (∀ u ∈ pre, bitZ (z u) m = true) ∧ Row W w.heap.size 74 [.slice none 0 0] ∧ Row W (w.heap.size + 1) 4 [.bool false] ∧ Row W (w.heap.size + 1 + 1) 74 [.slice (some ⟨b, off, none⟩) k cap] ∧ Row W wr.heap.size 3 [.int .i64 m] ∧ KeepsFrom w.heap.size wr W ∧ Below w.heap.size w W)
              (fun c pre W => c = .ret ∧ (∃ u ∈ pre, bitZ (z u) m = false) ∧ Row W w.heap.size 74 [.slice none 0 0] ∧ Row W (w.heap.size + 1) 4 [.bool false] ∧ KeepsFrom w.heap.size wr W ∧ Below w.heap.size w W)
              ((ownFrom_pure _ _).and (((own_row _ _ _).from _).and (((own_row _ _ _).from _).and (((own_row _ _ _).from _).and (((own_row _ _ _).from _).and ((ownFrom_keepsFrom hbn.size).and (ownFrom_below (Nat.le_refl _) hbw.size)))))))
              (fun c => (ownFrom_pure _ _).and ((ownFrom_pure _ _).and (((own_row _ _ _).from _).and (((own_row _ _ _).from _).and ((ownFrom_keepsFrom hbn.size).and (ownFrom_below (Nat.le_refl _) hbw.size))))))
              ⟨by simp, p2, p3, p4, rv, keeps_below hbn, hbw⟩ (fun _ W h => HT.out.below h.2.2.2.2.2.2) ?a1 ?assign ?body ?done ?stop
            case assign =>
              intro l x W K hx hK
              gi_wp2
              exact hK
            case body =>
              rintro l pre x W hx _ ⟨hp, o2, o3, o4, ov, hKF, hB⟩
              have hxk := bitsOf_lt hs2 hx
              have hsx : bitZ (z m) x = true := by rw [HZS.out, bitZ_nat]; exact (mem_bitsOf.1 hx).2
              obtain ⟨t, hzt, ht2⟩ := HN.out x hxk
              have ct := HC.out W hB x hxk
              rw [hzt] at ct
              have e4 := o4.cell (i := 0) rfl
              have ev := ov.cell (i := 0) rfl
              have ht16 : t < 65536 := Nat.lt_trans ht2 (pow_lt16 hn16)
              have hm64 : m < 64 := by omega
              have e2 := o2.cell (i := 0) rfl
              have e3 := o3.cell (i := 0) rfl
              have f2 := o2.free 0
              have f3 := o3.free 0
              have s2 := o2.lt
              have s3 := o3.lt
              have HX : Hid (bitZ (z x) m = t.testBit m) := Lib.hid (by rw [hzt, bitZ_nat])
              have HP := Lib.hid hp
              have HSX := Lib.hid hsx
              clear hzt hp hsx
              gi_wp2
              refine quiet_round (by kernel_rfl) (by kernel_rfl) (by kernel_rfl) ?_
              repeat (gi_big_quiet_step (((gi_at_call 92; refine CallsIn.quiet_of_same (CallsIn.inRound l (callsIn_wide.2 ((has_any t m _ ht16 hm64).mono fun _ _ ⟨a, b⟩ => ⟨a, b.symm⟩)))))))
              refine wpQuietIn_nil ?_
              rintro _ ⟨nq, rfl⟩
              cases hq : t.testBit m
              · have HF : Hid (bitZ (z x) m = false) := Lib.hid (by rw [HX.out]; exact hq)
                gi_wp2
                have hk2 := ((keeps_drewN W nq).from w.heap.size).trans (((KeepsOthers.setCell (W.drewN nq) ⟨w.heap.size, 0, none⟩ (.slice none 0 0)).trans (KeepsOthers.setCell _ ⟨w.heap.size + 1, 0, none⟩ (.bool false))).from w.heap.size)
                refine ⟨((keeps_drewN W nq).from _).trans (((KeepsOthers.setCell (W.drewN nq) ⟨w.heap.size, 0, none⟩ (.slice none 0 0)).trans (KeepsOthers.setCell _ ⟨w.heap.size + 1, 0, none⟩ (.bool false))).from _), rfl, ⟨x, by simp, HF.out⟩, ((o2.drewN nq).set 0 (.slice none 0 0)).other (by simp) (.bool false), ((o3.drewN nq).other (by simp) (.slice none 0 0)).set 0 (.bool false), hKF.trans hk2, ((below_drewN hB nq).setCell (p := ⟨w.heap.size, 0, none⟩) (Nat.le_refl _) _).setCell (p := ⟨w.heap.size + 1, 0, none⟩) (by simp) _⟩
              · have HF : Hid (bitZ (z x) m = true) := Lib.hid (by rw [HX.out]; exact hq)
                gi_wp2
                refine ⟨(keeps_drewN W nq).from _, fun u hu => ?_, o2.drewN nq, o3.drewN nq, o4.drewN nq, ov.drewN nq, hKF.trans ((keeps_drewN W nq).from _), below_drewN hB nq⟩
                rcases List.mem_append.1 hu with h | h
                · exact HP.out u h
                · rw [List.mem_singleton.1 h]; exact HF.out
            case done =>
              rintro D W hD ⟨hp, o2, o3, o4, ov, hKF, hB⟩ hK
              have HP := Lib.hid hp
              clear hp
              gi_wp2
              refine ⟨⟨_, _, _, _, _, _, _, _, _, _, _, _, _, _, _, _, _, _, _, _, _, _, _, _, _, _, _, _, _, _, _, _, _, _, _, _, _, _, _, _, _, _, _, _, _, _, _, _, _, _, _, _, _, _, _, _, ?_, rfl⟩, ?_⟩
              · exact ⟨m + 1, by omega, by go_num, rfl, rfl, rfl, rfl, rfl, HM.out.push hKF hbr.size (Nat.le_trans hbn.size hD) hK, o2, o3, o4, hB, fun i hi j hj h => by
                  rcases Nat.lt_succ_iff_lt_or_eq.1 hi with h2 | h2
                  · exact HU.out i h2 j hj h
                  · subst h2
                    refine HP.out j (mem_bitsOf.2 ⟨by omega, ?_⟩)
                    rwa [HZS.out, bitZ_nat] at h⟩
              · simp [intOf]; omega
            case stop =>
              rintro D c pre W hD hpre ⟨rfl, ⟨u, hu, hbu⟩, o2, o3, hKF, hB⟩ hK
              have hu2 := hpre.subset hu
              have huk := bitsOf_lt hs2 hu2
              have HF := Lib.hid (graphB_bit (most := 8) (z := z) hltm huk (by rw [HZS.out, bitZ_nat, (mem_bitsOf.1 hu2).2, hbu]; rfl))
              gi_wp2
              refine leaves_two (B := w.heap.size) (HM.out.push hKF hbr.size (Nat.le_trans hbn.size hD) hK) o2 o3 (fun w' c2 c3 => by simp [results, Tryd.f68, go_sem, c2, c3]) (fun w' hs => ⟨by rw [HF.out]; rfl, hB.trans hs.below⟩)
          · have hme : m = k := by omega
            subst hme
            have e4 := q4.cell (i := 0) rfl
            have e2 := q2.cell (i := 0) rfl
            have e3 := q3.cell (i := 0) rfl
            have f2 := q2.free 0
            have f3 := q3.free 0
            have s2 := q2.lt
            have s3 := q3.lt
            have HF := Lib.hid (graphB_yes (most := 8) h1 h10 (fun i hi => ⟨HOK.out i hi, fun j hj => by
              cases h1 : bitZ (z i) j <;> cases h2 : bitZ (z j) i <;> first | rfl | skip
              · have := HU.out j hj i hi h2; rw [h1] at this; cases this
              · have := HU.out i hi j hj h1; rw [h2] at this; cases this⟩))
            gi_wp2
            refine leaves_two (B := w.heap.size) (HM.out.keeps (((KeepsOthers.setCell wr ⟨w.heap.size, 0, none⟩ _).trans (KeepsOthers.setCell _ ⟨w.heap.size + 1, 0, none⟩ (.bool true))).from _)) ((q2.set 0 _).other (by simp) (.bool true)) ((q3.other (by simp) _).set 0 (.bool true)) (fun w' c2 c3 => by simp [results, Tryd.f68, go_sem, c2, c3]) (fun w' hs => ⟨by rw [HF.out]; rfl, (hbr.setCell (p := ⟨w.heap.size, 0, none⟩) (Nat.le_refl _) _).setCell (p := ⟨w.heap.size + 1, 0, none⟩) (by simp) _ |>.trans hs.below⟩)
end

end Go.Proofs.YtfmppncefbjicaaDoor
