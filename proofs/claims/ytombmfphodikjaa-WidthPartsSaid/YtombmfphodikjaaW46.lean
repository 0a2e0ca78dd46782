/- The contracts of package width's Decompose and Narrow. -/
import Derived.Test.YtombmfphodikjaaW45
namespace Go.Proofs.Ytombmfphodikjaa
set_option linter.unusedSimpArgs false
set_option linter.unusedVariables false
open Go.RowKit Go.Maps

theorem own_mine {w : World} {base : Nat} {v : Value} {n : Nat} {z : Nat → Int} (h : w.ownsRow base 3 1 v n (intL z n)) (hn : 0 < n) : ∃ g cap, v = .slice (some ⟨g, 0, none⟩) n cap ∧ v.ownBlock = some g ∧ base ≤ g ∧ n ≤ cap ∧ cap ≤ maxLen ∧ Mine w g n z := by
  rcases h.2 with h1 | ⟨g, cap, cur, hv, hg, hh, h1, h2, h3, h4⟩
  · omega
  · subst hv
    refine ⟨g, cap, rfl, rfl, hg, h1, h2, (Array.getElem?_eq_some_iff.1 hh).1, fun i hi => ?_, fun i hi => ?_⟩
    · rw [World.ownsRow.cellAt h i (by omega)]
      exact map_range_get _ hi
    · simp [World.frozen?, hh]

set_option maxRecDepth 20000 in
set_option maxHeartbeats 1000000 in
theorem CloneI_own {n : Nat} {z : Nat → Int} {a : Option Addr} (cap : Nat) {w : World} (h0 : 0 < n) (hn : n ≤ 1000000) (h : IntsAt w a n z) : Calls Try.prog 46 #[.slice a n cap] w fun e w' => ∃ v', e = .returned v' ∧ w'.ownsRow w.heap.size 3 1 v' n (intL z n) ∧ Below w.heap.size w w' := by
  obtain ⟨i0, hi0, hz1, hz2, hz3⟩ := info_parts info_int
  have hq := fun w a n c => Lib.run_eql_slice_nil (P := Try.prog) w 22 3 a n c 0 0 Try.underlying22
  obtain ⟨b, off, rfl, h4, h5⟩ := h.2 h0
  · go_enter Try.func46, Try.ntmps46
    have hnews : ∀ j u, ((List.range n).map fun i => Value.int .i64 (z i))[j]? = some u → (w.alloc (.cells #[] 3)).cell? ((⟨b, off, none⟩ : Addr).add j) = some u := by
      intro j u hu
      by_cases hj : j < n
      · rw [map_range_get _ hj] at hu
        cases hu
        have e1 : (⟨b, off, none⟩ : Addr).add j = ⟨b, off + j, none⟩ := by
          unfold Addr.add
          split
          · rename_i h0; subst h0; rfl
          · rfl
        rw [e1, ((Below.refl w.heap.size w).alloc (Nat.le_refl _) _).cell (p := ⟨b, off + j, none⟩) h4]
        exact h5 j hj
      · simp [hj] at hu
    have HN := Lib.hid hnews
    clear hnews
    go_wp2_with (at_builtin; refine wpList_append_own _ rfl _ _ 22 rfl w.heap.size 3 i0 (.int .i64 0) 1 8 Try.underlying22 hi0 hz1 hz2 hz3 rfl (by decide) _ _ _ rfl (World.ownsRow_made w #[] 0 (Nat.le_refl _) (Nat.zero_le _) rfl) ⟨b, off, none⟩ n cap ((List.range n).map fun i => Value.int .i64 (z i)) rfl (by simp) HN.out ?c2 ?c3 ?c4 ?c5 ?_)
    case c2 => intro u hu; obtain ⟨i, _, rfl⟩ := List.mem_map.1 hu; rfl
    case c3 => unfold maxLen; omega
    case c4 => omega
    case c5 => simp
    intro v' w1 hown hgr _
    have HO := Lib.hid hown
    have HG := Lib.hid hgr
    clear hown hgr
    go_wp2_with fail
    go_ret
    have ho := HO.out
    have hb : Below w.heap.size w w1 := ((Below.refl w.heap.size w).alloc (Nat.le_refl _) _).grown HG.out (by simp) (fun k hk => by simp [Value.ownBlock] at hk; omega)
    exact ⟨_, rfl, ho, hb⟩

/-- What Decompose and Narrow return: a tree decomposition of some bags, none of them a part of another one. -/
structure NarrowAt (w : World) (ba pa : Option Addr) (n : Nat) (r : Nat → Nat) (m : Nat) (z : Nat → Int) (M : Nat) (z' p' : Nat → Int) : Prop where
  at_ : TreeAt w ba pa M M z' p'
  nar : Narrowed n r m z M z' p'
  apart : ∀ i j, i < M → j < M → i ≠ j → diff (z' i).toNat (z' j).toNat ≠ 0

theorem ord_yes {n : Nat} {z : Nat → Int} (hg : graphB n 9 z = true) : (orderG n z).length = n ∧ (∀ k, k < n → okO n (listZ (orderG n z)) k = true) ∧ alo (tn n (natG z)) (listZ (orderG n z)) n = widthG n z := by
  have ht : ∀ g v, v < n → tn n (natG z) g v ≤ n := fun g v _ => tn_le _ _ _ _
  exact ⟨first_len ht (Nat.le_refl _), first_ord ht (Nat.le_refl _), first_alo ht⟩

set_option maxRecDepth 20000 in
set_option maxHeartbeats 4000000 in
theorem Decompose_yes {n : Nat} {g : Nat → Int} {a : Option Addr} (cap : Nat) {w : World} (hI : IntsAt w a n g) (hz : InI64 g) (hg : graphB n 9 g = true) :
    Calls Try.prog 24 #[.slice a n cap] w fun e w' => ∃ ba ca pa cb M z' p' z, e = .returned (.tuple #[treeV ba M ca pa M cb, .int .i64 0]) ∧ NarrowAt w' ba pa n (natG g) n z M z' p' ∧ mxTo n z' M = widthG n g + 1 ∧ Below w.heap.size w w' := by
  obtain ⟨w0, hw0, R0, HB0, hs0⟩ := new1 w 42 [.slice none 0 0, .slice none 0 0]
  have HI := Lib.hid (hI.below HB0)
  have HZ := Lib.hid hz
  have HGR := Lib.hid hg
  obtain ⟨h1, hle, hbd⟩ := graphB_le hg
  have HO := Lib.hid (ord_yes hg)
  have HW0 := Lib.hid hw0
  have HB := Lib.hid HB0
  have HR := Lib.hid R0
  clear hI hz hg hbd hw0 HB0 R0
  go_enter Try.func24, Try.ntmps24
  go_wp2_with fail
  rw [← HW0.out]
  go_at_call 40
  refine (newTown_yes cap HI.out HZ.out HGR.out).mono ?_
  rintro e w1 ⟨rfl, hb1, hG⟩
  have HG := Lib.hid hG
  have HB1 := Lib.hid (HB.out.trans (hb1.mono HB.out.size))
  have HR1 := Lib.hid (HR.out.below hb1 HR.out.lt)
  clear hb1 hG
  go_wp2_with fail
  go_at_call 43
  refine (firstOrder_any HG.out cap).mono ?_
  rintro e w2 ⟨v, rfl, ho, hb2⟩
  have HG2 := Lib.hid (HG.out.below hb2)
  have HB2 := Lib.hid (HB1.out.trans (hb2.mono HB1.out.size))
  have HR2 := Lib.hid (HR1.out.below hb2 HR1.out.lt)
  obtain ⟨o, co, rfl, hi2⟩ := ho.ints (by show (orderG n g).length ≤ 65536; rw [HO.out.1]; omega)
  have hlen : (ordW n (tn n (natG g)) (rst n (tn n (natG g)) 0) n 0).length = n := HO.out.1
  rw [hlen] at hi2
  rw [hlen]
  have HI2 : Hid (IntsAt w2 o n (listZ (orderG n g))) := Lib.hid hi2
  clear hb2 ho hi2 hlen
  go_wp2_with fail
  go_at_call 51
  refine (treeOf_any HG2.out cap co HI2.out HO.out.2.1).mono ?_
  rintro e w3 ⟨vb, vp, p, rfl, ob, op, hne, hnx, hb3⟩
  obtain ⟨gb, cb, rfl, e1, lb, kb, kb2, mb⟩ := own_mine ob (by omega)
  obtain ⟨gp, cp, rfl, e2, lp, kp, kp2, mp⟩ := own_mine op (by omega)
  have hgne : gb ≠ gp := fun e => hne gb e1 (by rw [e2, e])
  have HMB := Lib.hid mb
  have HMP := Lib.hid mp
  have HB3 := Lib.hid (HB2.out.trans (hb3.mono HB2.out.size))
  have HR3 := Lib.hid (HR2.out.below hb3 HR2.out.lt)
  have HD := Lib.hid (treeOf_dec (by omega) hle HG2.out.bd (g_sym HGR.out) (g_loop HGR.out) HO.out.2.1 hnx)
  have hw2 := HB2.out.size
  have hw3 := HB3.out.size
  have hl2 := HR2.out.lt
  clear hb3 ob op hne hnx e1 e2 mb mp
  go_wp2_with fail
  go_at_call 50
  refine (narrowed_any hle HD.out HMB.out HMP.out hgne kb kp kb2 kp2).mono ?_
  rintro e w4 ⟨M, z', p', rfl, m1, m2, hN, hno, ht⟩
  have hb4 : Below w.heap.size w w4 := HB3.out.trans (ht.below (by omega) (by omega) hw3)
  have HNO := Lib.hid hno
  have HN := Lib.hid hN
  have HB4 := Lib.hid hb4
  have HM1 := Lib.hid m1
  have HM2 := Lib.hid m2
  have R4 := HR3.out.two ht (by omega) (by omega)
  have HR4 := Lib.hid R4
  have d0 := R4.cell (i := 0) rfl
  have d1 := R4.cell (i := 1) rfl
  have f0 := R4.free 0
  have f1 := R4.free 1
  have l4 := R4.lt
  clear m1 m2 hN hno ht hb4 R4
  go_wp2_with fail
  have hM9 : M ≤ 9 := Nat.le_trans HN.out.le hle
  have hmxl : M ≤ maxLen := by unfold maxLen; omega
  obtain ⟨I1, I2, g0, g1⟩ := box_two HR4.out (HM1.out.ints hmxl) (HM2.out.ints hmxl) cb cp
  have hw : mxTo n z' M = widthG n g + 1 := by
    rw [HN.out.width, treeOf_mx HG2.out.bd HO.out.2.1 n (Nat.le_refl _), if_neg (by omega), HO.out.2.2]
  have b5 := (HB4.out.setCell (p := ⟨w.heap.size, 0, none⟩) (Nat.le_refl _) (.slice (some ⟨gb, 0, none⟩) M cb)).setCell (p := ⟨w.heap.size, 1, none⟩) (Nat.le_refl _) (.slice (some ⟨gp, 0, none⟩) M cp)
  exact bodyPost_ret (v := .tuple #[treeV (some ⟨gb, 0, none⟩) M cb (some ⟨gp, 0, none⟩) M cp, .int .i64 0]) (by simp [results, Try.results24, go_sem, g0, g1]) rfl
    ⟨_, cb, _, cp, M, z', p', _, rfl, ⟨⟨I1, I2⟩, HN.out, fun i j hi hj hij => HN.out.dec.narrow HNO.out hi hj hij⟩, hw, b5⟩

set_option maxRecDepth 20000 in
set_option maxHeartbeats 4000000 in
theorem Decompose_no {n : Nat} {g : Nat → Int} {a : Option Addr} (cap : Nat) {w : World} (hI : IntsAt w a n g) (hz : InI64 g) (hg : graphB n 9 g = false) :
    Calls Try.prog 24 #[.slice a n cap] w fun e w' => e = .returned (.tuple #[treeV none 0 0 none 0 0, .int .i64 2]) ∧ Below w.heap.size w w' := by
  obtain ⟨w0, hw0, R0, HB0, hs0⟩ := new1 w 42 [.slice none 0 0, .slice none 0 0]
  have HI := Lib.hid (hI.below HB0)
  have HZ := Lib.hid hz
  have HW0 := Lib.hid hw0
  have HB := Lib.hid HB0
  have HR := Lib.hid R0
  clear hI hz hw0 HB0 R0
  go_enter Try.func24, Try.ntmps24
  go_wp2_with fail
  rw [← HW0.out]
  go_at_call 40
  refine (newTown_no cap HI.out HZ.out hg).mono ?_
  rintro e w1 ⟨rfl, hb1⟩
  have HB1 := Lib.hid (HB.out.trans (hb1.mono HB.out.size))
  have HR1 := Lib.hid (HR.out.below hb1 HR.out.lt)
  have d0 := HR1.out.cell (i := 0) rfl
  have d1 := HR1.out.cell (i := 1) rfl
  have f0 := HR1.out.free 0
  have f1 := HR1.out.free 1
  have l4 := HR1.out.lt
  clear hb1
  go_wp2_with fail
  have r2 := (HR1.out.set 0 (.slice none 0 0)).set 1 (.slice none 0 0)
  have g0 := r2.cell (i := 0) rfl
  have g1 := r2.cell (i := 1) rfl
  have b5 := (HB1.out.setCell (p := ⟨w.heap.size, 0, none⟩) (Nat.le_refl _) (.slice none 0 0)).setCell (p := ⟨w.heap.size, 1, none⟩) (Nat.le_refl _) (.slice none 0 0)
  exact bodyPost_ret (v := .tuple #[treeV none 0 0 none 0 0, .int .i64 2]) (by simp [results, Try.results24, go_sem, g0, g1]) rfl ⟨rfl, b5⟩

set_option maxRecDepth 20000 in
set_option maxHeartbeats 4000000 in
theorem Narrow_yes {n m q : Nat} {g z p : Nat → Int} {a ba pa : Option Addr} (cap ca cb : Nat) {w : World} (hI : IntsAt w a n g) (hz : InI64 g) (hg : graphB n 9 g = true) (T : TreeAt w ba pa m q z p) (hd : decB n (natG g) m q z p = true) :
    Calls Try.prog 30 #[.slice a n cap, treeV ba m ca pa q cb] w fun e w' => ∃ ba ca pa cb M z' p', e = .returned (.tuple #[treeV ba M ca pa M cb, .int .i64 0]) ∧ NarrowAt w' ba pa n (natG g) m z M z' p' ∧ Below w.heap.size w w' := by
  obtain ⟨rfl, D⟩ := dec_iff.1 hd
  obtain ⟨w1, hw1, R1, HB1, hs1⟩ := new1 w 42 [.slice ba q ca, .slice pa q cb]
  have hws1 : w1.heap.size = w.heap.size + 1 := by rw [hw1]; simp
  obtain ⟨w0, hw0, R0, HB0, hs0⟩ := new1 w1 42 [.slice none 0 0, .slice none 0 0]
  rw [hws1] at R0
  have HBw := HB1.trans (HB0.mono HB1.size)
  have HI := Lib.hid (hI.below HBw)
  have HT := Lib.hid (T.below HBw)
  have HZ := Lib.hid hz
  have HGR := Lib.hid hg
  obtain ⟨h1, hle, hbd⟩ := graphB_le hg
  have HW1 := Lib.hid hw1
  have HW0 := Lib.hid hw0
  have HB := Lib.hid HBw
  have HR := Lib.hid R0
  have HR1 := Lib.hid (R1.below HB0 R1.lt)
  have HD := Lib.hid D
  have hm0 := D.one
  have hm30 := D.most
  have HDB := Lib.hid hd
  have hmb := T.bags.1
  unfold maxLen at hmb
  clear hI hz hg hbd hw0 hw1 HB0 HB1 R0 R1 T D hd HBw
  go_enter Try.func30, Try.ntmps30
  go_wp2_with fail
  rw [← HW1.out, ← HW0.out]
  go_at_call 40
  refine (newTown_yes cap HI.out HZ.out HGR.out).mono ?_
  rintro e w2 ⟨rfl, hb2, hG⟩
  have HG := Lib.hid hG
  have HB2 := Lib.hid (HB.out.trans (hb2.mono HB.out.size))
  have HR2 := Lib.hid (HR.out.below hb2 HR.out.lt)
  have HRa := Lib.hid (HR1.out.below hb2 HR1.out.lt)
  have HT2 := Lib.hid (HT.out.below hb2)
  have c0 := HRa.out.cell (i := 0) rfl
  have c1 := HRa.out.cell (i := 1) rfl
  clear hb2 hG
  go_wp2_with fail
  go_at_call 52
  refine (isDecomposition_any HG.out cap ca cb HT2.out).mono ?_
  rintro e w3 ⟨rfl, hb3⟩
  rw [HDB.out]
  have HB3 := Lib.hid (HB2.out.trans (hb3.mono HB2.out.size))
  have HR3 := Lib.hid (HR2.out.below hb3 HR2.out.lt)
  have HRb := Lib.hid (HRa.out.below hb3 HRa.out.lt)
  have HT3 := Lib.hid (HT2.out.below hb3)
  clear c0 c1 hb3
  have c0 := HRb.out.cell (i := 0) rfl
  have c1 := HRb.out.cell (i := 1) rfl
  go_wp2_with fail
  have B0 : Below w3.heap.size w3 w3.drew := (Below.refl _ _).drew
  have HTA := Lib.hid (HT3.out.below B0)
  have hrl := HR3.out.lt
  have hq6 : q ≤ 1000000 := by omega
  clear HT3 HT2 HT
  go_region_law (first
    | (have hta := HTA.out; clear HTA; go_simp; go_at_call 46; refine (CloneI_own ca hm0 hq6 hta.bags).mono ?_; rintro e w4 ⟨v4, rfl, o4, hb4⟩; obtain ⟨gb, cb1, rfl, e1, lb, kb, kb2, mb⟩ := own_mine o4 hm0; have hb5 := B0.trans (hb4.mono B0.size); have c1' := (HRb.out.below hb5 HRb.out.lt).cell (i := 1) rfl; have HTC := Lib.hid (hta.below hb4); have HMB := Lib.hid mb; have lb3 : w3.heap.size ≤ gb := lb; clear hta o4 hb4 e1 mb)
    | (have htc := HTC.out; clear HTC; go_simp; go_at_call 46; refine (CloneI_own cb hm0 hq6 htc.pars).mono ?_; rintro e w5 ⟨v5, rfl, o5, hb6⟩; obtain ⟨gp, cp1, rfl, e2, lp, kp, kp2, mp⟩ := own_mine o5 hm0; have hgne : gb ≠ gp := (by have := HMB.out.lt; omega); have HMB5 := Lib.hid (HMB.out.below hb6); have HMP := Lib.hid mp; have lp3 : w3.heap.size ≤ gp := Nat.le_trans hb5.size lp; have hb7 := hb5.trans (hb6.mono hb5.size); clear HMB htc o5 hb6 e2 mp hb5)
    | (go_simp; go_at_call 50; refine (narrowed_any hle HD.out HMB5.out HMP.out hgne kb kp kb2 kp2).mono ?_; rintro e w6 ⟨M, z', p', rfl, m1, m2, hN, hno, ht⟩; have R6 := (HR3.out.below hb7 hrl).two ht (by omega) (by omega); have HR6 := Lib.hid R6; have d0 := R6.cell (i := 0) rfl; have d1 := R6.cell (i := 1) rfl; have f0 := R6.free 0; have f1 := R6.free 1; have l6 := R6.lt; have HB6 := Lib.hid (HB3.out.trans ((hb7.trans (ht.below (B := w3.heap.size) lb3 lp3 hb7.size)).mono HB3.out.size)); have HN := Lib.hid hN; have HNO := Lib.hid hno; have HM1 := Lib.hid m1; have HM2 := Lib.hid m2; clear R6 hN hno m1 m2 ht))
  all_goals
    go_wp2_with fail
    have hM9 : M ≤ 30 := Nat.le_trans HN.out.le hm30
    have hmxl : M ≤ maxLen := by unfold maxLen; omega
    obtain ⟨I1, I2, g0, g1⟩ := box_two HR6.out (HM1.out.ints hmxl) (HM2.out.ints hmxl) cb1 cp1
    have b5 := (HB6.out.setCell (p := ⟨w.heap.size + 1, 0, none⟩) (Nat.le_succ _) (.slice (some ⟨gb, 0, none⟩) M cb1)).setCell (p := ⟨w.heap.size + 1, 1, none⟩) (Nat.le_succ _) (.slice (some ⟨gp, 0, none⟩) M cp1)
    exact bodyPost_ret (v := .tuple #[treeV (some ⟨gb, 0, none⟩) M cb1 (some ⟨gp, 0, none⟩) M cp1, .int .i64 0]) (by simp [results, Try.results30, go_sem, g0, g1]) rfl
      ⟨_, cb1, _, cp1, M, z', p', rfl, ⟨⟨I1, I2⟩, HN.out, fun i j hi hj hij => HN.out.dec.narrow HNO.out hi hj hij⟩, b5⟩

set_option maxRecDepth 20000 in
set_option maxHeartbeats 4000000 in
theorem Narrow_no {n m q : Nat} {g z p : Nat → Int} {a ba pa : Option Addr} (cap ca cb : Nat) {w : World} (hI : IntsAt w a n g) (hz : InI64 g) (T : TreeAt w ba pa m q z p) (hno : (graphB n 9 g && decB n (natG g) m q z p) = false) :
    Calls Try.prog 30 #[.slice a n cap, treeV ba m ca pa q cb] w fun e w' => e = .returned (.tuple #[treeV none 0 0 none 0 0, .int .i64 2]) ∧ Below w.heap.size w w' := by
  obtain ⟨w1, hw1, R1, HB1, hs1⟩ := new1 w 42 [.slice ba m ca, .slice pa q cb]
  have hws1 : w1.heap.size = w.heap.size + 1 := by rw [hw1]; simp
  obtain ⟨w0, hw0, R0, HB0, hs0⟩ := new1 w1 42 [.slice none 0 0, .slice none 0 0]
  rw [hws1] at R0
  have HBw := HB1.trans (HB0.mono HB1.size)
  have HI := Lib.hid (hI.below HBw)
  have HT := Lib.hid (T.below HBw)
  have HZ := Lib.hid hz
  have HW1 := Lib.hid hw1
  have HW0 := Lib.hid hw0
  have HB := Lib.hid HBw
  have HR := Lib.hid R0
  have HR1 := Lib.hid (R1.below HB0 R1.lt)
  have fin : ∀ wz : World, Below w.heap.size w wz → Row wz (w.heap.size + 1) 42 [.slice none 0 0, .slice none 0 0] →
      ((wz.setCell ⟨w.heap.size + 1, 0, none⟩ (.slice none 0 0)).setCell ⟨w.heap.size + 1, 1, none⟩ (.slice none 0 0)).cell? ⟨w.heap.size + 1, 0, none⟩ = some (.slice none 0 0) ∧ ((wz.setCell ⟨w.heap.size + 1, 0, none⟩ (.slice none 0 0)).setCell ⟨w.heap.size + 1, 1, none⟩ (.slice none 0 0)).cell? ⟨w.heap.size + 1, 1, none⟩ = some (.slice none 0 0) ∧ Below w.heap.size w ((wz.setCell ⟨w.heap.size + 1, 0, none⟩ (.slice none 0 0)).setCell ⟨w.heap.size + 1, 1, none⟩ (.slice none 0 0)) := by
    intro wz hb hr
    have r2 := (hr.set 0 (.slice none 0 0)).set 1 (.slice none 0 0)
    exact ⟨r2.cell (i := 0) rfl, r2.cell (i := 1) rfl, (hb.setCell (p := ⟨w.heap.size + 1, 0, none⟩) (Nat.le_succ _) (.slice none 0 0)).setCell (p := ⟨w.heap.size + 1, 1, none⟩) (Nat.le_succ _) (.slice none 0 0)⟩
  have HF := Lib.hid fin
  cases hg : graphB n 9 g
  · clear hI hz hw0 hw1 HB0 HB1 R0 R1 T HBw fin hno
    go_enter Try.func30, Try.ntmps30
    go_wp2_with fail
    rw [← HW1.out, ← HW0.out]
    go_at_call 40
    refine (newTown_no cap HI.out HZ.out hg).mono ?_
    rintro e w2 ⟨rfl, hb2⟩
    have HB2 := Lib.hid (HB.out.trans (hb2.mono HB.out.size))
    have HR2 := Lib.hid (HR.out.below hb2 HR.out.lt)
    have d0 := HR2.out.cell (i := 0) rfl
    have d1 := HR2.out.cell (i := 1) rfl
    have f0 := HR2.out.free 0
    have f1 := HR2.out.free 1
    have l4 := HR2.out.lt
    clear hb2
    go_wp2_with fail
    obtain ⟨g0, g1, b5⟩ := HF.out w2 HB2.out HR2.out
    exact bodyPost_ret (v := .tuple #[treeV none 0 0 none 0 0, .int .i64 2]) (by simp [results, Try.results30, go_sem, g0, g1]) rfl ⟨rfl, b5⟩
  · rw [hg, Bool.true_and] at hno
    have HDB := Lib.hid hno
    have HGR := Lib.hid hg
    clear hI hz hw0 hw1 HB0 HB1 R0 R1 T HBw fin hno hg
    go_enter Try.func30, Try.ntmps30
    go_wp2_with fail
    rw [← HW1.out, ← HW0.out]
    go_at_call 40
    refine (newTown_yes cap HI.out HZ.out HGR.out).mono ?_
    rintro e w2 ⟨rfl, hb2, hG⟩
    have HG := Lib.hid hG
    have HB2 := Lib.hid (HB.out.trans (hb2.mono HB.out.size))
    have HR2 := Lib.hid (HR.out.below hb2 HR.out.lt)
    have HRa := Lib.hid (HR1.out.below hb2 HR1.out.lt)
    have HT2 := Lib.hid (HT.out.below hb2)
    have c0 := HRa.out.cell (i := 0) rfl
    have c1 := HRa.out.cell (i := 1) rfl
    clear hb2 hG
    go_wp2_with fail
    go_at_call 52
    refine (isDecomposition_any HG.out cap ca cb HT2.out).mono ?_
    rintro e w3 ⟨rfl, hb3⟩
    rw [HDB.out]
    have HB3 := Lib.hid (HB2.out.trans (hb3.mono HB2.out.size))
    have HR3 := Lib.hid (HR2.out.below hb3 HR2.out.lt)
    have d0 := HR3.out.cell (i := 0) rfl
    have d1 := HR3.out.cell (i := 1) rfl
    have f0 := HR3.out.free 0
    have f1 := HR3.out.free 1
    have l4 := HR3.out.lt
    clear c0 c1 hb3
    go_wp2_with fail
    obtain ⟨g0, g1, b5⟩ := HF.out w3 HB3.out HR3.out
    exact bodyPost_ret (v := .tuple #[treeV none 0 0 none 0 0, .int .i64 2]) (by simp [results, Try.results30, go_sem, g0, g1]) rfl ⟨rfl, b5⟩

end Go.Proofs.Ytombmfphodikjaa
