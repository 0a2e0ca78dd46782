/- The walk of the law WidthNarrows. -/
import Derived.Test.YtombmfphodikjaaW47
namespace Go.Proofs.Ytombmfphodikjaa
set_option linter.unusedSimpArgs false
set_option linter.unusedVariables false
open Go.RowKit Go.Maps

theorem dec_few {n : Nat} {z : Nat → Int} {m q : Nat} {y p : Nat → Int} : (graphB (min n 13) 9 z && decB (min n 13) (natG z) (min m 210) (min q 210) y p) = (graphB n 9 z && decB n (natG z) m q y p) := by
  rw [graphB_few, decB_few]
  cases h : graphB n 9 z
  · rfl
  · have := (graphB_le h).2.1
    rw [Nat.min_eq_left (by omega)]

theorem rowNew {W w1 : World} {x y : Value} {T : TypeId} (h : Below (W.alloc (.cells #[x, y] T)).heap.size (W.alloc (.cells #[x, y] T)) w1) : Row w1 W.heap.size T [x, y] := (Row.new W T [x, y]).below h (by simp)
theorem rowNewD {W w1 : World} {x y : Value} {T : TypeId} (h : Below (W.alloc (.cells #[x, y] T)).drew.heap.size (W.alloc (.cells #[x, y] T)).drew w1) : Row w1 W.heap.size T [x, y] := ((Row.new W T [x, y]).drewN 1).below h (by show W.heap.size < (W.alloc (.cells #[x, y] T)).heap.size; simp)

set_option maxRecDepth 200000 in
set_option maxHeartbeats 4000000 in
theorem WidthNarrows_no (n m q : Nat) (z y p : Nat → Int) (v vb vp : Value) (w : World) (hA : SliceArg w v n z) (hz : InI64 z) (hB : SliceArg w vb m y) (hC : SliceArg w vp q p) (hg : (graphB n 9 z && decB n (natG z) m q y p) = false) :
    Calls Try.prog 5 #[v, .agg #[vb, vp]] w (LawTrue w) := by
  obtain ⟨w0, hw0, R0, hb0, hs0⟩ := new1 w 41 [vb, vp]
  have HA := Lib.hid (hA.below hb0)
  obtain ⟨a, cap, rfl, hI⟩ := hA.ints
  obtain ⟨ta, ka, tp, kp, rfl, rfl, hT0⟩ := SliceArg.tree hB hC
  have HTB := Lib.hid (hB.below hb0)
  have HTP := Lib.hid (hC.below hb0)
  have HT0 := Lib.hid (hT0.below hb0)
  have HZ := Lib.hid hz
  have HI0 := Lib.hid (hI.below hb0)
  have HG := Lib.hid hg
  have HGF : Hid ((graphB (min n 13) 9 z && decB (min n 13) (natG z) (min m 210) (min q 210) y p) = false) := Lib.hid (by rw [dec_few]; exact hg)
  have HW0 := Lib.hid hw0
  have HBW := Lib.hid hb0
  have HR := Lib.hid R0
  have d0 := R0.cell (i := 0) rfl
  have d1 := R0.cell (i := 1) rfl
  clear hA hI hz hg hB hC hw0 hb0 R0 hT0
  have B0 : Below w0.heap.size w0 w0.drew := (Below.refl _ _).drew
  have B0a : Below w0.heap.size w0 (w0.alloc (.cells #[.slice none 0 0, .slice none 0 0] 42)).drew := ((Below.refl _ _).alloc (Nat.le_refl _) _).drew
  have hl0 := HR.out.lt
  go_enter Try.func5, Try.ntmps5
  go_wp2_with fail
  rw [← HW0.out]
  go_cut [5, 6] (fun s5 s6 wx => ∃ B, s5 = .pointer (some ⟨B, 0, none⟩) ∧ s6 = .int .i64 2 ∧ Row wx B 42 [.slice none 0 0, .slice none 0 0] ∧ Below w0.heap.size w0 wx)
  case first =>
    go_region_law (first
      | (go_simp; go_at_call 13; refine (Few_any n z _ _ (SliceArg.below HA.out (by first | exact B0 | exact B0a))).mono ?_; rintro e w4 ⟨a4, c4, rfl, hi4, hb4⟩; have HB4 : Hid (Below w0.heap.size w0 w4) := Lib.hid (by first | exact B0.trans (hb4.mono B0.size) | exact B0a.trans (hb4.mono B0a.size)); have R4 := HR.out.below HB4.out HR.out.lt; have d2 := R4.cell (i := 0) rfl; have d3 := R4.cell (i := 1) rfl; have hl4 := R4.lt; have hs4 := HB4.out.size; (try have hN := rowNew hb4); (try have hN := rowNewD hb4); have HI4 := Lib.hid hi4; clear hi4 hb4 R4)
      | (go_simp; go_at_call 26; refine (Of_any (HTB.out.below (by first | exact HB4.out | exact HB4.out.alloc HB4.out.size _)) (HTP.out.below (by first | exact HB4.out | exact HB4.out.alloc HB4.out.size _))).mono ?_; rintro e w5 ⟨a5, k5, b5, l5, rfl, hT5, hb5⟩; have HT5 := Lib.hid hT5; have HI5 : Hid (IntsAt w5 a4 (min n 13) z) := Lib.hid (by first | exact HI4.out.below hb5 | exact (HI4.out.alloc _).below hb5); have HB5 : Hid (Below w0.heap.size w0 w5) := Lib.hid (by first | exact HB4.out.trans (hb5.mono HB4.out.size) | exact (HB4.out.alloc HB4.out.size _).trans (hb5.mono (HB4.out.alloc HB4.out.size _).size)); have hs5 := HB5.out.size; (try have hN := hN.below hb5 hN.lt); (try have hN := rowNew hb5); clear hT5 hb5 HI4)
      | (go_simp; go_at_call 30; refine (Narrow_no _ _ _ (by first | exact HI5.out | exact HI5.out.alloc _) HZ.out (by first | exact HT5.out | exact HT5.out.below ((Below.refl _ _).alloc (Nat.le_refl _) _)) HGF.out).mono ?_; rintro e w6 ⟨rfl, hb6⟩; have HB6 : Hid (Below w0.heap.size w0 w6) := Lib.hid (by first | exact HB5.out.trans (hb6.mono HB5.out.size) | exact (HB5.out.alloc HB5.out.size _).trans (hb6.mono (HB5.out.alloc HB5.out.size _).size)); have hs6 := HB6.out.size; (try have hN := hN.below hb6 hN.lt); (try have hN := rowNew hb6); (try have n0 := Row.cell hN (i := 0) rfl); (try have n1 := Row.cell hN (i := 1) rfl); (try have f0 := Row.free hN 0); (try have f1 := Row.free hN 1); (try have nl := Row.lt hN); clear hb6 HI5 HT5))
    all_goals
      go_wp2_with fail
      go_meet
      first
        | exact ⟨_, rfl, rfl, Row.new _ _ _, HB6.out.alloc hs6 _⟩
        | exact ⟨_, rfl, rfl, (hN.set 0 _).set 1 _, (HB6.out.setCell (by first | exact hs5 | exact hs4 | exact Nat.le_refl _) _).setCell (by first | exact hs5 | exact hs4 | exact Nat.le_refl _) _⟩
  case rest =>
    obtain ⟨B, rfl, rfl, rb, hbb⟩ := hcut
    obtain ⟨wd, rfl⟩ : ∃ wd : World, wd = wc := ⟨_, rfl⟩
    have HB7 := Lib.hid hbb
    have HRB := Lib.hid rb
    have R7 := HR.out.below hbb HR.out.lt
    have d2 := R7.cell (i := 0) rfl
    have d3 := R7.cell (i := 1) rfl
    clear rb hbb R7 d0 d1
    go_wp2_with fail
    go_at_call 31
    refine (fine_any _ _ _ (HI0.out.below HB7.out) HZ.out (HT0.out.below HB7.out)).mono ?_
    rintro e w8 ⟨rfl, hb8⟩
    rw [HG.out]
    have R8 := HRB.out.below hb8 HRB.out.lt
    have g0 := R8.cell (i := 0) rfl
    have g1 := R8.cell (i := 1) rfl
    clear R8
    have HB8 := Lib.hid (HB7.out.trans (hb8.mono HB7.out.size))
    clear hb8
    go_wp2_with fail
    go_at_call 27
    refine (none_any (m := 0) (q := 0) (by omega) (by omega) _).mono ?_
    rintro e w9 ⟨rfl, hb9⟩
    have HB9 := Lib.hid (HB8.out.trans (hb9.mono HB8.out.size))
    clear hb9
    go_wp2_with fail
    go_at_call 18
    refine (awake_any _).mono ?_
    rintro e w10 ⟨rfl, hb10⟩
    have HB10 := Lib.hid (HB9.out.trans (hb10.mono HB9.out.size))
    clear hb10
    go_wp2_with fail
    go_ret
    exact ⟨rfl, HBW.out.trans (HB10.out.mono HBW.out.size)⟩

/-- What Few and Of make of arguments that are fine. -/
theorem fine_few {n m q : Nat} {z y p : Nat → Int} (hg : (graphB n 9 z && decB n (natG z) m q y p) = true) : graphB n 9 z = true ∧ decB n (natG z) m q y p = true ∧ min n 13 = n ∧ min m 210 = m ∧ min q 210 = q ∧ n ≤ 9 := by
  rw [Bool.and_eq_true] at hg
  have h1 := (graphB_le hg.1).2.1
  have h2 := dec_iff.1 hg.2
  have h3 := h2.2.most
  have h4 := h2.1
  exact ⟨hg.1, hg.2, by omega, by omega, by omega, h1⟩

theorem box_new {w : World} {T : TypeId} {a1 a2 : Option Addr} {m : Nat} {z p : Nat → Int} (h : TreeAt w a1 a2 m m z p) (xs : List Value) : TreeAt (w.alloc (.cells xs.toArray T)) a1 a2 m m z p := ⟨h.bags.alloc _, h.pars.alloc _⟩

set_option maxRecDepth 200000 in
set_option maxHeartbeats 4000000 in
theorem WidthNarrows_yes (n m q : Nat) (z y p : Nat → Int) (v vb vp : Value) (w : World) (hA : SliceArg w v n z) (hz : InI64 z) (hB : SliceArg w vb m y) (hC : SliceArg w vp q p) (hg : (graphB n 9 z && decB n (natG z) m q y p) = true) :
    Calls Try.prog 5 #[v, .agg #[vb, vp]] w (LawTrue w) := by
  obtain ⟨w0, hw0, R0, hb0, hs0⟩ := new1 w 41 [vb, vp]
  have HA := Lib.hid (hA.below hb0)
  obtain ⟨a, cap, rfl, hI⟩ := hA.ints
  obtain ⟨ta, ka, tp, kp, rfl, rfl, hT0⟩ := SliceArg.tree hB hC
  have HTB := Lib.hid (hB.below hb0)
  have HTP := Lib.hid (hC.below hb0)
  have HT0 := Lib.hid (hT0.below hb0)
  have HZ := Lib.hid hz
  have HI0 := Lib.hid (hI.below hb0)
  have HG := Lib.hid hg
  obtain ⟨g1, g2, g3, g4, g5, hle⟩ := fine_few hg
  have HG1 := Lib.hid g1
  have HG2 := Lib.hid g2
  have HM := Lib.hid g3
  have HMB := Lib.hid g4
  have HMQ := Lib.hid g5
  have HGR := Lib.hid (graph_gr (hI.below hb0) g1)
  have HW0 := Lib.hid hw0
  have HBW := Lib.hid hb0
  have HR := Lib.hid R0
  have d0 := R0.cell (i := 0) rfl
  have d1 := R0.cell (i := 1) rfl
  clear hA hI hz hg hB hC hw0 hb0 R0 hT0 g1 g2 g3 g4 g5
  have B0 : Below w0.heap.size w0 w0.drew := (Below.refl _ _).drew
  have B0a : Below w0.heap.size w0 (w0.alloc (.cells #[.slice none 0 0, .slice none 0 0] 42)).drew := ((Below.refl _ _).alloc (Nat.le_refl _) _).drew
  have hl0 := HR.out.lt
  go_enter Try.func5, Try.ntmps5
  go_wp2_with fail
  rw [← HW0.out]
  go_cut [5, 6] (fun s5 s6 wx => ∃ B xb kb xp kp M z' p', s5 = .pointer (some ⟨B, 0, none⟩) ∧ s6 = .int .i64 0 ∧ Row wx B 42 [.slice xb M kb, .slice xp M kp] ∧ NarrowAt wx xb xp n (natG z) m y M z' p' ∧ Below w0.heap.size w0 wx)
  case first =>
    go_region_law (first
      | (go_simp; go_at_call 13; refine (Few_any n z _ _ (SliceArg.below HA.out (by first | exact B0 | exact B0a))).mono ?_; rintro e w4 ⟨a4, c4, rfl, hi4, hb4⟩; rw [HM.out] at hi4; rw [HM.out]; have HB4 : Hid (Below w0.heap.size w0 w4) := Lib.hid (by first | exact B0.trans (hb4.mono B0.size) | exact B0a.trans (hb4.mono B0a.size)); have R4 := HR.out.below HB4.out HR.out.lt; have d2 := R4.cell (i := 0) rfl; have d3 := R4.cell (i := 1) rfl; have hl4 := R4.lt; have hs4 := HB4.out.size; (try have hN := rowNew hb4); (try have hN := rowNewD hb4); have HI4 := Lib.hid hi4; clear hi4 hb4 R4)
      | (go_simp; go_at_call 26; refine (Of_any (HTB.out.below (by first | exact HB4.out | exact HB4.out.alloc HB4.out.size _)) (HTP.out.below (by first | exact HB4.out | exact HB4.out.alloc HB4.out.size _))).mono ?_; rintro e w5 ⟨a5, k5, b5, l5, rfl, hT5, hb5⟩; rw [HMB.out, HMQ.out] at hT5; rw [HMB.out, HMQ.out]; have HT5 := Lib.hid hT5; have HI5 : Hid (IntsAt w5 a4 n z) := Lib.hid (by first | exact HI4.out.below hb5 | exact (HI4.out.alloc _).below hb5); have HB5 : Hid (Below w0.heap.size w0 w5) := Lib.hid (by first | exact HB4.out.trans (hb5.mono HB4.out.size) | exact (HB4.out.alloc HB4.out.size _).trans (hb5.mono (HB4.out.alloc HB4.out.size _).size)); have hs5 := HB5.out.size; (try have hN := hN.below hb5 hN.lt); (try have hN := rowNew hb5); clear hT5 hb5 HI4)
      | (go_simp; go_at_call 30; refine (Narrow_yes _ _ _ (by first | exact HI5.out | exact HI5.out.alloc _) HZ.out HG1.out (by first | exact HT5.out | exact HT5.out.below ((Below.refl _ _).alloc (Nat.le_refl _) _)) HG2.out).mono ?_; rintro e w6 ⟨xb, kb, xp, kp, M, z', p', rfl, hnar, hb6⟩; have HNAR := Lib.hid hnar; have HB6 : Hid (Below w0.heap.size w0 w6) := Lib.hid (by first | exact HB5.out.trans (hb6.mono HB5.out.size) | exact (HB5.out.alloc HB5.out.size _).trans (hb6.mono (HB5.out.alloc HB5.out.size _).size)); have hs6 := HB6.out.size; (try have hN := hN.below hb6 hN.lt); (try have hN := rowNew hb6); (try have n0 := Row.cell hN (i := 0) rfl); (try have n1 := Row.cell hN (i := 1) rfl); (try have f0 := Row.free hN 0); (try have f1 := Row.free hN 1); (try have nl := Row.lt hN); clear hnar hb6 HI5 HT5))
    all_goals
      go_wp2_with fail
      go_meet
      first
        | exact ⟨_, xb, kb, xp, kp, M, z', p', rfl, rfl, Row.new _ _ _, ⟨box_new HNAR.out.at_ _, HNAR.out.nar, HNAR.out.apart⟩, HB6.out.alloc hs6 _⟩
        | exact ⟨_, xb, kb, xp, kp, M, z', p', rfl, rfl, (hN.set 0 _).set 1 _, ⟨⟨(box_two hN HNAR.out.at_.bags HNAR.out.at_.pars kb kp).1, (box_two hN HNAR.out.at_.bags HNAR.out.at_.pars kb kp).2.1⟩, HNAR.out.nar, HNAR.out.apart⟩, (HB6.out.setCell (by first | exact hs5 | exact hs4 | exact Nat.le_refl _) _).setCell (by first | exact hs5 | exact hs4 | exact Nat.le_refl _) _⟩
  case rest =>
    obtain ⟨B, xb, kb, xp, kp, M, z', p', rfl, rfl, rb, hnar, hbb⟩ := hcut
    obtain ⟨wd, rfl⟩ : ∃ wd : World, wd = wc := ⟨_, rfl⟩
    have HB7 := Lib.hid hbb
    have HRB := Lib.hid rb
    have HX := Lib.hid hnar.at_
    have HN := Lib.hid hnar.nar
    have HAP := Lib.hid hnar.apart
    have HD := Lib.hid (dec_iff.2 ⟨rfl, hnar.nar.dec⟩)
    have R7 := HR.out.below hbb HR.out.lt
    have d2 := R7.cell (i := 0) rfl
    have d3 := R7.cell (i := 1) rfl
    clear rb hbb R7 d0 d1 hnar
    go_wp2_with fail
    go_at_call 31
    refine (fine_any _ _ _ (HI0.out.below HB7.out) HZ.out (HT0.out.below HB7.out)).mono ?_
    rintro e w8 ⟨rfl, hb8⟩
    rw [HG.out]
    have HRB8 := Lib.hid (HRB.out.below hb8 HRB.out.lt)
    have HX8 := Lib.hid (HX.out.below hb8)
    have g0 := HRB8.out.cell (i := 0) rfl
    have g1 := HRB8.out.cell (i := 1) rfl
    have HB8 := Lib.hid (HB7.out.trans (hb8.mono HB7.out.size))
    clear hb8
    have R8 := HR.out.below HB8.out HR.out.lt
    have d4 := R8.cell (i := 0) rfl
    have d5 := R8.cell (i := 1) rfl
    clear R8
    have B8 : Below w8.heap.size w8 w8.drew := (Below.refl _ _).drew
    have HOLD := Lib.hid HN.out.old
    go_wp2_with fail
    go_region_law (first
      | (go_simp; go_at_call 29; refine (ownT_any _).mono ?_; rintro e w9 ⟨rfl, hb9⟩; have hb := B8.trans (hb9.mono B8.size); have HB9 := Lib.hid (HB8.out.trans (hb.mono HB8.out.size)); have HX9 := Lib.hid (HX8.out.below hb); have R9 := HR.out.below HB9.out HR.out.lt; have d6 := R9.cell (i := 0) rfl; have d7 := R9.cell (i := 1) rfl; clear hb9 hb R9)
      | (go_simp; go_at_call 32; refine (IsNarrow_true _ _ _ _ _ (HGR.out.below HB9.out) HX9.out (HT0.out.below HB9.out) HD.out HOLD.out HAP.out).mono ?_; rintro e w10 ⟨rfl, hb10⟩; have HB10 := Lib.hid (HB9.out.trans (hb10.mono HB9.out.size)); clear hb10)
      | (go_simp; go_at_call 18; refine (awake_any _).mono ?_; rintro e w11 ⟨rfl, hb11⟩; have HB11 := Lib.hid (HB10.out.trans (hb11.mono HB10.out.size)); clear hb11))
    all_goals
      go_wp2_with fail
      go_ret
      exact ⟨rfl, HBW.out.trans (HB11.out.mono HBW.out.size)⟩

theorem WidthNarrows_walk (n m q : Nat) (z y p : Nat → Int) (v vb vp : Value) (w : World) (hA : SliceArg w v n z) (hz : InI64 z) (hB : SliceArg w vb m y) (hC : SliceArg w vp q p) :
    Calls Try.prog 5 #[v, .agg #[vb, vp]] w fun e w' => e = .returned (.bool true) ∧ Below w.heap.size w w' := by
  cases hg : (graphB n 9 z && decB n (natG z) m q y p)
  · exact WidthNarrows_no n m q z y p v vb vp w hA hz hB hC hg
  · exact WidthNarrows_yes n m q z y p v vb vp w hA hz hB hC hg

end Go.Proofs.Ytombmfphodikjaa
