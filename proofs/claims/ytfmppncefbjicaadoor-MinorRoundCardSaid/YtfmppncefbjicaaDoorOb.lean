/- Package minor: what reductions leave: newRest, step. Package minor: reductions: firstStep. -/
import Derived.Test.YtfmppncefbjicaaDoorMl
import Derived.Test.YtfmppncefbjicaaDoorMw
import Derived.Test.YtfmppncefbjicaaDoorMy
import Derived.Laws.ResultCell
namespace Go.Proofs.YtfmppncefbjicaaDoor
set_option linter.unusedSimpArgs false
set_option linter.unusedVariables false
open Go.RowKit Go.Maps
attribute [local go_sem] i64_bit toNat_eq_one toNat_ne_one toNat_eq_zero toNat_ne_zero i64_and i64_or i64_andNot i64_or_pow i64_andNot_pow

/-- What reductions leave, in blocks of their own: the nodes, the neighbours of each. -/
structure RestAt (w : World) (pb g c base n : Nat) (f : Nat → Nat) (left : Nat) : Prop where
  row : Row w pb 118 [.slice (some ⟨g, 0, none⟩) n c, .int .i64 left]
  near : GOwn w base (.slice (some ⟨g, 0, none⟩) n c) n f
theorem RestAt.below {w w' : World} {pb g c base n left : Nat} {f : Nat → Nat} (h : RestAt w pb g c base n f left) (hb : Below w.heap.size w w') : RestAt w' pb g c base n f left :=
  ⟨h.row.below hb h.row.lt, ownsRow_below h.near hb (Nat.le_refl _)⟩

set_option maxRecDepth 20000 in
set_option maxHeartbeats 1000000 in
theorem newRest_any {n : Nat} {r : Nat → Nat} {a : Option Addr} {w : World} (T : Tn w a n r) (cap : Nat) :
    Calls Tryd.prog 94 #[.slice a n cap] w fun e w' => ∃ pb g c, e = .returned (.pointer (some ⟨pb, 0, none⟩)) ∧ RestAt w' pb g c w.heap.size n r (2 ^ n - 1) ∧ w.heap.size ≤ pb ∧ w.heap.size ≤ g ∧ Below w.heap.size w w' := by
  have hn8 := T.le
  have hn1 := T.at_.pos
  obtain ⟨bt, ot, rfl, hbt, hct⟩ := T.at_.ints.2 hn1
  have HCL := Lib.hid (CloneT_own (n := n) (cap := cap) (f := r) (by omega) hn1 hbt hct)
  clear T hct
  go_enter Tryd.func94, Tryd.ntmps94
  go_wp2_with fail
  go_at_call 101
  refine (HCL.out).mono ?_
  rintro e w1 ⟨v, rfl, ho, hb1⟩
  obtain ⟨g, c, rfl, hg1, hg2⟩ := own_form' ho (by omega)
  have HO := Lib.hid ho
  have HB1 := Lib.hid hb1
  clear ho hb1
  go_wp2_with (go_at_call 85; refine (all_any _ _ _ _ (by omega)).mono ?_; rintro e w2 ⟨rfl, rfl⟩)
  go_ret
  have hr := Row.new w1 118 [.slice (some ⟨g, 0, none⟩) n c, .int .i64 (2 ^ n - 1 : Nat)]
  have hba : Below w1.heap.size w1 (w1.alloc (.cells #[.slice (some ⟨g, 0, none⟩) n c, .int .i64 (2 ^ n - 1 : Nat)] 118)) := (Below.refl _ _).alloc (Nat.le_refl _) _
  exact ⟨w1.heap.size, g, c, rfl, ⟨hr, ownsRow_below HO.out hba (Nat.le_refl _)⟩, HB1.out.size, hg1, HB1.out.trans (hba.mono HB1.out.size)⟩

/-- The reduction of a node: its kind, itself, its neighbours. -/
structure StpV where
  kind : Nat
  node : Nat
  a : Int
  b : Int
def stpV (x : StpV) : List Value := [.int .i64 x.kind, .int .i64 x.node, .int .i64 x.a, .int .i64 x.b]
def zeroV : List Value := [.int .i64 0, .int .i64 0, .int .i64 0, .int .i64 0]
def stpN (n : Nat) (f : Nat → Nat) (v : Nat) : StpV := ⟨szS n (f v), v, if szS n (f v) = 0 then -1 else (lowN (f v) : Nat), if szS n (f v) = 2 then (lowN (diff (f v) (2 ^ lowN (f v))) : Nat) else -1⟩
def stpB (n : Nat) (f : Nat → Nat) (left : Nat) (v : Int) : Bool := inB v n && (left.testBit v.toNat && decide (szS n (f v.toNat) ≤ 2))
def stpO' (n : Nat) (f : Nat → Nat) (left : Nat) (v : Int) : Value := if stpB n f left v then .agg (stpV (stpN n f v.toNat)).toArray else .agg zeroV.toArray
theorem results_step {tmps : Array Value} {W : World} {g : Nat} {q : List Value} {u : Value} (hp : tmps.getD 4 undef = ptrV g) (hg : Row W g 88 q) (hq : q.length = 4) (hu : tmps.getD 5 undef = u) :
    (results Tryd.f97 tmps).run Tryd.prog W = .ok (.tuple #[.agg q.toArray, u]) W := by
  rw [results_cell_tmp (p := 4) (u := 5) (ty := 88) rfl, hp, hu]
  have h := run_loadVar_row (P := Tryd.prog) W g 88 88 q.toArray (0, 0) _ hg Tryd.underlying88 rfl (by rw [show q.toArray.size = 4 by simp [hq]]; kernel_rfl)
  simp [asAddr, Result.andThen, h]
/-- A graph without edges at a node. -/
theorem sz_zero {n s : Nat} (hs : s < 2 ^ n) (h : szS n s = 0) : s = 0 := by
  apply Classical.byContradiction
  intro h0
  have := sz_pos0 (Nat.pos_of_ne_zero h0) hs
  omega

set_option maxRecDepth 20000 in
set_option maxHeartbeats 4000000 in
theorem step_any {n pb g c base left : Nat} {f : Nat → Nat} {w : World} (R : RestAt w pb g c base n f left) (hn8 : n ≤ 8) (hl : left < 2 ^ n) (hf : ∀ i, i < n → f i < 2 ^ n) (hT : Tab w) (v : Int) :
    Calls Tryd.prog 97 #[ptrV pb, .int .i64 v] w fun e w' => e = .returned (.tuple #[stpO' n f left v, .bool (stpB n f left v)]) ∧ Below w.heap.size w w' := by
  have HIN := Lib.hid (fun w' => isNode_any (some ⟨g, 0, none⟩) n c v w' (by omega))
  obtain ⟨w0, hw0, r0, hb0, hs0⟩ := new1 w 88 [.int .i64 0, .int .i64 0, .int .i64 0, .int .i64 0]
  have R0 := R.below hb0
  have cN := R0.row.cell (i := 0) rfl
  have cL := R0.row.cell (i := 1) rfl
  have HB0 := Lib.hid hb0
  have HR0 := Lib.hid r0
  have HST : Hid (stpB n f left v = (inB v n && (left.testBit v.toNat && decide (szS n (f v.toNat) ≤ 2)))) := Lib.hid rfl
  have HSO : Hid (stpO' n f left v = if stpB n f left v then .agg (stpV (stpN n f v.toNat)).toArray else .agg zeroV.toArray) := Lib.hid rfl
  obtain ⟨ok, hok⟩ : ∃ ok, ok = stpB n f left v := ⟨_, rfl⟩
  obtain ⟨ov, hov⟩ : ∃ ov, ov = stpO' n f left v := ⟨_, rfl⟩
  rw [← hok] at HST HSO ⊢
  rw [← hov] at HSO ⊢
  clear R hb0 r0 hok hov
  cases hi : inB v n
  · rw [hi] at HIN
    have HNO : Hid (ok = false) := Lib.hid (by rw [HST.out, hi]; rfl)
    have HZV : Hid (ov = .agg zeroV.toArray) := Lib.hid (by rw [HSO.out, HNO.out]; rfl)
    clear hi
    rw [hw0] at cN cL
    go_enter Tryd.func97, Tryd.ntmps97
    go_wp2_with (go_at_call 78; refine (HIN.out _).mono ?_; rintro e w2 ⟨rfl, rfl⟩)
    rw [← hw0]
    refine bodyPost_ret (results_step (g := w.heap.size) rfl HR0.out rfl rfl) rfl ⟨by rw [HNO.out, HZV.out]; rfl, HB0.out⟩
  · obtain ⟨h0, h1⟩ := inB_iff.1 hi
    obtain ⟨s, rfl⟩ : ∃ s : Nat, v = s := ⟨v.toNat, by omega⟩
    have hsn : s < n := by omega
    have cG := R0.near.at_ hsn
    rw [hi] at HIN
    rw [Int.toNat_natCast] at HST HSO
    have h8 := pow_le8 hn8
    have hs64 : s < 64 := by omega
    have hfs := hf s hsn
    have HHA := Lib.hid (fun w' => has_any left s w' (by omega) hs64)
    have HCO := Lib.hid (fun w' => count_any (show n ≤ 9 by omega) (f s) hfs w')
    have HB2 : Hid (ok = (left.testBit s && decide (szS n (f s) ≤ 2))) := Lib.hid (by rw [HST.out, hi, Bool.true_and])
    clear hi h0 h1
    cases hb : left.testBit s
    · rw [hb] at HHA
      have HNO : Hid (ok = false) := Lib.hid (by rw [HB2.out, hb]; rfl)
      have HZV : Hid (ov = .agg zeroV.toArray) := Lib.hid (by rw [HSO.out, HNO.out]; rfl)
      clear hb
      rw [hw0] at cN cL cG
      go_enter Tryd.func97, Tryd.ntmps97
      go_wp2_with (first
        | (go_at_call 78; refine (HIN.out _).mono ?_; rintro e w2 ⟨rfl, rfl⟩)
        | (go_at_call 92; refine (HHA.out _).mono ?_; rintro e w2 ⟨rfl, rfl⟩))
      rw [← hw0]
      refine bodyPost_ret (results_step (g := w.heap.size) rfl HR0.out rfl rfl) rfl ⟨by rw [HNO.out, HZV.out]; rfl, HB0.out⟩
    · rw [hb] at HHA
      rw [hb, Bool.true_and] at HB2
      clear hb
      by_cases hk : szS n (f s) ≤ 2
      · have HYS : Hid (ok = true) := Lib.hid (by rw [HB2.out, decide_eq_true hk])
        obtain ⟨k, hke⟩ : ∃ k, k = szS n (f s) := ⟨_, rfl⟩
        have HOV : Hid (ov = .agg #[.int .i64 k, .int .i64 s, .int .i64 (if k = 0 then -1 else (lowN (f s) : Nat)), .int .i64 (if k = 2 then (lowN (diff (f s) (2 ^ lowN (f s))) : Nat) else -1)]) := Lib.hid (by rw [HSO.out, HYS.out, hke]; rfl)
        rw [← hke] at hk HCO
        have d1 : decide ((k : Int) > 2) = false := decide_eq_false (by omega)
        have d2 : decide ((2 : Int) < (k : Int)) = false := decide_eq_false (by omega)
        have d3 : decide (2 < k) = false := decide_eq_false (by omega)
        have e0 : w0.heap.size = w.heap.size + 1 := by rw [hw0]; simp
        rcases (show k = 0 ∨ k = 1 ∨ k = 2 by omega) with rfl | rfl | rfl
        · obtain ⟨wf, hwf, r2, r3, hbf, hsf⟩ := new2 w 88 88 [.int .i64 0, .int .i64 s, .int .i64 (-1), .int .i64 (-1)] [.int .i64 0, .int .i64 s, .int .i64 (-1), .int .i64 (-1)]
          have HRF := Lib.hid r2
          have HBF := Lib.hid hbf
          clear r2 r3 hbf R0 hke
          rw [hw0] at cN cL cG
          clear hw0
          go_enter Tryd.func97, Tryd.ntmps97
          go_wp2_with (first
            | (go_at_call 78; refine (HIN.out _).mono ?_; rintro e w2 ⟨rfl, rfl⟩)
            | (go_at_call 92; refine (HHA.out _).mono ?_; rintro e w2 ⟨rfl, rfl⟩)
            | (go_at_call 108; refine (HCO.out _).mono ?_; rintro e w2 ⟨rfl, rfl⟩))
          rw [← hwf]
          exact bodyPost_ret (results_step (g := w.heap.size) rfl HRF.out rfl rfl) rfl ⟨by rw [HYS.out, HOV.out]; rfl, HBF.out⟩
        · obtain ⟨w1, hw1, r1, hb1, hs1⟩ := new1 w0 88 [.int .i64 1, .int .i64 s, .int .i64 (-1), .int .i64 (-1)]
          have R1 := R0.below hb1
          have cN1 := R1.row.cell (i := 0) rfl
          have cL1 := R1.row.cell (i := 1) rfl
          have cG1 := R1.near.at_ hsn
          rw [e0] at r1
          have hpos : 0 < f s := by
            apply Nat.pos_of_ne_zero
            intro h0
            have h9 : szS n 0 = 0 := by unfold szS; rw [List.countP_eq_zero]; simp
            rw [h0, h9] at hke; cases hke
          have HFI := Lib.hid (first_any (f s) (by omega) hpos w1 (hT.below (HB0.out.trans (hb1.mono HB0.out.size))))
          obtain ⟨A, hA⟩ : ∃ A, A = lowN (f s) := ⟨_, rfl⟩
          rw [← hA] at HFI HOV
          obtain ⟨wf, hwf, r2, r3, hbf, hsf⟩ := new2 w 88 88 [.int .i64 1, .int .i64 s, .int .i64 A, .int .i64 (-1)] [.int .i64 1, .int .i64 s, .int .i64 A, .int .i64 (-1)]
          have HRF := Lib.hid r2
          have HBF := Lib.hid hbf
          clear r1 r2 r3 hbf hb1 hs1 R0 R1 hke hA
          rw [hw1, hw0] at cN1 cL1 cG1 HFI
          rw [hw0] at cN cL cG
          clear hw1 hw0
          go_enter Tryd.func97, Tryd.ntmps97
          go_wp2_with (first
            | (go_at_call 78; refine (HIN.out _).mono ?_; rintro e w2 ⟨rfl, rfl⟩)
            | (go_at_call 92; refine (HHA.out _).mono ?_; rintro e w2 ⟨rfl, rfl⟩)
            | (go_at_call 108; refine (HCO.out _).mono ?_; rintro e w2 ⟨rfl, rfl⟩)
            | (go_at_call 105; refine HFI.out.mono ?_; rintro e w2 ⟨rfl, rfl⟩))
          rw [← hwf]
          exact bodyPost_ret (results_step (g := w.heap.size) rfl HRF.out rfl rfl) rfl ⟨by rw [HYS.out, HOV.out]; rfl, HBF.out⟩
        · obtain ⟨w1, hw1, r1, hb1, hs1⟩ := new1 w0 88 [.int .i64 2, .int .i64 s, .int .i64 (-1), .int .i64 (-1)]
          have R1 := R0.below hb1
          have cN1 := R1.row.cell (i := 0) rfl
          have cL1 := R1.row.cell (i := 1) rfl
          have cG1 := R1.near.at_ hsn
          rw [e0] at r1
          have hpos : 0 < f s := by
            apply Nat.pos_of_ne_zero
            intro h0
            have h9 : szS n 0 = 0 := by unfold szS; rw [List.countP_eq_zero]; simp
            rw [h0, h9] at hke; cases hke
          have hT1 := hT.below (HB0.out.trans (hb1.mono HB0.out.size))
          have HFI := Lib.hid (first_any (f s) (by omega) hpos w1 hT1)
          have hAn := lowN_ltm hn8 hpos hfs
          obtain ⟨_, hAb, _⟩ := lowN_all (f s) (by omega) hpos
          obtain ⟨A, hA⟩ : ∃ A, A = lowN (f s) := ⟨_, rfl⟩
          rw [← hA] at HFI HOV hAn hAb
          have hA16 : A < 16 := by omega
          have hdp : 0 < diff (f s) (2 ^ A) := by
            apply Nat.pos_of_ne_zero
            intro h0
            have h9 := szS_cov1 (n := n) (m := 0) (A := f s) (B := 0) A id (fun x _ hx => by
              by_cases e : x = A
              · exact Or.inl e
              · have := congrArg (fun q => q.testBit x) h0
                rw [show (diff (f s) (2 ^ A)).testBit x = true by rw [testBit_diff, hx, Nat.testBit_two_pow, decide_eq_false (Ne.symm e)]; rfl] at this
                simp at this)
            have h10 : szS 0 0 = 0 := rfl
            omega
          have hdl : diff (f s) (2 ^ A) < 2 ^ n := Nat.lt_of_le_of_lt (diff_le _ _) hfs
          obtain ⟨w2', hw2', r2', hb2', hs2'⟩ := new1 w0 88 [.int .i64 2, .int .i64 s, .int .i64 A, .int .i64 (-1)]
          have R2 := R0.below hb2'
          have cN2 := R2.row.cell (i := 0) rfl
          have cG2 := R2.near.at_ hsn
          rw [e0] at r2'
          have cA2 := r2'.cell (i := 2) rfl
          have f32 := r2'.free 3
          have l2' := r2'.lt
          have HF2 := Lib.hid (fun k => first_any (diff (f s) (2 ^ A)) (by omega) hdp (w2'.drewN k) (hT.below (below_drewN (HB0.out.trans (hb2'.mono HB0.out.size)) k)))
          obtain ⟨D, hD⟩ : ∃ D, D = lowN (diff (f s) (2 ^ A)) := ⟨_, rfl⟩
          rw [← hD] at HF2 HOV
          have hpA := pow_bd A hA16
          have hfs16 : f s < 65536 := by omega
          have han := i64_andNot_pow (f s) A hfs16 hA16
          obtain ⟨w3', hw3', r3', _, _⟩ := new2 w 88 88 [.int .i64 0, .int .i64 0, .int .i64 0, .int .i64 0] [.int .i64 2, .int .i64 s, .int .i64 A, .int .i64 (-1)]
          have HW2 : Hid (w2' = w3') := Lib.hid (by rw [hw2', hw3', hw0])
          have HR2 := Lib.hid r2'
          have HB2' := Lib.hid (HB0.out.trans (hb2'.mono HB0.out.size))
          have HRZ := Lib.hid (HR0.out.below hb2' HR0.out.lt)
          clear r1 r3' hb1 hs1 R0 R1 R2 hke hA hD hb2' r2' hT1
          rw [hw1, hw0] at cN1 cL1 cG1 HFI
          rw [hw0] at cN cL cG
          clear hw1 hw0 hw2'
          go_enter Tryd.func97, Tryd.ntmps97
          go_wp2_with (first
            | (go_at_call 78; refine (HIN.out _).mono ?_; rintro e w2 ⟨rfl, rfl⟩)
            | (go_at_call 92; refine (HHA.out _).mono ?_; rintro e w2 ⟨rfl, rfl⟩)
            | (go_at_call 108; refine (HCO.out _).mono ?_; rintro e w2 ⟨rfl, rfl⟩)
            | (go_at_call 105; refine HFI.out.mono ?_; rintro e w2 ⟨rfl, rfl⟩))
          rw [← hw3', ← HW2.out]
          have HF3 : Hid (∀ k, Calls Tryd.prog 105 #[.int .i64 (diff (f s) (2 ^ A) : Nat)] (w2'.drewN k) fun e w'' => e = .returned (.int .i64 (D : Nat)) ∧ w'' = w2'.drewN k) := Lib.hid fun k => (HF2.out k).mono fun _ _ ⟨a, b⟩ => ⟨a, b.symm⟩
          have hwr : IntKind.i64.wrap ((2 : Int) ^ A) = 2 ^ A := IntWalk.i64_in _ (by omega)
          clear hw3'
          refine wp_region_still_tail 13 (by kernel_rfl) (by kernel_rfl) ?_
          simp only [List.take_succ_cons, List.take_zero, List.drop_succ_cons, List.drop_zero]
          repeat still_step
          still_call (HF3.out 1)
          repeat still_step
          refine wpStill_nil ?_
          change wpList _ _ _ _ _ w2'.drew
          obtain ⟨wd, hwd⟩ : ∃ x, x = w2'.drew := ⟨_, rfl⟩
          have q6 : Row wd (w.heap.size + 1) 88 [.int .i64 2, .int .i64 s, .int .i64 A, .int .i64 (-1)] := by rw [hwd]; exact HR2.out.drewN 1
          have q4 : Row wd w.heap.size 88 [.int .i64 0, .int .i64 0, .int .i64 0, .int .i64 0] := by rw [hwd]; exact HRZ.out.drewN 1
          have HBD : Hid (Below w.heap.size w wd) := Lib.hid (by rw [hwd]; exact below_drewN HB2'.out 1)
          rw [← hwd]
          have f63 := q6.free 3
          have c63 := q6.cell (i := 3) rfl
          have l6 := q6.lt
          have s6 := q6.set 3 (.int .i64 D)
          have s4 := q4.other (a := ⟨w.heap.size + 1, 3, none⟩) (by simp) (.int .i64 D)
          have hbs := (HBD.out.setCell (p := ⟨w.heap.size + 1, 3, none⟩) (by simp) (.int .i64 D))
          clear hwd cN1 cL1 cG1 cN cL cG cN2 cG2 cA2 f32 l2'
          obtain ⟨x0, hx0⟩ : ∃ x, wd.setCell ⟨w.heap.size + 1, 3, none⟩ (.int .i64 D) = x := ⟨_, rfl⟩
          rw [hx0] at s6 s4 hbs
          have k0 := s6.cell (i := 0) rfl
          have k1 := s6.cell (i := 1) rfl
          have k2 := s6.cell (i := 2) rfl
          have k3 := s6.cell (i := 3) rfl
          have l4 := s4.lt
          have u0 := s4.free 0
          have j0 := s4.cell (i := 0) rfl
          have t1 := s4.set 0 (.int .i64 2)
          have hb1 := hbs.setCell (p := ⟨w.heap.size, 0, none⟩) (Nat.le_refl _) (.int .i64 2)
          obtain ⟨x1, hx1⟩ : ∃ x, x0.setCell ⟨w.heap.size, 0, none⟩ (.int .i64 2) = x := ⟨_, rfl⟩
          rw [hx1] at t1 hb1
          have l41 := t1.lt
          have u1 := t1.free 1
          have j1 := t1.cell (i := 1) rfl
          have t2 := t1.set 1 (.int .i64 s)
          have hb2 := hb1.setCell (p := ⟨w.heap.size, 1, none⟩) (Nat.le_refl _) (.int .i64 s)
          obtain ⟨x2, hx2⟩ : ∃ x, x1.setCell ⟨w.heap.size, 1, none⟩ (.int .i64 s) = x := ⟨_, rfl⟩
          rw [hx2] at t2 hb2
          have l42 := t2.lt
          have u2 := t2.free 2
          have j2 := t2.cell (i := 2) rfl
          have t3 := t2.set 2 (.int .i64 A)
          have hb3 := hb2.setCell (p := ⟨w.heap.size, 2, none⟩) (Nat.le_refl _) (.int .i64 A)
          obtain ⟨x3, hx3⟩ : ∃ x, x2.setCell ⟨w.heap.size, 2, none⟩ (.int .i64 A) = x := ⟨_, rfl⟩
          rw [hx3] at t3 hb3
          have l43 := t3.lt
          have u3 := t3.free 3
          have j3 := t3.cell (i := 3) rfl
          have t4 := t3.set 3 (.int .i64 D)
          have hb4 := hb3.setCell (p := ⟨w.heap.size, 3, none⟩) (Nat.le_refl _) (.int .i64 D)
          obtain ⟨x4, hx4⟩ : ∃ x, x3.setCell ⟨w.heap.size, 3, none⟩ (.int .i64 D) = x := ⟨_, rfl⟩
          rw [hx4] at t4 hb4
          have HT4 := Lib.hid t4
          have HBT := Lib.hid hb4
          clear t1 t2 t3 t4 s4 s6 q4 q6 hb1 hb2 hb3 hb4 hbs
          go_wp2_with fail
          exact bodyPost_ret (results_step (g := w.heap.size) rfl HT4.out rfl rfl) rfl ⟨by rw [HYS.out, HOV.out]; rfl, HBT.out⟩
      · have HNO : Hid (ok = false) := Lib.hid (by rw [HB2.out, decide_eq_false hk])
        have HZV : Hid (ov = .agg zeroV.toArray) := Lib.hid (by rw [HSO.out, HNO.out]; rfl)
        generalize szS n (f s) = k at *
        have d1 : decide ((k : Int) > 2) = true := decide_eq_true (by omega)
        have d2 : decide ((2 : Int) < (k : Int)) = true := decide_eq_true (by omega)
        have d3 : decide (2 < k) = true := decide_eq_true (by omega)
        obtain ⟨wf, hwf, r2, r3, hbf, hsf⟩ := new2 w 88 88 [.int .i64 0, .int .i64 0, .int .i64 0, .int .i64 0] [.int .i64 k, .int .i64 s, .int .i64 (-1), .int .i64 (-1)]
        have HRF := Lib.hid r2
        have HBF := Lib.hid hbf
        clear r2 r3 hbf R0
        rw [hw0] at cN cL cG
        clear hw0
        go_enter Tryd.func97, Tryd.ntmps97
        go_wp2_with (first
          | (go_at_call 78; refine (HIN.out _).mono ?_; rintro e w2 ⟨rfl, rfl⟩)
          | (go_at_call 92; refine (HHA.out _).mono ?_; rintro e w2 ⟨rfl, rfl⟩)
          | (go_at_call 108; refine (HCO.out _).mono ?_; rintro e w2 ⟨rfl, rfl⟩))
        rw [← hwf]
        exact bodyPost_ret (results_step (g := w.heap.size) rfl HRF.out rfl rfl) rfl ⟨by rw [HNO.out, HZV.out]; rfl, HBF.out⟩

end Go.Proofs.YtfmppncefbjicaaDoor

namespace Go.Proofs.YtfmppncefbjicaaDoor
set_option linter.unusedSimpArgs false
set_option linter.unusedVariables false
open Go.RowKit Go.Maps
attribute [local go_sem] i64_bit toNat_eq_one toNat_ne_one toNat_eq_zero toNat_ne_zero i64_and i64_or i64_andNot i64_or_pow i64_andNot_pow

/-- Four values written into a block. -/
theorem put4 {w : World} {b : Nat} {T : TypeId} {v0 v1 v2 v3 : Value} (h : Row w b T [v0, v1, v2, v3]) (q0 q1 q2 q3 : Value) : ∃ x0 x1 x2 x3 : World,
    (w.setCell ⟨b, 0, none⟩ q0 = x0 ∧ x0.setCell ⟨b, 1, none⟩ q1 = x1 ∧ x1.setCell ⟨b, 2, none⟩ q2 = x2 ∧ x2.setCell ⟨b, 3, none⟩ q3 = x3)
    ∧ (w.cell? ⟨b, 0, none⟩ = some v0 ∧ x0.cell? ⟨b, 1, none⟩ = some v1 ∧ x1.cell? ⟨b, 2, none⟩ = some v2 ∧ x2.cell? ⟨b, 3, none⟩ = some v3)
    ∧ (w.frozen? ⟨b, 0, none⟩ = false ∧ x0.frozen? ⟨b, 1, none⟩ = false ∧ x1.frozen? ⟨b, 2, none⟩ = false ∧ x2.frozen? ⟨b, 3, none⟩ = false)
    ∧ (b < w.heap.size ∧ b < x0.heap.size ∧ b < x1.heap.size ∧ b < x2.heap.size)
    ∧ Row x3 b T [q0, q1, q2, q3] ∧ (∀ B w0, B ≤ b → Below B w0 w → Below B w0 x3) ∧ (∀ b' T' L, b' ≠ b → Row w b' T' L → Row x3 b' T' L) ∧ ∀ B, KeepsFrom B w x3 := by
  refine ⟨_, _, _, _, ⟨rfl, rfl, rfl, rfl⟩, ⟨h.cell (i := 0) rfl, (h.set 0 q0).cell (i := 1) rfl, ((h.set 0 q0).set 1 q1).cell (i := 2) rfl, (((h.set 0 q0).set 1 q1).set 2 q2).cell (i := 3) rfl⟩,
    ⟨h.free 0, (h.set 0 q0).free 1, ((h.set 0 q0).set 1 q1).free 2, (((h.set 0 q0).set 1 q1).set 2 q2).free 3⟩,
    ⟨h.lt, (h.set 0 q0).lt, ((h.set 0 q0).set 1 q1).lt, (((h.set 0 q0).set 1 q1).set 2 q2).lt⟩,
    (((h.set 0 q0).set 1 q1).set 2 q2).set 3 q3, ?_, ?_, ?_⟩
  · intro B w0 hb hw
    exact (((hw.setCell (p := ⟨b, 0, none⟩) hb q0).setCell (p := ⟨b, 1, none⟩) hb q1).setCell (p := ⟨b, 2, none⟩) hb q2).setCell (p := ⟨b, 3, none⟩) hb q3
  · intro b' T' L hne hr
    exact (((hr.other hne q0).other hne q1).other hne q2).other hne q3
  · intro B
    exact (((keeps_set B w b 0 q0).trans (keeps_set B _ b 1 q1)).trans (keeps_set B _ b 2 q2)).trans (keeps_set B _ b 3 q3)

theorem stpO_form (n : Nat) (f : Nat → Nat) (left : Nat) (v : Int) : ∃ k u a b : Int, stpO' n f left v = .agg #[.int .i64 k, .int .i64 u, .int .i64 a, .int .i64 b] := by
  unfold stpO'
  split
  · exact ⟨_, _, _, _, rfl⟩
  · exact ⟨0, 0, 0, 0, rfl⟩

theorem bitsOf_before {s x u : Nat} {pre0 : List Nat} (h : pre0 ++ [x] <+: bitsOf s) (hu : u < x) (hs : s.testBit u = true) (h10 : u < 10) : u ∈ pre0 := by
  obtain ⟨t, ht⟩ := h
  have hm : u ∈ bitsOf s := mem_bitsOf.2 ⟨h10, hs⟩
  have hsort : (bitsOf s).Pairwise (· < ·) := List.Pairwise.filter _ List.pairwise_lt_range
  rw [← ht] at hm hsort
  rcases List.mem_append.1 hm with h1 | h1
  · rcases List.mem_append.1 h1 with h2 | h2
    · exact h2
    · rw [List.mem_singleton.1 h2] at hu; omega
  · have := (List.pairwise_append.1 hsort).2.2 x (by simp) u h1
    omega

/-- What firstStep answers. -/
def FirstPost (n : Nat) (f : Nat → Nat) (left : Nat) (e : Ending) : Prop :=
  (∃ x : Nat, x < n ∧ stpB n f left x = true ∧ (∀ u : Nat, u < x → stpB n f left u = false) ∧ e = .returned (.tuple #[stpO' n f left x, .bool true])) ∨
  ((∀ u : Nat, stpB n f left u = false) ∧ e = .returned (.tuple #[.agg zeroV.toArray, .bool false]))

theorem results_cell_cell {fn : Func} {p u : Tmp} {ty ty2 : TypeId} (h : fn.results = #[.cell p ty, .cell u ty2]) (tmps : Array Value) (P : Program) (w : World) :
    (results fn tmps).run P w =
      ((asAddr (tmps.getD p undef)).run P w).andThen fun a w1 => ((loadVar ty a).run P w1).andThen fun v w2 => ((asAddr (tmps.getD u undef)).run P w2).andThen fun a2 w3 => ((loadVar ty2 a2).run P w3).andThen fun v2 w4 => .ok (.tuple #[v, v2]) w4 := by
  simp only [results, h]
  simp [Sem.run_bind, Result.andThen]
theorem results_first {tmps : Array Value} {W : World} {g1 g2 : Nat} {q : List Value} {ok : Bool} (hp : tmps.getD 2 undef = ptrV g1) (h3 : tmps.getD 3 undef = ptrV g2) (hg : Row W g1 88 q) (hq : q.length = 4) (hk : Row W g2 4 [.bool ok]) :
    (results Tryd.f95 tmps).run Tryd.prog W = .ok (.tuple #[.agg q.toArray, .bool ok]) W := by
  have h := run_loadVar_row (P := Tryd.prog) W g1 88 88 q.toArray (0, 0) _ hg Tryd.underlying88 rfl (by rw [show q.toArray.size = 4 by simp [hq]]; kernel_rfl)
  have c2 := hk.cell (i := 0) rfl
  rw [results_cell_cell (p := 2) (u := 3) (ty := 88) (ty2 := 4) rfl, hp, h3]
  generalize loadVar 88 = L at h
  simp [asAddr, Result.andThen, h, go_sem, c2]

section
attribute [local go_sem] Oper.semAt_some wide_fn wide_fn_in
set_option maxRecDepth 100000 in
set_option maxHeartbeats 4000000 in
theorem firstStep_any {n pb g c base left : Nat} {f : Nat → Nat} {w : World} (R : RestAt w pb g c base n f left) (hn8 : n ≤ 8) (hl : left < 2 ^ n) (hf : ∀ i, i < n → f i < 2 ^ n) (hT : Tab w) :
    Calls Tryd.prog 95 #[ptrV pb] w fun e w' => FirstPost n f left e ∧ Below w.heap.size w w' := by
  have h8 := pow_le8 hn8
  have HR := Lib.hid R
  have HT := Lib.hid hT
  have HF := Lib.hid hf
  refine (callsIn_wide (n := 9)).1 ?_
  refine callsIn_of_wp_marks Tryd.func95 rfl trivial ?_ rfl
  simp only [Tryd.ntmps95, List.size_toArray, List.length_cons, List.length_nil, Nat.reduceAdd, Nat.reduceSub, Array.replicate_succ, Array.replicate_zero, List.push_toArray, List.append_toArray, List.nil_append, List.cons_append]
  obtain ⟨w0, hw0, r1, r2, r3, hb0, hsz⟩ := new3 w 111 88 4 [ptrV pb] zeroV [.bool false]
  have hw0' := hw0
  unfold zeroV at hw0'
  have cl := (R.below hb0).row.cell (i := 1) rfl
  rw [hw0'] at cl
  clear R hT
  gi_wp2_with (gi_at_call 93; refine (callsIn_wide.2 (nodes_any _ _)).mono ?_; rintro e w1 ⟨rfl, rfl⟩)
  rw [← hw0']
  clear cl hw0'
  obtain ⟨w1, hw1, rs, hb1, hsz1⟩ := new1 w0 3 [.int .i64 left]
  have e0 : w0.heap.size = w.heap.size + 1 + 1 + 1 := by rw [hw0]; simp
  rw [← hw1]
  rw [e0] at rs hsz1
  clear hw1
  have d1 := r1.below hb1 r1.lt
  have d2 := r2.below hb1 r2.lt
  have d3 := r3.below hb1 r3.lt
  have hbw := hb0.trans (hb1.mono hb0.size)
  clear r1 r2 r3 hw0
  refine range_nodes (nodes_seq left (by omega) _ w1 hsz1 (rs.cell (i := 0) rfl) (HT.out.below hbw)) Tab.put (Below.refl _ _) rfl (enters_of Tryd.func109 (by kernel_rfl) rfl) rfl
    (fun pre W => (∀ u ∈ pre, stpB n f left (u : Nat) = false) ∧ Row W w.heap.size 111 [ptrV pb] ∧ Row W (w.heap.size + 1) 88 zeroV ∧ Row W (w.heap.size + 1 + 1) 4 [.bool false] ∧ Below w.heap.size w W)
    (fun c pre W => ∃ (pre0 : List Nat) (x : Nat) (q : List Value), c = .ret ∧ pre = pre0 ++ [x] ∧ (∀ u ∈ pre0, stpB n f left (u : Nat) = false) ∧ stpB n f left (x : Nat) = true ∧ q.length = 4 ∧ stpO' n f left (x : Nat) = .agg q.toArray ∧ Row W (w.heap.size + 1) 88 q ∧ Row W (w.heap.size + 1 + 1) 4 [.bool true] ∧ Below w.heap.size w W)
    ((ownFrom_pure _ _).and (((own_row _ _ _).from _).and (((own_row _ _ _).from _).and (((own_row _ _ _).from _).and (ownFrom_below (Nat.le_refl _) hbw.size)))))
    (fun c => ownFrom_ex fun pre0 => ownFrom_ex fun x => ownFrom_ex fun q => (ownFrom_pure _ _).and ((ownFrom_pure _ _).and ((ownFrom_pure _ _).and ((ownFrom_pure _ _).and ((ownFrom_pure _ _).and ((ownFrom_pure _ _).and (((own_row _ _ _).from _).and (((own_row _ _ _).from _).and (ownFrom_below (Nat.le_refl _) hbw.size)))))))))
    ⟨by simp, d1, d2, d3, hbw⟩ (fun _ W h => HT.out.below h.2.2.2.2) ?a1 ?assign ?body ?done ?stop
  case assign =>
    intro l x W K hx hK
    gi_wp2
    exact hK
  case body =>
    rintro l pre x W hx _ ⟨hp, o1, o2, o3, hB⟩
    have hxn := bitsOf_lt hl hx
    have HP := Lib.hid hp
    have HB := Lib.hid hB
    have HSP := Lib.hid (step_any (HR.out.below hB) hn8 hl HF.out (HT.out.below hB) x)
    obtain ⟨k, u, a, b, hov⟩ := stpO_form n f left x
    rw [hov] at HSP
    have HOV := Lib.hid hov
    have c1 := o1.cell (i := 0) rfl
    clear hp hB hov
    cases hk : stpB n f left x
    · rw [hk] at HSP
      have HK := Lib.hid hk
      have H1 := Lib.hid o1
      have H2 := Lib.hid o2
      have H3 := Lib.hid o3
      clear hk o1 o2 o3
      gi_wp2_with (gi_at_call 97; refine (CallsIn.inRound l (callsIn_wide.2 HSP.out)).mono ?_; rintro e W5 ⟨rfl, hb5⟩; obtain ⟨W6, hW6, r6, hb6, hs6⟩ := new1 W5 88 [.int .i64 k, .int .i64 u, .int .i64 a, .int .i64 b]; have HB6 := Lib.hid (hb5.trans (hb6.mono hb5.size)); have HW6 := Lib.hid hW6; have R6 := Lib.hid r6; clear hb5 hb6 hW6 r6)
      rw [← HW6.out]
      refine ⟨keeps_below HB6.out, fun y hy => ?_, H1.out.below HB6.out H1.out.lt, H2.out.below HB6.out H2.out.lt, H3.out.below HB6.out H3.out.lt, HB.out.trans (HB6.out.mono HB.out.size)⟩
      rcases List.mem_append.1 hy with h | h
      · exact HP.out y h
      · rw [List.mem_singleton.1 h]; exact HK.out
    · rw [hk] at HSP
      have HK := Lib.hid hk
      have H2 := Lib.hid o2
      have H3 := Lib.hid o3
      clear hk o1 o2 o3
      gi_wp2_with (gi_at_call 97; refine (CallsIn.inRound l (callsIn_wide.2 HSP.out)).mono ?_; rintro e W5 ⟨rfl, hb5⟩; obtain ⟨W6, hW6, r6, hb6, hs6⟩ := new1 W5 88 [.int .i64 k, .int .i64 u, .int .i64 a, .int .i64 b]; have hb56 := hb5.trans (hb6.mono hb5.size); have k0 := r6.cell (i := 0) rfl; have k1 := r6.cell (i := 1) rfl; have k2 := r6.cell (i := 2) rfl; have k3 := r6.cell (i := 3) rfl; have hW6' := hW6.symm; obtain ⟨x0, x1, x2, x3, ⟨g0, g1, g2, g3⟩, ⟨j0, j1, j2, j3⟩, ⟨u0, u1, u2, u3⟩, ⟨l0, l1, l2, l3⟩, hq, hbq, hoq, hkq⟩ := put4 (H2.out.below hb56 H2.out.lt) (.int .i64 k) (.int .i64 u) (.int .i64 a) (.int .i64 b); have p3 := hoq _ _ _ (by omega) (H3.out.below hb56 H3.out.lt); have m3 := p3.cell (i := 0) rfl; have n3 := p3.free 0; have l4 := p3.lt; have HB6 := Lib.hid hb56; have HQ := Lib.hid hq; have HBQ := Lib.hid hbq; have HKQ := Lib.hid hkq; have HP3 := Lib.hid p3; have HOQ := Lib.hid hoq; clear hb5 hb6 hW6 r6 hb56 hq hbq hoq hkq p3 hs6)
      exact ⟨((keeps_below HB6.out).trans (HKQ.out _)).trans (keeps_set _ _ _ _ _), pre, x, _, rfl, rfl, HP.out, HK.out, rfl, HOV.out, HQ.out.other (by simp) _, HP3.out.set 0 _, (HBQ.out _ _ (by omega) (HB.out.trans (HB6.out.mono HB.out.size))).setCell (p := ⟨w.heap.size + 1 + 1, 0, none⟩) (by simp; omega) _⟩
  case done =>
    rintro D W hD ⟨hp, o1, o2, o3, hB⟩ hK
    have HNO : Hid (∀ u : Nat, stpB n f left (u : Nat) = false) := Lib.hid fun u => by
      cases hb : stpB n f left (u : Nat)
      · rfl
      · have h1 := hb
        unfold stpB at h1
        simp only [Bool.and_eq_true] at h1
        have h2 := inB_iff.1 h1.1
        rw [hp u (mem_bitsOf.2 ⟨by omega, by simpa using h1.2.1⟩)] at hb
        cases hb
    have HKK := Lib.hid hK
    obtain ⟨x0, x1, x2, x3, ⟨g0, g1, g2, g3⟩, ⟨j0, j1, j2, j3⟩, ⟨u0, u1, u2, u3⟩, ⟨l0, l1, l2, l3⟩, hq, hbq, hoq, hkq⟩ := put4 o2 (.int .i64 0) (.int .i64 0) (.int .i64 0) (.int .i64 0)
    have p3 := hoq _ _ _ (by omega) o3
    have m3 := p3.cell (i := 0) rfl
    have n3 := p3.free 0
    have l4 := p3.lt
    have HB := Lib.hid hB
    have HQ := Lib.hid hq
    have HBQ := Lib.hid hbq
    have HKQ := Lib.hid hkq
    have HP3 := Lib.hid p3
    clear hp o1 o2 o3 hB hK hq hbq hoq hkq p3
    gi_wp2
    exact leaves_marks (B := w.heap.size) (ds := [markAt D]) ((Marks.one (Nat.le_trans hbw.size hD) HKK.out).keeps ((HKQ.out w.heap.size).trans (keeps_set _ _ _ _ _))) (fun w' hs => ⟨_, results_first rfl rfl (hs.row (HQ.out.other (by simp) _)) rfl (hs.row (HP3.out.set 0 _)), Or.inr ⟨HNO.out, rfl⟩, ((HBQ.out _ _ (by omega) HB.out).setCell (p := ⟨w.heap.size + 1 + 1, 0, none⟩) (by simp; omega) _).trans hs.below⟩)
  case stop =>
    rintro D c pre W hD hpre ⟨pre0, x, q, rfl, rfl, hp, hx, hq, hov, o2, o3, hB⟩ hK
    have hxm := hpre.subset (show x ∈ pre0 ++ [x] by simp)
    have hxn : x < n := bitsOf_lt hl hxm
    have HX := Lib.hid hx
    have HNO : Hid (∀ u : Nat, u < x → stpB n f left (u : Nat) = false) := Lib.hid fun u hu => by
      cases hb : stpB n f left (u : Nat)
      · rfl
      · have h1 := hb
        unfold stpB at h1
        simp only [Bool.and_eq_true] at h1
        have h2 := inB_iff.1 h1.1
        rw [hp u (bitsOf_before hpre hu (by simpa using h1.2.1) (by omega))] at hb
        cases hb
    have HOV := Lib.hid hov
    have H2 := Lib.hid o2
    have H3 := Lib.hid o3
    have HB := Lib.hid hB
    clear hp hx hov o2 o3 hB
    gi_wp2
    exact leaves_marks (B := w.heap.size) (ds := [markAt D]) (Marks.one (Nat.le_trans hbw.size hD) hK) (fun w' hs => ⟨_, results_first rfl rfl (hs.row H2.out) hq (hs.row H3.out), Or.inl ⟨x, hxn, HX.out, HNO.out, by rw [HOV.out]⟩, HB.out.trans hs.below⟩)
end

end Go.Proofs.YtfmppncefbjicaaDoor
