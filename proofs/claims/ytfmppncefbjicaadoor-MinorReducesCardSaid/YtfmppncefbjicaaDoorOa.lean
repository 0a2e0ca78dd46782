/- Package minor: what reductions leave: newRest, step. -/
import Derived.Test.YtfmppncefbjicaaDoorMl
import Derived.Test.YtfmppncefbjicaaDoorMw
import Derived.Test.YtfmppncefbjicaaDoorMy
import Derived.Laws.ResultCell
namespace Go.Proofs.YtfmppncefbjicaaDoor
set_option linter.unusedSimpArgs false
set_option linter.unusedVariables false
open Go.RowKit Go.Maps
attribute [local go_sem] i64_bit toNat_eq_one toNat_ne_one toNat_eq_zero toNat_ne_zero i64_and i64_or i64_andNot i64_or_pow i64_andNot_pow

/-- What reductions leave, in blocks of their own: the nodes, the neighbours of each. -/
structure RestAt (w : World) (pb g c base n : Nat) (f : Nat → Nat) (left : Nat) : Prop where
  row : Row w pb 118 [.slice (some ⟨g, 0, none⟩) n c, .int .i64 left]
  near : GOwn w base (.slice (some ⟨g, 0, none⟩) n c) n f
theorem RestAt.below {w w' : World} {pb g c base n left : Nat} {f : Nat → Nat} (h : RestAt w pb g c base n f left) (hb : Below w.heap.size w w') : RestAt w' pb g c base n f left :=
  ⟨h.row.below hb h.row.lt, ownsRow_below h.near hb (Nat.le_refl _)⟩

set_option maxRecDepth 20000 in
set_option maxHeartbeats 1000000 in
theorem newRest_any {n : Nat} {r : Nat → Nat} {a : Option Addr} {w : World} (T : Tn w a n r) (cap : Nat) :
    Calls Tryd.prog 94 #[.slice a n cap] w fun e w' => ∃ pb g c, e = .returned (.pointer (some ⟨pb, 0, none⟩)) ∧ RestAt w' pb g c w.heap.size n r (2 ^ n - 1) ∧ w.heap.size ≤ pb ∧ w.heap.size ≤ g ∧ Below w.heap.size w w' := by
  have hn8 := T.le
  have hn1 := T.at_.pos
  obtain ⟨bt, ot, rfl, hbt, hct⟩ := T.at_.ints.2 hn1
  have HCL := Lib.hid (CloneT_own (n := n) (cap := cap) (f := r) (by omega) hn1 hbt hct)
  clear T hct
  go_enter Tryd.func94, Tryd.ntmps94
  go_wp2_with fail
  go_at_call 101
  refine (HCL.out).mono ?_
  rintro e w1 ⟨v, rfl, ho, hb1⟩
  obtain ⟨g, c, rfl, hg1, hg2⟩ := own_form' ho (by omega)
  have HO := Lib.hid ho
  have HB1 := Lib.hid hb1
  clear ho hb1
  go_wp2_with (go_at_call 85; refine (all_any _ _ _ _ (by omega)).mono ?_; rintro e w2 ⟨rfl, rfl⟩)
  go_ret
  have hr := Row.new w1 118 [.slice (some ⟨g, 0, none⟩) n c, .int .i64 (2 ^ n - 1 : Nat)]
  have hba : Below w1.heap.size w1 (w1.alloc (.cells #[.slice (some ⟨g, 0, none⟩) n c, .int .i64 (2 ^ n - 1 : Nat)] 118)) := (Below.refl _ _).alloc (Nat.le_refl _) _
  exact ⟨w1.heap.size, g, c, rfl, ⟨hr, ownsRow_below HO.out hba (Nat.le_refl _)⟩, HB1.out.size, hg1, HB1.out.trans (hba.mono HB1.out.size)⟩

/-- The reduction of a node: its kind, itself, its neighbours. -/
structure StpV where
  kind : Nat
  node : Nat
  a : Int
  b : Int
def stpV (x : StpV) : List Value := [.int .i64 x.kind, .int .i64 x.node, .int .i64 x.a, .int .i64 x.b]
def zeroV : List Value := [.int .i64 0, .int .i64 0, .int .i64 0, .int .i64 0]
def stpN (n : Nat) (f : Nat → Nat) (v : Nat) : StpV := ⟨szS n (f v), v, if szS n (f v) = 0 then -1 else (lowN (f v) : Nat), if szS n (f v) = 2 then (lowN (diff (f v) (2 ^ lowN (f v))) : Nat) else -1⟩
def stpB (n : Nat) (f : Nat → Nat) (left : Nat) (v : Int) : Bool := inB v n && (left.testBit v.toNat && decide (szS n (f v.toNat) ≤ 2))
def stpO' (n : Nat) (f : Nat → Nat) (left : Nat) (v : Int) : Value := if stpB n f left v then .agg (stpV (stpN n f v.toNat)).toArray else .agg zeroV.toArray
theorem results_step {tmps : Array Value} {W : World} {g : Nat} {q : List Value} {u : Value} (hp : tmps.getD 4 undef = ptrV g) (hg : Row W g 88 q) (hq : q.length = 4) (hu : tmps.getD 5 undef = u) :
    (results Tryd.f97 tmps).run Tryd.prog W = .ok (.tuple #[.agg q.toArray, u]) W := by
  rw [results_cell_tmp (p := 4) (u := 5) (ty := 88) rfl, hp, hu]
  have h := run_loadVar_row (P := Tryd.prog) W g 88 88 q.toArray (0, 0) _ hg Tryd.underlying88 rfl (by rw [show q.toArray.size = 4 by simp [hq]]; kernel_rfl)
  simp [asAddr, Result.andThen, h]
/-- A graph without edges at a node. -/
theorem sz_zero {n s : Nat} (hs : s < 2 ^ n) (h : szS n s = 0) : s = 0 := by
  apply Classical.byContradiction
  intro h0
  have := sz_pos0 (Nat.pos_of_ne_zero h0) hs
  omega

set_option maxRecDepth 20000 in
set_option maxHeartbeats 4000000 in
theorem step_any {n pb g c base left : Nat} {f : Nat → Nat} {w : World} (R : RestAt w pb g c base n f left) (hn8 : n ≤ 8) (hl : left < 2 ^ n) (hf : ∀ i, i < n → f i < 2 ^ n) (hT : Tab w) (v : Int) :
    Calls Tryd.prog 97 #[ptrV pb, .int .i64 v] w fun e w' => e = .returned (.tuple #[stpO' n f left v, .bool (stpB n f left v)]) ∧ Below w.heap.size w w' := by
  have HIN := Lib.hid (fun w' => isNode_any (some ⟨g, 0, none⟩) n c v w' (by omega))
  obtain ⟨w0, hw0, r0, hb0, hs0⟩ := new1 w 88 [.int .i64 0, .int .i64 0, .int .i64 0, .int .i64 0]
  have R0 := R.below hb0
  have cN := R0.row.cell (i := 0) rfl
  have cL := R0.row.cell (i := 1) rfl
  have HB0 := Lib.hid hb0
  have HR0 := Lib.hid r0
  have HST : Hid (stpB n f left v = (inB v n && (left.testBit v.toNat && decide (szS n (f v.toNat) ≤ 2)))) := Lib.hid rfl
  have HSO : Hid (stpO' n f left v = if stpB n f left v then .agg (stpV (stpN n f v.toNat)).toArray else .agg zeroV.toArray) := Lib.hid rfl
  obtain ⟨ok, hok⟩ : ∃ ok, ok = stpB n f left v := ⟨_, rfl⟩
  obtain ⟨ov, hov⟩ : ∃ ov, ov = stpO' n f left v := ⟨_, rfl⟩
  rw [← hok] at HST HSO ⊢
  rw [← hov] at HSO ⊢
  clear R hb0 r0 hok hov
  cases hi : inB v n
  · rw [hi] at HIN
    have HNO : Hid (ok = false) := Lib.hid (by rw [HST.out, hi]; rfl)
    have HZV : Hid (ov = .agg zeroV.toArray) := Lib.hid (by rw [HSO.out, HNO.out]; rfl)
    clear hi
    rw [hw0] at cN cL
    go_enter Tryd.func97, Tryd.ntmps97
    go_wp2_with (go_at_call 78; refine (HIN.out _).mono ?_; rintro e w2 ⟨rfl, rfl⟩)
    rw [← hw0]
    refine bodyPost_ret (results_step (g := w.heap.size) rfl HR0.out rfl rfl) rfl ⟨by rw [HNO.out, HZV.out]; rfl, HB0.out⟩
  · obtain ⟨h0, h1⟩ := inB_iff.1 hi
    obtain ⟨s, rfl⟩ : ∃ s : Nat, v = s := ⟨v.toNat, by omega⟩
    have hsn : s < n := by omega
    have cG := R0.near.at_ hsn
    rw [hi] at HIN
    rw [Int.toNat_natCast] at HST HSO
    have h8 := pow_le8 hn8
    have hs64 : s < 64 := by omega
    have hfs := hf s hsn
    have HHA := Lib.hid (fun w' => has_any left s w' (by omega) hs64)
    have HCO := Lib.hid (fun w' => count_any (show n ≤ 9 by omega) (f s) hfs w')
    have HB2 : Hid (ok = (left.testBit s && decide (szS n (f s) ≤ 2))) := Lib.hid (by rw [HST.out, hi, Bool.true_and])
    clear hi h0 h1
    cases hb : left.testBit s
    · rw [hb] at HHA
      have HNO : Hid (ok = false) := Lib.hid (by rw [HB2.out, hb]; rfl)
      have HZV : Hid (ov = .agg zeroV.toArray) := Lib.hid (by rw [HSO.out, HNO.out]; rfl)
      clear hb
      rw [hw0] at cN cL cG
      go_enter Tryd.func97, Tryd.ntmps97
      go_wp2_with (first
        | (go_at_call 78; refine (HIN.out _).mono ?_; rintro e w2 ⟨rfl, rfl⟩)
        | (go_at_call 92; refine (HHA.out _).mono ?_; rintro e w2 ⟨rfl, rfl⟩))
      rw [← hw0]
      refine bodyPost_ret (results_step (g := w.heap.size) rfl HR0.out rfl rfl) rfl ⟨by rw [HNO.out, HZV.out]; rfl, HB0.out⟩
    · rw [hb] at HHA
      rw [hb, Bool.true_and] at HB2
      clear hb
      by_cases hk : szS n (f s) ≤ 2
      · have HYS : Hid (ok = true) := Lib.hid (by rw [HB2.out, decide_eq_true hk])
        obtain ⟨k, hke⟩ : ∃ k, k = szS n (f s) := ⟨_, rfl⟩
        have HOV : Hid (ov = .agg #[.int .i64 k, .int .i64 s, .int .i64 (if k = 0 then -1 else (lowN (f s) : Nat)), .int .i64 (if k = 2 then (lowN (diff (f s) (2 ^ lowN (f s))) : Nat) else -1)]) := Lib.hid (by rw [HSO.out, HYS.out, hke]; rfl)
        rw [← hke] at hk HCO
        have d1 : decide ((k : Int) > 2) = false := decide_eq_false (by omega)
        have d2 : decide ((2 : Int) < (k : Int)) = false := decide_eq_false (by omega)
        have d3 : decide (2 < k) = false := decide_eq_false (by omega)
        have e0 : w0.heap.size = w.heap.size + 1 := by rw [hw0]; simp
        rcases (show k = 0 ∨ k = 1 ∨ k = 2 by omega) with rfl | rfl | rfl
        · obtain ⟨wf, hwf, r2, r3, hbf, hsf⟩ := new2 w 88 88 [.int .i64 0, .int .i64 s, .int .i64 (-1), .int .i64 (-1)] [.int .i64 0, .int .i64 s, .int .i64 (-1), .int .i64 (-1)]
          have HRF := Lib.hid r2
          have HBF := Lib.hid hbf
          clear r2 r3 hbf R0 hke
          rw [hw0] at cN cL cG
          clear hw0
          go_enter Tryd.func97, Tryd.ntmps97
          go_wp2_with (first
            | (go_at_call 78; refine (HIN.out _).mono ?_; rintro e w2 ⟨rfl, rfl⟩)
            | (go_at_call 92; refine (HHA.out _).mono ?_; rintro e w2 ⟨rfl, rfl⟩)
            | (go_at_call 108; refine (HCO.out _).mono ?_; rintro e w2 ⟨rfl, rfl⟩))
          rw [← hwf]
          exact bodyPost_ret (results_step (g := w.heap.size) rfl HRF.out rfl rfl) rfl ⟨by rw [HYS.out, HOV.out]; rfl, HBF.out⟩
        · obtain ⟨w1, hw1, r1, hb1, hs1⟩ := new1 w0 88 [.int .i64 1, .int .i64 s, .int .i64 (-1), .int .i64 (-1)]
          have R1 := R0.below hb1
          have cN1 := R1.row.cell (i := 0) rfl
          have cL1 := R1.row.cell (i := 1) rfl
          have cG1 := R1.near.at_ hsn
          rw [e0] at r1
          have hpos : 0 < f s := by
            apply Nat.pos_of_ne_zero
            intro h0
            have h9 : szS n 0 = 0 := by unfold szS; rw [List.countP_eq_zero]; simp
            rw [h0, h9] at hke; cases hke
          have HFI := Lib.hid (first_any (f s) (by omega) hpos w1 (hT.below (HB0.out.trans (hb1.mono HB0.out.size))))
          obtain ⟨A, hA⟩ : ∃ A, A = lowN (f s) := ⟨_, rfl⟩
          rw [← hA] at HFI HOV
          obtain ⟨wf, hwf, r2, r3, hbf, hsf⟩ := new2 w 88 88 [.int .i64 1, .int .i64 s, .int .i64 A, .int .i64 (-1)] [.int .i64 1, .int .i64 s, .int .i64 A, .int .i64 (-1)]
          have HRF := Lib.hid r2
          have HBF := Lib.hid hbf
          clear r1 r2 r3 hbf hb1 hs1 R0 R1 hke hA
          rw [hw1, hw0] at cN1 cL1 cG1 HFI
          rw [hw0] at cN cL cG
          clear hw1 hw0
          go_enter Tryd.func97, Tryd.ntmps97
          go_wp2_with (first
            | (go_at_call 78; refine (HIN.out _).mono ?_; rintro e w2 ⟨rfl, rfl⟩)
            | (go_at_call 92; refine (HHA.out _).mono ?_; rintro e w2 ⟨rfl, rfl⟩)
            | (go_at_call 108; refine (HCO.out _).mono ?_; rintro e w2 ⟨rfl, rfl⟩)
            | (go_at_call 105; refine HFI.out.mono ?_; rintro e w2 ⟨rfl, rfl⟩))
          rw [← hwf]
          exact bodyPost_ret (results_step (g := w.heap.size) rfl HRF.out rfl rfl) rfl ⟨by rw [HYS.out, HOV.out]; rfl, HBF.out⟩
        · obtain ⟨w1, hw1, r1, hb1, hs1⟩ := new1 w0 88 [.int .i64 2, .int .i64 s, .int .i64 (-1), .int .i64 (-1)]
          have R1 := R0.below hb1
          have cN1 := R1.row.cell (i := 0) rfl
          have cL1 := R1.row.cell (i := 1) rfl
          have cG1 := R1.near.at_ hsn
          rw [e0] at r1
          have hpos : 0 < f s := by
            apply Nat.pos_of_ne_zero
            intro h0
            have h9 : szS n 0 = 0 := by unfold szS; rw [List.countP_eq_zero]; simp
            rw [h0, h9] at hke; cases hke
          have hT1 := hT.below (HB0.out.trans (hb1.mono HB0.out.size))
          have HFI := Lib.hid (first_any (f s) (by omega) hpos w1 hT1)
          have hAn := lowN_ltm hn8 hpos hfs
          obtain ⟨_, hAb, _⟩ := lowN_all (f s) (by omega) hpos
          obtain ⟨A, hA⟩ : ∃ A, A = lowN (f s) := ⟨_, rfl⟩
          rw [← hA] at HFI HOV hAn hAb
          have hA16 : A < 16 := by omega
          have hdp : 0 < diff (f s) (2 ^ A) := by
            apply Nat.pos_of_ne_zero
            intro h0
            have h9 := szS_cov1 (n := n) (m := 0) (A := f s) (B := 0) A id (fun x _ hx => by
              by_cases e : x = A
              · exact Or.inl e
              · have := congrArg (fun q => q.testBit x) h0
                rw [show (diff (f s) (2 ^ A)).testBit x = true by rw [testBit_diff, hx, Nat.testBit_two_pow, decide_eq_false (Ne.symm e)]; rfl] at this
                simp at this)
            have h10 : szS 0 0 = 0 := rfl
            omega
          have hdl : diff (f s) (2 ^ A) < 2 ^ n := Nat.lt_of_le_of_lt (diff_le _ _) hfs
          obtain ⟨w2', hw2', r2', hb2', hs2'⟩ := new1 w0 88 [.int .i64 2, .int .i64 s, .int .i64 A, .int .i64 (-1)]
          have R2 := R0.below hb2'
          have cN2 := R2.row.cell (i := 0) rfl
          have cG2 := R2.near.at_ hsn
          rw [e0] at r2'
          have cA2 := r2'.cell (i := 2) rfl
          have f32 := r2'.free 3
          have l2' := r2'.lt
          have HF2 := Lib.hid (fun k => first_any (diff (f s) (2 ^ A)) (by omega) hdp (w2'.drewN k) (hT.below (below_drewN (HB0.out.trans (hb2'.mono HB0.out.size)) k)))
          obtain ⟨D, hD⟩ : ∃ D, D = lowN (diff (f s) (2 ^ A)) := ⟨_, rfl⟩
          rw [← hD] at HF2 HOV
          have hpA := pow_bd A hA16
          have hfs16 : f s < 65536 := by omega
          have han := i64_andNot_pow (f s) A hfs16 hA16
          obtain ⟨w3', hw3', r3', _, _⟩ := new2 w 88 88 [.int .i64 0, .int .i64 0, .int .i64 0, .int .i64 0] [.int .i64 2, .int .i64 s, .int .i64 A, .int .i64 (-1)]
          have HW2 : Hid (w2' = w3') := Lib.hid (by rw [hw2', hw3', hw0])
          have HR2 := Lib.hid r2'
          have HB2' := Lib.hid (HB0.out.trans (hb2'.mono HB0.out.size))
          have HRZ := Lib.hid (HR0.out.below hb2' HR0.out.lt)
          clear r1 r3' hb1 hs1 R0 R1 R2 hke hA hD hb2' r2' hT1
          rw [hw1, hw0] at cN1 cL1 cG1 HFI
          rw [hw0] at cN cL cG
          clear hw1 hw0 hw2'
          go_enter Tryd.func97, Tryd.ntmps97
          go_wp2_with (first
            | (go_at_call 78; refine (HIN.out _).mono ?_; rintro e w2 ⟨rfl, rfl⟩)
            | (go_at_call 92; refine (HHA.out _).mono ?_; rintro e w2 ⟨rfl, rfl⟩)
            | (go_at_call 108; refine (HCO.out _).mono ?_; rintro e w2 ⟨rfl, rfl⟩)
            | (go_at_call 105; refine HFI.out.mono ?_; rintro e w2 ⟨rfl, rfl⟩))
          rw [← hw3', ← HW2.out]
          have HF3 : Hid (∀ k, Calls Tryd.prog 105 #[.int .i64 (diff (f s) (2 ^ A) : Nat)] (w2'.drewN k) fun e w'' => e = .returned (.int .i64 (D : Nat)) ∧ w'' = w2'.drewN k) := Lib.hid fun k => (HF2.out k).mono fun _ _ ⟨a, b⟩ => ⟨a, b.symm⟩
          have hwr : IntKind.i64.wrap ((2 : Int) ^ A) = 2 ^ A := IntWalk.i64_in _ (by omega)
          clear hw3'
          refine wp_region_still_tail 13 (by kernel_rfl) (by kernel_rfl) ?_
          simp only [List.take_succ_cons, List.take_zero, List.drop_succ_cons, List.drop_zero]
          repeat still_step
          still_call (HF3.out 1)
          repeat still_step
          refine wpStill_nil ?_
          change wpList _ _ _ _ _ w2'.drew
          obtain ⟨wd, hwd⟩ : ∃ x, x = w2'.drew := ⟨_, rfl⟩
          have q6 : Row wd (w.heap.size + 1) 88 [.int .i64 2, .int .i64 s, .int .i64 A, .int .i64 (-1)] := by rw [hwd]; exact HR2.out.drewN 1
          have q4 : Row wd w.heap.size 88 [.int .i64 0, .int .i64 0, .int .i64 0, .int .i64 0] := by rw [hwd]; exact HRZ.out.drewN 1
          have HBD : Hid (Below w.heap.size w wd) := Lib.hid (by rw [hwd]; exact below_drewN HB2'.out 1)
          rw [← hwd]
          have f63 := q6.free 3
          have c63 := q6.cell (i := 3) rfl
          have l6 := q6.lt
          have s6 := q6.set 3 (.int .i64 D)
          have s4 := q4.other (a := ⟨w.heap.size + 1, 3, none⟩) (by simp) (.int .i64 D)
          have hbs := (HBD.out.setCell (p := ⟨w.heap.size + 1, 3, none⟩) (by simp) (.int .i64 D))
          clear hwd cN1 cL1 cG1 cN cL cG cN2 cG2 cA2 f32 l2'
          obtain ⟨x0, hx0⟩ : ∃ x, wd.setCell ⟨w.heap.size + 1, 3, none⟩ (.int .i64 D) = x := ⟨_, rfl⟩
          rw [hx0] at s6 s4 hbs
          have k0 := s6.cell (i := 0) rfl
          have k1 := s6.cell (i := 1) rfl
          have k2 := s6.cell (i := 2) rfl
          have k3 := s6.cell (i := 3) rfl
          have l4 := s4.lt
          have u0 := s4.free 0
          have j0 := s4.cell (i := 0) rfl
          have t1 := s4.set 0 (.int .i64 2)
          have hb1 := hbs.setCell (p := ⟨w.heap.size, 0, none⟩) (Nat.le_refl _) (.int .i64 2)
          obtain ⟨x1, hx1⟩ : ∃ x, x0.setCell ⟨w.heap.size, 0, none⟩ (.int .i64 2) = x := ⟨_, rfl⟩
          rw [hx1] at t1 hb1
          have l41 := t1.lt
          have u1 := t1.free 1
          have j1 := t1.cell (i := 1) rfl
          have t2 := t1.set 1 (.int .i64 s)
          have hb2 := hb1.setCell (p := ⟨w.heap.size, 1, none⟩) (Nat.le_refl _) (.int .i64 s)
          obtain ⟨x2, hx2⟩ : ∃ x, x1.setCell ⟨w.heap.size, 1, none⟩ (.int .i64 s) = x := ⟨_, rfl⟩
          rw [hx2] at t2 hb2
          have l42 := t2.lt
          have u2 := t2.free 2
          have j2 := t2.cell (i := 2) rfl
          have t3 := t2.set 2 (.int .i64 A)
          have hb3 := hb2.setCell (p := ⟨w.heap.size, 2, none⟩) (Nat.le_refl _) (.int .i64 A)
          obtain ⟨x3, hx3⟩ : ∃ x, x2.setCell ⟨w.heap.size, 2, none⟩ (.int .i64 A) = x := ⟨_, rfl⟩
          rw [hx3] at t3 hb3
          have l43 := t3.lt
          have u3 := t3.free 3
          have j3 := t3.cell (i := 3) rfl
          have t4 := t3.set 3 (.int .i64 D)
          have hb4 := hb3.setCell (p := ⟨w.heap.size, 3, none⟩) (Nat.le_refl _) (.int .i64 D)
          obtain ⟨x4, hx4⟩ : ∃ x, x3.setCell ⟨w.heap.size, 3, none⟩ (.int .i64 D) = x := ⟨_, rfl⟩
          rw [hx4] at t4 hb4
          have HT4 := Lib.hid t4
          have HBT := Lib.hid hb4
          clear t1 t2 t3 t4 s4 s6 q4 q6 hb1 hb2 hb3 hb4 hbs
          go_wp2_with fail
          exact bodyPost_ret (results_step (g := w.heap.size) rfl HT4.out rfl rfl) rfl ⟨by rw [HYS.out, HOV.out]; rfl, HBT.out⟩
      · have HNO : Hid (ok = false) := Lib.hid (by rw [HB2.out, decide_eq_false hk])
        have HZV : Hid (ov = .agg zeroV.toArray) := Lib.hid (by rw [HSO.out, HNO.out]; rfl)
        generalize szS n (f s) = k at *
        have d1 : decide ((k : Int) > 2) = true := decide_eq_true (by omega)
        have d2 : decide ((2 : Int) < (k : Int)) = true := decide_eq_true (by omega)
        have d3 : decide (2 < k) = true := decide_eq_true (by omega)
        obtain ⟨wf, hwf, r2, r3, hbf, hsf⟩ := new2 w 88 88 [.int .i64 0, .int .i64 0, .int .i64 0, .int .i64 0] [.int .i64 k, .int .i64 s, .int .i64 (-1), .int .i64 (-1)]
        have HRF := Lib.hid r2
        have HBF := Lib.hid hbf
        clear r2 r3 hbf R0
        rw [hw0] at cN cL cG
        clear hw0
        go_enter Tryd.func97, Tryd.ntmps97
        go_wp2_with (first
          | (go_at_call 78; refine (HIN.out _).mono ?_; rintro e w2 ⟨rfl, rfl⟩)
          | (go_at_call 92; refine (HHA.out _).mono ?_; rintro e w2 ⟨rfl, rfl⟩)
          | (go_at_call 108; refine (HCO.out _).mono ?_; rintro e w2 ⟨rfl, rfl⟩))
        rw [← hwf]
        exact bodyPost_ret (results_step (g := w.heap.size) rfl HRF.out rfl rfl) rfl ⟨by rw [HNO.out, HZV.out]; rfl, HBF.out⟩

end Go.Proofs.YtfmppncefbjicaaDoor
