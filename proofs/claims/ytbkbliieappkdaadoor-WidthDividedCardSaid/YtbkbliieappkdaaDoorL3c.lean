/- The walk of the law WidthTouches. -/
import Derived.Test.YtbkbliieappkdaaDoorW20
namespace Go.Proofs.YtbkbliieappkdaaDoor
set_option linter.unusedSimpArgs false
set_option linter.unusedVariables false
open Go.RowKit Go.Maps

/-- What a law returns: true, and nothing that was there has turned. -/
def LawTrue (w : World) (e : Ending) (w' : World) : Prop := e = .returned (.bool true) ∧ Below w.heap.size w w'
theorem graphB_few {n : Nat} {z : Nat → Int} : graphB (min n 13) 9 z = graphB n 9 z := by
  by_cases h : n ≤ 13
  · rw [Nat.min_eq_left h]
  · rw [Nat.min_eq_right (by omega), graphB_no (Or.inr (by omega)), graphB_no (Or.inr (by omega))]

set_option maxRecDepth 20000 in
set_option maxHeartbeats 1000000 in
theorem ValidR_any (n : Nat) (z : Nat → Int) (a : Option Addr) (cap : Nat) (w : World) (hI : IntsAt w a n z) (hz : ∀ i, -9223372036854775808 ≤ z i ∧ z i ≤ 9223372036854775807) :
    Calls Tryd.prog 12 #[.slice a n cap] w fun e w' => e = .returned (.bool (graphB n 9 z)) ∧ Below w.heap.size w w' := by
  have HI := Lib.hid hI
  have HZ := Lib.hid hz
  clear hI hz
  go_enter Tryd.func12, Tryd.ntmps12
  go_wp2_with (go_at_call 41; refine (IsGraph_any n 9 9 rfl z a cap _ HI.out HZ.out (by omega)).mono ?_; rintro e w1 ⟨rfl, hb1⟩; have HB1 := Lib.hid hb1; clear hb1)
  go_ret
  exact ⟨rfl, HB1.out⟩

def bothB (n : Nat) (z : Nat → Int) (x y : Int) : Bool := graphB n 9 z && connZ n (natG z) x && connZ n (natG z) y
def touchRes (n : Nat) (z : Nat → Int) (x y : Int) : Bool → Value
  | true => .tuple #[.bool (touB n (natG z) x.toNat y.toNat), .int .i64 0]
  | false => .tuple #[.bool false, .int .i64 2]

theorem connZ_lt {n : Nat} {r : Nat → Nat} {v : Int} (h : connZ n r v = true) : 0 ≤ v ∧ v.toNat < 2 ^ n := by
  unfold connZ at h
  simp only [Bool.and_eq_true, decide_eq_true_eq] at h
  obtain ⟨h0, h1⟩ := inB_iff.1 h.1.1
  exact ⟨h0, nat_pow_cast h1 h0⟩

set_option maxRecDepth 20000 in
set_option maxHeartbeats 2000000 in
theorem Touch_any {n : Nat} {z : Nat → Int} {a : Option Addr} (cap : Nat) {w : World} (x y : Int) (hI : IntsAt w a n z) (hz : InI64 z) (hT : HasTab w) :
    Calls Tryd.prog 21 #[.slice a n cap, .int .i64 x, .int .i64 y] w fun e w' => e = .returned (touchRes n z x y (bothB n z x y)) ∧ Below w.heap.size w w' := by
  have HI := Lib.hid hI
  have HZ := Lib.hid hz
  have HT := Lib.hid hT
  clear hI hz hT
  cases hg : graphB n 9 z
  · have HF : Hid (bothB n z x y = false) := Lib.hid (by unfold bothB; rw [hg]; rfl)
    go_enter Tryd.func21, Tryd.ntmps21
    go_wp2_with (go_at_call 37; refine (newTown_no cap HI.out HZ.out hg).mono ?_; rintro e w1 ⟨rfl, hb1⟩; have HB1 := Lib.hid hb1; clear hb1)
    go_ret2
    exact ⟨by rw [HF.out]; rfl, HB1.out⟩
  · cases hx : connZ n (natG z) x
    · have HF : Hid (bothB n z x y = false) := Lib.hid (by unfold bothB; rw [hg, hx]; rfl)
      go_enter Tryd.func21, Tryd.ntmps21
      go_wp2_with (first
        | (go_at_call 37; refine (newTown_yes cap HI.out HZ.out hg).mono ?_; rintro e w1 ⟨rfl, hb1, hG⟩; have HB1 := Lib.hid hb1; have HG := Lib.hid hG; have HT1 := Lib.hid (HT.out.below hb1); clear hb1 hG)
        | (go_at_call 47; refine (isConnected_any HG.out cap x HT1.out).mono ?_; rintro e w2 ⟨rfl, rfl⟩; rw [hx]))
      go_ret2
      exact ⟨by rw [HF.out]; rfl, HB1.out⟩
    · cases hy : connZ n (natG z) y
      · have HF : Hid (bothB n z x y = false) := Lib.hid (by unfold bothB; rw [hg, hx, hy]; rfl)
        by_cases hxy : x = y
        · subst hxy; rw [hx] at hy; cases hy
        · go_enter Tryd.func21, Tryd.ntmps21
          go_wp2_with (first
            | (go_at_call 37; refine (newTown_yes cap HI.out HZ.out hg).mono ?_; rintro e w1 ⟨rfl, hb1, hG⟩; have HB1 := Lib.hid hb1; have HG := Lib.hid hG; have HT1 := Lib.hid (HT.out.below hb1); clear hb1 hG)
            | (go_at_call 47; refine (isConnected_any HG.out cap _ HT1.out).mono ?_; rintro e w2 ⟨rfl, rfl⟩; first | rw [hx] | rw [hy]))
          go_ret2
          exact ⟨by rw [HF.out]; rfl, HB1.out⟩
      · have HF : Hid (bothB n z x y = true) := Lib.hid (by unfold bothB; rw [hg, hx, hy]; rfl)
        have hle := (graphB_le hg).2.1
        obtain ⟨x0, x1⟩ := connZ_lt hx
        obtain ⟨y0, y1⟩ := connZ_lt hy
        obtain ⟨xn, rfl⟩ : ∃ xn : Nat, x = xn := ⟨x.toNat, by omega⟩
        obtain ⟨yn, rfl⟩ : ∃ yn : Nat, y = yn := ⟨y.toNat, by omega⟩
        rw [Int.toNat_natCast] at x1 y1
        have hx16 := lt16 hle x1
        have hy16 := lt16 hle y1
        clear x0 x1 y0 y1
        go_enter Tryd.func21, Tryd.ntmps21
        go_wp2_with (first
          | (go_at_call 37; refine (newTown_yes cap HI.out HZ.out hg).mono ?_; rintro e w1 ⟨rfl, hb1, hG⟩; have HB1 := Lib.hid hb1; have HG := Lib.hid hG; have HT1 := Lib.hid (HT.out.below hb1); clear hb1 hG)
          | (go_at_call 47; refine (isConnected_any HG.out cap _ HT1.out).mono ?_; rintro e w2 ⟨rfl, rfl⟩; first | rw [hx] | rw [hy])
          | (go_at_call 48; refine (touch_any HG.out cap xn yn hx16 hy16).mono ?_; rintro e w3 ⟨rfl, rfl⟩))
        go_ret2
        exact ⟨by rw [HF.out]; rfl, HB1.out⟩

set_option maxRecDepth 200000 in
set_option maxHeartbeats 2000000 in
theorem WidthTouches_walk (n : Nat) (z : Nat → Int) (v : Value) (x y : Int) (w : World) (hA : SliceArg w v n z) (hz : InI64 z) (hT : HasTab w) :
    Calls Tryd.prog 5 #[v, .int .i64 x, .int .i64 y] w (LawTrue w) := by
  obtain ⟨a, cap, rfl, hI⟩ := hA.ints
  have HA := Lib.hid hA
  have HI0 := Lib.hid hI
  have HZ := Lib.hid hz
  have HT := Lib.hid hT
  clear hA hI hz hT
  cases hg : graphB n 9 z
  · have HF : Hid (bothB (min n 13) z x y = false) := Lib.hid (by unfold bothB; rw [graphB_few, hg]; rfl)
    have HG0 := Lib.hid hg
    clear hg
    go_enter Tryd.func5, Tryd.ntmps5
    go_wp2_with fail
    go_at_call 11
    refine (Few_any n z _ _ HA.out).mono ?_
    rintro e w1 ⟨a1, c1, rfl, hi1, hb1⟩
    have HB1 := Lib.hid hb1
    have HT1 := Lib.hid (HT.out.below hb1)
    clear hb1
    have HI1 := Lib.hid hi1
    clear hi1
    go_wp2_with fail
    go_at_call 21
    refine (Touch_any _ x y HI1.out HZ.out HT1.out).mono ?_
    rintro e w2 ⟨rfl, hb2⟩
    rw [HF.out]
    unfold touchRes
    have HB2 := Lib.hid (HB1.out.trans (hb2.mono HB1.out.size))
    clear hb2
    go_wp2_with fail
    go_at_call 12
    refine (ValidR_any n z _ _ _ (HI0.out.below HB2.out) HZ.out).mono ?_
    rintro e w3 ⟨rfl, hb3⟩
    rw [HG0.out]
    have HB3 := Lib.hid (HB2.out.trans (hb3.mono HB2.out.size))
    clear hb3
    go_wp2_with fail
    go_at_call 13
    refine (awake_any _).mono ?_
    rintro e w4 ⟨rfl, hb4⟩
    have HB4 := Lib.hid (HB3.out.trans (hb4.mono HB3.out.size))
    clear hb4
    go_wp2_with fail
    go_ret
    exact ⟨rfl, HB4.out⟩
  · have hn9 := (graphB_le hg).2.1
    have HM : Hid (min n 13 = n) := Lib.hid (by omega)
    have HG0 := Lib.hid hg
    have HGR := Lib.hid (Gr.of_graph HI0.out hg)
    cases hx : connZ n (natG z) x
    · have HF : Hid (bothB n z x y = false) := Lib.hid (by unfold bothB; rw [hx]; simp)
      have HX : Hid (connZ n (fun i => (z i).toNat) x = false) := Lib.hid hx
      clear hg hx
      go_enter Tryd.func5, Tryd.ntmps5
      go_wp2_with fail
      go_at_call 11
      refine (Few_any n z _ _ HA.out).mono ?_
      rintro e w1 ⟨a1, c1, rfl, hi1, hb1⟩
      rw [HM.out] at hi1
      rw [HM.out]
      have HB1 := Lib.hid hb1
      have HT1 := Lib.hid (HT.out.below hb1)
      clear hb1
      have HI1 := Lib.hid hi1
      clear hi1
      go_wp2_with fail
      go_at_call 21
      refine (Touch_any _ x y HI1.out HZ.out HT1.out).mono ?_
      rintro e w2 ⟨rfl, hb2⟩
      rw [HF.out]
      unfold touchRes
      have HB2 := Lib.hid (HB1.out.trans (hb2.mono HB1.out.size))
      clear hb2
      go_wp2_with fail
      go_at_call 12
      refine (ValidR_any n z _ _ _ (HI0.out.below HB2.out) HZ.out).mono ?_
      rintro e w3 ⟨rfl, hb3⟩
      rw [HG0.out]
      have HB3 := Lib.hid (HB2.out.trans (hb3.mono HB2.out.size))
      clear hb3
      go_wp2_with fail
      go_at_call 22
      refine (ConnectedR_any (HGR.out.below HB3.out) _ x).mono ?_
      rintro e w4 ⟨rfl, hb4⟩
      rw [HX.out]
      have HB4 := Lib.hid (HB3.out.trans (hb4.mono HB3.out.size))
      clear hb4
      go_wp2_with fail
      go_at_call 13
      refine (awake_any _).mono ?_
      rintro e w5 ⟨rfl, hb5⟩
      have HB5 := Lib.hid (HB4.out.trans (hb5.mono HB4.out.size))
      clear hb5
      go_wp2_with fail
      go_ret
      exact ⟨rfl, HB5.out⟩
    · cases hy : connZ n (natG z) y
      · have HF : Hid (bothB n z x y = false) := Lib.hid (by unfold bothB; rw [hy]; simp)
        have HX : Hid (connZ n (fun i => (z i).toNat) x = true) := Lib.hid hx
        have HY : Hid (connZ n (fun i => (z i).toNat) y = false) := Lib.hid hy
        clear hg hx hy
        go_enter Tryd.func5, Tryd.ntmps5
        go_wp2_with fail
        go_at_call 11
        refine (Few_any n z _ _ HA.out).mono ?_
        rintro e w1 ⟨a1, c1, rfl, hi1, hb1⟩
        rw [HM.out] at hi1
        rw [HM.out]
        have HB1 := Lib.hid hb1
        have HT1 := Lib.hid (HT.out.below hb1)
        clear hb1
        have HI1 := Lib.hid hi1
        clear hi1
        go_wp2_with fail
        go_at_call 21
        refine (Touch_any _ x y HI1.out HZ.out HT1.out).mono ?_
        rintro e w2 ⟨rfl, hb2⟩
        rw [HF.out]
        unfold touchRes
        have HB2 := Lib.hid (HB1.out.trans (hb2.mono HB1.out.size))
        clear hb2
        go_wp2_with fail
        go_at_call 12
        refine (ValidR_any n z _ _ _ (HI0.out.below HB2.out) HZ.out).mono ?_
        rintro e w3 ⟨rfl, hb3⟩
        rw [HG0.out]
        have HB3 := Lib.hid (HB2.out.trans (hb3.mono HB2.out.size))
        clear hb3
        go_wp2_with fail
        go_at_call 22
        refine (ConnectedR_any (HGR.out.below HB3.out) _ x).mono ?_
        rintro e w4 ⟨rfl, hb4⟩
        rw [HX.out]
        have HB4 := Lib.hid (HB3.out.trans (hb4.mono HB3.out.size))
        clear hb4
        go_wp2_with fail
        go_at_call 22
        refine (ConnectedR_any (HGR.out.below HB4.out) _ y).mono ?_
        rintro e w5 ⟨rfl, hb5⟩
        rw [HY.out]
        have HB5 := Lib.hid (HB4.out.trans (hb5.mono HB4.out.size))
        clear hb5
        go_wp2_with fail
        go_at_call 13
        refine (awake_any _).mono ?_
        rintro e w6 ⟨rfl, hb6⟩
        have HB6 := Lib.hid (HB5.out.trans (hb6.mono HB5.out.size))
        clear hb6
        go_wp2_with fail
        go_ret
        exact ⟨rfl, HB6.out⟩
      · have HF : Hid (bothB n z x y = true) := Lib.hid (by unfold bothB; rw [hg, hx, hy]; rfl)
        have HX : Hid (connZ n (fun i => (z i).toNat) x = true) := Lib.hid hx
        have HY : Hid (connZ n (fun i => (z i).toNat) y = true) := Lib.hid hy
        obtain ⟨x0, x1⟩ := connZ_lt hx
        obtain ⟨y0, y1⟩ := connZ_lt hy
        obtain ⟨xn, rfl⟩ : ∃ xn : Nat, x = xn := ⟨x.toNat, by omega⟩
        obtain ⟨yn, rfl⟩ : ∃ yn : Nat, y = yn := ⟨y.toNat, by omega⟩
        rw [Int.toNat_natCast] at x1 y1
        have hx16 := lt16 hn9 x1
        have hy16 := lt16 hn9 y1
        obtain ⟨tb, htb⟩ : ∃ tb, tb = touB n (natG z) xn yn := ⟨_, rfl⟩
        have HTB : Hid (touB n (natG z) (xn : Int).toNat (yn : Int).toNat = tb) := Lib.hid (by rw [htb]; rfl)
        have HTR : Hid (touB n (fun i => (z i).toNat) xn yn = tb) := Lib.hid htb.symm
        have hself : (tb == tb) = true := by simp
        clear hg hx hy x0 x1 y0 y1 htb
        go_enter Tryd.func5, Tryd.ntmps5
        go_wp2_with fail
        go_at_call 11
        refine (Few_any n z _ _ HA.out).mono ?_
        rintro e w1 ⟨a1, c1, rfl, hi1, hb1⟩
        rw [HM.out] at hi1
        rw [HM.out]
        have HB1 := Lib.hid hb1
        have HT1 := Lib.hid (HT.out.below hb1)
        clear hb1
        have HI1 := Lib.hid hi1
        clear hi1
        go_wp2_with fail
        go_at_call 21
        refine (Touch_any _ xn yn HI1.out HZ.out HT1.out).mono ?_
        rintro e w2 ⟨rfl, hb2⟩
        rw [HF.out]
        unfold touchRes
        rw [HTB.out]
        have HB2 := Lib.hid (HB1.out.trans (hb2.mono HB1.out.size))
        clear hb2
        go_wp2_with fail
        go_at_call 12
        refine (ValidR_any n z _ _ _ (HI0.out.below HB2.out) HZ.out).mono ?_
        rintro e w3 ⟨rfl, hb3⟩
        rw [HG0.out]
        have HB3 := Lib.hid (HB2.out.trans (hb3.mono HB2.out.size))
        clear hb3
        go_wp2_with fail
        go_at_call 22
        refine (ConnectedR_any (HGR.out.below HB3.out) _ xn).mono ?_
        rintro e w4 ⟨rfl, hb4⟩
        rw [HX.out]
        have HB4 := Lib.hid (HB3.out.trans (hb4.mono HB3.out.size))
        clear hb4
        go_wp2_with fail
        go_at_call 22
        refine (ConnectedR_any (HGR.out.below HB4.out) _ yn).mono ?_
        rintro e w5 ⟨rfl, hb5⟩
        rw [HY.out]
        have HB5 := Lib.hid (HB4.out.trans (hb5.mono HB4.out.size))
        clear hb5
        go_wp2_with fail
        go_at_call 23
        refine (TouchR_any (HGR.out.below HB5.out) _ xn yn hx16 hy16).mono ?_
        rintro e w6 ⟨rfl, rfl⟩
        rw [HTR.out]
        cases tb
        all_goals
          go_wp2_with fail
          go_at_call 13
          refine (awake_any _).mono ?_
          rintro e w7 ⟨rfl, hb7⟩
          have HB7 := Lib.hid (HB5.out.trans (hb7.mono HB5.out.size))
          clear hb7
          go_wp2_with fail
          go_ret
          exact ⟨rfl, HB7.out⟩

end Go.Proofs.YtbkbliieappkdaaDoor
