/- The contracts of package ears' Number and CheckNumber; the walk of the law EarsNumbers. -/
import Derived.Test.YtnjpciaeapgbiaaDoorEp
namespace Go.Proofs.YtnjpciaeapgbiaaDoor
set_option linter.unusedSimpArgs false
set_option linter.unusedVariables false
open Go.RowKit Go.Maps
attribute [local go_sem] i64_bit toNat_eq_one toNat_ne_one toNat_eq_zero toNat_ne_zero

/-- What Number returns beside its slice, and its slice. -/
def numC (n : Nat) (r : Nat → Nat) (x y : Int) : Int := if nbB n r x y then (if doubleB n r then 0 else 5) else 2
def numLs (n : Nat) (r : Nat → Nat) (x y : Int) : List Int := if nbB n r x y && doubleB n r then numL n r x.toNat y.toNat else []
theorem own_nil (w : World) (base : Nat) : IntsOwn w base (.slice none 0 0) [] := ⟨rfl, .inl ⟨rfl, rfl⟩⟩
theorem numLs_len {n : Nat} {r : Nat → Nat} (h : Pl n r) (x y : Int) : (numLs n r x y).length ≤ 65536 := by
  unfold numLs
  have := h.le
  split
  · have := numL_len n r x.toNat y.toNat; omega
  · exact Nat.zero_le _
theorem num_no {n : Nat} {r : Nat → Nat} {x y : Int} (h : nbB n r x y = false) : numLs n r x y = [] ∧ numC n r x y = 2 := by
  unfold numLs numC; rw [h]; exact ⟨rfl, rfl⟩
theorem num_state {n : Nat} {r : Nat → Nat} {x y : Int} (h : nbB n r x y = true) (hd : doubleB n r = false) : numLs n r x y = [] ∧ numC n r x y = 5 := by
  unfold numLs numC; rw [h, hd]; exact ⟨rfl, rfl⟩
theorem num_yes {n : Nat} {r : Nat → Nat} {x y : Int} (h : nbB n r x y = true) (hd : doubleB n r = true) : numLs n r x y = numL n r x.toNat y.toNat ∧ numC n r x y = 0 := by
  unfold numLs numC; rw [h, hd]; exact ⟨rfl, rfl⟩

set_option maxRecDepth 20000 in
set_option maxHeartbeats 1000000 in
theorem Number_none {n : Nat} {z : Nat → Int} {a : Option Addr} (cap : Nat) (x y : Int) {w : World} (hI : IntsAt w a n z) (hz : InI64 z) (hT : Tab w) (hg : graphB n 10 z = false) :
    Calls Tryd.prog 34 #[.slice a n cap, .int .i64 x, .int .i64 y] w fun e w' => e = .returned (.tuple #[.slice none 0 0, .int .i64 2]) ∧ Below w.heap.size w w' := by
  have HI := Lib.hid hI
  have HZ := Lib.hid hz
  have HT := Lib.hid hT
  clear hI hz hT
  go_enter Tryd.func34, Tryd.ntmps34
  go_wp2_with (go_at_call 58; refine (newTown_no cap HI.out HZ.out HT.out hg).mono ?_; rintro e w1 ⟨rfl, hb1⟩; have HB1 := Lib.hid hb1; clear hb1)
  go_ret2
  exact ⟨rfl, HB1.out⟩
set_option maxRecDepth 20000 in
set_option maxHeartbeats 1000000 in
theorem Number_all {n : Nat} {z : Nat → Int} {a : Option Addr} (cap : Nat) (x y : Int) {w : World} (hI : IntsAt w a n z) (hz : InI64 z) (hT : Tab w) (hg : graphB n 10 z = true) :
    Calls Tryd.prog 34 #[.slice a n cap, .int .i64 x, .int .i64 y] w fun e w' => ∃ v, e = .returned (.tuple #[v, .int .i64 (numC n (natG z) x y)]) ∧ IntsOwn w' w.heap.size v (numLs n (natG z) x y) ∧ Below w.heap.size w w' := by
  have HI := Lib.hid hI
  have HZ := Lib.hid hz
  have HT := Lib.hid hT
  have HP := Lib.hid (pl_of hg)
  have HC : Hid (numC n (natG z) x y = if nbB n (natG z) x y then (if doubleB n (natG z) then 0 else 5) else 2) := Lib.hid rfl
  have HL : Hid (numLs n (natG z) x y = if nbB n (natG z) x y && doubleB n (natG z) then numL n (natG z) x.toNat y.toNat else []) := Lib.hid rfl
  clear hI hz hT
  cases hnb : nbB n (natG z) x y
  · have HN := Lib.hid hnb
    rw [hnb] at HC HL
    clear hnb
    go_enter Tryd.func34, Tryd.ntmps34
    go_wp2_with (first
      | (go_at_call 58; refine (newTown_yes cap HI.out HZ.out HT.out hg).mono ?_; rintro e w1 ⟨rfl, hb1, hG, hT1⟩; have HB1 := Lib.hid hb1; have HG := Lib.hid hG; have HT1 := Lib.hid hT1; clear hb1 hG hT1)
      | (go_at_call 76; refine (areNeighbours_any HG.out HP.out.le HP.out.bd cap x y).mono ?_; rintro e w2 ⟨rfl, rfl⟩; rw [HN.out]))
    go_ret2
    exact ⟨_, by rw [HC.out]; rfl, by rw [HL.out]; exact own_nil _ _, HB1.out⟩
  · have HN := Lib.hid hnb
    rw [hnb] at HC HL
    cases hd : doubleB n (natG z)
    · have HD := Lib.hid hd
      rw [hd] at HC HL
      clear hnb hd
      go_enter Tryd.func34, Tryd.ntmps34
      go_wp2_with (first
        | (go_at_call 58; refine (newTown_yes cap HI.out HZ.out HT.out hg).mono ?_; rintro e w1 ⟨rfl, hb1, hG, hT1⟩; have HB1 := Lib.hid hb1; have HG := Lib.hid hG; have HT1 := Lib.hid hT1; clear hb1 hG hT1)
        | (go_at_call 76; refine (areNeighbours_any HG.out HP.out.le HP.out.bd cap x y).mono ?_; rintro e w2 ⟨rfl, rfl⟩; rw [HN.out])
        | (go_at_call 71; refine (isDouble_any HG.out HP.out.le HP.out.bd cap HT1.out).mono ?_; rintro e w3 ⟨rfl, hb3⟩; rw [HD.out]; have HB3 := Lib.hid (HB1.out.trans (hb3.mono HB1.out.size)); clear hb3))
      go_ret2
      exact ⟨_, by rw [HC.out]; rfl, by rw [HL.out]; exact own_nil _ _, HB3.out⟩
    · have HD := Lib.hid hd
      rw [hd] at HC HL
      have hnb2 := hnb
      unfold nbB twoB at hnb2
      simp only [Bool.and_eq_true, bne_iff_ne] at hnb2
      obtain ⟨⟨⟨g1, g2⟩, g3⟩, _⟩ := hnb2
      obtain ⟨x1, x2⟩ := inB_iff.1 g1
      obtain ⟨y1, y2⟩ := inB_iff.1 g2
      obtain ⟨s, rfl⟩ : ∃ k : Nat, x = k := ⟨x.toNat, by omega⟩
      obtain ⟨t, rfl⟩ : ∃ k : Nat, y = k := ⟨y.toNat, by omega⟩
      have HST : Hid (s < n ∧ t < n ∧ s ≠ t) := Lib.hid ⟨by omega, by omega, fun e => g3 (by rw [e])⟩
      rw [Int.toNat_natCast, Int.toNat_natCast] at HL
      clear hnb hd g1 g2 g3 x1 x2 y1 y2
      go_enter Tryd.func34, Tryd.ntmps34
      go_wp2_with (first
        | (go_at_call 58; refine (newTown_yes cap HI.out HZ.out HT.out hg).mono ?_; rintro e w1 ⟨rfl, hb1, hG, hT1⟩; have HB1 := Lib.hid hb1; have HG := Lib.hid hG; have HT1 := Lib.hid hT1; clear hb1 hG hT1)
        | (go_at_call 76; refine (areNeighbours_any HG.out HP.out.le HP.out.bd cap s t).mono ?_; rintro e w2 ⟨rfl, rfl⟩; rw [HN.out])
        | (go_at_call 71; refine (isDouble_any HG.out HP.out.le HP.out.bd cap HT1.out).mono ?_; rintro e w3 ⟨rfl, hb3⟩; rw [HD.out]; have HX3 := Lib.hid hb3; have HB3 := Lib.hid (HB1.out.trans (hb3.mono HB1.out.size)); clear hb3)
        | (go_at_call 77; refine (number_any (HG.out.below HX3.out) HP.out cap s t HST.out.1 HST.out.2.1 HST.out.2.2 HD.out (HT1.out.below HX3.out)).mono ?_; rintro e w4 ⟨v, rfl, ho, hb4⟩; have HO := Lib.hid ho; have HB4 := Lib.hid (HB3.out.trans (hb4.mono HB3.out.size)); clear ho hb4))
      go_ret2
      exact ⟨v, by rw [HC.out]; rfl, by rw [HL.out]; exact ownsRow_base HO.out HB3.out.size, HB4.out⟩

set_option maxRecDepth 20000 in
set_option maxHeartbeats 1000000 in
theorem CheckNumber_none {n m : Nat} {z : Nat → Int} {a o : Option Addr} (cap co : Nat) {w : World} (hI : IntsAt w a n z) (hz : InI64 z) (hT : Tab w) (hg : graphB n 10 z = false) :
    Calls Tryd.prog 35 #[.slice a n cap, .slice o m co] w fun e w' => e = .returned (.tuple #[.bool false, .int .i64 2]) ∧ Below w.heap.size w w' := by
  have HI := Lib.hid hI
  have HZ := Lib.hid hz
  have HT := Lib.hid hT
  clear hI hz hT
  go_enter Tryd.func35, Tryd.ntmps35
  go_wp2_with (go_at_call 58; refine (newTown_no cap HI.out HZ.out HT.out hg).mono ?_; rintro e w1 ⟨rfl, hb1⟩; have HB1 := Lib.hid hb1; clear hb1)
  go_ret2
  exact ⟨rfl, HB1.out⟩
set_option maxRecDepth 20000 in
set_option maxHeartbeats 1000000 in
theorem CheckNumber_yes {n m : Nat} {z y : Nat → Int} {a o : Option Addr} (cap co : Nat) {w : World} (hI : IntsAt w a n z) (hz : InI64 z) (hO : IntsAt w o m y) (hT : Tab w) (hg : graphB n 10 z = true) :
    Calls Tryd.prog 35 #[.slice a n cap, .slice o m co] w fun e w' => e = .returned (.tuple #[.bool (numB n (natG z) m y), .int .i64 0]) ∧ Below w.heap.size w w' := by
  have HI := Lib.hid hI
  have HZ := Lib.hid hz
  have HT := Lib.hid hT
  have HO := Lib.hid hO
  have HP := Lib.hid (pl_of hg)
  obtain ⟨b, hb⟩ : ∃ b, b = numB n (natG z) m y := ⟨_, rfl⟩
  have HX := Lib.hid hb
  clear hI hz hT hO hb
  go_enter Tryd.func35, Tryd.ntmps35
  go_wp2_with (first
    | (go_at_call 58; refine (newTown_yes cap HI.out HZ.out HT.out hg).mono ?_; rintro e w1 ⟨rfl, hb1, hG, hT1⟩; have HB1 := Lib.hid hb1; have HG := Lib.hid hG; have HT1 := Lib.hid hT1; clear hb1 hG hT1)
    | (go_at_call 78; refine (isNumbering_any HG.out HP.out.le HP.out.bd cap co (HO.out.below HB1.out)).mono ?_; rintro e w2 ⟨rfl, hb2⟩; rw [← HX.out]; have HB2 := Lib.hid (HB1.out.trans (hb2.mono HB1.out.size)); clear hb2))
  go_ret2
  exact ⟨by rw [HX.out]; rfl, HB2.out⟩

theorem numB_few {n m : Nat} {r : Nat → Nat} {y : Nat → Int} (hn : n ≤ 10) : numB n r (min m 16) y = numB n r m y := by
  by_cases h : m ≤ 16
  · rw [Nat.min_eq_left h]
  · have e1 : (min m 16 == n) = false := beq_eq_false_iff_ne.2 (by omega)
    have e2 : (m == n) = false := beq_eq_false_iff_ne.2 (by omega)
    unfold numB
    rw [e1, e2]

set_option maxRecDepth 20000 in
theorem node_any (a : Option Addr) (n cap : Nat) (x : Int) (w : World) (hn : n ≤ 65536) :
    Calls Tryd.prog 38 #[.slice a n cap, .int .i64 x] w fun e w' => e = .returned (.bool (inB x n)) ∧ w = w' := by
  by_cases h0 : 0 ≤ x
  · go_enter Tryd.func38, Tryd.ntmps38
    go_wp2
    go_ret
    refine ⟨?_, rfl⟩
    show Ending.returned (Value.bool (decide (x < n))) = _
    unfold inB; congr 2; apply decide_eq_decide.2; omega
  · go_enter Tryd.func38, Tryd.ntmps38
    go_wp2
    go_ret
    refine ⟨?_, rfl⟩
    rw [inB_false (by omega)]; rfl

set_option maxRecDepth 200000 in
set_option maxHeartbeats 4000000 in
theorem EarsNumbers_walk (n m : Nat) (z y : Nat → Int) (v vo : Value) (s t : Int) (w : World) (hA : SliceArg w v n z) (hz : InI64 z) (hO : SliceArg w vo m y) (hTab : HasTab w) :
    Calls Tryd.prog 6 #[v, .int .i64 s, .int .i64 t, vo] w (LawTrue w) := by
  obtain ⟨a, cap, rfl, hI⟩ := hA.ints
  obtain ⟨o, co, rfl, hL⟩ := hO.ints
  have HA := Lib.hid hA
  have HI0 := Lib.hid hI
  have HZ := Lib.hid hz
  have HLA := Lib.hid hO
  have HL0 := Lib.hid hL
  have HT := Lib.hid (Tab.of hTab)
  clear hA hI hz hTab hO hL
  cases hg : graphB n 10 z
  · have HG0 := Lib.hid hg
    have HGM : graphB (min n 14) 10 z = false := by rw [graphB_few]; exact hg
    clear hg
    go_enter Tryd.func6, Tryd.ntmps6
    go_wp2_with fail
    go_at_call 16
    refine (Few_any n z _ _ HA.out).mono ?_
    rintro e w1 ⟨a1, c1, rfl, hi1, hb1⟩
    have HB1 := Lib.hid hb1
    have HI1 := Lib.hid hi1
    clear hb1 hi1
    go_wp2_with fail
    go_at_call 34
    refine (Number_none _ _ _ HI1.out HZ.out (HT.out.below HB1.out) HGM).mono ?_
    rintro e w2 ⟨rfl, hb2⟩
    have HB2 := Lib.hid (HB1.out.trans (hb2.mono HB1.out.size))
    clear hb2
    go_wp2_with fail
    go_at_call 16
    refine (Few_any n z _ _ (HA.out.below HB2.out)).mono ?_
    rintro e w3 ⟨a3, c3, rfl, hi3, hb3⟩
    have HI3 := Lib.hid hi3
    have HB3 := Lib.hid (HB2.out.trans (hb3.mono HB2.out.size))
    clear hb3
    clear hi3
    go_wp2_with fail
    go_at_call 36
    refine (List_any m y _ _ (HLA.out.below HB3.out)).mono ?_
    rintro e w4 ⟨a4, c4, rfl, hi4, hb4⟩
    have HX4 := Lib.hid hb4
    have HB4 := Lib.hid (HB3.out.trans (hb4.mono HB3.out.size))
    clear hb4
    clear hi4
    go_wp2_with fail
    go_at_call 35
    refine (CheckNumber_none _ _ (HI3.out.below HX4.out) HZ.out (HT.out.below HB4.out) HGM).mono ?_
    rintro e w5 ⟨rfl, hb5⟩
    have HB5 := Lib.hid (HB4.out.trans (hb5.mono HB4.out.size))
    clear hb5
    go_wp2_with fail
    go_at_call 18
    refine (ValidR_any n z _ _ _ (HI0.out.below HB5.out) HZ.out).mono ?_
    rintro e w6 ⟨rfl, hb6⟩
    rw [HG0.out]
    have HB6 := Lib.hid (HB5.out.trans (hb6.mono HB5.out.size))
    clear hb6
    go_wp2_with fail
    go_at_call 19
    refine (awake_any _ (HT.out.below HB6.out)).mono ?_
    rintro e w7 ⟨rfl, hb7⟩
    have HB7 := Lib.hid (HB6.out.trans (hb7.mono HB6.out.size))
    clear hb7
    go_wp2_with fail
    go_ret
    exact ⟨rfl, HB7.out⟩
  · have hP := pl_of hg
    have hn10 := hP.le
    have hmin : min n 14 = n := by omega
    have HM : Hid (min n 14 = n) := Lib.hid hmin
    have HG0 := Lib.hid hg
    have HPL := Lib.hid hP
    have hGR := GrAt.of_graph HI0.out hg (by omega)
    have hn65 : n ≤ 65536 := by omega
    obtain ⟨b0, off0, rfl, hlt0, hc0⟩ := hGR.ints.2 hGR.pos
    have hbg : ∀ wx, Below w.heap.size w wx → ∀ i, i < n → wx.cell? ⟨b0, off0 + i, none⟩ = some (.int .i64 (natG z i : Nat)) := fun wx hb i hi => by rw [hb.cell (p := ⟨b0, off0 + i, none⟩) hlt0]; exact hc0 i hi
    have HCG := Lib.hid hbg
    have HGR := Lib.hid hGR
    have h10 := pow_le10 hn10
    clear hGR hlt0 hc0 hbg
    obtain ⟨bn, hbn⟩ : ∃ b, b = numB n (natG z) m y := ⟨_, rfl⟩
    have HBN : Hid (numB n (natG z) (min m 16) y = bn) := Lib.hid (by rw [numB_few hn10, hbn])
    have HBR : Hid (numRB n (natG z) m y = bn) := Lib.hid (by rw [← num_same hP, hbn])
    obtain ⟨L, hL⟩ : ∃ L, L = numLs n (natG z) s t := ⟨_, rfl⟩
    obtain ⟨C, hC⟩ : ∃ C, C = numC n (natG z) s t := ⟨_, rfl⟩
    have HLL := Lib.hid hL
    have HCC := Lib.hid hC
    have HLN : Hid (L.length ≤ 65536) := Lib.hid (by rw [hL]; exact numLs_len hP _ _)
    have HN10 := Lib.hid hn10
    clear hbn hL hC hmin hP hg
    go_enter Tryd.func6, Tryd.ntmps6
    go_wp2_with fail
    go_at_call 16
    refine (Few_any n z _ _ HA.out).mono ?_
    rintro e w1 ⟨a1, c1, rfl, hi1, hb1⟩
    rw [HM.out] at hi1
    rw [HM.out]
    have HB1 := Lib.hid hb1
    have HI1 := Lib.hid hi1
    clear hb1 hi1
    go_wp2_with fail
    go_at_call 34
    refine (Number_all _ _ _ HI1.out HZ.out (HT.out.below HB1.out) HG0.out).mono ?_
    rintro e w2 ⟨v2, rfl, ho2, hb2⟩
    rw [← HLL.out] at ho2
    rw [← HCC.out]
    obtain ⟨a2, c2, hv2⟩ := own_form ho2
    obtain ⟨k, hk⟩ : ∃ k, k = L.length := ⟨_, rfl⟩
    rw [← hk] at hv2
    subst hv2
    have HK := Lib.hid hk
    have HO2 := Lib.hid ho2
    clear ho2 hk
    have HB2 := Lib.hid (HB1.out.trans (hb2.mono HB1.out.size))
    clear hb2
    go_wp2_with fail
    go_at_call 16
    refine (Few_any n z _ _ (HA.out.below HB2.out)).mono ?_
    rintro e w3 ⟨a3, c3, rfl, hi3, hb3⟩
    rw [HM.out] at hi3
    rw [HM.out]
    have HX3 := Lib.hid hb3
    have HI3 := Lib.hid hi3
    have HB3 := Lib.hid (HB2.out.trans (hb3.mono HB2.out.size))
    clear hb3
    clear hi3
    go_wp2_with fail
    go_at_call 36
    refine (List_any m y _ _ (HLA.out.below HB3.out)).mono ?_
    rintro e w4 ⟨a4, c4, rfl, hi4, hb4⟩
    have HX4 := Lib.hid (HX3.out.trans (hb4.mono HX3.out.size))
    have HY4 := Lib.hid hb4
    have HI4 := Lib.hid hi4
    have HB4 := Lib.hid (HB3.out.trans (hb4.mono HB3.out.size))
    clear hb4
    clear hi4
    go_wp2_with fail
    go_at_call 35
    refine (CheckNumber_yes _ _ (HI3.out.below HY4.out) HZ.out HI4.out (HT.out.below HB4.out) HG0.out).mono ?_
    rintro e w5 ⟨rfl, hb5⟩
    rw [HBN.out]
    have HX5 := Lib.hid (HX4.out.trans (hb5.mono HX4.out.size))
    have HB5 := Lib.hid (HB4.out.trans (hb5.mono HB4.out.size))
    clear hb5
    go_wp2_with fail
    go_at_call 18
    refine (ValidR_any n z _ _ _ (HI0.out.below HB5.out) HZ.out).mono ?_
    rintro e w6 ⟨rfl, hb6⟩
    rw [HG0.out]
    have HX6 := Lib.hid (HX5.out.trans (hb6.mono HX5.out.size))
    have HB6 := Lib.hid (HB5.out.trans (hb6.mono HB5.out.size))
    clear hb6
    have hbb : (bn != bn) = false := by simp
    go_wp2_with fail
    go_at_call 37
    refine (IsNumberR_any (HGR.out.below HB6.out) HPL.out _ _ (HL0.out.below HB6.out)).mono ?_
    rintro e w7 ⟨rfl, hb7⟩
    rw [HBR.out]
    have HX7 := Lib.hid (HX6.out.trans (hb7.mono HX6.out.size))
    have HB7 := Lib.hid (HB6.out.trans (hb7.mono HB6.out.size))
    clear hb7
    go_wp2_with fail
    go_at_call 19
    refine (awake_any _ (HT.out.below HB7.out)).mono ?_
    rintro e w8 ⟨rfl, hb8⟩
    have HX8 := Lib.hid (HX7.out.trans (hb8.mono HX7.out.size))
    have HB8 := Lib.hid (HB7.out.trans (hb8.mono HB7.out.size))
    clear hb8
    cases hnb : nbB n (natG z) s t
    · obtain ⟨g1, g2⟩ := num_no hnb
      have hL0 : k = 0 := by rw [HK.out, HLL.out, g1]; rfl
      have hC2 : C = 2 := by rw [HCC.out, g2]
      subst hL0
      subst hC2
      have HNB := Lib.hid hnb
      clear hnb g1 g2
      cases hs : inB s n
      · have HS := Lib.hid hs
        clear hs
        go_wp2_with fail
        go_at_call 38
        refine (node_any _ _ _ _ _ hn65).mono ?_
        rintro e w9 ⟨rfl, rfl⟩
        rw [HS.out]
        go_wp2_with fail
        go_ret
        exact ⟨rfl, HB8.out⟩
      · cases ht : inB t n
        · have HS := Lib.hid hs
          have HTT := Lib.hid ht
          clear hs ht
          go_wp2_with fail
          go_at_call 38
          refine (node_any _ _ _ _ _ hn65).mono ?_
          rintro e w9 ⟨rfl, rfl⟩
          rw [HS.out]
          go_wp2_with fail
          go_at_call 38
          refine (node_any _ _ _ _ _ hn65).mono ?_
          rintro e w9 ⟨rfl, rfl⟩
          rw [HTT.out]
          go_wp2_with fail
          go_ret
          exact ⟨rfl, HB8.out⟩
        · obtain ⟨s1, s2⟩ := inB_iff.1 hs
          obtain ⟨t1, t2⟩ := inB_iff.1 ht
          have HS := Lib.hid hs
          have HTT := Lib.hid ht
          obtain ⟨x, rfl⟩ : ∃ x : Nat, s = x := ⟨s.toNat, by omega⟩
          obtain ⟨q, rfl⟩ : ∃ q : Nat, t = q := ⟨t.toNat, by omega⟩
          have hxn : x < n := by omega
          have hq64 : q < 64 := by omega
          have hbit : (natG z x).testBit q = false := by
            have h := HNB.out
            unfold nbB twoB at h
            rw [HS.out, HTT.out, Int.toNat_natCast, Int.toNat_natCast] at h
            by_cases e : x = q
            · rw [← e]; exact HPL.out.loop x hxn
            · rw [show ((x : Int) != (q : Int)) = true by rw [bne_iff_ne]; omega] at h
              simpa using h
          have cx := HCG.out w8 HB8.out x hxn
          have hrx : natG z x < 65536 := by have := HPL.out.bd x hxn; omega
          clear hs ht s1 s2 t1 t2
          generalize natG z x = rx at *
          go_wp2_with fail
          go_at_call 38
          refine (node_any _ _ _ _ _ hn65).mono ?_
          rintro e w9 ⟨rfl, rfl⟩
          rw [HS.out]
          go_wp2_with fail
          go_at_call 38
          refine (node_any _ _ _ _ _ hn65).mono ?_
          rintro e w9 ⟨rfl, rfl⟩
          rw [HTT.out]
          go_wp2_with fail
          go_ret
          exact ⟨rfl, HB8.out⟩
    · have hnb2 := hnb
      unfold nbB twoB at hnb2
      simp only [Bool.and_eq_true, bne_iff_ne] at hnb2
      obtain ⟨⟨⟨hs, ht⟩, hst⟩, hbit⟩ := hnb2
      obtain ⟨s1, s2⟩ := inB_iff.1 hs
      obtain ⟨t1, t2⟩ := inB_iff.1 ht
      have HS := Lib.hid hs
      have HTT := Lib.hid ht
      obtain ⟨x, rfl⟩ : ∃ x : Nat, s = x := ⟨s.toNat, by omega⟩
      obtain ⟨q, rfl⟩ : ∃ q : Nat, t = q := ⟨t.toNat, by omega⟩
      rw [Int.toNat_natCast, Int.toNat_natCast] at hbit
      have hxn : x < n := by omega
      have hqn : q < n := by omega
      have hxq : x ≠ q := fun e => hst (by rw [e])
      have HXQ := Lib.hid hxq
      have hq64 : q < 64 := by omega
      have cx := HCG.out w8 HB8.out x hxn
      have hrx : natG z x < 65536 := by have := HPL.out.bd x hxn; omega
      clear hs ht s1 s2 t1 t2 hst hxq
      cases hd : doubleB n (natG z)
      · obtain ⟨g1, g2⟩ := num_state hnb hd
        have hL0 : k = 0 := by rw [HK.out, HLL.out, g1]; rfl
        have hC2 : C = 5 := by rw [HCC.out, g2]
        subst hL0
        subst hC2
        have HD := Lib.hid hd
        clear hnb g1 g2 hd
        generalize hrr : natG z x = rx at *
        clear hrr
        go_wp2_with fail
        go_at_call 38
        refine (node_any _ _ _ _ _ hn65).mono ?_
        rintro e w9 ⟨rfl, rfl⟩
        rw [HS.out]
        go_wp2_with fail
        go_at_call 38
        refine (node_any _ _ _ _ _ hn65).mono ?_
        rintro e w9 ⟨rfl, rfl⟩
        rw [HTT.out]
        go_wp2_with fail
        go_at_call 32
        refine (DoubleR_any (HGR.out.below HB8.out) HPL.out _).mono ?_
        rintro e w9 ⟨rfl, hb9⟩
        rw [HD.out]
        have HB9 := Lib.hid (HB8.out.trans (hb9.mono HB8.out.size))
        clear hb9
        go_wp2_with fail
        go_ret
        exact ⟨rfl, HB9.out⟩
      · obtain ⟨g1, g2⟩ := num_yes hnb hd
        rw [Int.toNat_natCast, Int.toNat_natCast] at g1
        have hC2 : C = 0 := by rw [HCC.out, g2]
        subst hC2
        have HD := Lib.hid hd
        have HLE : Hid (numL n (natG z) x q = L) := Lib.hid (by rw [HLL.out, g1])
        clear hnb g1 g2 hd
        have HNUM := Lib.hid (fun (wx : World) (hb : Below w.heap.size w wx) => NumberR_any (HGR.out.below hb) HPL.out cap x q hxn hqn HXQ.out HD.out)
        generalize hrr : natG z x = rx at *
        clear hrr
        go_wp2_with fail
        go_at_call 38
        refine (node_any _ _ _ _ _ hn65).mono ?_
        rintro e w9 ⟨rfl, rfl⟩
        rw [HS.out]
        go_wp2_with fail
        go_at_call 38
        refine (node_any _ _ _ _ _ hn65).mono ?_
        rintro e w9 ⟨rfl, rfl⟩
        rw [HTT.out]
        go_wp2_with fail
        go_at_call 32
        refine (DoubleR_any (HGR.out.below HB8.out) HPL.out _).mono ?_
        rintro e w9 ⟨rfl, hb9⟩
        rw [HD.out]
        have HX9 := Lib.hid (HX8.out.trans (hb9.mono HX8.out.size))
        have HB9 := Lib.hid (HB8.out.trans (hb9.mono HB8.out.size))
        clear hb9
        go_wp2_with fail
        go_at_call 39
        refine (HNUM.out _ HB9.out).mono ?_
        rintro e w10 ⟨v10, rfl, ho10, hb10⟩
        rw [HLE.out] at ho10
        have hO2 := HO2.out.below (HX9.out.trans (hb10.mono HX9.out.size))
        obtain ⟨a5, c5, hv5, hA5⟩ := hO2.ints HLN.out
        obtain ⟨a6, c6, hv6, hA6⟩ := ho10.ints HLN.out
        rw [← HK.out] at hv5 hA5 hv6 hA6
        cases hv5
        subst hv6
        have HA5 := Lib.hid hA5
        have HA6 := Lib.hid hA6
        have HB10 := Lib.hid (HB9.out.trans (hb10.mono HB9.out.size))
        clear hb10
        clear hO2 hA5 hA6 ho10
        go_wp2_with fail
        go_at_call 25
        refine (EqualI_true _ _ HA5.out HA6.out).mono ?_
        rintro e w11 ⟨rfl, hb11⟩
        have HB11 := Lib.hid (HB10.out.trans (hb11.mono HB10.out.size))
        clear hb11
        go_wp2_with fail
        go_ret
        exact ⟨rfl, HB11.out⟩

end Go.Proofs.YtnjpciaeapgbiaaDoor
