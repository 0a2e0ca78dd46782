/- The contract of package sweep's isBlockage. -/
import Derived.Test.YtgkpogaahndmoaaDoorQca
namespace Go.Proofs.YtgkpogaahndmoaaDoor
set_option linter.unusedSimpArgs false
set_option linter.unusedVariables false
open Go.RowKit Go.Maps
attribute [local go_sem] i64_bit toNat_eq_one toNat_ne_one toNat_eq_zero toNat_ne_zero i64_and i64_or i64_andNot i64_or_pow i64_andNot_pow

/-- Truth values in a block of one's own. -/
def bol (N : Nat) (F : Nat → Bool) : List Value := (List.range N).map fun i => Value.bool (F i)
theorem bol_get {N : Nat} {F : Nat → Bool} {i : Nat} (h : i < N) : (bol N F)[i]? = some (.bool (F i)) := map_range_get _ h
theorem bol_set {N : Nat} {F : Nat → Bool} {i : Nat} {b : Bool} : (bol N F).set i (.bool b) = bol N (fun j => if j = i then b else F j) := by
  unfold bol
  rw [map_range_set]
  apply List.map_congr_left
  intro j _
  by_cases h : j = i <;> simp [h]
theorem bol_congr {N : Nat} {F G : Nat → Bool} (h : ∀ i, i < N → F i = G i) : bol N F = bol N G := by
  unfold bol
  apply List.map_congr_left
  intro j hj
  rw [h j (List.mem_range.1 hj)]

theorem inZ_succ (k : Nat) (z : Nat → Int) (x : Nat) : inZ (k + 1) z x = (inZ k z x || z k == (x : Int)) := by
  unfold inZ; rw [List.range_succ, List.any_append]; simp
theorem okAll_bad {n K m k : Nat} {r : Nat → Nat} {z : Nat → Int} (hk : k < m) (h : okBl n r K z k = false) : okAll n r K m z = false := by
  unfold okAll
  rw [Bool.eq_false_iff]
  intro ha
  rw [List.all_eq_true.1 ha k (List.mem_range.2 hk)] at h
  cases h
theorem okAll_good {n K m : Nat} {r : Nat → Nat} {z : Nat → Int} (h : ∀ k, k < m → okBl n r K z k = true) : okAll n r K m z = true :=
  List.all_eq_true.2 fun k hk => h k (List.mem_range.1 hk)
theorem blkP_bad {n K m x y : Nat} {r : Nat → Nat} {z : Nat → Int} (hx : x ∈ thinL n r K (2 ^ n)) (hy : y ∈ thinL n r K (2 ^ n)) (h : badP n r K m z x y = true) : blkP n r K m z = false := by
  unfold blkP
  rw [Bool.eq_false_iff]
  intro ha
  rw [Bool.and_eq_true, List.all_eq_true] at ha
  have := List.all_eq_true.1 (ha.2 x hx) y hy
  rw [h] at this; cases this

set_option maxRecDepth 40000 in
set_option maxHeartbeats 8000000 in
theorem isBlockage_any {n m : Nat} {r : Nat → Nat} {z : Nat → Int} {ad o : Option Addr} {w : World} (G : GrAt w ad n r) (hP : Pl n r) (cap co K : Nat) (hK : K ≤ 7) (hI : IntsAt w o m z) (hT : Tab w) :
    Calls Tryd.prog 67 #[.slice ad n cap, .slice o m co, .int .i64 K] w fun e w' => e = .returned (.bool (blkP n r K m z)) ∧ Below w.heap.size w w' := by
  have hn7 := hP.le
  have hn16 : n < 16 := by omega
  have h7 := pow_le7 hn7
  have HG := Lib.hid G
  have HPL := Lib.hid hP
  have HT := Lib.hid hT
  have HI := Lib.hid hI
  have hml := hI.1
  unfold maxLen at hml
  have HBK : Hid (blkP n r K m z = (okAll n r K m z && (thinL n r K (2 ^ n)).all fun x => (thinL n r K (2 ^ n)).all fun y => !badP n r K m z x y)) := Lib.hid rfl
  clear G hP hT hI
  have hzc : Tryd.zeroCells117 = (bol 128 fun _ => false).toArray := by kernel_rfl
  go_enter Tryd.func67, Tryd.ntmps67
  go_wp2_with fail
  generalize hw0 : w.alloc _ = w0
  have r0 : Row w0 w.heap.size 117 (bol 128 fun _ => false) := by rw [← hw0]; exact Row.new w 117 (bol 128 fun _ => false)
  have hb0 : Below w.heap.size w w0 := by rw [← hw0]; exact (Below.refl _ _).alloc (Nat.le_refl _) _
  clear hw0 hzc
  go_loopw [8, 18] (fun l i wr => ∃ k : Nat, k ≤ m ∧ i = .int .i64 k ∧ l = .int .i64 (lastZ z k) ∧ Row wr w.heap.size 117 (bol 128 (inZ k z)) ∧ (∀ i, i < k → okBl n r K z i = true) ∧ Below w.heap.size w wr) (fun _ i _ => m - (intOf i).toNat)
  case atStart => exact ⟨0, Nat.zero_le _, rfl, rfl, r0, by omega, hb0⟩
  case round =>
    obtain ⟨k, hk, rfl, rfl, hrow, hok, hbr⟩ := hrel
    have HRW := Lib.hid hrow
    have HOK := Lib.hid hok
    have HBR := Lib.hid hbr
    have hbsz := hbr.size
    clear hrow hok hbr r0 hb0
    by_cases hlt : k < m
    · obtain ⟨ob, oo, rfl, hlb, hc⟩ := (HI.out.below HBR.out).2 (by omega)
      have ck := hc k hlt
      have HLZ : Hid (lastZ z (k + 1) = z k) := Lib.hid (by unfold lastZ; simp)
      have HOB : Hid (okBl n r K z k = (decide (lastZ z k < z k) && (inB (z k) (2 ^ n) && thinB n r K (z k).toNat))) := Lib.hid rfl
      have HIS : Hid (∀ x : Nat, inZ (k + 1) z x = (inZ k z x || z k == (x : Int))) := Lib.hid fun x => inZ_succ k z x
      have HFB : Hid (okBl n r K z k = false → blkP n r K m z = false) := Lib.hid fun h => by rw [HBK.out, okAll_bad hlt h]; rfl
      have HEX : Hid (okBl n r K z k = true → ∀ i, i < k + 1 → okBl n r K z i = true) := Lib.hid fun h i hi => by
        rcases Nat.lt_succ_iff_lt_or_eq.1 hi with h2 | h2
        · exact HOK.out i h2
        · rw [h2]; exact h
      clear hc
      generalize lastZ z k = lz at *
      generalize z k = zk at *
      by_cases g1 : lz < zk
      · rw [decide_eq_true g1] at HOB
        cases g2 : inB zk (2 ^ n)
        · have HF := Lib.hid (HFB.out (by rw [HOB.out, g2]; rfl))
          have G2 := Lib.hid g2
          clear g2
          go_wp2_with (go_at_call 72; refine (isSet_any _ _ _ _ _ hn16).mono ?_; rintro e w1 ⟨rfl, rfl⟩; rw [G2.out])
          go_ret
          exact ⟨by rw [HF.out]; rfl, HBR.out⟩
        · have G2 := Lib.hid g2
          obtain ⟨q1, q2⟩ := inB_iff.1 g2
          have hs2 := nat_pow_cast q2 q1
          obtain ⟨s, rfl⟩ : ∃ s : Nat, zk = s := ⟨zk.toNat, by omega⟩
          rw [Int.toNat_natCast] at HOB hs2
          have hs128 : s < 128 := by omega
          have HTB : Hid (thinB n r K s = decide (szS n (bord r s) ≤ K)) := Lib.hid rfl
          have hbl := bord_lt (r := r) hs2
          have HSL := szS_le n (bord r s)
          have HBO := Lib.hid (border_any (HG.out.below HBR.out) hn7 HPL.out.bd cap s hs2 (HT.out.below HBR.out))
          have HCO := Lib.hid (fun w => count_any (n := n) (by omega) (bord r s) hbl w)
          generalize bord r s = X at *
          generalize szS n X = Y at *
          clear g2 q1 q2
          by_cases hY : Y ≤ K
          · have d1 : decide ((K : Int) < (Y : Int)) = false := by simp; omega
            have HOKK := Lib.hid (HEX.out (by rw [HOB.out, G2.out, HTB.out, decide_eq_true hY]; rfl))
            go_wp2_with (first
              | (go_at_call 72; refine (isSet_any _ _ _ _ _ hn16).mono ?_; rintro e w1 ⟨rfl, rfl⟩; rw [G2.out])
              | (go_at_call 77; refine HBO.out.mono ?_; rintro e w2 ⟨rfl, hb2⟩; have HR2 := Lib.hid (HRW.out.below hb2 HRW.out.lt); have HB2 := Lib.hid (HBR.out.trans (hb2.mono hbsz)); have f2 := HR2.out.free s; have l2 := HR2.out.lt; have c2 := HR2.out.cell (i := s) (bol_get hs128); clear hb2)
              | (go_at_call 76; refine (HCO.out _).mono ?_; rintro e w3 ⟨rfl, rfl⟩))
            go_roundw
            case rel =>
              refine ⟨k + 1, by omega, by go_num, by rw [HLZ.out], ?_, HOKK.out, HB2.out.setCell (p := ⟨w.heap.size, s, none⟩) (Nat.le_refl _) _⟩
              have hr := HR2.out.set s (.bool true)
              rw [bol_set] at hr
              rw [bol_congr (G := fun j => if j = s then true else inZ k z j)]
              · exact hr
              · intro j _
                rw [HIS.out]
                by_cases e : j = s
                · subst e; simp
                · rw [if_neg e, show ((s : Int) == (j : Int)) = false from by rw [beq_eq_false_iff_ne]; omega, Bool.or_false]
            case measure => simp [intOf]; omega
          · have d1 : decide ((K : Int) < (Y : Int)) = true := by simp; omega
            have HF := Lib.hid (HFB.out (by rw [HOB.out, G2.out, HTB.out, decide_eq_false hY]; rfl))
            go_wp2_with (first
              | (go_at_call 72; refine (isSet_any _ _ _ _ _ hn16).mono ?_; rintro e w1 ⟨rfl, rfl⟩; rw [G2.out])
              | (go_at_call 77; refine HBO.out.mono ?_; rintro e w2 ⟨rfl, hb2⟩; have HB2 := Lib.hid (HBR.out.trans (hb2.mono hbsz)); clear hb2)
              | (go_at_call 76; refine (HCO.out _).mono ?_; rintro e w3 ⟨rfl, rfl⟩))
            go_ret
            exact ⟨by rw [HF.out]; rfl, HB2.out⟩
      · have HF := Lib.hid (HFB.out (by rw [HOB.out, decide_eq_false g1]; rfl))
        go_wp2_with fail
        go_ret
        exact ⟨by rw [HF.out]; rfl, HBR.out⟩
    · have hke : k = m := by omega
      rw [hke] at HRW HOK
      have HALL := Lib.hid (okAll_good HOK.out)
      rw [HALL.out, Bool.true_and] at HBK
      have HL := Lib.hid (thinL_len n r K (2 ^ n))
      have HMEM : Hid (∀ i x, (thinL n r K (2 ^ n))[i]? = some x → x < 2 ^ n ∧ x ∈ thinL n r K (2 ^ n)) := Lib.hid fun i x h => ⟨(thinL_mem (List.mem_of_getElem? h)).1, List.mem_of_getElem? h⟩
      have HBAD : Hid (∀ x y, x ∈ thinL n r K (2 ^ n) → y ∈ thinL n r K (2 ^ n) → badP n r K m z x y = true → blkP n r K m z = false) := Lib.hid fun x y hx hy h => blkP_bad hx hy h
      have HTS := Lib.hid (thinSets_any (HG.out.below HBR.out) HPL.out cap K hK (HT.out.below HBR.out))
      generalize thinL n r K (2 ^ n) = L at *
      obtain ⟨N, hN⟩ : ∃ N, N = L.length := ⟨_, rfl⟩
      have HN := Lib.hid hN
      have hN128 : N ≤ 128 := by have := HL.out; omega
      have hki : ¬ (k : Int) < (m : Int) := by omega
      clear hke hN hlt hk
      go_wp2_with fail
      go_at_call 84
      refine HTS.out.mono ?_
      rintro e wb ⟨v, rfl, hov, hbb⟩
      obtain ⟨va, vc, hv, hvi⟩ := hov.ints (by rw [natsI_len]; have := HN.out; omega)
      rw [natsI_len, ← HN.out] at hv hvi
      subst hv
      have HVI := Lib.hid hvi
      have HRB := Lib.hid (HRW.out.below hbb HRW.out.lt)
      have HBB := Lib.hid (HBR.out.trans (hbb.mono hbsz))
      have hbbsz := HBB.out.size
      clear hov hvi hbb HRW HOK
      go_wp2_with fail
      go_loopw [48] (fun i wr => ∃ p : Nat, p ≤ N ∧ i = .int .i64 p ∧ (∀ a x, a < p → L[a]? = some x → ∀ y ∈ L, badP n r K m z x y = false) ∧ Below wb.heap.size wb wr) (fun i _ => N - (intOf i).toNat)
      case atStart => exact ⟨0, Nat.zero_le _, rfl, by omega, Below.refl _ _⟩
      case round =>
        obtain ⟨p, hp, rfl, hdone, hbr⟩ := hrel
        have HD := Lib.hid hdone
        have HBX := Lib.hid hbr
        clear hdone hbr
        by_cases hpn : p < N
        · obtain ⟨x, hx⟩ : ∃ x, L[p]? = some x := ⟨L[p]'(by have := HN.out; omega), by simp⟩
          have HX := Lib.hid hx
          obtain ⟨hxn, hxm⟩ := HMEM.out p x hx
          have HXM := Lib.hid hxm
          obtain ⟨gb, go, hga, hgl, hgc⟩ := (HVI.out.below HBX.out).2 (by omega)
          subst hga
          have cp := hgc p hpn
          rw [natsI_get hx] at cp
          clear hx hxm hgc hgl
          go_wp2_with fail
          obtain ⟨wo, rfl⟩ : ∃ x, x = wr := ⟨_, rfl⟩
          go_loopw [54] (fun i wx => ∃ q : Nat, q ≤ N ∧ i = .int .i64 q ∧ (∀ a y, a < q → L[a]? = some y → badP n r K m z x y = false) ∧ Below wb.heap.size wb wx) (fun i _ => N - (intOf i).toNat)
          case atStart => exact ⟨0, Nat.zero_le _, rfl, by omega, HBX.out⟩
          case round =>
            obtain ⟨q, hq, rfl, hdq, hbr⟩ := hrel
            have HDQ := Lib.hid hdq
            have HBQ := Lib.hid hbr
            have hbqs := hbr.size
            clear hdq hbr cp
            by_cases hqn : q < N
            · obtain ⟨y, hy⟩ : ∃ y, L[q]? = some y := ⟨L[q]'(by have := HN.out; omega), by simp⟩
              obtain ⟨hyn, hym⟩ := HMEM.out q y hy
              obtain ⟨gb', go', hga, hgl, hgc⟩ := (HVI.out.below HBQ.out).2 (by omega)
              cases hga
              have cq := hgc q hqn
              rw [natsI_get hy] at cq
              have HBP : Hid (badP n r K m z x y = ((inZ m z x && (!inZ m z y && diff y x == 0)) || (inZ m z x == inZ m z y && pairT n r K x y))) := Lib.hid rfl
              have HFB : Hid (badP n r K m z x y = true → blkP n r K m z = false) := Lib.hid fun h => HBAD.out x y HXM.out hym h
              have HNX : Hid (badP n r K m z x y = false → ∀ a y', a < q + 1 → L[a]? = some y' → badP n r K m z x y' = false) := Lib.hid fun h a y' ha hy' => by
                rcases Nat.lt_succ_iff_lt_or_eq.1 ha with h2 | h2
                · exact HDQ.out a y' h2 hy'
                · subst h2; rw [hy] at hy'; cases hy'; exact h
              have hBw := HBB.out.trans (HBQ.out.mono hbbsz)
              have HBW := Lib.hid hBw
              have HPR : Hid (∀ u : BelowW wr.heap.size wr, Calls Tryd.prog 87 #[.slice ad n cap, .int .i64 x, .int .i64 y, .int .i64 K] u.w fun e w' => e = .returned (.bool (pairT n r K x y)) ∧ Below u.w.heap.size u.w w') := Lib.hid fun u =>
                isPair_any (HG.out.below (hBw.trans (u.h.mono hBw.size))) HPL.out cap K x y hxn hyn (HT.out.below (hBw.trans (u.h.mono hBw.size)))
              have HPT : Hid (∀ u : BelowW wr.heap.size wr, Calls Tryd.prog 80 #[.int .i64 y, .int .i64 x] u.w fun e w' => e = .returned (.bool (diff y x == 0)) ∧ Below u.w.heap.size u.w w') := Lib.hid fun u =>
                (isPart_any y x u.w (by omega) (by omega)).mono fun _ _ ⟨h1, h2⟩ => ⟨h1, by subst h2; exact Below.refl _ _⟩
              have hx128 : x < 128 := by omega
              have hy128 : y < 128 := by omega
              have hrq := HRB.out.below HBQ.out HRB.out.lt
              have cx : ∀ u : BelowW wr.heap.size wr, u.w.cell? ⟨w.heap.size, x, none⟩ = some (.bool (inZ m z x)) := fun u => (hrq.below u.h hrq.lt).cell (i := x) (bol_get hx128)
              have cy : ∀ u : BelowW wr.heap.size wr, u.w.cell? ⟨w.heap.size, y, none⟩ = some (.bool (inZ m z y)) := fun u => (hrq.below u.h hrq.lt).cell (i := y) (bol_get hy128)
              clear hy hym hgc hgl hBw hrq
              generalize pairT n r K x y = pr at *
              generalize (diff y x == 0) = pt at *
              generalize badP n r K m z x y = bp at *
              generalize inZ m z x = ix at *
              generalize inZ m z y = iy at *
              cases ix <;> cases iy <;> cases pr <;> cases pt
              all_goals
                first
                  | (have HV2 := Lib.hid (show bp = false from HBP.out))
                  | (have HV2 := Lib.hid (show bp = true from HBP.out))
                clear HBP
                go_wp2_with fail
                refine wp_region_below wr.heap.size wr (Below.refl _ _) (by kernel_rfl) (by kernel_rfl) ?_
                repeat (go_big_quiet_step (first | (go_at_call 87; exact calls_below (Nat.le_refl _) (HPR.out _)) | (go_at_call 80; exact calls_below (Nat.le_refl _) (HPT.out _))))
                refine wpQuiet_nil ?_
                rintro _ ⟨u, rfl⟩
                have HU := Lib.hid u.h
                go_wp2_with fail
                first
                  | (go_roundw; (case rel => exact ⟨q + 1, by omega, by go_num, HNX.out HV2.out, HBQ.out.trans (HU.out.mono hbqs)⟩); (case measure => simp [intOf]; omega))
                  | (go_ret; exact ⟨by rw [HFB.out HV2.out]; rfl, HBW.out.trans (HU.out.mono HBW.out.size)⟩)
            · have hqe : q = N := by omega
              have HDX : Hid (∀ a x', a < p + 1 → L[a]? = some x' → ∀ y ∈ L, badP n r K m z x' y = false) := Lib.hid fun a x' ha hx' y hy => by
                rcases Nat.lt_succ_iff_lt_or_eq.1 ha with h2 | h2
                · exact HD.out a x' h2 hx' y hy
                · subst h2
                  rw [HX.out] at hx'
                  cases hx'
                  obtain ⟨j, hj⟩ := List.getElem?_of_mem hy
                  exact HDQ.out j y (by rw [hqe, HN.out]; exact (List.getElem?_eq_some_iff.1 hj).1) hj
              clear hqe
              go_wp2_with fail
              go_roundw
              case rel => exact ⟨p + 1, by omega, by go_num, HDX.out, HBQ.out⟩
              case measure => simp [intOf]; omega
        · have hpe : p = N := by omega
          have HX : Hid (blkP n r K m z = true) := Lib.hid (by
            rw [HBK.out]
            refine List.all_eq_true.2 fun x hx => List.all_eq_true.2 fun y hy => ?_
            obtain ⟨j, hj⟩ := List.getElem?_of_mem hx
            rw [HD.out j x (by rw [hpe, HN.out]; exact (List.getElem?_eq_some_iff.1 hj).1) hj y hy]; rfl)
          clear hpe
          go_wp2_with fail
          go_ret
          exact ⟨by rw [HX.out]; rfl, HBB.out.trans (HBX.out.mono hbbsz)⟩

end Go.Proofs.YtgkpogaahndmoaaDoor
