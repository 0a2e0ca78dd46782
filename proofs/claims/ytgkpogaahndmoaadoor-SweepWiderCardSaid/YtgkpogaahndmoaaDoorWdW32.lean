/- The contracts of package width's isDecomposition and Check. -/
import Derived.Test.YtgkpogaahndmoaaDoorWdW31
namespace Go.Proofs.YtgkpogaahndmoaaDoor.Wd
set_option linter.unusedSimpArgs false
set_option linter.unusedVariables false
open Go.RowKit Go.Maps
attribute [local go_sem] i64_bit toNat_eq_one toNat_ne_one toNat_eq_zero toNat_ne_zero i64_and i64_or i64_andNot i64_or_pow i64_andNot_pow

/-- Whether a node's bags hang together, and whether it is in some bag with each neighbour. -/
def nodeB (r : Nat → Nat) (m : Nat) (z p : Nat → Int) (v : Nat) : Bool := decide (topsTo z p v m = 1) && diff (r v) (togTo z v m) == 0
/-- Whether bags and parents are a tree decomposition. -/
def decB (n : Nat) (r : Nat → Nat) (m q : Nat) (z p : Nat → Int) : Bool := treeB m q p && ((List.range m).all fun i => inB (z i) (2 ^ n)) && (List.range n).all (nodeB r m z p)
theorem treeB_iff {m q : Nat} {p : Nat → Int} (h : treeB m q p = true) : 1 ≤ m ∧ m ≤ 30 ∧ q = m ∧ (∀ i, i < m → -1 ≤ p i ∧ p i < m) ∧ rootsTo p m = 1 ∧ cycB m p = false := by
  unfold treeB parB at h
  simp only [Bool.and_eq_true, decide_eq_true_eq, List.all_eq_true, List.mem_range, Bool.not_eq_true'] at h
  obtain ⟨⟨⟨⟨⟨h1, h2⟩, h3⟩, h4⟩, h5⟩, h6⟩ := h
  exact ⟨h1, h2, h3, h4, h5, h6⟩
theorem decB_iff {n : Nat} {r : Nat → Nat} {m q : Nat} {z p : Nat → Int} : decB n r m q z p = true ↔ treeB m q p = true ∧ BagsOK n m z ∧ ∀ v, v < n → nodeB r m z p v = true := by
  unfold decB
  simp only [Bool.and_eq_true, List.all_eq_true, List.mem_range]
  constructor
  · rintro ⟨⟨h1, h2⟩, h3⟩
    exact ⟨h1, fun i hi => ⟨(inB_iff.1 (h2 i hi)).1, nat_pow_cast (inB_iff.1 (h2 i hi)).2 (inB_iff.1 (h2 i hi)).1⟩, h3⟩
  · rintro ⟨h1, h2, h3⟩
    refine ⟨⟨h1, fun i hi => ?_⟩, h3⟩
    obtain ⟨a, b⟩ := h2 i hi
    exact inB_true a (by rw [pow_cast]; omega)
theorem decB_no {n : Nat} {r : Nat → Nat} {m q : Nat} {z p : Nat → Int} (h : ¬ (treeB m q p = true ∧ BagsOK n m z ∧ ∀ v, v < n → nodeB r m z p v = true)) : decB n r m q z p = false :=
  Bool.eq_false_iff.2 fun h1 => h (decB_iff.1 h1)

set_option maxRecDepth 20000 in
set_option maxHeartbeats 4000000 in
theorem isDecomposition_any {n : Nat} {r : Nat → Nat} {a : Option Addr} {w : World} (G : Gr w a n r) (cap : Nat) {m q : Nat} {z p : Nat → Int} {ba pa : Option Addr} (ca cb : Nat) (T : TreeAt w ba pa m q z p) :
    Calls Tryd.prog 70 #[.slice a n cap, treeV ba m ca pa q cb] w fun e w' => e = .returned (.bool (decB n r m q z p)) ∧ Below w.heap.size w w' := by
  have hle := G.le
  have hn16 : n < 16 := by omega
  have hmb := T.bags.1
  unfold maxLen at hmb
  obtain ⟨w0, hw0, R0, HB0, hs0⟩ := new1 w 71 [.slice ba m ca, .slice pa q cb]
  have HT := Lib.hid (T.below HB0)
  have HG := Lib.hid (G.below HB0)
  have HW0 := Lib.hid hw0
  have HB := Lib.hid HB0
  have HR := Lib.hid R0
  have c0 := R0.cell (i := 0) rfl
  have c1 := R0.cell (i := 1) rfl
  have hl := R0.lt
  clear T G hw0 R0 HB0
  cases htr : treeB m q p
  · have HF : Hid (decB n r m q z p = false) := Lib.hid (decB_no (fun h => by rw [htr] at h; cases h.1))
    go_enter Tryd.func70, Tryd.ntmps70
    go_wp2_with fail
    rw [← HW0.out]
    go_wp2_with (go_at_call 91; refine (isTree_any ca cb HT.out).mono ?_; rintro e w2 ⟨rfl, hb2⟩; rw [htr]; have HB2 := Lib.hid (HB.out.trans (hb2.mono HB.out.size)); clear hb2)
    go_ret
    exact ⟨by rw [HF.out]; rfl, HB2.out⟩
  · obtain ⟨h1, h30, rfl, hpar, _, _⟩ := treeB_iff htr
    have HP := Lib.hid hpar
    have HTR := Lib.hid htr
    go_enter Tryd.func70, Tryd.ntmps70
    go_wp2_with fail
    rw [← HW0.out]
    go_wp2_with fail
    go_at_call 91
    refine (isTree_any ca cb HT.out).mono ?_
    rintro e w2 ⟨rfl, hb2⟩
    rw [htr]
    have HB2 := Lib.hid (HB.out.trans (hb2.mono HB.out.size))
    have HT2 := Lib.hid (HT.out.below hb2)
    have HG2 := Lib.hid (HG.out.below hb2)
    have HR2 := Lib.hid (HR.out.below hb2 HR.out.lt)
    clear c0 c1 hl htr hpar hb2
    have c0 := HR2.out.cell (i := 0) rfl
    have c1 := HR2.out.cell (i := 1) rfl
    have hl := HR2.out.lt
    go_wp2_with fail
    go_loopw [14] (fun i wr => ∃ k : Nat, k ≤ q ∧ i = .int .i64 k ∧ BagsOK n k z ∧ w2 = wr) (fun i _ => q - (intOf i).toNat)
    case atStart => exact ⟨0, Nat.zero_le _, rfl, fun i hi => by omega, rfl⟩
    case round =>
      obtain ⟨k, hk, rfl, hok, rfl⟩ := hrel
      have HOK := Lib.hid hok
      clear hok
      by_cases hlt : k < q
      · obtain ⟨b, off, rfl, hb, hc⟩ := HT2.out.bags.2 (by omega)
        have ck := hc k hlt
        clear hc
        cases hin : inB (z k) (2 ^ n)
        · have HF : Hid (decB n r q q z p = false) := Lib.hid (decB_no (fun h => by
            obtain ⟨x0, x1⟩ := h.2.1 k hlt
            rw [inB_true x0 (by rw [pow_cast]; omega)] at hin; cases hin))
          go_wp2_with (go_at_call 88; refine (isSet_any _ _ _ _ _ hn16).mono ?_; rintro e w3 ⟨rfl, rfl⟩; rw [hin])
          go_ret
          exact ⟨by rw [HF.out]; rfl, HB2.out⟩
        · have HIN := Lib.hid hin
          go_wp2_with (go_at_call 88; refine (isSet_any _ _ _ _ _ hn16).mono ?_; rintro e w3 ⟨rfl, rfl⟩; rw [hin])
          go_roundw
          case rel => exact ⟨k + 1, by omega, by go_num, fun i hi => by
            rcases Nat.lt_succ_iff_lt_or_eq.1 hi with h | h
            · exact HOK.out i h
            · rw [h]; obtain ⟨x0, x1⟩ := inB_iff.1 HIN.out; exact ⟨x0, nat_pow_cast x1 x0⟩, by trivial⟩
          case measure => simp [intOf]; omega
      · have hke : k = q := by omega
        subst hke
        go_wp2_with fail
        go_loopw [25] (fun i wx => ∃ v : Nat, v ≤ n ∧ i = .int .i64 v ∧ (∀ u, u < v → nodeB r k z p u = true) ∧ Below w2.heap.size w2 wx) (fun i _ => n - (intOf i).toNat)
        case atStart => exact ⟨0, Nat.zero_le _, rfl, by omega, Below.refl _ _⟩
        case round =>
          obtain ⟨v, hv, rfl, hdone, hbel⟩ := hrel
          have HD := Lib.hid hdone
          have HBL := Lib.hid hbel
          clear hdone hbel
          by_cases hlv : v < n
          · have hv64 : v < 64 := by omega
            obtain ⟨gb, go, ha, hgb, hgc⟩ := HG2.out.at_.ints.2 HG2.out.at_.pos
            subst ha
            have HGC := Lib.hid hgc
            have HGB := Lib.hid hgb
            clear hgc hgb
            have HRW := Lib.hid (HR2.out.below HBL.out HR2.out.lt)
            have d0 : ∀ u : BelowW wr.heap.size wr, u.w.cell? ⟨w.heap.size, 0, none⟩ = some (.slice ba k ca) := fun u => (HRW.out.below u.h HRW.out.lt).cell (i := 0) rfl
            have d1 : ∀ u : BelowW wr.heap.size wr, u.w.cell? ⟨w.heap.size, 1, none⟩ = some (.slice pa k cb) := fun u => (HRW.out.below u.h HRW.out.lt).cell (i := 1) rfl
            have dr : ∀ u : BelowW wr.heap.size wr, u.w.cell? ⟨gb, go + v, none⟩ = some (.int .i64 (r v : Nat)) := fun u => by
              have hg1 : gb < wr.heap.size := Nat.lt_of_lt_of_le HGB.out HBL.out.size
              rw [u.h.cell (p := ⟨gb, go + v, none⟩) hg1, HBL.out.cell (p := ⟨gb, go + v, none⟩) HGB.out]
              exact HGC.out v hlv
            have hrv := HG2.out.at_.bd v hlv
            have htg : togTo z v k < 65536 := lt16 hle (togTo_lt HOK.out v k (Nat.le_refl _))
            have htp := topsTo_le z p v k
            have HTW : Hid (∀ wz, Below wr.heap.size wr wz → Calls Tryd.prog 92 #[treeV ba k ca pa k cb, .int .i64 v] wz fun e w' => e = .returned (.int .i64 (topsTo z p v k : Nat)) ∧ Below wz.heap.size wz w') := Lib.hid (fun wz hb =>
              tops_any hle ca cb ((HT2.out.below HBL.out).below hb) HOK.out HP.out v hv64)
            have HGW : Hid (∀ wz, Below wr.heap.size wr wz → Calls Tryd.prog 94 #[treeV ba k ca pa k cb, .int .i64 v] wz fun e w' => e = .returned (.int .i64 (togTo z v k : Nat)) ∧ Below wz.heap.size wz w') := Lib.hid (fun wz hb =>
              together_any hle ca cb ((HT2.out.below HBL.out).below hb) HOK.out v hv64)
            have HIP : Hid (∀ wz : World, Calls Tryd.prog 93 #[.int .i64 (r v : Nat), .int .i64 (togTo z v k : Nat)] wz fun e w' => e = .returned (.bool (diff (r v) (togTo z v k) == 0)) ∧ Below wz.heap.size wz w') := Lib.hid (fun wz =>
              (isPart_any _ _ hrv htg wz).mono fun e w' ⟨he, hw⟩ => ⟨he, by rw [← hw]; exact Below.refl _ _⟩)
            have HND : Hid (nodeB r k z p v = (decide (topsTo z p v k = 1) && diff (r v) (togTo z v k) == 0)) := Lib.hid rfl
            have HBAD : Hid (nodeB r k z p v = false → decB n r k k z p = false) := Lib.hid (fun hno => decB_no (fun h => by rw [h.2.2 v hlv] at hno; cases hno))
            clear c0 c1 hl
            generalize togTo z v k = tg at *
            generalize topsTo z p v k = tp at *
            generalize r v = rv at *
            by_cases ht1 : tp = 1
            · have hq : ((tp : Int) != 1) = false := by rw [ht1]; rfl
              have HT1 := Lib.hid ht1
              clear ht1
              cases hdf : (diff rv tg == 0)
              · have HF := Lib.hid (HBAD.out (by rw [HND.out, hdf, Bool.and_false]))
                rw [hdf] at HIP
                go_wp2_with fail
                refine wp_region_below wr.heap.size wr (Below.refl _ _) (by kernel_rfl) (by kernel_rfl) ?_
                repeat (go_big_quiet_step (first
                  | (go_at_call 92; exact calls_below (Nat.le_refl _) (HTW.out _ (BelowW.h _)))
                  | (go_at_call 94; exact calls_below (Nat.le_refl _) (HGW.out _ (BelowW.h _)))
                  | (go_at_call 93; exact calls_below (Nat.le_refl _) (HIP.out _))))
                refine wpQuiet_nil ?_
                rintro _ ⟨uw, rfl⟩
                go_wp2_with fail
                go_ret
                exact ⟨by rw [HF.out]; rfl, HB2.out.trans ((HBL.out.trans (uw.h.mono HBL.out.size)).mono HB2.out.size)⟩
              · have HF : Hid (nodeB r k z p v = true) := Lib.hid (by rw [HND.out, hdf, decide_eq_true HT1.out]; rfl)
                rw [hdf] at HIP
                go_wp2_with fail
                refine wp_region_below wr.heap.size wr (Below.refl _ _) (by kernel_rfl) (by kernel_rfl) ?_
                repeat (go_big_quiet_step (first
                  | (go_at_call 92; exact calls_below (Nat.le_refl _) (HTW.out _ (BelowW.h _)))
                  | (go_at_call 94; exact calls_below (Nat.le_refl _) (HGW.out _ (BelowW.h _)))
                  | (go_at_call 93; exact calls_below (Nat.le_refl _) (HIP.out _))))
                refine wpQuiet_nil ?_
                rintro _ ⟨uw, rfl⟩
                have HU := Lib.hid uw.h
                go_wp2_with fail
                go_roundw
                case rel => exact ⟨v + 1, by omega, by go_num, fun u hu => by rcases Nat.lt_succ_iff_lt_or_eq.1 hu with h | h; exact HD.out u h; rw [h]; exact HF.out, HBL.out.trans (HU.out.mono HBL.out.size)⟩
                case measure => simp [intOf]; omega
            · have hq : ((tp : Int) != 1) = true := by simp; omega
              have HF := Lib.hid (HBAD.out (by rw [HND.out, decide_eq_false ht1, Bool.false_and]))
              clear ht1
              go_wp2_with fail
              refine wp_region_below wr.heap.size wr (Below.refl _ _) (by kernel_rfl) (by kernel_rfl) ?_
              repeat (go_big_quiet_step ((go_at_call 92; exact calls_below (Nat.le_refl _) (HTW.out _ (BelowW.h _)))))
              refine wpQuiet_nil ?_
              rintro _ ⟨uw, rfl⟩
              go_wp2_with fail
              go_ret
              exact ⟨by rw [HF.out]; rfl, HB2.out.trans ((HBL.out.trans (uw.h.mono HBL.out.size)).mono HB2.out.size)⟩
          · have hve : v = n := by omega
            subst hve
            have HF := Lib.hid (decB_iff.2 ⟨HTR.out, HOK.out, HD.out⟩)
            go_wp2_with fail
            go_ret
            exact ⟨by rw [HF.out]; rfl, HB2.out.trans (HBL.out.mono HB2.out.size)⟩

end Go.Proofs.YtgkpogaahndmoaaDoor.Wd
