/- The contract of the reference's Rounds. -/
import Derived.Test.YtmkcnpphdghbaaaC2e
namespace Go.Proofs.Ytmkcnpphdghbaaa
set_option linter.unusedSimpArgs false
set_option linter.unusedVariables false
open Go.RowKit Go.Maps
attribute [local go_sem] i64_bit toNat_eq_one toNat_ne_one toNat_eq_zero toNat_ne_zero i64_and i64_or i64_andNot i64_or_pow i64_andNot_pow

/-- The choices of a row, in order. -/
def rowK (k a : Nat) : Nat → List (Nat × Nat)
  | 0 => []
  | j + 1 => if plT k j then rowK k a j ++ [(a, a + j)] else rowK k a j
theorem rowK_one (a j : Nat) : rowK 1 a (j + 1) = [(a, a)] := by
  induction j with
  | zero => simp [rowK, plT]
  | succ j ih => unfold rowK; rw [ih]; simp [plT]
theorem rowK_two (a j : Nat) : rowK 2 a j = (List.range j).map fun i => (a, a + i) := by
  induction j with
  | zero => rfl
  | succ j ih => unfold rowK; rw [ih, List.range_succ, List.map_append]; simp [plT]
theorem chsTo_row {n k a : Nat} (hk : k = 1 ∨ k = 2) (ha : a < n) : chsTo n k (a + 1) = chsTo n k a ++ rowK k a (n - a) := by
  have e : chsTo n k (a + 1) = chsTo n k a ++ (List.range (chsLen n k a)).map fun i => (a, a + i) := rfl
  rw [e]
  congr 1
  unfold chsLen
  rcases hk with rfl | rfl
  · obtain ⟨j, hj⟩ : ∃ j, n - a = j + 1 := ⟨n - a - 1, by omega⟩
    rw [hj, rowK_one]
    simp
  · rw [rowK_two]
    simp
theorem row_chs {n k a j : Nat} (hk : k = 1 ∨ k = 2) (ha : a + j < n) (hp : plT k j = true) : (a, a + j) ∈ chs n k := by
  unfold chs
  simp only [List.mem_flatMap, List.mem_range, List.mem_map]
  refine ⟨a, by omega, j, ?_, rfl⟩
  rcases hk with rfl | rfl
  · simp [plT] at hp; subst hp; simp
  · simp; omega

theorem ranksG_le {n : Nat} {r : Nat → Nat} {C : List (Nat × Nat)} {i : Nat} {p : Pl} {v : Nat} (h : ranksG n r C i p = some v) : v ≤ i := by
  induction i with
  | zero =>
    change baseF C p = some v at h
    unfold baseF at h
    split at h
    · cases h; exact Nat.le_refl _
    · cases h
  | succ i ih =>
    change stepF (ranksG n r C i) (nextL n r (ranksG n r C i) C) (i + 1) p = some v at h
    unfold stepF at h
    split at h
    · cases h; exact Nat.le_refl _
    · have := ih h; omega

/-- What the reference's Rounds returns. -/
def RoundsRPost (s : (Nat × Nat) × Int) (w : World) (e : Ending) (w' : World) : Prop :=
  Below w.heap.size w w' ∧ (s.2 = -1 → e = .returned (.tuple #[.int .i64 0, .agg #[.int .i64 0, .int .i64 0], .int .i64 4])) ∧ (s.2 ≠ -1 → e = .returned (.tuple #[.int .i64 s.2, pairV s.1, .int .i64 0]))

set_option maxRecDepth 20000 in
set_option maxHeartbeats 4000000 in
theorem RoundsR_any {n : Nat} {g : Nat → Nat} {a : Option Addr} {w : World} (G : GrAt w a n g) (cap k : Nat) (kI : Int) (hk : kI = 1 ∧ k = 1 ∨ kI = 2 ∧ k = 2) (hn8 : n ≤ 8) (hg : ∀ v, v < n → g v < 2 ^ n) :
    Calls Try.prog 24 #[.slice a n cap, .int .i64 kI] w (RoundsRPost (bestOf n (ranksF n (rch g) (chs n k)) (chs n k)) w) := by
  have hn := G.small
  have hk12 : k = 1 ∨ k = 2 := by omega
  have HF16 : Hid (∀ p v, ranksF n (rch g) (chs n k) p = some v → v < 65536) := Lib.hid (fun p v h => by have := ranksG_le h; omega)
  obtain ⟨w0, hw0, R0, HB, hsz⟩ := new1 w 32 [.int .i64 0, .int .i64 0]
  have HW := Lib.hid hw0
  have HR0 := Lib.hid R0
  have HB0 := Lib.hid HB
  clear R0 hw0
  go_enter Try.func24, Try.ntmps24
  go_wp2_with fail
  rw [← HW.out]
  clear HW
  go_at_call 19
  refine (RankR_any (G.below HB) cap k kI hk hn8 hg).mono ?_
  rintro e w1 ⟨rb, T, rfl, hrk, hT, hb1⟩
  rw [places_chs hk12] at hT
  have HTA := Lib.hid hT
  have hbo : bestOf n (ranksF n (rch g) (chs n k)) (chs n k) = bestTo n (ranksF n (rch g) (chs n k)) (chsTo n k n) ((0, 0), -1) := by rw [chsTo_eq]; rfl
  have HBO := Lib.hid hbo
  generalize ranksF n (rch g) (chs n k) = F at *
  have hs1 := hb1.size
  have HB1 := Lib.hid (HB.trans (hb1.mono (Nat.le_of_lt hsz)))
  have hw1s : w.heap.size < w1.heap.size := by omega
  obtain ⟨w2, hw2, R2, HB2, hsz2⟩ := new1 w1 32 [.int .i64 0, .int .i64 0]
  have HW2 := Lib.hid hw2
  have HR2 := Lib.hid R2
  have HRK := Lib.hid hrk
  have HR01 := Lib.hid (HR0.out.below hb1 HR0.out.lt)
  have HB2h := Lib.hid HB2
  have HBW2 := Lib.hid (HB1.out.trans (HB2.mono HB1.out.size))
  clear hT hrk hb1 HB hbo hw2 R2 HB2 HR0
  go_wp2_with fail
  rw [← HW2.out]
  clear HW2
  go_loopw [8, 21] (fun v i wr => ∃ a : Nat, a ≤ n ∧ i = .int .i64 a ∧ v = .int .i64 (bestTo n F (chsTo n k a) ((0, 0), -1)).2 ∧ Below w1.heap.size w1 wr ∧ Row wr w1.heap.size 32 [.int .i64 (bestTo n F (chsTo n k a) ((0, 0), -1)).1.1, .int .i64 (bestTo n F (chsTo n k a) ((0, 0), -1)).1.2]) (fun _ i _ => n - (intOf i).toNat)
  case atStart => exact ⟨0, Nat.zero_le _, rfl, rfl, HB2h.out, HR2.out⟩
  case round =>
    obtain ⟨a, ha, rfl, rfl, hbel, r2⟩ := hrel
    have HBE := Lib.hid hbel
    have HRS := Lib.hid r2
    have hge := bestTo_ge n F (chsTo n k a) ((0, 0), -1) (by decide)
    have hlt2 := bestTo_lt n F HF16.out (chsTo n k a) ((0, 0), -1) (by decide)
    by_cases hlt : a < n
    · have HROW := Lib.hid (chsTo_row (n := n) hk12 hlt)
      generalize hCA : chsTo n k a = CA at *
      have HCA := Lib.hid hCA
      clear hbel r2 hCA
      go_wp2_with fail
      go_loopw [8, 11] (fun v i wx => ∃ j b : Nat, a + j ≤ n ∧ Hid (b = a + j) ∧ b ≤ n ∧ i = .int .i64 b ∧ v = .int .i64 (bestTo n F (CA ++ rowK k a j) ((0, 0), -1)).2 ∧ Below w1.heap.size w1 wx ∧ Row wx w1.heap.size 32 [.int .i64 (bestTo n F (CA ++ rowK k a j) ((0, 0), -1)).1.1, .int .i64 (bestTo n F (CA ++ rowK k a j) ((0, 0), -1)).1.2]) (fun _ i _ => n - (intOf i).toNat)
      case atStart => exact ⟨0, a, by omega, Lib.hid rfl, ha, rfl, by simp [rowK], HBE.out, by simpa [rowK] using HRS.out⟩
      case round =>
        clear HBE HRS hge hlt2
        obtain ⟨j, b, hj, hbj, hbn, rfl, rfl, hbel, r2⟩ := hrel
        have HBE := Lib.hid hbel
        have HRS := Lib.hid r2
        have hge := bestTo_ge n F (CA ++ rowK k a j) ((0, 0), -1) (by decide)
        have hlt2 := bestTo_lt n F HF16.out (CA ++ rowK k a j) ((0, 0), -1) (by decide)
        have hrk1 := HRK.out
        have HSN : Hid (plT k j = true → bestTo n F (CA ++ rowK k a (j + 1)) ((0, 0), -1) = if worstTo F (a, b) n ≠ -1 ∧ ((bestTo n F (CA ++ rowK k a j) ((0, 0), -1)).2 = -1 ∨ worstTo F (a, b) n < (bestTo n F (CA ++ rowK k a j) ((0, 0), -1)).2) then ((a, b), worstTo F (a, b) n) else bestTo n F (CA ++ rowK k a j) ((0, 0), -1)) := Lib.hid (fun h => by
          have e : rowK k a (j + 1) = rowK k a j ++ [(a, b)] := by rw [hbj.out]; show (if plT k j then rowK k a j ++ [(a, a + j)] else rowK k a j) = _; rw [if_pos h]
          rw [e, ← List.append_assoc, bestTo_snoc])
        have HSK : Hid (plT k j = false → bestTo n F (CA ++ rowK k a (j + 1)) ((0, 0), -1) = bestTo n F (CA ++ rowK k a j) ((0, 0), -1)) := Lib.hid (fun h => by
          have e : rowK k a (j + 1) = rowK k a j := by show (if plT k j then rowK k a j ++ [(a, a + j)] else rowK k a j) = _; rw [h]; rfl
          rw [e])
        have HJN : Hid (j = n - a → chsTo n k (a + 1) = CA ++ rowK k a j) := Lib.hid (fun h => by rw [h]; exact HROW.out)
        generalize hs : bestTo n F (CA ++ rowK k a j) ((0, 0), -1) = s at *
        obtain ⟨⟨s1, s2⟩, sv⟩ := s
        have HSS := Lib.hid hs
        clear hs
        dsimp only at hge hlt2
        clear hbel r2 hrk1
        by_cases hlb : b < n
        · have HIN : Hid (plT k j = true → (a, b) ∈ chs n k) := Lib.hid (fun h => by rw [hbj.out]; exact row_chs hk12 (by have := hbj.out; omega) h)
          have hbl := HBE.out.size
          go_upto_region 9 with fail
          go_cut [37] from 25 to 73 (fun t wy => t = .bool (!plT k j) ∧ wr = wy)
          case first =>
            rcases hk with ⟨rfl, rfl⟩ | ⟨rfl, rfl⟩
            · by_cases hj0 : j = 0
              all_goals
                have hab : ((a : Int) != (b : Int)) = !decide (j = 0) := by unfold bne; rw [cast_beq]; congr 1; rw [Bool.eq_iff_iff]; have := hbj.out; simp; omega
                have HJ := Lib.hid hj0
                simp only [hj0, decide_true, decide_false, Bool.not_true, Bool.not_false] at hab
                clear hj0
                go_wp2_with fail
                go_meet
                exact ⟨by unfold plT; simp [HJ.out], rfl⟩
            · go_wp2_with fail
              go_meet
              exact ⟨by unfold plT; simp, rfl⟩
          case rest =>
            obtain ⟨rfl, rfl⟩ := hcut
            cases hT : plT k j
            · have HSK2 := Lib.hid (HSK.out hT)
              clear hT
              go_wp2_with fail
              go_roundw
              case rel =>
                refine ⟨j + 1, b + 1, by have := hbj.out; omega, Lib.hid (by have := hbj.out; omega), by omega, by go_num, by rw [HSK2.out], HBE.out, by rw [HSK2.out]; exact HRS.out⟩
              case measure => simp [intOf]; omega
            · have HSN2 := Lib.hid (HSN.out hT)
              have HINC := Lib.hid (HIN.out hT)
              clear hT
              go_wp2_with fail
              go_loopw [12, 40] (fun v i wx => ∃ c : Nat, c ≤ n ∧ i = .int .i64 c ∧ v = .int .i64 (worstTo F (a, b) c) ∧ Below wr.heap.size wr wx) (fun _ i _ => n - (intOf i).toNat)
              case atStart => exact ⟨0, Nat.zero_le _, rfl, rfl, Below.refl _ _⟩
              case round =>
                obtain ⟨wz, rfl⟩ : ∃ wz : World, wz = wr := ⟨_, rfl⟩
                obtain ⟨c, hc, rfl, rfl, hbel⟩ := hrel
                have HBZ := Lib.hid hbel
                have HRZ := Lib.hid ((HRK.out.below HBE.out).below hbel)
                have hwg := worstTo_ge F (a, b) c
                have hwl := worstTo_lt F (a, b) HF16.out c
                have HST : Hid (worstTo F (a, b) (c + 1) = if worstTo F (a, b) c = -1 then -1 else if rankV F (a, b, c) = -1 then -1 else max (worstTo F (a, b) c) (rankV F (a, b, c))) := Lib.hid rfl
                clear hbel
                by_cases hlc : c < n
                · have HTV := Lib.hid (HTA.out (a, b, c) (mem_allPl.2 ⟨HINC.out, hlc⟩))
                  have hrg := rankV_ge F (a, b, c)
                  have hrl := rankV_lt F (a, b, c) (HF16.out _)
                  have a8 : a < 8 := by omega
                  have b8 : b < 8 := by omega
                  have c8 : c < 8 := by omega
                  generalize worstTo F (a, b) c = wv at *
                  generalize rankV F (a, b, c) = rv at *
                  by_cases qr : rv = -1
                  · subst qr
                    go_wp2_with fail
                    go_at_call 42
                    refine (of_any HRZ.out (a, b, c) a8 b8 c8).mono ?_
                    rintro e w3 ⟨rfl, hb3⟩
                    rw [HTV.out]
                    have HB3 := Lib.hid hb3
                    clear hb3
                    go_wp2_with fail
                    go_roundw
                    case rel => exact ⟨c + 1, by omega, by go_num, by rw [HST.out]; simp, HBZ.out.trans (HB3.out.mono HBZ.out.size)⟩
                    case measure => simp [intOf]; omega
                  · have qr0 : 0 ≤ rv := by omega
                    by_cases qw : wv = -1
                    · subst qw
                      go_wp2_with fail
                      go_at_call 42
                      refine (of_any HRZ.out (a, b, c) a8 b8 c8).mono ?_
                      rintro e w3 ⟨rfl, hb3⟩
                      rw [HTV.out]
                      have HB3 := Lib.hid hb3
                      clear hb3
                      go_wp2_with fail
                      go_roundw
                      case rel => exact ⟨c + 1, by omega, by go_num, by rw [HST.out]; simp, HBZ.out.trans (HB3.out.mono HBZ.out.size)⟩
                      case measure => simp [intOf]; omega
                    · have qw0 : 0 ≤ wv := by omega
                      have HMX : Hid (worstTo F (a, b) (c + 1) = max wv rv) := Lib.hid (by rw [HST.out, if_neg qw, if_neg qr])
                      go_wp2_with fail
                      go_at_call 42
                      refine (of_any HRZ.out (a, b, c) a8 b8 c8).mono ?_
                      rintro e w3 ⟨rfl, hb3⟩
                      rw [HTV.out]
                      have HB3 := Lib.hid hb3
                      clear hb3 qw qr
                      go_wp2_with fail
                      go_roundw
                      case rel =>
                        refine ⟨c + 1, by omega, by go_num, ?_, HBZ.out.trans (HB3.out.mono HBZ.out.size)⟩
                        rw [HMX.out]
                        refine congrArg _ ?_
                        split <;> omega
                      case measure => simp [intOf]; omega
                · have hce : c = n := by omega
                  subst hce
                  have HB4 := Lib.hid (HBE.out.trans (HBZ.out.mono HBE.out.size))
                  have r4 := HRS.out.below HBZ.out HRS.out.lt
                  have HR4 := Lib.hid r4
                  have hb4l := HB4.out.size
                  have f0 := r4.free 0
                  have f1 := r4.free 1
                  have q0 := r4.cell (i := 0) rfl
                  have q1 := r4.cell (i := 1) rfl
                  have q2 := r4.lt
                  generalize hwv : worstTo F (a, b) c = wv at *
                  clear r4 HST hwv
                  by_cases qw : wv = -1
                  · have HN : Hid (bestTo c F (CA ++ rowK k a (j + 1)) ((0, 0), -1) = ((s1, s2), sv)) := Lib.hid (by rw [HSN2.out, if_neg (by omega)])
                    subst qw
                    go_wp2_with fail
                    go_roundw
                    case rel => exact ⟨j + 1, b + 1, by have := hbj.out; omega, Lib.hid (by have := hbj.out; omega), by omega, by go_num, by rw [HN.out], HB4.out, by rw [HN.out]; exact HR4.out⟩
                    case measure => simp [intOf]; omega
                  · have qw0 : 0 ≤ wv := by omega
                    by_cases qs : sv < 0
                    · have HY : Hid (bestTo c F (CA ++ rowK k a (j + 1)) ((0, 0), -1) = ((a, b), wv)) := Lib.hid (by rw [HSN2.out, if_pos (by omega)])
                      clear qw
                      go_wp2_with fail
                      go_roundw
                      case rel =>
                        refine ⟨j + 1, b + 1, by have := hbj.out; omega, Lib.hid (by have := hbj.out; omega), by omega, by go_num, by rw [HY.out], (HB4.out.setCell (by simp) _).setCell (by simp) _, ?_⟩
                        rw [HY.out]
                        exact (HR4.out.set 0 _).set 1 _
                      case measure => simp [intOf]; omega
                    · by_cases ql : wv < sv
                      · have HY : Hid (bestTo c F (CA ++ rowK k a (j + 1)) ((0, 0), -1) = ((a, b), wv)) := Lib.hid (by rw [HSN2.out, if_pos (by omega)])
                        clear qw
                        go_wp2_with fail
                        go_roundw
                        case rel =>
                          refine ⟨j + 1, b + 1, by have := hbj.out; omega, Lib.hid (by have := hbj.out; omega), by omega, by go_num, by rw [HY.out], (HB4.out.setCell (by simp) _).setCell (by simp) _, ?_⟩
                          rw [HY.out]
                          exact (HR4.out.set 0 _).set 1 _
                        case measure => simp [intOf]; omega
                      · have HN : Hid (bestTo c F (CA ++ rowK k a (j + 1)) ((0, 0), -1) = ((s1, s2), sv)) := Lib.hid (by rw [HSN2.out, if_neg (by omega)])
                        clear qw
                        go_wp2_with fail
                        go_roundw
                        case rel => exact ⟨j + 1, b + 1, by have := hbj.out; omega, Lib.hid (by have := hbj.out; omega), by omega, by go_num, by rw [HN.out], HB4.out, by rw [HN.out]; exact HR4.out⟩
                        case measure => simp [intOf]; omega
        · have hjn : j = n - a := by have := hbj.out; omega
          have HJN2 := Lib.hid (HJN.out hjn)
          go_wp2_with fail
          go_roundw
          case rel => exact ⟨a + 1, by omega, by go_num, by rw [HJN2.out, HSS.out], HBE.out, by rw [HJN2.out, HSS.out]; exact HRS.out⟩
          case measure => simp [intOf]; omega
    · have hae : a = n := by omega
      subst hae
      have HR0E := Lib.hid (HR01.out.below hbel hw1s)
      have h0 := HR0E.out.cell (i := 0) rfl
      have h1 := HR0E.out.cell (i := 1) rfl
      have hf0 := HR0E.out.free 0
      have hf1 := HR0E.out.free 1
      have hl0 := HR0E.out.lt
      generalize bestTo a F (chsTo a k a) ((0, 0), -1) = s at *
      have HBW : Hid (Below w.heap.size w wr) := Lib.hid (HB1.out.trans (HBE.out.mono (by omega)))
      obtain ⟨⟨s1, s2⟩, sv⟩ := s
      dsimp only at hge hlt2
      have q0 := r2.cell (i := 0) rfl
      have q1 := r2.cell (i := 1) rfl
      have q2 := r2.lt
      clear hbel r2
      by_cases qs : sv = -1
      · subst qs
        go_wp2_with fail
        refine bodyPost_ret (v := .tuple #[.int .i64 0, .agg #[.int .i64 0, .int .i64 0], .int .i64 4]) (by simp [results, Try.results24, go_sem, h0, h1, hl0]) rfl ?_
        exact ⟨(HBW.out.setCell (by simp) _).setCell (by simp) _, fun _ => rfl, fun h => absurd (by rw [HBO.out]) h⟩
      · have qs0 : 0 ≤ sv := by omega
        have HQS := Lib.hid qs
        clear qs
        go_wp2_with fail
        go_region
        all_goals
          go_wp2_with fail
          refine bodyPost_ret (v := .tuple #[.int .i64 sv, pairV (s1, s2), .int .i64 0]) (by simp [results, Try.results24, go_sem, h0, h1, hl0]) rfl ?_
          exact ⟨((HBW.out.setCell (by simp) _).setCell (by simp) _).drew, fun h => absurd (by rw [HBO.out] at h; exact h) HQS.out, fun _ => by rw [HBO.out]⟩

end Go.Proofs.Ytmkcnpphdghbaaa
