/- The walk of the law ChaseMoves. (Written by gen_moves.py.) -/
import Derived.Test.YtmkcnpphdghbaaaL2b
import Derived.Test.YtmkcnpphdghbaaaC4a
import Derived.Test.YtmkcnpphdghbaaaL2i
namespace Go.Proofs.Ytmkcnpphdghbaaa
set_option linter.unusedSimpArgs false
set_option linter.unusedVariables false
open Go.RowKit Go.Maps

set_option maxRecDepth 200000 in
set_option maxHeartbeats 4000000 in
theorem ChaseMoves_no (n : Nat) (z : Nat → Int) (v : Value) (kI x y d : Int) (u : Value) (w : World) (hA : SliceArg w v n z) (hz : ∀ i, -9223372036854775808 ≤ z i ∧ z i ≤ 9223372036854775807) (hf : fineB n z kI x y d = false) :
    Calls Try.prog 8 #[v, .int .i64 kI, .agg #[.int .i64 x, .int .i64 y, .int .i64 d], u] w (LawTrue w) := by
  obtain ⟨a, cap, rfl, hI⟩ := hA.ints
  obtain ⟨w0, hw0, RG, RP, HB, hsz⟩ := new2 w 23 25 [.slice a n cap] [.int .i64 x, .int .i64 y, .int .i64 d]
  have HA := Lib.hid (SliceArg.below hA HB)
  have HNO := Lib.hid (fine_few hf)
  have HW := Lib.hid hw0
  have HRG := Lib.hid RG
  have HRP := Lib.hid RP
  have HB0 := Lib.hid HB
  have hml := hI.1
  unfold maxLen at hml
  clear hw0 RG RP HB hA hI hz hf
  go_enter Try.func8, Try.ntmps8
  go_wp2_with fail
  rw [← HW.out]
  clear HW
  go_upto_region 1 with fail
  go_cut [9, 10] (fun s9 s10 wx => s9 = .int .i64 0 ∧ s10 = .int .i64 2 ∧ Below w0.heap.size w0 wx)
  case first =>
    have B0 : Below w0.heap.size w0 w0.drew := (Below.refl _ _).drew
    have r0 := HRP.out.below B0 HRP.out.lt
    have c0 := r0.cell (i := 0) rfl
    have c1 := r0.cell (i := 1) rfl
    have c2 := r0.cell (i := 2) rfl
    have g0 := (HRG.out.below B0 HRG.out.lt).cell (i := 0) rfl
    clear r0
    go_region_held3 (fun w' => Below w0.heap.size w0 w' ∧ w'.cell? ⟨w.heap.size + 1, 0, none⟩ = some (.int .i64 x) ∧ w'.cell? ⟨w.heap.size + 1, 1, none⟩ = some (.int .i64 y) ∧ w'.cell? ⟨w.heap.size + 1, 2, none⟩ = some (.int .i64 d) ∧ w'.cell? ⟨w.heap.size, 0, none⟩ = some (.slice a n cap)) (first | (refine ⟨?_, ?_, ?_, ?_, ?_⟩ <;> assumption) | (refine ⟨?_, ?_, ?_, ?_, ?_⟩ <;> first | assumption | exact Below.alloc (by assumption) (Below.size (by assumption)) _ | exact Below.setCell (Below.setCell (by assumption) hNB _) hNB _ | go_keep))
      (first
        | (go_at_call 13; refine (Few_any n z _ _ (SliceArg.below HA.out (And.left (by assumption)))).mono ?_; rintro e w1 ⟨a1, k1, rfl, hi1, hb1⟩; have HI1 := Lib.hid hi1; clear hi1; have hb2 := Below.trans (And.left (by assumption)) (hb1.mono (Below.size (And.left (by assumption)))); have r1 := HRP.out.below hb2 HRP.out.lt; have c0 := r1.cell (i := 0) rfl; have c1 := r1.cell (i := 1) rfl; have c2 := r1.cell (i := 2) rfl; have r2 := HRG.out.below hb2 HRG.out.lt; have g0 := r2.cell (i := 0) rfl; clear r1 r2; clear hb1)
        | (go_at_call 14; refine (place_any x y d _).mono ?_; rintro e w1 ⟨rfl, hb1⟩; (try (have HI1 := Lib.hid (IntsAt.below HI1.out hb1))); have hb2 := Below.trans (And.left (by assumption)) (hb1.mono (Below.size (And.left (by assumption)))); have r1 := HRP.out.below hb2 HRP.out.lt; have c0 := r1.cell (i := 0) rfl; have c1 := r1.cell (i := 1) rfl; have c2 := r1.cell (i := 2) rfl; have r2 := HRG.out.below hb2 HRG.out.lt; have g0 := r2.cell (i := 0) rfl; clear r1 r2; clear hb1)
        | (go_at_call 12; refine (RankP_any (min n 13) z kI x y d _ _ _ (by first | exact HI1.out | exact IntsAt.alloc HI1.out _)).mono ?_; rintro e w1 ⟨hb1, -, hno⟩; obtain rfl := hno HNO.out; clear hno; have hb2 := Below.trans (And.left (by assumption)) (hb1.mono (Below.size (And.left (by assumption)))); have r1 := HRP.out.below hb2 HRP.out.lt; have c0 := r1.cell (i := 0) rfl; have c1 := r1.cell (i := 1) rfl; have c2 := r1.cell (i := 2) rfl; have r2 := HRG.out.below hb2 HRG.out.lt; have g0 := r2.cell (i := 0) rfl; clear r1 r2; clear hb1))
    all_goals
      go_wp2_with fail
      go_meet
      exact ⟨rfl, rfl, by assumption⟩
  case rest =>
    obtain ⟨rfl, rfl, hba⟩ := hcut
    have HBA := Lib.hid hba
    clear hba
    go_wp2_with (go_at_call 17; refine (awake_any _).mono ?_; rintro e w9 ⟨rfl, hb9⟩; have HB9 := Lib.hid (HBA.out.trans (hb9.mono HBA.out.size)); clear hb9)
    go_ret
    exact ⟨rfl, HB0.out.trans (HB9.out.mono (Nat.le_of_lt (Nat.lt_of_le_of_lt (Nat.le_succ _) hsz)))⟩

theorem isPlB_of {n : Nat} {C : List (Nat × Nat)} {x y d : Nat} (h : (x, y, d) ∈ allPl n C) : isPlB n C x y d = true := by
  obtain ⟨h1, h2⟩ := mem_allPl.1 h
  dsimp only at h1 h2
  unfold isPlB hasP
  rw [Bool.and_eq_true, inB_iff, List.any_eq_true]
  exact ⟨⟨by omega, by omega⟩, (x, y), h1, by simp⟩

/-- What Move returns from a Place, and what it means. -/
theorem move_cases {n k : Nat} {r : Nat → Nat} {F : Pl → Option Nat} (hF : F = ranksF n r (chs n k)) (N : Net n r) (hk : k = 1 ∨ k = 2) {x y d : Nat} (hp : (x, y, d) ∈ allPl n (chs n k)) :
    ∃ m0 m1 er : Nat, (∀ e : Ending, (bestMv n r (ranksF n r (chs n k)) (chs n k) (x, y, d) = none → e = .returned (.tuple #[.agg #[.int .i64 0, .int .i64 0], .int .i64 4])) → (∀ t, bestMv n r (ranksF n r (chs n k)) (chs n k) (x, y, d) = some t → e = .returned (.tuple #[pairV t, .int .i64 0])) → e = .returned (.tuple #[.agg #[.int .i64 m0, .int .i64 m1], .int .i64 er])) ∧
      ((rankV F (x, y, d) < 1 ∧ er = 4 ∧ (rankV F (x, y, d) = 0 ↔ d = x ∨ d = y)) ∨
       (∃ v : Nat, 1 ≤ v ∧ rankV F (x, y, d) = v ∧ er = 0 ∧ d ≠ x ∧ d ≠ y ∧ (m0, m1) ∈ chs n k ∧ canM r (x, y) (m0, m1) = true ∧ ((d = m0 ∨ d = m1) ∨ ∀ c, (r d).testBit c = true → c < n ∧ ∃ v' : Nat, rankV F (m0, m1, c) = v' ∧ v' < v))) := by
  subst hF
  obtain ⟨hpC, hpn⟩ := mem_allPl.1 hp
  dsimp only at hpC hpn
  have hn16 : n < 16 := by have := N.eight; omega
  have hz := rank_zero (r := r) (p := (x, y, d)) hpC
  cases hG : ranksF n r (chs n k) (x, y, d) with
  | none =>
    have hm := move_none hn16 (chs_le n k hn16) (p := (x, y, d)) hpC hpn (.inl hG) (N.rin d · hpn)
    refine ⟨0, 0, 4, fun e h _ => h hm, .inl ⟨by unfold rankV; rw [hG]; dsimp only; omega, rfl, ?_⟩⟩
    unfold rankV
    rw [hG]
    dsimp only
    constructor
    · intro h; omega
    · intro h
      have := hz.2 (ctch_iff.2 h)
      rw [hG] at this
      cases this
  | some v =>
    rcases Nat.eq_zero_or_pos v with rfl | hv
    · have hm := move_none hn16 (chs_le n k hn16) (p := (x, y, d)) hpC hpn (.inr hG) (N.rin d · hpn)
      refine ⟨0, 0, 4, fun e h _ => h hm, .inl ⟨by unfold rankV; rw [hG]; dsimp only; omega, rfl, ?_⟩⟩
      unfold rankV
      rw [hG]
      dsimp only
      exact ⟨fun _ => ctch_iff.1 (hz.1 hG), fun _ => rfl⟩
    · obtain ⟨t, ht, htC, htM, hl⟩ := move_step (p := (x, y, d)) hpC (N.rin d · hpn) hG hv
      dsimp only at htM hl
      have hnc : ¬ (d = x ∨ d = y) := fun h => by
        have := hz.2 (ctch_iff.2 h)
        rw [hG] at this
        cases this
        omega
      rw [not_or] at hnc
      refine ⟨t.1, t.2, 0, fun e _ h => h t ht, .inr ⟨v, hv, by unfold rankV; rw [hG], rfl, hnc.1, hnc.2, htC, htM, ?_⟩⟩
      rcases hl with hl | hl
      · exact .inl (ctch_iff.1 hl)
      · right
        intro c hc
        obtain ⟨h1, v', h2, h3⟩ := hl c hc
        exact ⟨h1, v', by unfold rankV; rw [h2], h3⟩

set_option maxRecDepth 200000 in
set_option maxHeartbeats 40000000 in
theorem ChaseMoves_yes (n : Nat) (z : Nat → Int) (v : Value) (kI : Int) (x y d : Nat) (u : Value) (l : Nat) (fl : Nat → Int) (w : World) (hA : SliceArg w v n z) (hz : ∀ i, -9223372036854775808 ≤ z i ∧ z i ≤ 9223372036854775807) (hL : SliceArg w u l fl) (hok : okPl n z kI x y d) :
    Calls Try.prog 8 #[v, .int .i64 kI, .agg #[.int .i64 x, .int .i64 y, .int .i64 d], u] w (LawTrue w) := by
  obtain ⟨a, cap, rfl, hI⟩ := hA.ints
  obtain ⟨al, capl, rfl, hIL⟩ := hL.ints
  obtain ⟨w0, hw0, RG, RP, HB, hsz⟩ := new2 w 23 25 [.slice a n cap] [.int .i64 x, .int .i64 y, .int .i64 d]
  have HAW := Lib.hid hA
  have HILW := Lib.hid hIL
  have HIW := Lib.hid hI
  have HA := Lib.hid (SliceArg.below hA HB)
  have HI := Lib.hid (hI.below HB)
  have HIL := Lib.hid (hIL.below HB)
  have HZ := Lib.hid hz
  have hv : validB n z = true := by rw [← townB_valid]; exact hok.1.1
  obtain ⟨hn1, hn8, hcell⟩ := graphB_le (validB_graph hv)
  have HCE := Lib.hid hcell
  have HM : Hid (min n 13 = n) := Lib.hid (by omega)
  have HT : Hid (townB n z = true) := Lib.hid hok.1.1
  have HN := Lib.hid (net_town hok.1.1)
  have hk12 : kI = 1 ∨ kI = 2 := hok.1.2
  have hkt : kI.toNat = 1 ∨ kI.toNat = 2 := by omega
  have HKT := Lib.hid hkt
  have HK12 := Lib.hid hk12
  have hpl : (x, y, d) ∈ allPl n (chs n kI.toNat) := by
    obtain ⟨x', y', d', h1, h2, h3, h4, h5⟩ := isPlB_nat hok.2
    obtain rfl : x = x' := by omega
    obtain rfl : y = y' := by omega
    obtain rfl : d = d' := by omega
    exact mem_allPl.2 ⟨h4, h5⟩
  have HF : Hid (fineB n z kI x y d = true) := Lib.hid (fine_ok.2 hok)
  have HOK := Lib.hid hok
  have HPL := Lib.hid hpl
  have hF : ∃ F : Pl → Option Nat, F = ranksF n (reachOf z) (chs n kI.toNat) := ⟨_, rfl⟩
  obtain ⟨F, hF⟩ := hF
  have HFF := Lib.hid hF
  have HW := Lib.hid hw0
  have HRG := Lib.hid RG
  have HRP := Lib.hid RP
  have HB0 := Lib.hid HB
  have hml := hI.1
  have hmll := hIL.1
  unfold maxLen at hml hmll
  clear hw0 RG RP HB hA hI hz hok hv hcell hpl hF hL hIL hkt hk12
  go_enter Try.func8, Try.ntmps8
  go_wp2_with fail
  rw [← HW.out]
  clear HW
  go_upto_region 1 with fail
  go_cut [9, 10] (fun s9 s10 wx => s9 = .int .i64 (rankV F (x, y, d)) ∧ s10 = .int .i64 0 ∧ Below w0.heap.size w0 wx)
  case first =>
    have B0 : Below w0.heap.size w0 w0.drew := (Below.refl _ _).drew
    have r0 := HRP.out.below B0 HRP.out.lt
    have c0 := r0.cell (i := 0) rfl
    have c1 := r0.cell (i := 1) rfl
    have c2 := r0.cell (i := 2) rfl
    have g0 := (HRG.out.below B0 HRG.out.lt).cell (i := 0) rfl
    clear r0
    go_region_held3 (fun w' => Below w0.heap.size w0 w' ∧ w'.cell? ⟨w.heap.size + 1, 0, none⟩ = some (.int .i64 x) ∧ w'.cell? ⟨w.heap.size + 1, 1, none⟩ = some (.int .i64 y) ∧ w'.cell? ⟨w.heap.size + 1, 2, none⟩ = some (.int .i64 d) ∧ w'.cell? ⟨w.heap.size, 0, none⟩ = some (.slice a n cap)) (first | (refine ⟨?_, ?_, ?_, ?_, ?_⟩ <;> assumption) | (refine ⟨?_, ?_, ?_, ?_, ?_⟩ <;> first | assumption | exact Below.alloc (by assumption) (Below.size (by assumption)) _ | exact Below.setCell (Below.setCell (by assumption) hNB _) hNB _ | go_keep))
      (first
        | (go_at_call 13; refine (Few_any n z _ _ (SliceArg.below HA.out (And.left (by assumption)))).mono ?_; rintro e w1 ⟨a1, k1, rfl, hi1, hb1⟩; rw [HM.out] at hi1; rw [HM.out]; have HI1 := Lib.hid hi1; clear hi1; have hb2 := Below.trans (And.left (by assumption)) (hb1.mono (Below.size (And.left (by assumption)))); have r1 := HRP.out.below hb2 HRP.out.lt; have c0 := r1.cell (i := 0) rfl; have c1 := r1.cell (i := 1) rfl; have c2 := r1.cell (i := 2) rfl; have r2 := HRG.out.below hb2 HRG.out.lt; have g0 := r2.cell (i := 0) rfl; clear r1 r2; clear hb1)
        | (go_at_call 14; refine (place_any x y d _).mono ?_; rintro e w1 ⟨rfl, hb1⟩; (try (have HI1 := Lib.hid (IntsAt.below HI1.out hb1))); have hb2 := Below.trans (And.left (by assumption)) (hb1.mono (Below.size (And.left (by assumption)))); have r1 := HRP.out.below hb2 HRP.out.lt; have c0 := r1.cell (i := 0) rfl; have c1 := r1.cell (i := 1) rfl; have c2 := r1.cell (i := 2) rfl; have r2 := HRG.out.below hb2 HRG.out.lt; have g0 := r2.cell (i := 0) rfl; clear r1 r2; clear hb1)
        | (go_at_call 12; refine (RankP_any n z kI x y d _ _ _ (by first | exact HI1.out | exact IntsAt.alloc HI1.out _)).mono ?_; rintro e w1 ⟨hb1, hyes, -⟩; simp only [Int.toNat_natCast] at hyes; obtain rfl := hyes HOK.out; rw [← HFF.out]; clear hyes; have hb2 := Below.trans (And.left (by assumption)) (hb1.mono (Below.size (And.left (by assumption)))); have r1 := HRP.out.below hb2 HRP.out.lt; have c0 := r1.cell (i := 0) rfl; have c1 := r1.cell (i := 1) rfl; have c2 := r1.cell (i := 2) rfl; have r2 := HRG.out.below hb2 HRG.out.lt; have g0 := r2.cell (i := 0) rfl; clear r1 r2; clear hb1))
    all_goals
      go_wp2_with fail
      go_meet
      exact ⟨rfl, rfl, by assumption⟩
  case rest =>
    obtain ⟨rfl, rfl, hba⟩ := hcut
    obtain ⟨wa, rfl⟩ : ∃ wa : World, wa = wc := ⟨_, rfl⟩
    have HBA := Lib.hid hba
    clear hba
    have HRGA := Lib.hid (HRG.out.below HBA.out HRG.out.lt)
    have HRPA := Lib.hid (HRP.out.below HBA.out HRP.out.lt)
    have c0 := HRPA.out.cell (i := 0) rfl
    have c1 := HRPA.out.cell (i := 1) rfl
    have c2 := HRPA.out.cell (i := 2) rfl
    have g0 := HRGA.out.cell (i := 0) rfl
    have HRK : Hid (∀ q : Nat, ranksF n (reachOf z) (chs n kI.toNat) (x, y, d) = some q → q ≤ 63) := Lib.hid fun q h => HN.out.rank HKT.out HPL.out h
    go_wp2_with (go_at_call 16; refine (fine_any n z kI x y d _ _ _ (HI.out.below HBA.out) HZ.out).mono ?_; rintro e w5 ⟨rfl, hb5⟩; rw [HF.out]; have HB5 := Lib.hid (HBA.out.trans (hb5.mono HBA.out.size)); clear hb5)
    have HRG5 := Lib.hid (HRG.out.below HB5.out HRG.out.lt)
    have HRP5 := Lib.hid (HRP.out.below HB5.out HRP.out.lt)
    have HBW5 := Lib.hid (HB0.out.trans (HB5.out.mono HB0.out.size))
    have hmax : rankV F (x, y, d) ≤ 63 := by
      unfold rankV
      cases hG : F (x, y, d) with
      | none => dsimp only; omega
      | some q =>
        have := HRK.out q (by rw [← HFF.out]; exact hG)
        dsimp only
        omega
    have HMAX := Lib.hid hmax
    clear hmax c0 c1 c2 g0 HRGA HRPA HBA HRK
    go_loopw [9, 41] (fun s9 ii wr => ∃ i x y d : Nat, ii = .int .i64 i ∧ s9 = .int .i64 (rankV F (x, y, d)) ∧ (x, y, d) ∈ allPl n (chs n kI.toNat) ∧ (i = 0 ∨ 0 ≤ rankV F (x, y, d)) ∧ rankV F (x, y, d) + i ≤ 69 ∧ Row wr (w.heap.size + 1) 25 [.int .i64 x, .int .i64 y, .int .i64 d] ∧ Row wr w.heap.size 23 [.slice a n cap] ∧ Below w.heap.size w wr) (fun _ ii _ => 71 - (intOf ii).toNat)
    case atStart => exact ⟨0, x, y, d, rfl, rfl, HPL.out, .inl rfl, by have := HMAX.out; omega, HRP5.out, HRG5.out, HBW5.out⟩
    case round =>
      clear HRG5 HRP5 HBW5 HB5 HMAX HF HOK HPL HRG HRP HA HI HIL HB0
      obtain ⟨i, x, y, d, rfl, rfl, hpl, hi0, hi69, hrp, hrg, hbel⟩ := hrel
      have HPL := Lib.hid hpl
      have HRP := Lib.hid hrp
      have HRG := Lib.hid hrg
      have HB := Lib.hid hbel
      have HA := Lib.hid (SliceArg.below HAW.out hbel)
      have HBW : Hid (Below wr.heap.size wr wr) := Lib.hid (Below.refl _ _)
      have hok : okPl n z kI x y d := ⟨⟨HT.out, HK12.out⟩, isPlB_of hpl⟩
      have HOK := Lib.hid hok
      have hxy := chs_lt n kI.toNat _ (mem_allPl.1 hpl).1
      have hd := (mem_allPl.1 hpl).2
      dsimp only at hxy hd
      have hrk1 : -1 ≤ rankV F (x, y, d) := by unfold rankV; split <;> omega
      have hi70 : (i : Int) < 70 := by omega
      obtain ⟨m0, m1, er, hres, hcase⟩ := move_cases (F := F) HFF.out HN.out HKT.out hpl
      have HRES := Lib.hid hres
      have HCASE := Lib.hid hcase
      clear hok hres hcase hpl hrp hrg hbel
      have B0 : Below wr.heap.size wr wr.drew := (Below.refl _ _).drew
      have r0 := HRP.out.below B0 HRP.out.lt
      have c0 := r0.cell (i := 0) rfl
      have c1 := r0.cell (i := 1) rfl
      have c2 := r0.cell (i := 2) rfl
      have g0 := (HRG.out.below B0 HRG.out.lt).cell (i := 0) rfl
      clear r0
      have hsP := HRP.out.lt
      have hsG := HRG.out.lt
      go_upto_region 7 with fail
      go_cut [12, 13] (fun s12 s13 wx => ∃ B, s12 = .pointer (some ⟨B, 0, none⟩) ∧ s13 = .int .i64 (er : Nat) ∧ Row wx B 32 [.int .i64 (m0 : Nat), .int .i64 (m1 : Nat)] ∧ Below wr.heap.size wr wx ∧ wr.heap.size ≤ B)
      case first =>
        as_aux_lemma =>
          go_region_held3 (fun w' => Below wr.heap.size wr w' ∧ w'.cell? ⟨w.heap.size + 1, 0, none⟩ = some (.int .i64 x) ∧ w'.cell? ⟨w.heap.size + 1, 1, none⟩ = some (.int .i64 y) ∧ w'.cell? ⟨w.heap.size + 1, 2, none⟩ = some (.int .i64 d) ∧ w'.cell? ⟨w.heap.size, 0, none⟩ = some (.slice a n cap)) (first | (refine ⟨?_, ?_, ?_, ?_, ?_⟩ <;> assumption) | (refine ⟨?_, ?_, ?_, ?_, ?_⟩ <;> first | assumption | exact Below.alloc (by assumption) (Below.size (by assumption)) _ | exact Below.setCell (Below.setCell (by assumption) hNB _) hNB _ | exact Below.drew (Below.alloc HBW.out (Below.size HBW.out) _) | exact ((HRP.out.alloc _).drewN 1).cell (i := 0) rfl | exact ((HRP.out.alloc _).drewN 1).cell (i := 1) rfl | exact ((HRP.out.alloc _).drewN 1).cell (i := 2) rfl | exact ((HRG.out.alloc _).drewN 1).cell (i := 0) rfl | exact ((HRW.out.other hNl _).other hNl _).cell (i := 0) rfl | exact ((HRW.out.other hNl _).other hNl _).cell (i := 1) rfl | exact ((HRW.out.other hNl _).other hNl _).cell (i := 2) rfl | exact ((HGW.out.other hNg _).other hNg _).cell (i := 0) rfl | go_keep))
            (first
              | (go_at_call 13; refine (Few_any n z _ _ (SliceArg.below HA.out (And.left (by assumption)))).mono ?_; rintro e w1 ⟨a1, k1, rfl, hi1, hb1⟩; rw [HM.out] at hi1; rw [HM.out]; have HI1 := Lib.hid hi1; clear hi1; have hb2 := Below.trans (And.left (by assumption)) (hb1.mono (Below.size (And.left (by assumption)))); have r1 := HRP.out.below hb2 HRP.out.lt; have c0 := r1.cell (i := 0) rfl; have c1 := r1.cell (i := 1) rfl; have c2 := r1.cell (i := 2) rfl; have HRW := Lib.hid r1; have r2 := HRG.out.below hb2 HRG.out.lt; have g0 := r2.cell (i := 0) rfl; have HGW := Lib.hid r2; clear r1 r2; (try have hN := Row.below hN hb1 (Row.lt hN)); (try have hNB := newBound (w0 := wr) hb1 (by first | assumption | exact And.left (by assumption))); (try have hNB := newBoundD HBW.out hb1); (try have hNl := Nat.ne_of_lt (Nat.lt_of_lt_of_le HRP.out.lt hNB)); (try have hNg := Nat.ne_of_lt (Nat.lt_of_lt_of_le HRG.out.lt hNB)); (try have hN := rowNew hb1); (try have hN := rowNewD hb1); (try have n0 := Row.cell hN (i := 0) rfl); (try have n1 := Row.cell hN (i := 1) rfl); (try have f0 := Row.free hN 0); (try have f1 := Row.free hN 1); (try have nl := Row.lt hN); clear hb1)
              | (go_at_call 14; refine (place_any x y d _).mono ?_; rintro e w1 ⟨rfl, hb1⟩; (try (have HI1 := Lib.hid (by first | exact IntsAt.below HI1.out hb1 | exact IntsAt.below (IntsAt.alloc HI1.out _) hb1 : IntsAt w1 _ _ _))); have hb2 := Below.trans (And.left (by assumption)) (hb1.mono (Below.size (And.left (by assumption)))); have r1 := HRP.out.below hb2 HRP.out.lt; have c0 := r1.cell (i := 0) rfl; have c1 := r1.cell (i := 1) rfl; have c2 := r1.cell (i := 2) rfl; have HRW := Lib.hid r1; have r2 := HRG.out.below hb2 HRG.out.lt; have g0 := r2.cell (i := 0) rfl; have HGW := Lib.hid r2; clear r1 r2; (try have hN := Row.below hN hb1 (Row.lt hN)); (try have hNB := newBound (w0 := wr) hb1 (by first | assumption | exact And.left (by assumption))); (try have hNB := newBoundD HBW.out hb1); (try have hNl := Nat.ne_of_lt (Nat.lt_of_lt_of_le HRP.out.lt hNB)); (try have hNg := Nat.ne_of_lt (Nat.lt_of_lt_of_le HRG.out.lt hNB)); (try have hN := rowNew hb1); (try have hN := rowNewD hb1); (try have n0 := Row.cell hN (i := 0) rfl); (try have n1 := Row.cell hN (i := 1) rfl); (try have f0 := Row.free hN 0); (try have f1 := Row.free hN 1); (try have nl := Row.lt hN); clear hb1)
              | (go_at_call 15; refine (MoveP_any n z kI x y d _ _ _ (by first | exact HI1.out | exact IntsAt.alloc HI1.out _)).mono ?_; rintro e w1 ⟨hb1, hno, hyes, -⟩; simp only [Int.toNat_natCast] at hno hyes; obtain rfl := HRES.out e (hno HOK.out) (fun t => hyes t HOK.out); clear hno hyes; have hb2 := Below.trans (And.left (by assumption)) (hb1.mono (Below.size (And.left (by assumption)))); have r1 := HRP.out.below hb2 HRP.out.lt; have c0 := r1.cell (i := 0) rfl; have c1 := r1.cell (i := 1) rfl; have c2 := r1.cell (i := 2) rfl; have HRW := Lib.hid r1; have r2 := HRG.out.below hb2 HRG.out.lt; have g0 := r2.cell (i := 0) rfl; have HGW := Lib.hid r2; clear r1 r2; (try have hN := Row.below hN hb1 (Row.lt hN)); (try have hNB := newBound (w0 := wr) hb1 (by first | assumption | exact And.left (by assumption))); (try have hNB := newBoundD HBW.out hb1); (try have hNl := Nat.ne_of_lt (Nat.lt_of_lt_of_le HRP.out.lt hNB)); (try have hNg := Nat.ne_of_lt (Nat.lt_of_lt_of_le HRG.out.lt hNB)); (try have hN := rowNew hb1); (try have hN := rowNewD hb1); (try have n0 := Row.cell hN (i := 0) rfl); (try have n1 := Row.cell hN (i := 1) rfl); (try have f0 := Row.free hN 0); (try have f1 := Row.free hN 1); (try have nl := Row.lt hN); clear hb1))
          all_goals
            have hbz : Below wr.heap.size wr w1 := by assumption
            have hsz1 := hbz.size
            go_wp2_with fail
            go_meet
            first | exact ⟨w1.heap.size, rfl, rfl, Row.new _ _ _, hbz.alloc hsz1 _, hsz1⟩ | exact ⟨_, rfl, rfl, (hN.set 0 _).set 1 _, (hbz.setCell hNB _).setCell hNB _, hNB⟩
      case rest =>
        as_aux_lemma =>
          obtain ⟨B, rfl, rfl, rb, hbb, hB⟩ := hcut
          obtain ⟨wd, rfl⟩ : ∃ wd : World, wd = wc := ⟨_, rfl⟩
          have HBD := Lib.hid hbb
          have HRB := Lib.hid rb
          have HRP2 := Lib.hid (HRP.out.below hbb HRP.out.lt)
          have HRG2 := Lib.hid (HRG.out.below hbb HRG.out.lt)
          have HBX := Lib.hid (HB.out.trans (hbb.mono HB.out.size))
          clear B0 c0 c1 c2 g0 rb hbb
          have c0 := HRP2.out.cell (i := 0) rfl
          have c1 := HRP2.out.cell (i := 1) rfl
          have c2 := HRP2.out.cell (i := 2) rfl
          have g0 := HRG2.out.cell (i := 0) rfl
          have b0 := HRB.out.cell (i := 0) rfl
          have b1 := HRB.out.cell (i := 1) rfl
          have s1 := cast_beq d x
          have s2 := cast_beq d y
          rcases HCASE.out with ⟨hlt1, rfl, hiff⟩ | ⟨v, hv1, hrv, rfl, hdx, hdy, hmC, hmM, hnext⟩
          · generalize rankV F (x, y, d) = rk at *
            have HIFF := Lib.hid hiff
            clear hiff HCASE HRES
            by_cases e1 : d = x
            · have t1 : (d == x) = true := by simpa using e1
              rw [t1] at s1
              have hrk0 : rk = 0 := HIFF.out.2 (.inl e1)
              subst hrk0
              clear e1 t1 s2 hlt1 hi69 hrk1 hi0
              go_wp2_with (go_at_call 17; refine (awake_any _).mono ?_; rintro e w9 ⟨rfl, hb9⟩; have HB9 := Lib.hid (HBX.out.trans (hb9.mono HBX.out.size)); clear hb9)
              go_ret
              exact ⟨rfl, HB9.out⟩
            · have t1 : (d == x) = false := by simpa using e1
              rw [t1] at s1
              by_cases e2 : d = y
              · have t2 : (d == y) = true := by simpa using e2
                rw [t2] at s2
                have hrk0 : rk = 0 := HIFF.out.2 (.inr e2)
                subst hrk0
                clear e1 e2 t1 t2 hlt1 hi69 hrk1 hi0
                go_wp2_with (go_at_call 17; refine (awake_any _).mono ?_; rintro e w9 ⟨rfl, hb9⟩; have HB9 := Lib.hid (HBX.out.trans (hb9.mono HBX.out.size)); clear hb9)
                go_ret
                exact ⟨rfl, HB9.out⟩
              · have t2 : (d == y) = false := by simpa using e2
                rw [t2] at s2
                have hrk0 : rk ≠ 0 := fun h => by rcases HIFF.out.1 h with h | h <;> contradiction
                have hrk1 : rk = -1 := by omega
                subst hrk1
                clear e1 e2 t1 t2 hlt1 hi69 hrk0 hi0
                go_wp2_with (go_at_call 17; refine (awake_any _).mono ?_; rintro e w9 ⟨rfl, hb9⟩; have HB9 := Lib.hid (HBX.out.trans (hb9.mono HBX.out.size)); clear hb9)
                go_ret
                exact ⟨rfl, HB9.out⟩
          · rw [hrv]
            obtain ⟨hm01, hm1n, -⟩ := (chs_mem HKT.out).1 hmC
            have hvi : v + i ≤ 69 := by rw [hrv] at hi69; omega
            have t1 : (d == x) = false := by simpa using hdx
            rw [t1] at s1
            have t2 : (d == y) = false := by simpa using hdy
            rw [t2] at s2
            have v1 : ¬ ((v : Int) < 1) := by omega
            have l0 : ¬ ((m0 : Int) < 0) := by omega
            have l1 : ¬ ((m1 : Int) < (m0 : Int)) := by omega
            have l2 : ¬ ((n : Int) ≤ (m1 : Int)) := by omega
            have hm0n : m0 < n := by omega
            have hor := canM_iff.1 hmM
            have HOR := Lib.hid hor
            have HNX := Lib.hid hnext
            have HMC := Lib.hid hmC
            have HIX := Lib.hid (HIW.out.below HBX.out)
            have HD0 : Hid (Below wd.heap.size wd wd) := Lib.hid (Below.refl _ _)
            have hmf : ∀ (fn : Fn) (first cap : Array Value) (w : World), (Instr.makeFunc fn first cap).run Try.prog w = .ok (.func fn first cap) w := fun _ _ _ _ => rfl
            obtain ⟨hx1, hy1, hxy1⟩ := hxy
            clear hor hnext hmC hmM hrv hdx hdy t1 t2 HCASE HRES hi69 hi0 hrk1
            have hmid : ∀ we : World, Below wd.heap.size wd we → True := fun _ _ => trivial
            go_upto_region 14 with fail
            go_cut [132] (fun s132 wx => s132 = .bool false ∧ Below wd.heap.size wd wx)
            case first =>
              as_aux_lemma =>
                cases h1 : (reachOf z x).testBit m0
                · have hA34 : (reachOf z x).testBit m1 = true ∧ (reachOf z y).testBit m0 = true := by
                    rcases HOR.out with h | h
                    · rw [h1] at h; cases h.1
                    · exact h
                  have HA1 := Lib.hid h1
                  have HA3 := Lib.hid hA34.1
                  have HA4 := Lib.hid hA34.2
                  clear h1 hA34
                  go_wp2_with fail
                  go_at_call 30
                  refine (far_any g0 (HIX.out.below HD0.out) HCE.out hn8 hx1 hm0n).mono ?_
                  rintro e we1 ⟨rfl, hbe⟩
                  rw [HA1.out]
                  have HD1 := Lib.hid (HD0.out.trans (hbe.mono HD0.out.size))
                  clear hbe c0 c1 c2 g0 b0 b1
                  have c0 := (HRP2.out.below HD1.out HRP2.out.lt).cell (i := 0) rfl
                  have c1 := (HRP2.out.below HD1.out HRP2.out.lt).cell (i := 1) rfl
                  have c2 := (HRP2.out.below HD1.out HRP2.out.lt).cell (i := 2) rfl
                  have g0 := (HRG2.out.below HD1.out HRG2.out.lt).cell (i := 0) rfl
                  have b0 := (HRB.out.below HD1.out HRB.out.lt).cell (i := 0) rfl
                  have b1 := (HRB.out.below HD1.out HRB.out.lt).cell (i := 1) rfl
                  go_wp2_with fail
                  go_at_call 30
                  refine (far_any g0 (HIX.out.below HD1.out) HCE.out hn8 hx1 hm1n).mono ?_
                  rintro e we2 ⟨rfl, hbe⟩
                  rw [HA3.out]
                  have HD2 := Lib.hid (HD1.out.trans (hbe.mono HD1.out.size))
                  clear hbe c0 c1 c2 g0 b0 b1
                  have c0 := (HRP2.out.below HD2.out HRP2.out.lt).cell (i := 0) rfl
                  have c1 := (HRP2.out.below HD2.out HRP2.out.lt).cell (i := 1) rfl
                  have c2 := (HRP2.out.below HD2.out HRP2.out.lt).cell (i := 2) rfl
                  have g0 := (HRG2.out.below HD2.out HRG2.out.lt).cell (i := 0) rfl
                  have b0 := (HRB.out.below HD2.out HRB.out.lt).cell (i := 0) rfl
                  have b1 := (HRB.out.below HD2.out HRB.out.lt).cell (i := 1) rfl
                  go_wp2_with fail
                  go_at_call 30
                  refine (far_any g0 (HIX.out.below HD2.out) HCE.out hn8 hy1 hm0n).mono ?_
                  rintro e we3 ⟨rfl, hbe⟩
                  rw [HA4.out]
                  have HD3 := Lib.hid (HD2.out.trans (hbe.mono HD2.out.size))
                  clear hbe c0 c1 c2 g0 b0 b1
                  have c0 := (HRP2.out.below HD3.out HRP2.out.lt).cell (i := 0) rfl
                  have c1 := (HRP2.out.below HD3.out HRP2.out.lt).cell (i := 1) rfl
                  have c2 := (HRP2.out.below HD3.out HRP2.out.lt).cell (i := 2) rfl
                  have g0 := (HRG2.out.below HD3.out HRG2.out.lt).cell (i := 0) rfl
                  have b0 := (HRB.out.below HD3.out HRB.out.lt).cell (i := 0) rfl
                  have b1 := (HRB.out.below HD3.out HRB.out.lt).cell (i := 1) rfl
                  go_wp2_with fail
                  go_meet
                  exact ⟨rfl, HD3.out⟩
                · cases h2 : (reachOf z y).testBit m1
                  · have hA34 : (reachOf z x).testBit m1 = true ∧ (reachOf z y).testBit m0 = true := by
                      rcases HOR.out with h | h
                      · rw [h2] at h; cases h.2
                      · exact h
                    have HA1 := Lib.hid h1
                    have HA2 := Lib.hid h2
                    have HA3 := Lib.hid hA34.1
                    have HA4 := Lib.hid hA34.2
                    clear h1 h2 hA34
                    go_wp2_with fail
                    go_at_call 30
                    refine (far_any g0 (HIX.out.below HD0.out) HCE.out hn8 hx1 hm0n).mono ?_
                    rintro e we1 ⟨rfl, hbe⟩
                    rw [HA1.out]
                    have HD1 := Lib.hid (HD0.out.trans (hbe.mono HD0.out.size))
                    clear hbe c0 c1 c2 g0 b0 b1
                    have c0 := (HRP2.out.below HD1.out HRP2.out.lt).cell (i := 0) rfl
                    have c1 := (HRP2.out.below HD1.out HRP2.out.lt).cell (i := 1) rfl
                    have c2 := (HRP2.out.below HD1.out HRP2.out.lt).cell (i := 2) rfl
                    have g0 := (HRG2.out.below HD1.out HRG2.out.lt).cell (i := 0) rfl
                    have b0 := (HRB.out.below HD1.out HRB.out.lt).cell (i := 0) rfl
                    have b1 := (HRB.out.below HD1.out HRB.out.lt).cell (i := 1) rfl
                    go_wp2_with fail
                    go_at_call 30
                    refine (far_any g0 (HIX.out.below HD1.out) HCE.out hn8 hy1 hm1n).mono ?_
                    rintro e we2 ⟨rfl, hbe⟩
                    rw [HA2.out]
                    have HD2 := Lib.hid (HD1.out.trans (hbe.mono HD1.out.size))
                    clear hbe c0 c1 c2 g0 b0 b1
                    have c0 := (HRP2.out.below HD2.out HRP2.out.lt).cell (i := 0) rfl
                    have c1 := (HRP2.out.below HD2.out HRP2.out.lt).cell (i := 1) rfl
                    have c2 := (HRP2.out.below HD2.out HRP2.out.lt).cell (i := 2) rfl
                    have g0 := (HRG2.out.below HD2.out HRG2.out.lt).cell (i := 0) rfl
                    have b0 := (HRB.out.below HD2.out HRB.out.lt).cell (i := 0) rfl
                    have b1 := (HRB.out.below HD2.out HRB.out.lt).cell (i := 1) rfl
                    go_wp2_with fail
                    go_at_call 30
                    refine (far_any g0 (HIX.out.below HD2.out) HCE.out hn8 hx1 hm1n).mono ?_
                    rintro e we3 ⟨rfl, hbe⟩
                    rw [HA3.out]
                    have HD3 := Lib.hid (HD2.out.trans (hbe.mono HD2.out.size))
                    clear hbe c0 c1 c2 g0 b0 b1
                    have c0 := (HRP2.out.below HD3.out HRP2.out.lt).cell (i := 0) rfl
                    have c1 := (HRP2.out.below HD3.out HRP2.out.lt).cell (i := 1) rfl
                    have c2 := (HRP2.out.below HD3.out HRP2.out.lt).cell (i := 2) rfl
                    have g0 := (HRG2.out.below HD3.out HRG2.out.lt).cell (i := 0) rfl
                    have b0 := (HRB.out.below HD3.out HRB.out.lt).cell (i := 0) rfl
                    have b1 := (HRB.out.below HD3.out HRB.out.lt).cell (i := 1) rfl
                    go_wp2_with fail
                    go_at_call 30
                    refine (far_any g0 (HIX.out.below HD3.out) HCE.out hn8 hy1 hm0n).mono ?_
                    rintro e we4 ⟨rfl, hbe⟩
                    rw [HA4.out]
                    have HD4 := Lib.hid (HD3.out.trans (hbe.mono HD3.out.size))
                    clear hbe c0 c1 c2 g0 b0 b1
                    have c0 := (HRP2.out.below HD4.out HRP2.out.lt).cell (i := 0) rfl
                    have c1 := (HRP2.out.below HD4.out HRP2.out.lt).cell (i := 1) rfl
                    have c2 := (HRP2.out.below HD4.out HRP2.out.lt).cell (i := 2) rfl
                    have g0 := (HRG2.out.below HD4.out HRG2.out.lt).cell (i := 0) rfl
                    have b0 := (HRB.out.below HD4.out HRB.out.lt).cell (i := 0) rfl
                    have b1 := (HRB.out.below HD4.out HRB.out.lt).cell (i := 1) rfl
                    go_wp2_with fail
                    go_meet
                    exact ⟨rfl, HD4.out⟩
                  · have HA1 := Lib.hid h1
                    have HA2 := Lib.hid h2
                    clear h1 h2
                    go_wp2_with fail
                    go_at_call 30
                    refine (far_any g0 (HIX.out.below HD0.out) HCE.out hn8 hx1 hm0n).mono ?_
                    rintro e we1 ⟨rfl, hbe⟩
                    rw [HA1.out]
                    have HD1 := Lib.hid (HD0.out.trans (hbe.mono HD0.out.size))
                    clear hbe c0 c1 c2 g0 b0 b1
                    have c0 := (HRP2.out.below HD1.out HRP2.out.lt).cell (i := 0) rfl
                    have c1 := (HRP2.out.below HD1.out HRP2.out.lt).cell (i := 1) rfl
                    have c2 := (HRP2.out.below HD1.out HRP2.out.lt).cell (i := 2) rfl
                    have g0 := (HRG2.out.below HD1.out HRG2.out.lt).cell (i := 0) rfl
                    have b0 := (HRB.out.below HD1.out HRB.out.lt).cell (i := 0) rfl
                    have b1 := (HRB.out.below HD1.out HRB.out.lt).cell (i := 1) rfl
                    go_wp2_with fail
                    go_at_call 30
                    refine (far_any g0 (HIX.out.below HD1.out) HCE.out hn8 hy1 hm1n).mono ?_
                    rintro e we2 ⟨rfl, hbe⟩
                    rw [HA2.out]
                    have HD2 := Lib.hid (HD1.out.trans (hbe.mono HD1.out.size))
                    clear hbe c0 c1 c2 g0 b0 b1
                    have c0 := (HRP2.out.below HD2.out HRP2.out.lt).cell (i := 0) rfl
                    have c1 := (HRP2.out.below HD2.out HRP2.out.lt).cell (i := 1) rfl
                    have c2 := (HRP2.out.below HD2.out HRP2.out.lt).cell (i := 2) rfl
                    have g0 := (HRG2.out.below HD2.out HRG2.out.lt).cell (i := 0) rfl
                    have b0 := (HRB.out.below HD2.out HRB.out.lt).cell (i := 0) rfl
                    have b1 := (HRB.out.below HD2.out HRB.out.lt).cell (i := 1) rfl
                    go_wp2_with fail
                    go_meet
                    exact ⟨rfl, HD2.out⟩
            case rest =>
              as_aux_lemma =>
                obtain ⟨rfl, hbe⟩ := hcut
                obtain ⟨we, rfl⟩ : ∃ we : World, we = wc := ⟨_, rfl⟩
                have HDE := Lib.hid hbe
                have HRP3 := Lib.hid (HRP2.out.below hbe HRP2.out.lt)
                have HRG3 := Lib.hid (HRG2.out.below hbe HRG2.out.lt)
                have hrb3 := HRB.out.below hbe HRB.out.lt
                have HBE := Lib.hid (HBX.out.trans (hbe.mono HBX.out.size))
                clear hbe c0 c1 c2 g0 b0 b1
                have c0 := HRP3.out.cell (i := 0) rfl
                have c1 := HRP3.out.cell (i := 1) rfl
                have c2 := HRP3.out.cell (i := 2) rfl
                have p0 := HRP3.out.free 0
                have p1 := HRP3.out.free 1
                have pl := HRP3.out.lt
                have b0 := hrb3.cell (i := 0) rfl
                have b1 := hrb3.cell (i := 1) rfl
                clear hrb3
                have hne : w.heap.size ≠ w.heap.size + 1 := by omega
                go_upto_region 16 with fail
                go_cut [137] (fun _ wx => Row wx (w.heap.size + 1) 25 [.int .i64 m0, .int .i64 m1, .int .i64 d] ∧ Row wx w.heap.size 23 [.slice a n cap] ∧ Below w.heap.size w wx)
                case first =>
                  as_aux_lemma =>
                    go_region
                    all_goals
                      go_wp2_with fail
                      go_meet
                      exact ⟨((HRP3.out.set 0 _).set 1 _).drewN 1, ((HRG3.out.other hne _).other hne _).drewN 1, below_drewN ((HBE.out.setCell (Nat.le_succ _) _).setCell (Nat.le_succ _) _) 1⟩
                case rest =>
                  as_aux_lemma =>
                    obtain ⟨hrp4, hrg4, hbf⟩ := hcut
                    obtain ⟨wf, rfl⟩ : ∃ wf : World, wf = wc := ⟨_, rfl⟩
                    have HRP4 := Lib.hid hrp4
                    have HRG4 := Lib.hid hrg4
                    have HBF := Lib.hid hbf
                    clear c0 c1 c2 p0 p1 pl b0 b1 s1 s2 hmf
                    have c0 := hrp4.cell (i := 0) rfl
                    have c1 := hrp4.cell (i := 1) rfl
                    have c2 := hrp4.cell (i := 2) rfl
                    have g0 := hrg4.cell (i := 0) rfl
                    clear hrp4 hrg4 hbf
                    have s3 := cast_beq d m0
                    have s4 := cast_beq d m1
                    by_cases e1 : d = m0
                    · have t1 : (d == m0) = true := by simpa using e1
                      rw [t1] at s3
                      clear e1 t1 s4
                      go_wp2_with (go_at_call 17; refine (awake_any _).mono ?_; rintro e w9 ⟨rfl, hb9⟩; have HB9 := Lib.hid (HBF.out.trans (hb9.mono HBF.out.size)); clear hb9)
                      go_ret
                      exact ⟨rfl, HB9.out⟩
                    · have t1 : (d == m0) = false := by simpa using e1
                      rw [t1] at s3
                      by_cases e2 : d = m1
                      · have t2 : (d == m1) = true := by simpa using e2
                        rw [t2] at s4
                        clear e1 e2 t1 t2
                        go_wp2_with (go_at_call 17; refine (awake_any _).mono ?_; rintro e w9 ⟨rfl, hb9⟩; have HB9 := Lib.hid (HBF.out.trans (hb9.mono HBF.out.size)); clear hb9)
                        go_ret
                        exact ⟨rfl, HB9.out⟩
                      · have t2 : (d == m1) = false := by simpa using e2
                        rw [t2] at s4
                        have HN2 : Hid (∀ c, (reachOf z d).testBit c = true → c < n ∧ ∃ v' : Nat, rankV F (m0, m1, c) = v' ∧ v' < v) := Lib.hid (by
                          rcases HNX.out with h | h
                          · rcases h with h | h <;> contradiction
                          · exact h)
                        have HRF := Lib.hid (HN.out.refl d hd)
                        clear e1 e2 t1 t2
                        by_cases hil : i < l
                        · obtain ⟨fb, fo, rfl, hfl, hfc⟩ := (HILW.out.below HBF.out).2 (by omega)
                          have fcell := hfc i hil
                          clear hfc
                          obtain ⟨q, hq, hQ⟩ := idx_any (fl i) (show 0 < n by omega) (by omega)
                          have hn0 : n ≠ 0 := by omega
                          go_upto_region 20 with fail
                          go_cut [16] (fun s16 wx => s16 = .int .i64 (q : Nat) ∧ Below wf.heap.size wf wx)
                          case first =>
                            as_aux_lemma =>
                              go_region
                              all_goals
                                go_wp2_with fail
                                go_meet
                                first | exact ⟨by rw [hQ], below_drewN (Below.refl _ _) 1⟩ | exact ⟨rfl, below_drewN (Below.refl _ _) 1⟩
                          case rest =>
                            as_aux_lemma =>
                              obtain ⟨rfl, hbh⟩ := hcut
                              obtain ⟨wh, rfl⟩ : ∃ wh : World, wh = wc := ⟨_, rfl⟩
                              have HBH := Lib.hid (HBF.out.trans (hbh.mono HBF.out.size))
                              have HRP5 := Lib.hid (HRP4.out.below hbh HRP4.out.lt)
                              have HRG5 := Lib.hid (HRG4.out.below hbh HRG4.out.lt)
                              clear hbh c0 c1 c2 g0 fcell hQ
                              have c0 := HRP5.out.cell (i := 0) rfl
                              have c1 := HRP5.out.cell (i := 1) rfl
                              have c2 := HRP5.out.cell (i := 2) rfl
                              have g0 := HRG5.out.cell (i := 0) rfl
                              have HIY := Lib.hid (HIW.out.below HBH.out)
                              cases hbit : (reachOf z d).testBit q
                              · have HBT := Lib.hid hbit
                                clear hbit
                                go_wp2_with fail
                                go_at_call 30
                                refine (far_any g0 HIY.out HCE.out hn8 hd hq).mono ?_
                                rintro e wj ⟨rfl, hbj⟩
                                rw [HBT.out]
                                have HBJ := Lib.hid hbj
                                clear hbj c0 c1 c2 g0
                                go_upto_region 23 with fail
                                try clear c0 c1 c2 g0
                                have HRP := Lib.hid (HRP5.out.below HBJ.out HRP5.out.lt)
                                have HRG := Lib.hid (HRG5.out.below HBJ.out HRG5.out.lt)
                                have HBZ := Lib.hid (HBH.out.trans (HBJ.out.mono HBH.out.size))
                                have HA := Lib.hid (SliceArg.below HAW.out HBZ.out)
                                obtain ⟨hdn, v', hv', hlt'⟩ := HN2.out d HRF.out
                                have HV' := Lib.hid hv'
                                have HOK' : Hid (okPl n z kI m0 m1 d) := Lib.hid ⟨⟨HT.out, HK12.out⟩, isPlB_of (mem_allPl.2 ⟨HMC.out, hdn⟩)⟩
                                clear hv'
                                have B0 : Below wj.heap.size wj wj.drew := (Below.refl _ _).drew
                                have r0 := HRP.out.below B0 HRP.out.lt
                                have c0 := r0.cell (i := 0) rfl
                                have c1 := r0.cell (i := 1) rfl
                                have c2 := r0.cell (i := 2) rfl
                                have g0 := (HRG.out.below B0 HRG.out.lt).cell (i := 0) rfl
                                clear r0
                                go_cut [17, 13] (fun s17 s13 wx => s17 = .int .i64 (v' : Nat) ∧ s13 = .int .i64 0 ∧ Below wj.heap.size wj wx)
                                case first =>
                                  as_aux_lemma =>
                                    go_region_held3 (fun w' => Below wj.heap.size wj w' ∧ w'.cell? ⟨w.heap.size + 1, 0, none⟩ = some (.int .i64 m0) ∧ w'.cell? ⟨w.heap.size + 1, 1, none⟩ = some (.int .i64 m1) ∧ w'.cell? ⟨w.heap.size + 1, 2, none⟩ = some (.int .i64 d) ∧ w'.cell? ⟨w.heap.size, 0, none⟩ = some (.slice a n cap)) (first | (refine ⟨?_, ?_, ?_, ?_, ?_⟩ <;> assumption) | (refine ⟨?_, ?_, ?_, ?_, ?_⟩ <;> first | assumption | exact Below.alloc (by assumption) (Below.size (by assumption)) _ | exact Below.setCell (Below.setCell (by assumption) hNB _) hNB _ | go_keep))
                                      (first
                                        | (go_at_call 13; refine (Few_any n z _ _ (SliceArg.below HA.out (And.left (by assumption)))).mono ?_; rintro e w1 ⟨a1, k1, rfl, hi1, hb1⟩; rw [HM.out] at hi1; rw [HM.out]; have HI1 := Lib.hid hi1; clear hi1; have hb2 := Below.trans (And.left (by assumption)) (hb1.mono (Below.size (And.left (by assumption)))); have r1 := HRP.out.below hb2 HRP.out.lt; have c0 := r1.cell (i := 0) rfl; have c1 := r1.cell (i := 1) rfl; have c2 := r1.cell (i := 2) rfl; have r2 := HRG.out.below hb2 HRG.out.lt; have g0 := r2.cell (i := 0) rfl; clear r1 r2; clear hb1)
                                        | (go_at_call 14; refine (place_any m0 m1 d _).mono ?_; rintro e w1 ⟨rfl, hb1⟩; (try (have HI1 := Lib.hid (IntsAt.below HI1.out hb1))); have hb2 := Below.trans (And.left (by assumption)) (hb1.mono (Below.size (And.left (by assumption)))); have r1 := HRP.out.below hb2 HRP.out.lt; have c0 := r1.cell (i := 0) rfl; have c1 := r1.cell (i := 1) rfl; have c2 := r1.cell (i := 2) rfl; have r2 := HRG.out.below hb2 HRG.out.lt; have g0 := r2.cell (i := 0) rfl; clear r1 r2; clear hb1)
                                        | (go_at_call 12; refine (RankP_any n z kI m0 m1 d _ _ _ (by first | exact HI1.out | exact IntsAt.alloc HI1.out _)).mono ?_; rintro e w1 ⟨hb1, hyes, -⟩; simp only [Int.toNat_natCast] at hyes; obtain rfl := hyes HOK'.out; rw [← HFF.out, HV'.out]; clear hyes; have hb2 := Below.trans (And.left (by assumption)) (hb1.mono (Below.size (And.left (by assumption)))); have r1 := HRP.out.below hb2 HRP.out.lt; have c0 := r1.cell (i := 0) rfl; have c1 := r1.cell (i := 1) rfl; have c2 := r1.cell (i := 2) rfl; have r2 := HRG.out.below hb2 HRG.out.lt; have g0 := r2.cell (i := 0) rfl; clear r1 r2; clear hb1))
                                    all_goals
                                      go_wp2_with fail
                                      go_meet
                                      exact ⟨rfl, rfl, by assumption⟩
                                case rest =>
                                  as_aux_lemma =>
                                    obtain ⟨rfl, rfl, hbg⟩ := hcut
                                    have HBG := Lib.hid hbg
                                    clear hbg B0 c0 c1 c2 g0
                                    have k0 : ¬ ((v' : Int) < 0) := by omega
                                    have k1 : ¬ ((v : Int) ≤ (v' : Int)) := by omega
                                    go_wp2_with fail
                                    go_roundw
                                    case rel => exact ⟨i + 1, m0, m1, d, by go_num, by rw [HV'.out], mem_allPl.2 ⟨HMC.out, hdn⟩, .inr (by rw [HV'.out]; omega), by rw [HV'.out]; omega, HRP.out.below HBG.out HRP.out.lt, HRG.out.below HBG.out HRG.out.lt, HBZ.out.trans (HBG.out.mono HBZ.out.size)⟩
                                    case measure => simp [intOf]; omega
                              · have HBT := Lib.hid hbit
                                clear hbit
                                go_wp2_with fail
                                go_at_call 30
                                refine (far_any g0 HIY.out HCE.out hn8 hd hq).mono ?_
                                rintro e wj ⟨rfl, hbj⟩
                                rw [HBT.out]
                                have HBJ := Lib.hid hbj
                                have hrp6 := HRP5.out.below hbj HRP5.out.lt
                                have HRP6 := Lib.hid hrp6
                                have HRG6 := Lib.hid (HRG5.out.below hbj HRG5.out.lt)
                                have HBJ2 := Lib.hid (HBH.out.trans (hbj.mono HBH.out.size))
                                clear hbj c0 c1 c2 g0
                                have c2 := hrp6.cell (i := 2) rfl
                                have p2 := hrp6.free 2
                                have pl := hrp6.lt
                                clear hrp6
                                go_upto_region 22 with fail
                                go_cut [173] (fun _ wx => Row wx (w.heap.size + 1) 25 [.int .i64 m0, .int .i64 m1, .int .i64 q] ∧ Row wx w.heap.size 23 [.slice a n cap] ∧ Below w.heap.size w wx)
                                case first =>
                                  as_aux_lemma =>
                                    go_wp2_with fail
                                    go_meet
                                    exact ⟨HRP6.out.set 2 _, HRG6.out.other hne _, HBJ2.out.setCell (Nat.le_succ _) _⟩
                                case rest =>
                                  as_aux_lemma =>
                                    obtain ⟨hrp7, hrg7, hbk⟩ := hcut
                                    obtain ⟨wk, rfl⟩ : ∃ wk : World, wk = wc := ⟨_, rfl⟩
                                    clear c2 p2 pl
                                    go_upto_region 23 with fail
                                    try clear c0 c1 c2 g0
                                    have HRP := Lib.hid hrp7
                                    have HRG := Lib.hid hrg7
                                    have HBZ := Lib.hid hbk
                                    have HA := Lib.hid (SliceArg.below HAW.out HBZ.out)
                                    obtain ⟨hdn, v', hv', hlt'⟩ := HN2.out q HBT.out
                                    have HV' := Lib.hid hv'
                                    have HOK' : Hid (okPl n z kI m0 m1 q) := Lib.hid ⟨⟨HT.out, HK12.out⟩, isPlB_of (mem_allPl.2 ⟨HMC.out, hdn⟩)⟩
                                    clear hv'
                                    have B0 : Below wk.heap.size wk wk.drew := (Below.refl _ _).drew
                                    have r0 := HRP.out.below B0 HRP.out.lt
                                    have c0 := r0.cell (i := 0) rfl
                                    have c1 := r0.cell (i := 1) rfl
                                    have c2 := r0.cell (i := 2) rfl
                                    have g0 := (HRG.out.below B0 HRG.out.lt).cell (i := 0) rfl
                                    clear r0
                                    go_cut [17, 13] (fun s17 s13 wx => s17 = .int .i64 (v' : Nat) ∧ s13 = .int .i64 0 ∧ Below wk.heap.size wk wx)
                                    case first =>
                                      as_aux_lemma =>
                                        go_region_held3 (fun w' => Below wk.heap.size wk w' ∧ w'.cell? ⟨w.heap.size + 1, 0, none⟩ = some (.int .i64 m0) ∧ w'.cell? ⟨w.heap.size + 1, 1, none⟩ = some (.int .i64 m1) ∧ w'.cell? ⟨w.heap.size + 1, 2, none⟩ = some (.int .i64 q) ∧ w'.cell? ⟨w.heap.size, 0, none⟩ = some (.slice a n cap)) (first | (refine ⟨?_, ?_, ?_, ?_, ?_⟩ <;> assumption) | (refine ⟨?_, ?_, ?_, ?_, ?_⟩ <;> first | assumption | exact Below.alloc (by assumption) (Below.size (by assumption)) _ | exact Below.setCell (Below.setCell (by assumption) hNB _) hNB _ | go_keep))
                                          (first
                                            | (go_at_call 13; refine (Few_any n z _ _ (SliceArg.below HA.out (And.left (by assumption)))).mono ?_; rintro e w1 ⟨a1, k1, rfl, hi1, hb1⟩; rw [HM.out] at hi1; rw [HM.out]; have HI1 := Lib.hid hi1; clear hi1; have hb2 := Below.trans (And.left (by assumption)) (hb1.mono (Below.size (And.left (by assumption)))); have r1 := HRP.out.below hb2 HRP.out.lt; have c0 := r1.cell (i := 0) rfl; have c1 := r1.cell (i := 1) rfl; have c2 := r1.cell (i := 2) rfl; have r2 := HRG.out.below hb2 HRG.out.lt; have g0 := r2.cell (i := 0) rfl; clear r1 r2; clear hb1)
                                            | (go_at_call 14; refine (place_any m0 m1 q _).mono ?_; rintro e w1 ⟨rfl, hb1⟩; (try (have HI1 := Lib.hid (IntsAt.below HI1.out hb1))); have hb2 := Below.trans (And.left (by assumption)) (hb1.mono (Below.size (And.left (by assumption)))); have r1 := HRP.out.below hb2 HRP.out.lt; have c0 := r1.cell (i := 0) rfl; have c1 := r1.cell (i := 1) rfl; have c2 := r1.cell (i := 2) rfl; have r2 := HRG.out.below hb2 HRG.out.lt; have g0 := r2.cell (i := 0) rfl; clear r1 r2; clear hb1)
                                            | (go_at_call 12; refine (RankP_any n z kI m0 m1 q _ _ _ (by first | exact HI1.out | exact IntsAt.alloc HI1.out _)).mono ?_; rintro e w1 ⟨hb1, hyes, -⟩; simp only [Int.toNat_natCast] at hyes; obtain rfl := hyes HOK'.out; rw [← HFF.out, HV'.out]; clear hyes; have hb2 := Below.trans (And.left (by assumption)) (hb1.mono (Below.size (And.left (by assumption)))); have r1 := HRP.out.below hb2 HRP.out.lt; have c0 := r1.cell (i := 0) rfl; have c1 := r1.cell (i := 1) rfl; have c2 := r1.cell (i := 2) rfl; have r2 := HRG.out.below hb2 HRG.out.lt; have g0 := r2.cell (i := 0) rfl; clear r1 r2; clear hb1))
                                        all_goals
                                          go_wp2_with fail
                                          go_meet
                                          exact ⟨rfl, rfl, by assumption⟩
                                    case rest =>
                                      as_aux_lemma =>
                                        obtain ⟨rfl, rfl, hbg⟩ := hcut
                                        have HBG := Lib.hid hbg
                                        clear hbg B0 c0 c1 c2 g0
                                        have k0 : ¬ ((v' : Int) < 0) := by omega
                                        have k1 : ¬ ((v : Int) ≤ (v' : Int)) := by omega
                                        go_wp2_with fail
                                        go_roundw
                                        case rel => exact ⟨i + 1, m0, m1, q, by go_num, by rw [HV'.out], mem_allPl.2 ⟨HMC.out, hdn⟩, .inr (by rw [HV'.out]; omega), by rw [HV'.out]; omega, HRP.out.below HBG.out HRP.out.lt, HRG.out.below HBG.out HRG.out.lt, HBZ.out.trans (HBG.out.mono HBZ.out.size)⟩
                                        case measure => simp [intOf]; omega
                        · have hil2 : ¬ ((i : Int) < (l : Int)) := by omega
                          go_upto_region 23 with fail
                          try clear c0 c1 c2 g0
                          have HRP := Lib.hid HRP4.out
                          have HRG := Lib.hid HRG4.out
                          have HBZ := Lib.hid HBF.out
                          have HA := Lib.hid (SliceArg.below HAW.out HBZ.out)
                          obtain ⟨hdn, v', hv', hlt'⟩ := HN2.out d HRF.out
                          have HV' := Lib.hid hv'
                          have HOK' : Hid (okPl n z kI m0 m1 d) := Lib.hid ⟨⟨HT.out, HK12.out⟩, isPlB_of (mem_allPl.2 ⟨HMC.out, hdn⟩)⟩
                          clear hv'
                          have B0 : Below wf.heap.size wf wf.drew := (Below.refl _ _).drew
                          have r0 := HRP.out.below B0 HRP.out.lt
                          have c0 := r0.cell (i := 0) rfl
                          have c1 := r0.cell (i := 1) rfl
                          have c2 := r0.cell (i := 2) rfl
                          have g0 := (HRG.out.below B0 HRG.out.lt).cell (i := 0) rfl
                          clear r0
                          go_cut [17, 13] (fun s17 s13 wx => s17 = .int .i64 (v' : Nat) ∧ s13 = .int .i64 0 ∧ Below wf.heap.size wf wx)
                          case first =>
                            as_aux_lemma =>
                              go_region_held3 (fun w' => Below wf.heap.size wf w' ∧ w'.cell? ⟨w.heap.size + 1, 0, none⟩ = some (.int .i64 m0) ∧ w'.cell? ⟨w.heap.size + 1, 1, none⟩ = some (.int .i64 m1) ∧ w'.cell? ⟨w.heap.size + 1, 2, none⟩ = some (.int .i64 d) ∧ w'.cell? ⟨w.heap.size, 0, none⟩ = some (.slice a n cap)) (first | (refine ⟨?_, ?_, ?_, ?_, ?_⟩ <;> assumption) | (refine ⟨?_, ?_, ?_, ?_, ?_⟩ <;> first | assumption | exact Below.alloc (by assumption) (Below.size (by assumption)) _ | exact Below.setCell (Below.setCell (by assumption) hNB _) hNB _ | go_keep))
                                (first
                                  | (go_at_call 13; refine (Few_any n z _ _ (SliceArg.below HA.out (And.left (by assumption)))).mono ?_; rintro e w1 ⟨a1, k1, rfl, hi1, hb1⟩; rw [HM.out] at hi1; rw [HM.out]; have HI1 := Lib.hid hi1; clear hi1; have hb2 := Below.trans (And.left (by assumption)) (hb1.mono (Below.size (And.left (by assumption)))); have r1 := HRP.out.below hb2 HRP.out.lt; have c0 := r1.cell (i := 0) rfl; have c1 := r1.cell (i := 1) rfl; have c2 := r1.cell (i := 2) rfl; have r2 := HRG.out.below hb2 HRG.out.lt; have g0 := r2.cell (i := 0) rfl; clear r1 r2; clear hb1)
                                  | (go_at_call 14; refine (place_any m0 m1 d _).mono ?_; rintro e w1 ⟨rfl, hb1⟩; (try (have HI1 := Lib.hid (IntsAt.below HI1.out hb1))); have hb2 := Below.trans (And.left (by assumption)) (hb1.mono (Below.size (And.left (by assumption)))); have r1 := HRP.out.below hb2 HRP.out.lt; have c0 := r1.cell (i := 0) rfl; have c1 := r1.cell (i := 1) rfl; have c2 := r1.cell (i := 2) rfl; have r2 := HRG.out.below hb2 HRG.out.lt; have g0 := r2.cell (i := 0) rfl; clear r1 r2; clear hb1)
                                  | (go_at_call 12; refine (RankP_any n z kI m0 m1 d _ _ _ (by first | exact HI1.out | exact IntsAt.alloc HI1.out _)).mono ?_; rintro e w1 ⟨hb1, hyes, -⟩; simp only [Int.toNat_natCast] at hyes; obtain rfl := hyes HOK'.out; rw [← HFF.out, HV'.out]; clear hyes; have hb2 := Below.trans (And.left (by assumption)) (hb1.mono (Below.size (And.left (by assumption)))); have r1 := HRP.out.below hb2 HRP.out.lt; have c0 := r1.cell (i := 0) rfl; have c1 := r1.cell (i := 1) rfl; have c2 := r1.cell (i := 2) rfl; have r2 := HRG.out.below hb2 HRG.out.lt; have g0 := r2.cell (i := 0) rfl; clear r1 r2; clear hb1))
                              all_goals
                                go_wp2_with fail
                                go_meet
                                exact ⟨rfl, rfl, by assumption⟩
                          case rest =>
                            as_aux_lemma =>
                              obtain ⟨rfl, rfl, hbg⟩ := hcut
                              have HBG := Lib.hid hbg
                              clear hbg B0 c0 c1 c2 g0
                              have k0 : ¬ ((v' : Int) < 0) := by omega
                              have k1 : ¬ ((v : Int) ≤ (v' : Int)) := by omega
                              go_wp2_with fail
                              go_roundw
                              case rel => exact ⟨i + 1, m0, m1, d, by go_num, by rw [HV'.out], mem_allPl.2 ⟨HMC.out, hdn⟩, .inr (by rw [HV'.out]; omega), by rw [HV'.out]; omega, HRP.out.below HBG.out HRP.out.lt, HRG.out.below HBG.out HRG.out.lt, HBZ.out.trans (HBG.out.mono HBZ.out.size)⟩
                              case measure => simp [intOf]; omega

theorem ChaseMoves_walk (n : Nat) (z : Nat → Int) (v : Value) (kI x y d : Int) (u : Value) (l : Nat) (fl : Nat → Int) (w : World) (hA : SliceArg w v n z) (hz : ∀ i, -9223372036854775808 ≤ z i ∧ z i ≤ 9223372036854775807) (hL : SliceArg w u l fl) :
    Calls Try.prog 8 #[v, .int .i64 kI, .agg #[.int .i64 x, .int .i64 y, .int .i64 d], u] w (LawTrue w) := by
  cases hf : fineB n z kI x y d
  · exact ChaseMoves_no n z v kI x y d u w hA hz hf
  · have hok := fine_ok.1 hf
    obtain ⟨x, y, d, rfl, rfl, rfl, -, -⟩ := isPlB_nat hok.2
    exact ChaseMoves_yes n z v kI x y d u l fl w hA hz hL hok

end Go.Proofs.Ytmkcnpphdghbaaa
