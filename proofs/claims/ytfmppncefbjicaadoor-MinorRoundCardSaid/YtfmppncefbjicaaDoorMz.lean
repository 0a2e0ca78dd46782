/- Package minor: models of any numbers: the reference's IsModel. -/
import Derived.Test.YtfmppncefbjicaaDoorMv
namespace Go.Proofs.YtfmppncefbjicaaDoor
set_option linter.unusedSimpArgs false
set_option linter.unusedVariables false
open Go.RowKit Go.Maps
attribute [local go_sem] i64_bit toNat_eq_one toNat_ne_one toNat_eq_zero toNat_ne_zero i64_and i64_or i64_andNot i64_or_pow i64_andNot_pow

set_option maxRecDepth 20000 in
set_option maxHeartbeats 1000000 in
theorem ConnectedR_out {n : Nat} {a : Option Addr} {w : World} (hn8 : n ≤ 8) (cap : Nat) {s : Int} (h : s ≤ 0 ∨ 2 ^ n ≤ s) :
    Calls Tryd.prog 57 #[.slice a n cap, .int .i64 s] w fun e w' => e = .returned (.bool false) ∧ w = w' := by
  have hn16 : n < 16 := by omega
  obtain ⟨h1n, h2n⟩ := pow_bd n hn16
  by_cases h0 : s ≤ 0
  · have d0 : decide (s ≤ 0) = true := by simp; omega
    clear h
    go_enter Tryd.func57, Tryd.ntmps57
    go_wp2_with fail
    go_ret
    exact ⟨rfl, rfl⟩
  · have d0 : decide (s ≤ 0) = false := by simp; omega
    have d1 : decide ((2 : Int) ^ n ≤ s) = true := by rw [decide_eq_true_eq]; omega
    clear h
    go_enter Tryd.func57, Tryd.ntmps57
    go_wp2_with fail
    go_ret
    exact ⟨rfl, rfl⟩

/-- Whether a number may be the next set of a model. -/
def okS (n : Nat) (r pr : Nat → Nat) (B : List Nat) (met : Nat) (v : Int) : Bool := (decide (0 < v) && decide (v < 2 ^ n)) && (conB n r v.toNat && (v.toNat &&& met == 0 && rchB r v.toNat (pr B.length) B))
def goM (n : Nat) (r pr : Nat → Nat) (y : Nat → Int) : Nat → List Nat → Nat → Bool
  | 0, _, _ => true
  | k + 1, B, met => okS n r pr B met (y B.length) && goM n r pr y k (B ++ [(y B.length).toNat]) (met ||| (y B.length).toNat)
/-- Whether numbers are a model. -/
def isM (n q : Nat) (r pr : Nat → Nat) (m : Nat) (y : Nat → Int) : Bool := decide (m = q) && goM n r pr y m [] 0

def cz (n : Nat) (r : Nat → Nat) (v : Int) : Bool := (decide (0 < v) && decide (v < 2 ^ n)) && conB n r v.toNat
theorem ConnectedR_z {n : Nat} {r : Nat → Nat} {a : Option Addr} {w : World} (G : GrAt w a n r) (hn8 : n ≤ 8) (cap : Nat) (v : Int) :
    Calls Tryd.prog 57 #[.slice a n cap, .int .i64 v] w fun e w' => e = .returned (.bool (cz n r v)) ∧ Below w.heap.size w w' := by
  have hpc := pow_cast n
  by_cases h : 0 < v ∧ v < 2 ^ n
  · obtain ⟨s, rfl⟩ : ∃ s : Nat, v = s := ⟨v.toNat, by omega⟩
    unfold cz
    rw [decide_eq_true h.1, decide_eq_true h.2, Int.toNat_natCast]
    exact ConnectedR_any G hn8 cap s (by omega) (by omega)
  · refine (ConnectedR_out hn8 cap (a := a) (w := w) (s := v) (by omega)).mono ?_
    rintro e w' ⟨rfl, rfl⟩
    refine ⟨?_, Below.refl _ _⟩
    unfold cz
    rw [show (decide (0 < v) && decide (v < 2 ^ n)) = false by rw [Bool.eq_false_iff]; intro h2; rw [Bool.and_eq_true, decide_eq_true_eq, decide_eq_true_eq] at h2; exact h h2]
    rfl
theorem okS_cz {n : Nat} {r pr : Nat → Nat} {B : List Nat} {met : Nat} {v : Int} : okS n r pr B met v = (cz n r v && (v.toNat &&& met == 0 && rchB r v.toNat (pr B.length) B)) := by
  unfold okS cz
  rw [Bool.and_assoc, Bool.and_assoc, Bool.and_assoc]

set_option maxRecDepth 20000 in
set_option maxHeartbeats 4000000 in
theorem IsModelR_any {n q m : Nat} {r pr : Nat → Nat} {a b am : Option Addr} {w : World} (T : Tn w a n r) (P : Tn w b q pr) (ca cb cm : Nat) {y : Nat → Int} (hM : IntsAt w am m y) :
    Calls Tryd.prog 24 #[.slice a n ca, .slice b q cb, .slice am m cm] w fun e w' => e = .returned (.bool (isM n q r pr m y)) ∧ Below w.heap.size w w' := by
  have hm := hM.1
  unfold maxLen at hm
  have hn8 := T.le
  have hq8 := P.le
  have h8 := pow_le8 hn8
  have HT := Lib.hid T
  have HP := Lib.hid P
  have HM := Lib.hid hM
  have HIM : Hid (isM n q r pr m y = (decide (m = q) && goM n r pr y m [] 0)) := Lib.hid rfl
  have HGO : Hid (∀ k B met, goM n r pr y (k + 1) B met = (okS n r pr B met (y B.length) && goM n r pr y k (B ++ [(y B.length).toNat]) (met ||| (y B.length).toNat))) := Lib.hid fun _ _ _ => rfl
  obtain ⟨X, hX⟩ : ∃ X, X = isM n q r pr m y := ⟨_, rfl⟩
  rw [← hX] at HIM ⊢
  clear T P hM hX
  go_enter Tryd.func24, Tryd.ntmps24
  go_wp2_with fail
  go_loopw [7, 8, 9, 12] (fun mt _ _ ix wr => ∃ (i : Nat) (B : List Nat) (met : Nat), i ≤ m ∧ i ≤ q ∧ ix = .int .i64 i ∧ mt = .int .i64 met ∧ met < 2 ^ n ∧ B.length = i ∧ (∀ x ∈ B, x < 2 ^ n) ∧ (∀ j, j < i → y j = (B.getD j 0 : Nat)) ∧ goM n r pr y m [] 0 = goM n r pr y (m - i) B met ∧ Below w.heap.size w wr) (fun _ _ _ ix _ => m - (intOf ix).toNat)
  case atStart => exact ⟨0, [], 0, Nat.zero_le _, Nat.zero_le _, rfl, rfl, Nat.two_pow_pos n, rfl, by simp, fun j hj => absurd hj (by omega), rfl, Below.refl _ _⟩
  case round =>
    obtain ⟨i, B, met, him, hiq, rfl, rfl, hmet, hBl, hBb, hBy, hgo, hb⟩ := hrel
    have HB := Lib.hid hb
    have HBB := Lib.hid hBb
    have HBY := Lib.hid hBy
    have HBL := Lib.hid hBl
    have HGG := Lib.hid hgo
    clear hb hBb hBy hgo hBl
    by_cases hlt : i < m
    · obtain ⟨bm, om, rfl, hltm, hcm⟩ := (HM.out.below HB.out).2 (by omega)
      have ci := hcm i hlt
      clear hcm
      by_cases hq : i < q
      · have d1 : decide ((q : Int) ≤ (i : Int)) = false := by simp; omega
        have d2 : decide (q ≤ i) = false := by simp; omega
        have HCN := Lib.hid (ConnectedR_z (HT.out.below HB.out).at_ hn8 ca (y i))
        have hNO : okS n r pr B met (y i) = false → X = false := fun h => by
          rw [HIM.out, HGG.out, show m - i = (m - i - 1) + 1 by omega, HGO.out, HBL.out, h]; simp
        have HNO := Lib.hid hNO
        clear hNO
        cases hz : cz n r (y i)
        · have HZ := Lib.hid hz
          have HX := Lib.hid (HNO.out (by rw [okS_cz, hz]; rfl))
          clear hz
          generalize y i = v at *
          go_wp2_with (go_at_call 57; refine HCN.out.mono ?_; rintro e w2 ⟨rfl, hb2⟩; rw [HZ.out]; have HB2 := Lib.hid (HB.out.trans (hb2.mono HB.out.size)); clear hb2)
          go_ret
          exact ⟨by rw [HX.out]; rfl, HB2.out⟩
        · have hz2 := hz
          unfold cz at hz2
          rw [Bool.and_eq_true, Bool.and_eq_true, decide_eq_true_eq, decide_eq_true_eq] at hz2
          obtain ⟨⟨hv0, hvn⟩, _⟩ := hz2
          have HZ := Lib.hid hz
          obtain ⟨s, hsv⟩ : ∃ s : Nat, y i = s := ⟨(y i).toNat, by omega⟩
          have hs : s < 2 ^ n := by rw [hsv, pow_cast n] at hvn; omega
          have hs16 : s < 65536 := by omega
          have hm16 : met < 65536 := by omega
          have HOKS : Hid (okS n r pr B met (y i) = (s &&& met == 0 && rchB r s (pr B.length) B)) := Lib.hid (by rw [okS_cz, hz, hsv, Int.toNat_natCast, Bool.true_and])
          have HSV := Lib.hid hsv
          have HFT : Hid (∀ w', Below w.heap.size w w' → Calls Tryd.prog 64 #[.slice a n ca, .slice b q cb, .slice (some ⟨bm, om, none⟩) m cm, .int .i64 (i : Nat), .int .i64 s] w' fun e w'' => e = .returned (.bool (rchB r s (pr B.length) B)) ∧ Below w'.heap.size w' w'') := Lib.hid fun w' hw => by
            have := fits_any (HT.out.below hw) (HP.out.below hw) ca cb cm (HM.out.below hw) (by rw [HBL.out]; omega) (fun j hj => HBY.out j (by rw [← HBL.out]; exact hj)) HBB.out (by rw [HBL.out]; exact hq) s hs
            rw [HBL.out] at this ⊢
            exact this
          rw [hsv] at ci HCN
          rw [← hsv] at HCN
          have HCN2 := Lib.hid (show Calls Tryd.prog 57 #[.slice a n ca, .int .i64 (s : Nat)] wr fun e w' => e = .returned (.bool true) ∧ Below wr.heap.size wr w' by
            have := HCN.out
            rw [hz, hsv] at this
            exact this)
          clear hz hsv hv0 hvn HCN
          by_cases c1 : s &&& met = 0
          · have e1 : (((met &&& s : Nat) : Int) != 0) = false := by rw [Nat.and_comm]; simp; omega
            have HC1 := Lib.hid c1
            clear c1
            cases hf : rchB r s (pr B.length) B
            · have HFF := Lib.hid hf
              have HX := Lib.hid (HNO.out (by rw [HOKS.out, hf]; simp))
              clear hf
              go_wp2_with (first
                | (go_at_call 57; refine HCN2.out.mono ?_; rintro e w2 ⟨rfl, hb2⟩; have HB2 := Lib.hid (HB.out.trans (hb2.mono HB.out.size)); clear hb2)
                | (go_at_call 64; refine (HFT.out _ HB2.out).mono ?_; rintro e w3 ⟨rfl, hb3⟩; rw [HFF.out]; have HB3 := Lib.hid (HB2.out.trans (hb3.mono HB2.out.size)); clear hb3))
              go_ret
              exact ⟨by rw [HX.out]; rfl, HB3.out⟩
            · have HFF := Lib.hid hf
              have HNX := Lib.hid (show goM n r pr y m [] 0 = goM n r pr y (m - (i + 1)) (B ++ [s]) (met ||| s) by
                rw [HGG.out, show m - i = (m - (i + 1)) + 1 by omega, HGO.out, HBL.out, HOKS.out, hf, HC1.out, HSV.out, Int.toNat_natCast]; simp)
              have HOR := Lib.hid (i64_or met s hm16 hs16)
              clear hf
              go_wp2_with (first
                | (go_at_call 57; refine HCN2.out.mono ?_; rintro e w2 ⟨rfl, hb2⟩; have HB2 := Lib.hid (HB.out.trans (hb2.mono HB.out.size)); clear hb2)
                | (go_at_call 64; refine (HFT.out _ HB2.out).mono ?_; rintro e w3 ⟨rfl, hb3⟩; rw [HFF.out]; have HB3 := Lib.hid (HB2.out.trans (hb3.mono HB2.out.size)); clear hb3))
              go_roundw
              case rel =>
                refine ⟨i + 1, B ++ [s], met ||| s, by omega, by omega, by go_num, by first | rfl | rw [HOR.out], Nat.or_lt_two_pow hmet hs, by rw [List.length_append, HBL.out]; rfl, fun x hx => ?_, fun j hj => ?_, HNX.out, HB3.out⟩
                · rcases List.mem_append.1 hx with h | h
                  · exact HBB.out x h
                  · rw [List.mem_singleton.1 h]; exact hs
                · by_cases e : j = i
                  · subst e; rw [HSV.out, ← HBL.out, getD_new]
                  · rw [getD_old (by rw [HBL.out]; omega)]; exact HBY.out j (by omega)
              case measure => simp [intOf]; omega
          · have e1 : (((met &&& s : Nat) : Int) != 0) = true := by rw [Nat.and_comm]; simp; omega
            have HX := Lib.hid (HNO.out (by rw [HOKS.out]; simp [c1]))
            clear c1
            go_wp2_with (go_at_call 57; refine HCN2.out.mono ?_; rintro e w2 ⟨rfl, hb2⟩; have HB2 := Lib.hid (HB.out.trans (hb2.mono HB.out.size)); clear hb2)
            go_ret
            exact ⟨by rw [HX.out]; rfl, HB2.out⟩
      · have d1 : decide ((q : Int) ≤ (i : Int)) = true := by simp; omega
        have d2 : decide (q ≤ i) = true := by simp; omega
        have HX := Lib.hid (show X = false by rw [HIM.out, decide_eq_false (by omega)]; rfl)
        generalize y i = v at *
        go_wp2_with fail
        go_ret
        exact ⟨by rw [HX.out]; rfl, HB.out⟩
    · have hmi : m - i = 0 := by omega
      have HX := Lib.hid (show X = decide (m = q) by rw [HIM.out, HGG.out, hmi]; simp [goM])
      clear hmi
      have d0 : (((m : Int)) == (q : Int)) = decide (m = q) := by
        rw [Bool.eq_iff_iff, beq_iff_eq, decide_eq_true_eq]; omega
      have : i = m := by omega
      subst this
      go_wp2_with fail
      go_ret
      exact ⟨by rw [HX.out, ← d0]; first | rfl | simp, HB.out⟩

end Go.Proofs.YtfmppncefbjicaaDoor
