/- Package minor: the reference's search for a model. -/
import Derived.Test.YtfmppncefbjicaaDoorMx
import Derived.Test.YtfmppncefbjicaaDoorMt
import Derived.ArgAppend
namespace Go.Proofs.YtfmppncefbjicaaDoor
set_option linter.unusedSimpArgs false
set_option linter.unusedVariables false
open Go.RowKit Go.Maps
attribute [local go_sem] i64_bit toNat_eq_one toNat_ne_one toNat_eq_zero toNat_ne_zero i64_and i64_or i64_andNot i64_or_pow i64_andNot_pow

/-- What a search returns: nil, or a slice of the sets. -/
def RefPost (w : World) (o : Option (List Nat)) (e : Ending) (w' : World) : Prop :=
  Below w.heap.size w w' ∧ match o with
    | none => e = .returned (.slice none 0 0)
    | some B' => ∃ x c, e = .returned (.slice (some x) B'.length c) ∧ IntsAt w' (some x) B'.length (natL B')
def stpX (n : Nat) (r pr : Nat → Nat) (k : Nat) (B : List Nat) (met left s : Nat) : Option (List Nat) := if okX n r pr B met left k s then exL n r pr k (B ++ [s]) (met ||| s) (left - szS n s) else none
theorem exL_none {n : Nat} {r pr : Nat → Nat} {k : Nat} {B : List Nat} {met left : Nat} (h : ∀ s, s < 2 ^ n → stpX n r pr k B met left s = none) : exL n r pr (k + 1) B met left = none := find_none _ h
theorem exL_some {n : Nat} {r pr : Nat → Nat} {k : Nat} {B B' : List Nat} {met left j : Nat} (hb : ∀ s, s < j → stpX n r pr k B met left s = none) (hj : stpX n r pr k B met left j = some B') (hl : j < 2 ^ n) : exL n r pr (k + 1) B met left = some B' := find_at hb hj _ hl

set_option maxRecDepth 100000 in
set_option maxHeartbeats 4000000 in
theorem model_rec {n q : Nat} {r pr : Nat → Nat} {a b : Option Addr} {wB : World} (T : Tn wB a n r) (P : Tn wB b q pr) (hq6 : q ≤ 6) (ca cb : Nat) :
    ∀ (k : Nat) (B : List Nat) (met left : Nat), k + B.length = q → met < 2 ^ n → left ≤ 60 → (∀ x ∈ B, x < 2 ^ n) → ∀ (w : World) (am : Option Addr) (cm : Nat), (am = none → B.length = 0 ∧ cm = 0) → B.length ≤ cm → IntsAt w am B.length (natL B) → Below wB.heap.size wB w →
      Calls Tryd.prog 63 #[.slice a n ca, .slice b q cb, .slice am B.length cm, .int .i64 met, .int .i64 left] w (RefPost w (exL n r pr k B met left)) := by
  have hn8 := T.le
  have h8 := pow_le8 hn8
  have hq1 := P.at_.pos
  have hpn := pow_bd n (by omega)
  have HTT := Lib.hid T
  have HPP := Lib.hid P
  clear T P
  obtain ⟨i0, hi0, hz1, hz2, hz3⟩ := info_parts info_int
  intro k
  induction k with
  | zero =>
    intro B met left hq hmet hl hB w am cm hnone hcm hM hb
    have hL : B.length = q := by omega
    have HM := Lib.hid hM
    obtain ⟨x, rfl⟩ : ∃ x, am = some x := by
      cases am with
      | none => have := (hnone rfl).1; omega
      | some x => exact ⟨x, rfl⟩
    obtain ⟨L, hLd⟩ : ∃ L, L = B.length := ⟨_, rfl⟩
    have HLD := Lib.hid hLd
    have HRes : Hid (exL n r pr 0 B met left = if left = 0 then some B else none) := Lib.hid rfl
    rw [← hLd] at hL hcm ⊢
    clear hLd hM hB hnone
    by_cases h0 : left = 0
    · subst h0
      go_enter Tryd.func63, Tryd.ntmps63
      go_wp2_with fail
      go_ret
      exact ⟨Below.refl _ _, x, cm, by rw [← HLD.out, hL]; rfl, HM.out⟩
    · have d0 : ((left : Int) == 0) = false := by simp; omega
      have d1 : (left == 0) = false := by simp; omega
      go_enter Tryd.func63, Tryd.ntmps63
      go_wp2_with fail
      go_ret
      unfold RefPost
      rw [HRes.out, if_neg h0]
      exact ⟨Below.refl _ _, rfl⟩
  | succ k ih =>
    intro B met left hq hmet hl hB w am cm hnone hcm hM hb
    have HIH := Lib.hid ih
    have HM := Lib.hid hM
    have HB := Lib.hid hB
    have HNO := Lib.hid hnone
    have HWB := Lib.hid hb
    have HN := Lib.hid (exL_none (n := n) (r := r) (pr := pr) (k := k) (B := B) (met := met) (left := left))
    have HS := Lib.hid (fun (B' : List Nat) (j : Nat) => exL_some (n := n) (r := r) (pr := pr) (k := k) (B := B) (met := met) (left := left) (B' := B') (j := j))
    have HST : Hid (∀ s : Nat, stpX n r pr k B met left s = if okX n r pr B met left k s then exL n r pr k (B ++ [s]) (met ||| s) (left - szS n s) else none) := Lib.hid fun _ => rfl
    have HOK : Hid (∀ s : Nat, okX n r pr B met left k s = (s &&& met == 0 && (decide (szS n s + k ≤ left) && (conB n r s && rchB r s (pr B.length) B)))) := Lib.hid fun _ => rfl
    have HFT : Hid (∀ w', Below w.heap.size w w' → ∀ s : Nat, s < 2 ^ n → Calls Tryd.prog 64 #[.slice a n ca, .slice b q cb, .slice am B.length cm, .int .i64 (B.length : Nat), .int .i64 s] w' fun e w'' => e = .returned (.bool (rchB r s (pr B.length) B)) ∧ Below w'.heap.size w' w'') := Lib.hid fun w' hw s hs =>
      fits_any ((HTT.out.below hb).below (hw)) ((HPP.out.below hb).below hw) ca cb cm (HM.out.below hw) (Nat.le_refl _) (fun i _ => rfl) HB.out (by omega) s hs
    have hn16 : n < 16 := by omega
    obtain ⟨h1n, h2n⟩ := hpn
    obtain ⟨L, hLd⟩ : ∃ L, L = B.length := ⟨_, rfl⟩
    have HLD := Lib.hid hLd
    have hLq : L < q := by omega
    have hkL : k + L + 1 = q := by omega
    have dL : ((L : Int) == (q : Int)) = false := by simp; omega
    have dL2 : (L == q) = false := by simp; omega
    rw [← hLd] at hcm HFT ⊢
    obtain ⟨R, hR⟩ : ∃ R, R = exL n r pr (k + 1) B met left := ⟨_, rfl⟩
    rw [← hR] at HN HS ⊢
    clear hLd hM hB hnone hb ih hq hR
    go_enter Tryd.func63, Tryd.ntmps63
    go_wp2_with fail
    go_loopw [12, 13, 14] (fun i _ _ wr => ∃ s : Nat, s ≤ 2 ^ n ∧ 1 ≤ s ∧ i = .int .i64 s ∧ (∀ t, t < s → stpX n r pr k B met left t = none) ∧ Below w.heap.size w wr) (fun i _ _ _ => 2 ^ n - (intOf i).toNat)
    case atStart =>
      refine ⟨1, by omega, by omega, rfl, fun t ht => ?_, Below.refl _ _⟩
      have : t = 0 := by omega
      subst this
      rw [HST.out, if_neg]
      rw [HOK.out]
      simp [conB]
    case round =>
      obtain ⟨s, hs, hs1, rfl, hall, hbel⟩ := hrel
      have HALL := Lib.hid hall
      have HBW := Lib.hid hbel
      clear hall hbel
      have hwr : IntKind.i64.wrap ((2 : Int) ^ n) = 2 ^ n := IntWalk.i64_in _ (by omega)
      have hpc := pow_cast n
      by_cases hlt : s < 2 ^ n
      · have dlt : decide ((s : Int) < 2 ^ n) = true := by rw [hpc]; simp; omega
        clear hpc
        have hs16 : s < 65536 := by omega
        have hm16 : met < 65536 := by omega
        have HSZ := Lib.hid (fun w' => Size_any (n := n) (by omega) s hlt w')
        have hsz9 := szS_le n s
        have next : stpX n r pr k B met left s = none → ∀ t, t < s + 1 → stpX n r pr k B met left t = none := fun h t ht => by
          by_cases e : t = s
          · subst e; exact h
          · exact HALL.out t (by omega)
        have HNX := Lib.hid next
        clear next
        have HOKS := Lib.hid (HOK.out s)
        have HSTS := Lib.hid (HST.out s)
        obtain ⟨Z, hZ⟩ : ∃ Z, Z = szS n s := ⟨_, rfl⟩
        rw [← hZ] at HSZ hsz9 HOKS HSTS
        clear hZ
        by_cases c1 : s &&& met = 0
        · have e1 : (((s &&& met : Nat) : Int) != 0) = false := by simp; omega
          have HC1 := Lib.hid c1
          clear c1
          have hk1 : ((left : Int) - ((q : Int) - (L : Int) - 1)) = (left : Int) - k := by omega
          by_cases c2 : Z + k ≤ left
          · have d2 : decide ((left : Int) - ((q : Int) - (L : Int) - 1) < (Z : Int)) = false := by simp; omega
            have HCN := Lib.hid (fun w' (hw : Below w.heap.size w w') => ConnectedR_any ((HTT.out.below HWB.out).below hw).at_ hn8 ca s (by omega) hlt)
            clear hk1
            cases hc : conB n r s
            · have HX := Lib.hid (HNX.out (by rw [HSTS.out, HOKS.out, if_neg]; simp [hc]))
              have HCC := Lib.hid hc
              clear hc
              go_wp2_with (first
                | (go_at_call 51; refine (HSZ.out _).mono ?_; rintro e w1 ⟨rfl, rfl⟩)
                | (go_at_call 57; refine (HCN.out _ HBW.out).mono ?_; rintro e w2 ⟨rfl, hb2⟩; rw [HCC.out]; have HB2 := Lib.hid (HBW.out.trans (hb2.mono HBW.out.size)); clear hb2))
              go_roundw
              case rel => exact ⟨s + 1, by omega, by omega, by go_num, HX.out, HB2.out⟩
              case measure => simp [intOf]; omega
            · have HCC := Lib.hid hc
              cases hf : rchB r s (pr B.length) B
              · have HX := Lib.hid (HNX.out (by rw [HSTS.out, HOKS.out, if_neg]; simp [hf]))
                have HFF := Lib.hid (show rchB r s (pr L) B = false by rw [HLD.out]; exact hf)
                clear hc hf
                go_wp2_with (first
                | (go_at_call 51; refine (HSZ.out _).mono ?_; rintro e w1 ⟨rfl, rfl⟩)
                | (go_at_call 57; refine (HCN.out _ HBW.out).mono ?_; rintro e w2 ⟨rfl, hb2⟩; rw [HCC.out]; have HB2 := Lib.hid (HBW.out.trans (hb2.mono HBW.out.size)); clear hb2)
                | (go_at_call 64; refine (HFT.out _ HB2.out s hlt).mono ?_; rintro e w3 ⟨rfl, hb3⟩; rw [HFF.out]; have HB3 := Lib.hid (HB2.out.trans (hb3.mono HB2.out.size)); clear hb3))
                go_roundw
                case rel => exact ⟨s + 1, by omega, by omega, by go_num, HX.out, HB3.out⟩
                case measure => simp [intOf]; omega
              · have HFF := Lib.hid (show rchB r s (pr L) B = true by rw [HLD.out]; exact hf)
                have HSS := Lib.hid (show stpX n r pr k B met left s = exL n r pr k (B ++ [s]) (met ||| s) (left - Z) by
                  rw [HSTS.out, HOKS.out, if_pos]
                  simp [hc, hf, HC1.out, c2])
                clear hc hf
                go_wp2_with (first
                | (go_at_call 51; refine (HSZ.out _).mono ?_; rintro e w1 ⟨rfl, rfl⟩)
                | (go_at_call 57; refine (HCN.out _ HBW.out).mono ?_; rintro e w2 ⟨rfl, hb2⟩; rw [HCC.out]; have HB2 := Lib.hid (HBW.out.trans (hb2.mono HBW.out.size)); clear hb2)
                | (go_at_call 64; refine (HFT.out _ HB2.out s hlt).mono ?_; rintro e w3 ⟨rfl, hb3⟩; rw [HFF.out]; have HB3 := Lib.hid (HB2.out.trans (hb3.mono HB2.out.size)); have HM3 := Lib.hid (HM.out.below HB3.out); clear hb3)
                | (at_builtin; refine wpList_append_grows (w3.alloc (.cells #[.int .i64 s] 3)) rfl _ _ 22 rfl 3 i0 (.int .i64 0) 1 8 Tryd.underlying22 hi0 hz1 hz2 hz3 rfl (by decide) am L L ((castL B).map fun x => Value.int .i64 x) rfl (fun h => by obtain ⟨h1, _⟩ := HNO.out h; have := HLD.out; omega) (by rw [List.length_map, castL_len]; have := HLD.out; omega) ?hold ⟨w3.heap.size, 0, none⟩ 1 1 [.int .i64 s] rfl rfl (cells_new _ _ _) (by intro u hu; simp at hu; subst hu; rfl) (by omega) (by unfold maxLen; omega) (by omega) ?_))
                case hold =>
                  intro bb hbb j u hju
                  obtain ⟨hj1, hj2⟩ := List.getElem?_eq_some_iff.1 hju
                  have hjB : j < B.length := by simpa [castL] using hj1
                  have hju2 : u = .int .i64 (natL B j) := by
                    rw [← hj2]
                    simp [castL, natL, List.getD_eq_getElem?_getD, hjB]
                  obtain ⟨b5, o5, hbo, hl5, hc5⟩ := HM3.out.2 (by omega)
                  rw [hbb] at hbo
                  cases hbo
                  rw [Addr.add_lit, ((Below.refl w3.heap.size w3).alloc (Nat.le_refl _) _).cell (p := ⟨b5, o5 + j, none⟩) hl5, hju2]
                  exact hc5 j hjB
                intro v4 w4 hown4 hgr4
                have hb34 : Below w3.heap.size w3 w4 := ((Below.refl _ _).alloc (Nat.le_refl _) (.cells #[.int .i64 s] 3)).grown hgr4 (by simp) (fun k hk => by simp at hk)
                have HB4 := Lib.hid (HB3.out.trans (hb34.mono HB3.out.size))
                have hI4 : IntsOwn w4 0 v4 (castL (B ++ [s])) := by
                  unfold IntsOwn
                  rw [castL_len, List.length_append, ← HLD.out]
                  have := ownsRow_low hown4 (Nat.zero_le _)
                  rw [show (castL (B ++ [s])).map (fun x => Value.int .i64 x) = (castL B).map (fun x => Value.int .i64 x) ++ [Value.int .i64 s] by simp [castL]]
                  exact this
                have hlen4 : (B ++ [s]).length ≤ 65536 := by rw [List.length_append, ← HLD.out]; simp; omega
                obtain ⟨g4, c4, rfl, _, _⟩ := own_form' hown4 (by omega)
                have hc4 : L + 1 ≤ c4 := by
                  rcases hown4.2 with ⟨h1, _⟩ | ⟨g', c', cur, hv, _, _, h5, _⟩
                  · simp at h1
                  · simp only [Value.slice.injEq] at hv
                    omega
                have hl5 : (B ++ [s]).length = L + 1 := by rw [List.length_append, ← HLD.out]; rfl
                obtain ⟨a5, c5, e5, hat⟩ := hI4.at_ hlen4
                simp only [Value.slice.injEq] at e5
                obtain ⟨rfl, e6, rfl⟩ := e5
                clear e6
                have hrec := HIH.out (B ++ [s]) (met ||| s) (left - Z) (by omega) (Nat.or_lt_two_pow hmet hlt) (by omega) (fun x hx => by
                  rcases List.mem_append.1 hx with h | h
                  · exact HB.out x h
                  · rw [List.mem_singleton.1 h]; exact hlt) w4 (some ⟨g4, 0, none⟩) c4 (fun h => by cases h) (by omega) hat (HWB.out.trans (HB4.out.mono HWB.out.size))
                rw [hl5, show ((left - Z : Nat) : Int) = (left : Int) - (Z : Int) by omega] at hrec
                obtain ⟨O, hO⟩ : ∃ O, O = exL n r pr k (B ++ [s]) (met ||| s) (left - Z) := ⟨_, rfl⟩
                rw [← hO] at hrec HSS
                have HREC := Lib.hid hrec
                clear hrec hO hat hl5 hlen4 hI4 hown4 hgr4 hb34
                have HOR := Lib.hid (i64_or met s hm16 hs16)
                clear d2 e1 dL dL2 dlt hwr hm16 hs16
                go_wp2_with fail
                rw [HOR.out]
                go_at_call 63
                refine HREC.out.mono ?_
                rintro e w5 ⟨hb5, hp5⟩
                have HB5 := Lib.hid (HB4.out.trans (hb5.mono HB4.out.size))
                clear hb5
                cases O with
                | none =>
                  subst hp5
                  have HX := Lib.hid (HNX.out HSS.out)
                  go_wp2_with fail
                  go_roundw
                  case rel => exact ⟨s + 1, by omega, by omega, by go_num, HX.out, HB5.out⟩
                  case measure => simp [intOf]; omega
                | some B' =>
                  obtain ⟨x5, c5, rfl, hat5⟩ := hp5
                  have HRR := Lib.hid (HS.out B' s HALL.out HSS.out hlt)
                  have HA5 := Lib.hid hat5
                  clear hat5
                  go_wp2_with fail
                  go_ret
                  unfold RefPost
                  rw [HRR.out]
                  exact ⟨HB5.out, x5, c5, rfl, HA5.out⟩
          · have d2 : decide ((left : Int) - ((q : Int) - (L : Int) - 1) < (Z : Int)) = true := by simp; omega
            have HX := Lib.hid (HNX.out (by rw [HSTS.out, HOKS.out, if_neg]; simp [c2]))
            clear c2 hk1
            go_wp2_with (go_at_call 51; refine (HSZ.out _).mono ?_; rintro e w1 ⟨rfl, rfl⟩)
            go_roundw
            case rel => exact ⟨s + 1, by omega, by omega, by go_num, HX.out, HBW.out⟩
            case measure => simp [intOf]; omega
        · have e1 : (((s &&& met : Nat) : Int) != 0) = true := by simp; omega
          have HX := Lib.hid (HNX.out (by rw [HSTS.out, HOKS.out, if_neg]; simp [c1]))
          clear c1
          go_wp2_with (go_at_call 51; refine (HSZ.out _).mono ?_; rintro e w1 ⟨rfl, rfl⟩)
          go_roundw
          case rel => exact ⟨s + 1, by omega, by omega, by go_num, HX.out, HBW.out⟩
          case measure => simp [intOf]; omega
      · have : s = 2 ^ n := by omega
        have dlt : decide ((s : Int) < 2 ^ n) = false := by rw [hpc]; simp; omega
        have HX := Lib.hid (HN.out fun t ht => HALL.out t (by omega))
        clear hpc this
        go_wp2_with fail
        go_ret
        rw [HX.out]
        exact ⟨HBW.out, rfl⟩

end Go.Proofs.YtfmppncefbjicaaDoor
