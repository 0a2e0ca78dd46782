/- The contracts of isBramble, the program's and the reference's. -/
import Derived.Test.YtbkbliieappkdaaDoorW20
namespace Go.Proofs.YtbkbliieappkdaaDoor
set_option linter.unusedSimpArgs false
set_option linter.unusedVariables false
open Go.RowKit Go.Maps
attribute [local go_sem] i64_bit toNat_eq_one toNat_ne_one toNat_eq_zero toNat_ne_zero i64_and i64_or i64_andNot i64_or_pow i64_andNot_pow

theorem connZ_bd {n : Nat} {r : Nat → Nat} {v : Int} (h : connZ n r v = true) : 0 ≤ v ∧ v.toNat < 2 ^ n := by
  unfold connZ at h
  simp only [Bool.and_eq_true, decide_eq_true_eq] at h
  obtain ⟨h0, h1⟩ := inB_iff.1 h.1.1
  exact ⟨h0, nat_pow_cast h1 h0⟩
/-- Whether the set at a place is connected and touches all that stand before it. -/
def okRow (n : Nat) (r : Nat → Nat) (z : Nat → Int) (i : Nat) : Bool := connZ n r (z i) && (List.range i).all fun j => touB n r (z i).toNat (z j).toNat
def brB (n : Nat) (r : Nat → Nat) (m : Nat) (z : Nat → Int) : Bool := decide (1 ≤ m) && decide (m ≤ 200) && (List.range m).all (okRow n r z)
theorem brB_len {n : Nat} {r : Nat → Nat} {m : Nat} {z : Nat → Int} (h : m < 1 ∨ 200 < m) : brB n r m z = false := by
  unfold brB
  rcases h with h | h
  · rw [decide_eq_false (by omega)]; rfl
  · rw [decide_eq_false (p := m ≤ 200) (by omega), Bool.and_false]; rfl
theorem brB_bad {n : Nat} {r : Nat → Nat} {m : Nat} {z : Nat → Int} {i : Nat} (hi : i < m) (h : okRow n r z i = false) : brB n r m z = false := by
  rw [Bool.eq_false_iff]
  intro ht
  unfold brB at ht
  simp only [Bool.and_eq_true, List.all_eq_true, List.mem_range] at ht
  have := ht.2 i hi
  rw [h] at this; cases this
theorem brB_good {n : Nat} {r : Nat → Nat} {m : Nat} {z : Nat → Int} (h1 : 1 ≤ m) (h2 : m ≤ 200) (h : ∀ i, i < m → okRow n r z i = true) : brB n r m z = true := by
  unfold brB
  simp only [Bool.and_eq_true, List.all_eq_true, List.mem_range, decide_eq_true_eq]
  exact ⟨⟨h1, h2⟩, h⟩
theorem brB_iff {n : Nat} {r : Nat → Nat} {m : Nat} {z : Nat → Int} (h : brB n r m z = true) : 1 ≤ m ∧ m ≤ 200 ∧ ∀ i, i < m → okRow n r z i = true := by
  unfold brB at h
  simp only [Bool.and_eq_true, List.all_eq_true, List.mem_range, decide_eq_true_eq] at h
  exact ⟨h.1.1, h.1.2, h.2⟩
theorem okRow_conn {n : Nat} {r : Nat → Nat} {z : Nat → Int} {i : Nat} (h : okRow n r z i = true) : connZ n r (z i) = true := by
  unfold okRow at h
  rw [Bool.and_eq_true] at h
  exact h.1
theorem okRow_no {n : Nat} {r : Nat → Nat} {z : Nat → Int} {i : Nat} (h : connZ n r (z i) = false) : okRow n r z i = false := by
  unfold okRow; rw [h]; rfl
theorem okRow_bad {n : Nat} {r : Nat → Nat} {z : Nat → Int} {i j : Nat} (hj : j < i) (h : touB n r (z i).toNat (z j).toNat = false) : okRow n r z i = false := by
  rw [Bool.eq_false_iff]
  intro ht
  unfold okRow at ht
  simp only [Bool.and_eq_true, List.all_eq_true, List.mem_range] at ht
  have := ht.2 j hj
  rw [h] at this; cases this
theorem okRow_good {n : Nat} {r : Nat → Nat} {z : Nat → Int} {i : Nat} (hc : connZ n r (z i) = true) (h : ∀ j, j < i → touB n r (z i).toNat (z j).toNat = true) : okRow n r z i = true := by
  unfold okRow
  simp only [Bool.and_eq_true, List.all_eq_true, List.mem_range]
  exact ⟨hc, h⟩

set_option maxRecDepth 20000 in
set_option maxHeartbeats 2000000 in
theorem isBramble_any {n : Nat} {r : Nat → Nat} {a : Option Addr} {w : World} (G : Gr w a n r) (cap : Nat) (hT : HasTab w) {m : Nat} {z : Nat → Int} {o : Option Addr} (co : Nat) (hco : m ≤ co) (hI : IntsAt w o m z) :
    Calls Tryd.prog 43 #[.slice a n cap, .slice o m co] w fun e w' => e = .returned (.bool (brB n r m z)) ∧ w = w' := by
  have hle := G.le
  have hml := hI.1
  unfold maxLen at hml
  have HG := Lib.hid G
  have HT := Lib.hid hT
  clear G hT
  by_cases h1 : m < 1
  · have HF := Lib.hid (brB_len (n := n) (r := r) (z := z) (Or.inl h1))
    clear hI
    go_enter Tryd.func43, Tryd.ntmps43
    go_wp2_with fail
    go_ret
    exact ⟨by rw [HF.out]; rfl, rfl⟩
  · by_cases h2 : 200 < m
    · have HF := Lib.hid (brB_len (n := n) (r := r) (z := z) (Or.inr h2))
      have h1' : 1 ≤ m := by omega
      clear hI h1
      go_enter Tryd.func43, Tryd.ntmps43
      go_wp2_with fail
      go_ret
      exact ⟨by rw [HF.out]; rfl, rfl⟩
    · obtain ⟨_, hI⟩ := hI
      obtain ⟨b, off, rfl, hb, hc⟩ := hI (by omega)
      have h1' : 1 ≤ m := by omega
      have h2' : m ≤ 200 := by omega
      have HCC := Lib.hid hc
      clear hI h1 h2 hc
      go_enter Tryd.func43, Tryd.ntmps43
      go_wp2_with fail
      go_loopw [19] (fun i wr => ∃ k : Nat, k ≤ m ∧ i = .int .i64 k ∧ (∀ i, i < k → okRow n r z i = true) ∧ w = wr) (fun i _ => m - (intOf i).toNat)
      case atStart => exact ⟨0, Nat.zero_le _, rfl, by omega, rfl⟩
      case round =>
        obtain ⟨k, hk, rfl, hok, rfl⟩ := hrel
        have HOK := Lib.hid hok
        clear hok
        by_cases hlt : k < m
        · have ck := HCC.out k hlt
          cases hcn : connZ n r (z k)
          · have HF := Lib.hid (brB_bad hlt (okRow_no hcn))
            go_wp2_with (go_at_call 47; refine (isConnected_any HG.out cap _ HT.out).mono ?_; rintro e w2 ⟨rfl, rfl⟩; rw [hcn])
            go_ret
            exact ⟨by rw [HF.out]; rfl, rfl⟩
          · obtain ⟨z0, z1⟩ := connZ_bd hcn
            obtain ⟨s, hs⟩ : ∃ s : Nat, z k = s := ⟨(z k).toNat, by omega⟩
            have hs16 : s < 65536 := lt16 hle (by rw [hs, Int.toNat_natCast] at z1; exact z1)
            have HCN := Lib.hid hcn
            rw [hs] at ck hcn
            have HS := Lib.hid hs
            have hkco : k ≤ co := by omega
            clear z0 z1 hs
            go_wp2_with (go_at_call 47; refine (isConnected_any HG.out cap _ HT.out).mono ?_; rintro e w2 ⟨rfl, rfl⟩; rw [hcn])
            go_loopw [32] (fun i wx => ∃ j : Nat, j ≤ k ∧ i = .int .i64 j ∧ (∀ u, u < j → touB n r (z k).toNat (z u).toNat = true) ∧ w = wx) (fun i _ => k - (intOf i).toNat)
            case atStart => exact ⟨0, Nat.zero_le _, rfl, by omega, rfl⟩
            case round =>
              obtain ⟨j, hj, rfl, hdone, rfl⟩ := hrel
              have HD := Lib.hid hdone
              clear hdone
              by_cases hlj : j < k
              · have cj := HCC.out j (by omega)
                obtain ⟨z0, z1⟩ := connZ_bd (okRow_conn (HOK.out j hlj))
                obtain ⟨t, ht⟩ : ∃ t : Nat, z j = t := ⟨(z j).toNat, by omega⟩
                have ht16 : t < 65536 := lt16 hle (by rw [ht, Int.toNat_natCast] at z1; exact z1)
                rw [ht] at cj
                have HTT := Lib.hid ht
                clear z0 z1 ht
                cases htb : touB n r s t
                · have HF := Lib.hid (brB_bad (m := m) hlt (okRow_bad (z := z) (r := r) hlj (by rw [HS.out, HTT.out, Int.toNat_natCast, Int.toNat_natCast]; exact htb)))
                  go_wp2_with (go_at_call 48; refine (touch_any HG.out cap s t hs16 ht16).mono ?_; rintro e w3 ⟨rfl, rfl⟩; rw [htb])
                  go_ret
                  exact ⟨by rw [HF.out]; rfl, rfl⟩
                · have HF : Hid (touB n r (z k).toNat (z j).toNat = true) := Lib.hid (by rw [HS.out, HTT.out, Int.toNat_natCast, Int.toNat_natCast]; exact htb)
                  go_wp2_with (go_at_call 48; refine (touch_any HG.out cap s t hs16 ht16).mono ?_; rintro e w3 ⟨rfl, rfl⟩; rw [htb])
                  go_roundw
                  case rel => exact ⟨j + 1, by omega, by go_num, fun u hu => by rcases Nat.lt_succ_iff_lt_or_eq.1 hu with h | h; exact HD.out u h; rw [h]; exact HF.out, by trivial⟩
                  case measure => simp [intOf]; omega
              · have hje : j = k := by omega
                subst hje
                go_wp2_with fail
                go_roundw
                case rel => exact ⟨j + 1, by omega, by go_num, fun i hi => by rcases Nat.lt_succ_iff_lt_or_eq.1 hi with h | h; exact HOK.out i h; rw [h]; exact okRow_good HCN.out HD.out, by trivial⟩
                case measure => simp [intOf]; omega
        · have hke : k = m := by omega
          subst hke
          have HF := Lib.hid (brB_good h1' h2' HOK.out)
          go_wp2_with fail
          go_ret
          exact ⟨by rw [HF.out]; rfl, rfl⟩

set_option maxRecDepth 20000 in
set_option maxHeartbeats 2000000 in
theorem IsBrambleR_any {n : Nat} {r : Nat → Nat} {a : Option Addr} {w : World} (G : Gr w a n r) (cap : Nat) {m : Nat} {z : Nat → Int} {o : Option Addr} (co : Nat) (hco : m ≤ co) (hI : IntsAt w o m z) :
    Calls Tryd.prog 14 #[.slice a n cap, .slice o m co] w fun e w' => e = .returned (.bool (brB n r m z)) ∧ Below w.heap.size w w' := by
  have hle := G.le
  have hml := hI.1
  unfold maxLen at hml
  have HG := Lib.hid G
  have HI := Lib.hid hI
  clear G hI
  go_enter Tryd.func14, Tryd.ntmps14
  go_wp2_with fail
  go_loopw [11] (fun i wr => ∃ k : Nat, k ≤ m ∧ k ≤ 200 ∧ i = .int .i64 k ∧ (∀ i, i < k → okRow n r z i = true) ∧ Below w.heap.size w wr) (fun i _ => m - (intOf i).toNat)
  case atStart => exact ⟨0, Nat.zero_le _, by omega, rfl, by omega, Below.refl _ _⟩
  case round =>
    obtain ⟨k, hk, hk2, rfl, hok, hbel⟩ := hrel
    have HOK := Lib.hid hok
    have HB := Lib.hid hbel
    clear hok hbel
    by_cases hlt : k < m
    · obtain ⟨b, off, rfl, hb, hc⟩ := (HI.out.below HB.out).2 (by omega)
      have ck := hc k hlt
      clear hc
      by_cases hk200 : k = 200
      · have HF := Lib.hid (brB_len (n := n) (r := r) (z := z) (m := m) (Or.inr (by omega)))
        subst hk200
        generalize z 200 = zk at ck
        go_wp2_with fail
        go_ret
        exact ⟨by rw [HF.out]; rfl, HB.out⟩
      · have hkl : k < 200 := by omega
        clear hk200
        have HGW := Lib.hid (HG.out.below HB.out)
        cases hcn : connZ n r (z k)
        · have HF := Lib.hid (brB_bad hlt (okRow_no hcn))
          go_wp2_with (go_at_call 22; refine (ConnectedR_any HGW.out cap _).mono ?_; rintro e w2 ⟨rfl, hb2⟩; rw [hcn]; have HB2 := Lib.hid (HB.out.trans (hb2.mono HB.out.size)); clear hb2)
          go_ret
          exact ⟨by rw [HF.out]; rfl, HB2.out⟩
        · obtain ⟨z0, z1⟩ := connZ_bd hcn
          obtain ⟨s, hs⟩ : ∃ s : Nat, z k = s := ⟨(z k).toNat, by omega⟩
          have hs16 : s < 65536 := lt16 hle (by rw [hs, Int.toNat_natCast] at z1; exact z1)
          have HCN := Lib.hid hcn
          rw [hs] at ck hcn
          have HS := Lib.hid hs
          have hkco : k ≤ co := by omega
          clear z0 z1 hs
          go_wp2_with (go_at_call 22; refine (ConnectedR_any HGW.out cap _).mono ?_; rintro e w2 ⟨rfl, hb2⟩; rw [hcn]; have HB2 := Lib.hid (HB.out.trans (hb2.mono HB.out.size)); clear hb2)
          go_loopw [28] (fun i wx => ∃ j : Nat, j ≤ k ∧ i = .int .i64 j ∧ (∀ u, u < j → touB n r (z k).toNat (z u).toNat = true) ∧ w2 = wx) (fun i _ => k - (intOf i).toNat)
          case atStart => exact ⟨0, Nat.zero_le _, rfl, by omega, rfl⟩
          case round =>
            obtain ⟨j, hj, rfl, hdone, rfl⟩ := hrel
            have HD := Lib.hid hdone
            clear hdone
            by_cases hlj : j < k
            · obtain ⟨b', off', he, hb', hc'⟩ := (HI.out.below HB2.out).2 (by omega)
              cases he
              have cj := hc' j (by omega)
              clear hc'
              obtain ⟨z0, z1⟩ := connZ_bd (okRow_conn (HOK.out j hlj))
              obtain ⟨t, ht⟩ : ∃ t : Nat, z j = t := ⟨(z j).toNat, by omega⟩
              have ht16 : t < 65536 := lt16 hle (by rw [ht, Int.toNat_natCast] at z1; exact z1)
              rw [ht] at cj
              have HTT := Lib.hid ht
              have HGW2 := Lib.hid (HG.out.below HB2.out)
              clear z0 z1 ht
              cases htb : touB n r s t
              · have HF := Lib.hid (brB_bad (m := m) hlt (okRow_bad (z := z) (r := r) hlj (by rw [HS.out, HTT.out, Int.toNat_natCast, Int.toNat_natCast]; exact htb)))
                go_wp2_with (go_at_call 23; refine (TouchR_any HGW2.out cap s t hs16 ht16).mono ?_; rintro e w3 ⟨rfl, rfl⟩; rw [htb])
                go_ret
                exact ⟨by rw [HF.out]; rfl, HB2.out⟩
              · have HF : Hid (touB n r (z k).toNat (z j).toNat = true) := Lib.hid (by rw [HS.out, HTT.out, Int.toNat_natCast, Int.toNat_natCast]; exact htb)
                go_wp2_with (go_at_call 23; refine (TouchR_any HGW2.out cap s t hs16 ht16).mono ?_; rintro e w3 ⟨rfl, rfl⟩; rw [htb])
                go_roundw
                case rel => exact ⟨j + 1, by omega, by go_num, fun u hu => by rcases Nat.lt_succ_iff_lt_or_eq.1 hu with h | h; exact HD.out u h; rw [h]; exact HF.out, by trivial⟩
                case measure => simp [intOf]; omega
            · have hje : j = k := by omega
              subst hje
              go_wp2_with fail
              go_roundw
              case rel => exact ⟨j + 1, by omega, by omega, by go_num, fun i hi => by rcases Nat.lt_succ_iff_lt_or_eq.1 hi with h | h; exact HOK.out i h; rw [h]; exact okRow_good HCN.out HD.out, HB2.out⟩
              case measure => simp [intOf]; omega
    · have hke : k = m := by omega
      subst hke
      by_cases hk0 : k = 0
      · have HF := Lib.hid (brB_len (n := n) (r := r) (z := z) (m := k) (Or.inl (by omega)))
        have hkk : ¬ (0 : Int) < (k : Int) := by omega
        clear hk0
        go_wp2_with fail
        go_ret
        refine ⟨?_, HB.out⟩
        rw [HF.out]
        show Ending.returned (Value.bool (decide (0 < k))) = _
        rw [decide_eq_false (by omega)]
      · have HF := Lib.hid (brB_good (by omega) hk2 HOK.out)
        have hkk : (0 : Int) < (k : Int) := by omega
        clear hk0
        go_wp2_with fail
        go_ret
        refine ⟨?_, HB.out⟩
        rw [HF.out]
        show Ending.returned (Value.bool (decide (0 < k))) = _
        rw [decide_eq_true (by omega)]

end Go.Proofs.YtbkbliieappkdaaDoor
