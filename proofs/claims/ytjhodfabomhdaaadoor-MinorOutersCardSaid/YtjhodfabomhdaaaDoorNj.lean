/- Package minor: the contract of crosses. -/
import Derived.Test.YtjhodfabomhdaaaDoorNi
import Derived.BigRegion
namespace Go.Proofs.YtjhodfabomhdaaaDoor
set_option linter.unusedSimpArgs false
set_option linter.unusedVariables false
open Go.RowKit Go.Maps
attribute [local go_sem] i64_bit toNat_eq_one toNat_ne_one toNat_eq_zero toNat_ne_zero i64_and i64_or i64_andNot i64_or_pow i64_andNot_pow

/-- The first nodes of an order, as a set. -/
def befN (g : Nat → Nat) : Nat → Nat
  | 0 => 0
  | k + 1 => befN g k ||| 2 ^ g k
theorem befN_bit {g : Nat → Nat} {x : Nat} : ∀ k, (befN g k).testBit x = true ↔ ∃ i, i < k ∧ g i = x := by
  intro k
  induction k with
  | zero => simp [befN]
  | succ k ih =>
    unfold befN
    rw [Nat.testBit_or, Bool.or_eq_true, ih, pow_bit]
    constructor
    · rintro (⟨i, h1, h2⟩ | h)
      · exact ⟨i, by omega, h2⟩
      · exact ⟨k, by omega, h⟩
    · rintro ⟨i, h1, h2⟩
      by_cases e : i = k
      · subst e; exact Or.inr h2
      · exact Or.inl ⟨i, by omega, h2⟩
theorem befN_lt {n : Nat} {g : Nat → Nat} : ∀ k, (∀ i, i < k → g i < n) → befN g k < 2 ^ n := by
  intro k
  induction k with
  | zero => intro _; exact Nat.two_pow_pos n
  | succ k ih => intro h; exact Nat.or_lt_two_pow (ih fun i hi => h i (by omega)) (two_pow_lt (h k (by omega)))
/-- Whether the edges of the last node to node number j cross one. -/
def crJ (r g : Nat → Nat) (m j : Nat) : Bool := (r (g m)).testBit (g j) && (aroN r (befN g j) &&& befN (fun i => g (j + 1 + i)) (m - (j + 1))) != 0
theorem crB_J {n : Nat} {r g : Nat → Nat} {m : Nat} (hn : n ≤ 8) (hs : ∀ u x, u < n → x < n → (r u).testBit x = (r x).testBit u) (hg : ∀ i, i ≤ m → g i < n) : crB r g m = true ↔ ∃ j, j < m ∧ crJ r g m j = true := by
  rw [crB_iff]
  constructor
  · rintro ⟨i, j, k, hi, hj, hk, h1, h2⟩
    refine ⟨j, by omega, ?_⟩
    unfold crJ
    rw [hs _ _ (hg m (Nat.le_refl _)) (hg j (by omega)), h2, Bool.true_and, bne_iff_ne]
    intro h0
    have := congrArg (fun t => t.testBit (g k)) h0
    have h3 : (aroN r (befN g j)).testBit (g k) = true := (testBit_aro hn (befN_lt j fun i hi => hg i (by omega)) _).2 ⟨g i, hg i (by omega), (befN_bit j).2 ⟨i, hi, rfl⟩, h1⟩
    have h4 : (befN (fun i => g (j + 1 + i)) (m - (j + 1))).testBit (g k) = true := (befN_bit _).2 ⟨k - (j + 1), by omega, by rw [show j + 1 + (k - (j + 1)) = k by omega]⟩
    simp [Nat.testBit_and, h3, h4] at this
  · rintro ⟨j, hj, h⟩
    unfold crJ at h
    rw [Bool.and_eq_true, bne_iff_ne] at h
    obtain ⟨h1, h2⟩ := h
    obtain ⟨t, ht⟩ := some_bit h2
    rw [Nat.testBit_and, Bool.and_eq_true, testBit_aro hn (befN_lt j fun i hi => hg i (by omega)), befN_bit] at ht
    obtain ⟨⟨u, hu, h3, h4⟩, c, hc, h5⟩ := ht
    obtain ⟨i, hi, rfl⟩ := (befN_bit j).1 h3
    exact ⟨i, j, j + 1 + c, hi, by omega, by omega, by rw [h5]; exact h4, by rw [hs _ _ (hg j (by omega)) (hg m (Nat.le_refl _))]; exact h1⟩

set_option maxRecDepth 20000 in
set_option maxHeartbeats 4000000 in
theorem crosses_any {n : Nat} {r : Nat → Nat} {a : Option Addr} {w : World} (G : Tn w a n r) (cap : Nat) (hs : ∀ u x, u < n → x < n → (r u).testBit x = (r x).testBit u) (hT : Tab w) {g : Nat → Nat} {m : Nat} {ab : Option Addr} (cb : Nat) (hI : IntsAt w ab (m + 1) (fun i => ((g i : Nat) : Int))) (hg : ∀ i, i ≤ m → g i < n) (hm : m ≤ 60) (hcb : m + 1 ≤ cb) :
    Calls Tryd.prog 94 #[.slice a n cap, .slice ab (m + 1) cb] w fun e w' => e = .returned (.bool (crB r g m)) ∧ Below w.heap.size w w' := by
  have hn8 := G.le
  have h8 := pow_le8 hn8
  have hn1 := G.at_.pos
  have HG := Lib.hid G
  have HT := Lib.hid hT
  have HGL := Lib.hid hg
  obtain ⟨bl, ol, rfl, hbl, hcl⟩ := hI.2 (by omega)
  have HCL := Lib.hid hcl
  have HYES := Lib.hid (crB_J (r := r) (m := m) hn8 hs hg)
  have HJ : Hid (∀ j, crJ r g m j = ((r (g m)).testBit (g j) && (aroN r (befN g j) &&& befN (fun i => g (j + 1 + i)) (m - (j + 1))) != 0)) := Lib.hid fun _ => rfl
  have HB1 : Hid (∀ k, befN g (k + 1) = befN g k ||| 2 ^ g k) := Lib.hid fun _ => rfl
  have HB2 : Hid (∀ j k, befN (fun i => g (j + 1 + i)) (k + 1) = befN (fun i => g (j + 1 + i)) k ||| 2 ^ g (j + 1 + k)) := Lib.hid fun _ _ => rfl
  obtain ⟨X, hX⟩ : ∃ X, X = crB r g m := ⟨_, rfl⟩
  rw [← hX] at HYES ⊢
  clear G hT hI hcl hg hs hX
  have hlast : (((m + 1 : Nat) : Int) - 1) = (m : Int) := by omega
  have HLAST := Lib.hid hlast
  clear hlast
  go_enter Tryd.func94, Tryd.ntmps94
  go_wp2_with fail
  try rw [HLAST.out]
  go_loopw [6, 15] (fun bf ix wr => ∃ j : Nat, j ≤ m ∧ ix = .int .i64 j ∧ bf = .int .i64 (befN g j : Nat) ∧ (∀ i, i < j → crJ r g m i = false) ∧ Below w.heap.size w wr) (fun _ ix _ => m - (intOf ix).toNat)
  case atStart => exact ⟨0, Nat.zero_le _, rfl, rfl, fun i hi => by omega, Below.refl _ _⟩
  case round =>
    obtain ⟨j, hj, rfl, rfl, hno, hb⟩ := hrel
    have HB := Lib.hid hb
    have HNO := Lib.hid hno
    clear hb hno
    by_cases hlt : j < m
    · have e1 : decide ((m : Int) < (j : Int) + 1) = false := decide_eq_false (by omega)
      have e2 : decide ((j : Int) + 1 < 0) = false := decide_eq_false (by omega)
      have e3 : decide ((cb : Int) < (m : Int)) = false := decide_eq_false (by omega)
      have HST := Lib.hid (HB1.out j)
      have HST2 := Lib.hid (HB2.out j)
      have HJJ := Lib.hid (HJ.out j)
      have hbe : befN g j < 2 ^ n := befN_lt j fun i hi => HGL.out i (by omega)
      have hbe16 : befN g j < 65536 := by omega
      have HBW : Hid (∀ c, c ≤ m - (j + 1) → befN (fun i => g (j + 1 + i)) c < 2 ^ n) := Lib.hid fun c hc => befN_lt c fun i hi => HGL.out _ (by omega)
      go_wp2_with fail
      go_loopw [8, 24] (fun bh ix wx => ∃ c : Nat, c ≤ m - (j + 1) ∧ ix = .int .i64 c ∧ bh = .int .i64 (befN (fun i => g (j + 1 + i)) c : Nat) ∧ wr = wx) (fun _ ix _ => m - (j + 1) - (intOf ix).toNat)
      case atStart => exact ⟨0, Nat.zero_le _, rfl, rfl, rfl⟩
      case round =>
        obtain ⟨c, hc, rfl, rfl, rfl⟩ := hrel
        by_cases hcm : c < m - (j + 1)
        · have ck : wr.cell? ⟨bl, ol + (j + 1) + c, none⟩ = some (.int .i64 (g (j + 1 + c) : Nat)) := by
            rw [HB.out.cell (p := ⟨bl, ol + (j + 1) + c, none⟩) hbl, show ol + (j + 1) + c = ol + (j + 1 + c) by omega]
            exact HCL.out (j + 1 + c) (by omega)
          have hgv := HGL.out (j + 1 + c) (by omega)
          have hx := HBW.out c (by omega)
          have HS2 := Lib.hid (HST2.out c)
          have hgv16 : g (j + 1 + c) < 16 := by omega
          have hx16 : befN (fun i => g (j + 1 + i)) c < 65536 := by omega
          have hpv := pow_bd (g (j + 1 + c)) hgv16
          generalize g (j + 1 + c) = v at *
          generalize befN (fun i => g (j + 1 + i)) c = x at *
          go_wp2_with fail
          go_roundw
          case rel => exact ⟨c + 1, by omega, by go_num, by rw [HS2.out], by first | trivial | rfl⟩
          case measure => simp [intOf]; omega
        · have hce : c = m - (j + 1) := by omega
          rw [hce]
          clear hce hcm hc
          have hgm := HGL.out m (Nat.le_refl _)
          have hgj := HGL.out j (by omega)
          have hbh := HBW.out (m - (j + 1)) (Nat.le_refl _)
          have hbh16 : befN (fun i => g (j + 1 + i)) (m - (j + 1)) < 65536 := by omega
          obtain ⟨bt, ot, rfl, hbt, hct⟩ := HG.out.at_.ints.2 HG.out.at_.pos
          have cM : ∀ u : BelowW wr.heap.size wr, u.w.cell? ⟨bl, ol + m, none⟩ = some (.int .i64 (g m : Nat)) := fun u => by
            rw [(HB.out.trans (u.h.mono HB.out.size)).cell (p := ⟨bl, ol + m, none⟩) hbl]; exact HCL.out m (by omega)
          have cJ : ∀ u : BelowW wr.heap.size wr, u.w.cell? ⟨bl, ol + j, none⟩ = some (.int .i64 (g j : Nat)) := fun u => by
            rw [(HB.out.trans (u.h.mono HB.out.size)).cell (p := ⟨bl, ol + j, none⟩) hbl]; exact HCL.out j (by omega)
          have cT : ∀ u : BelowW wr.heap.size wr, u.w.cell? ⟨bt, ot + g m, none⟩ = some (.int .i64 (r (g m) : Nat)) := fun u => by
            rw [(HB.out.trans (u.h.mono HB.out.size)).cell (p := ⟨bt, ot + g m, none⟩) hbt]; exact hct (g m) hgm
          have hrm := HG.out.bd (g m) hgm
          have hrm16 : r (g m) < 65536 := by omega
          have hgj64 : g j < 64 := by omega
          have hgj16 : g j < 16 := by omega
          have HHA : Hid (∀ u : BelowW wr.heap.size wr, Calls Tryd.prog 87 #[.int .i64 (r (g m) : Nat), .int .i64 (g j : Nat)] u.w fun e w' => e = .returned (.bool ((r (g m)).testBit (g j))) ∧ Below u.w.heap.size u.w w') := Lib.hid fun u => (has_any (r (g m)) (g j) u.w hrm16 hgj64).mono fun e w' ⟨h1, h2⟩ => ⟨h1, by subst h2; exact Below.refl _ _⟩
          have HAR : Hid (∀ u : BelowW wr.heap.size wr, Calls Tryd.prog 101 #[.slice (some ⟨bt, ot, none⟩) n cap, .int .i64 (befN g j : Nat)] u.w fun e w' => e = .returned (.int .i64 (aroN r (befN g j) : Nat)) ∧ Below u.w.heap.size u.w w') := Lib.hid fun u => around_any (HG.out.below (HB.out.trans (u.h.mono HB.out.size))) cap (befN g j) hbe (HT.out.below (HB.out.trans (u.h.mono HB.out.size)))
          have har16 : aroN r (befN g j) < 65536 := lt16m hn8 (aroN_lt HG.out.bd hbe)
          have HUB : Hid (∀ u : BelowW wr.heap.size wr, Below w.heap.size w u.w) := Lib.hid fun u => HB.out.trans (u.h.mono HB.out.size)
          have cJ0 := cJ ⟨wr, Below.refl _ _⟩
          have hcq := cast_beq0 (aroN r (befN g j) &&& befN (fun i => g (j + 1 + i)) (m - (j + 1)))
          have HJQ := HJJ
          have HYJ : Hid (crJ r g m j = true → X = true) := Lib.hid fun h => HYES.out.2 ⟨j, hlt, h⟩
          have HNJ : Hid (crJ r g m j = false → ∀ i, i < j + 1 → crJ r g m i = false) := Lib.hid fun h i hi => by
            by_cases e : i = j
            · subst e; exact h
            · exact HNO.out i (by omega)
          have hpj := pow_bd (g j) hgj16
          clear hct HBW HST2 hbh hrm
          generalize befN (fun i => g (j + 1 + i)) (m - (j + 1)) = hn at *
          generalize aroN r (befN g j) = ar at *
          generalize befN g j = be at *
          generalize r (g m) = rm at *
          generalize g j = gj at *
          generalize g m = gm at *
          cases hbit : rm.testBit gj
          · rw [hbit] at HHA
            have HNX := Lib.hid (HNJ.out (by rw [HJQ.out, hbit]; rfl))
            clear hbit
            go_wp2_with fail
            refine wp_region_below wr.heap.size wr (Below.refl _ _) (by kernel_rfl) (by kernel_rfl) ?_
            repeat (go_big_quiet_step (first | (go_at_call 87; exact calls_below (Nat.le_refl _) (HHA.out _)) | (go_at_call 101; exact calls_below (Nat.le_refl _) (HAR.out _))))
            refine wpQuiet_nil ?_
            rintro _ ⟨u, rfl⟩
            have HU := Lib.hid (HUB.out u)
            have cJu := cJ u
            go_wp2_with fail
            go_roundw
            case rel => exact ⟨j + 1, by omega, by go_num, by rw [HST.out], HNX.out, HU.out⟩
            case measure => simp [intOf]; omega
          · rw [hbit] at HHA
            by_cases hz : ar &&& hn = 0
            · have hz1 : (((ar &&& hn : Nat) : Int) != 0) = false := by rw [hz]; rfl
              have HNX := Lib.hid (HNJ.out (by rw [HJQ.out, hbit, hz]; rfl))
              clear hbit hz hcq
              go_wp2_with fail
              refine wp_region_below wr.heap.size wr (Below.refl _ _) (by kernel_rfl) (by kernel_rfl) ?_
              repeat (go_big_quiet_step (first | (go_at_call 87; exact calls_below (Nat.le_refl _) (HHA.out _)) | (go_at_call 101; exact calls_below (Nat.le_refl _) (HAR.out _))))
              refine wpQuiet_nil ?_
              rintro _ ⟨u, rfl⟩
              have HU := Lib.hid (HUB.out u)
              have cJu := cJ u
              go_wp2_with fail
              go_roundw
              case rel => exact ⟨j + 1, by omega, by go_num, by rw [HST.out], HNX.out, HU.out⟩
              case measure => simp [intOf]; omega
            · have hz1 : (((ar &&& hn : Nat) : Int) != 0) = true := by rw [bne_iff_ne]; omega
              have HX := Lib.hid (HYJ.out (by rw [HJQ.out, hbit, Bool.true_and, bne_iff_ne]; exact hz))
              clear hbit hz hcq
              go_wp2_with fail
              refine wp_region_below wr.heap.size wr (Below.refl _ _) (by kernel_rfl) (by kernel_rfl) ?_
              repeat (go_big_quiet_step (first | (go_at_call 87; exact calls_below (Nat.le_refl _) (HHA.out _)) | (go_at_call 101; exact calls_below (Nat.le_refl _) (HAR.out _))))
              refine wpQuiet_nil ?_
              rintro _ ⟨u, rfl⟩
              have HU := Lib.hid (HUB.out u)
              go_wp2_with fail
              go_ret
              exact ⟨by rw [HX.out]; rfl, HU.out⟩
    · have hje : j = m := by omega
      have HX := Lib.hid (show X = false by
        rw [Bool.eq_false_iff]
        intro h
        obtain ⟨i, hi, hc⟩ := HYES.out.1 h
        rw [HNO.out i (by omega)] at hc
        cases hc)
      clear hje
      go_wp2_with fail
      go_ret
      exact ⟨by rw [HX.out]; rfl, HB.out⟩

end Go.Proofs.YtjhodfabomhdaaaDoor
