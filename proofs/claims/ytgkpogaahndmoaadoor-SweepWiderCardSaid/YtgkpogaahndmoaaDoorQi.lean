/- The contracts of package sweep's widthOf and breadth. -/
import Derived.Test.YtgkpogaahndmoaaDoorQh
namespace Go.Proofs.YtgkpogaahndmoaaDoor
set_option linter.unusedSimpArgs false
set_option linter.unusedVariables false
open Go.RowKit Go.Maps
attribute [local go_sem] i64_bit toNat_eq_one toNat_ne_one toNat_eq_zero toNat_ne_zero i64_and i64_or i64_andNot i64_or_pow i64_andNot_pow

theorem brd_le {n : Nat} {r : Nat → Nat} {z : Nat → Int} : ∀ k, brdTo n r z k ≤ n
  | 0 => Nat.zero_le _
  | k + 1 => Nat.max_le.2 ⟨brd_le k, szS_le _ _⟩
theorem mostB_le9 {n m : Nat} {z : Nat → Int} : mostB n z m ≤ n := (mostB_le m).2 fun _ _ => szS_le _ _

set_option maxRecDepth 20000 in
set_option maxHeartbeats 2000000 in
theorem widthOf_any {n m : Nat} {z : Nat → Int} {o : Option Addr} {w : World} (hn : n ≤ 7) (co : Nat) (hI : IntsAt w o m z) (hz : ∀ k, k < m → 0 ≤ z k ∧ z k < 2 ^ n) :
    Calls Tryd.prog 60 #[.slice o m co] w fun e w' => e = .returned (.int .i64 ((mostB n z m : Nat) - 1)) ∧ w = w' := by
  have hml := hI.1
  unfold maxLen at hml
  have HI := Lib.hid hI
  have HZ := Lib.hid hz
  clear hI hz
  go_enter Tryd.func60, Tryd.ntmps60
  go_wp2_with fail
  go_loopw [3, 8] (fun f i wr => ∃ k : Nat, k ≤ m ∧ i = .int .i64 k ∧ f = .int .i64 (mostB n z k : Nat) ∧ w = wr) (fun _ i _ => m - (intOf i).toNat)
  case atStart => exact ⟨0, Nat.zero_le _, rfl, rfl, rfl⟩
  case round =>
    obtain ⟨k, hk, rfl, rfl, rfl⟩ := hrel
    by_cases hltk : k < m
    · obtain ⟨b, off, rfl, hlt, hc⟩ := HI.out.2 (by omega)
      have ck := hc k hltk
      have hzk := HZ.out k hltk
      obtain ⟨s, hs⟩ : ∃ s : Nat, z k = s := ⟨(z k).toNat, by omega⟩
      have HST : Hid (mostB n z (k + 1) = max (mostB n z k) (szS n s)) := Lib.hid (by show max _ (szS n (setZ z k)) = _; rw [show setZ z k = s by unfold setZ; omega])
      have hg := mostB_le9 (n := n) (m := k) (z := z)
      have hy := szS_le n s
      have hs2 : s < 2 ^ n := by have h4 := hzk.2; rw [hs, pow_cast] at h4; omega
      rw [hs] at ck
      have HCO := Lib.hid (count_any (n := n) (by omega) s hs2 w)
      generalize mostB n z k = g at *
      generalize szS n s = y at *
      clear hc hzk
      go_wp2_with (go_at_call 76; refine HCO.out.mono ?_; rintro e w1 ⟨rfl, rfl⟩)
      all_goals
        go_roundw
        case rel =>
          refine ⟨k + 1, by omega, by go_num, ?_, by first | trivial | rfl⟩
          rw [HST.out]
          refine congrArg (Value.int .i64) ?_
          split <;> omega
        case measure => simp [intOf]; omega
    · have hke : k = m := by omega
      subst hke
      have hg := mostB_le9 (n := n) (m := k) (z := z)
      go_wp2_with fail
      go_ret
      exact ⟨rfl, rfl⟩

set_option maxRecDepth 20000 in
set_option maxHeartbeats 2000000 in
theorem breadth_any {n : Nat} {r : Nat → Nat} {ad o : Option Addr} {w : World} {z : Nat → Int} (G : GrAt w ad n r) (hn7 : n ≤ 7) (hr : ∀ i, i < n → r i < 2 ^ n) (cap co : Nat) (ho : ordB n n z = true) (hI : IntsAt w o n z) (hT : Tab w) :
    Calls Tryd.prog 49 #[.slice ad n cap, .slice o n co] w fun e w' => e = .returned (.int .i64 (brdTo n r z n : Nat)) ∧ Below w.heap.size w w' := by
  have h7 := pow_le7 hn7
  have hpos := G.pos
  obtain ⟨b, off, rfl, hlt, hc⟩ := hI.2 hpos
  have hbc : ∀ wx, Below w.heap.size w wx → ∀ i, i < n → wx.cell? ⟨b, off + i, none⟩ = some (.int .i64 (z i)) := fun wx hb i hi => by rw [hb.cell (p := ⟨b, off + i, none⟩) hlt]; exact hc i hi
  have HC := Lib.hid hbc
  have HG := Lib.hid G
  have HR := Lib.hid hr
  have HT := Lib.hid hT
  have HO := Lib.hid ho
  have hml := G.ints.1
  unfold maxLen at hml
  clear G hr hT hI hc hbc ho
  go_enter Tryd.func49, Tryd.ntmps49
  go_wp2_with fail
  go_loopw [5, 6, 11] (fun f c i wr => ∃ k : Nat, k ≤ n ∧ i = .int .i64 k ∧ f = .int .i64 (brdTo n r z k : Nat) ∧ c = .int .i64 (metO z k : Nat) ∧ Below w.heap.size w wr) (fun _ _ i _ => n - (intOf i).toNat)
  case atStart => exact ⟨0, Nat.zero_le _, rfl, rfl, rfl, Below.refl _ _⟩
  case round =>
    obtain ⟨k, hk, rfl, rfl, rfl, hbr⟩ := hrel
    have HBR := Lib.hid hbr
    clear hbr
    by_cases hltk : k < n
    · have ck := HC.out wr HBR.out k hltk
      obtain ⟨h0, h1, h2, h3⟩ := okO_iff ((ordB_iff HO.out).2 k hltk)
      have hM := lay_met HO.out hk
      have hM2 := lay_met HO.out (show k + 1 ≤ n by omega)
      have HMS : Hid (metO z (k + 1) = metO z k ||| 2 ^ (z k).toNat) := Lib.hid rfl
      obtain ⟨s, hs⟩ : ∃ s : Nat, z k = s := ⟨(z k).toNat, by omega⟩
      rw [hs] at ck
      rw [hs, Int.toNat_natCast] at HMS
      have HST : Hid (brdTo n r z (k + 1) = max (brdTo n r z k) (szS n (bord r (metO z (k + 1))))) := Lib.hid rfl
      have HBO := Lib.hid (border_any (HG.out.below HBR.out) hn7 HR.out cap (metO z (k + 1)) hM2 (HT.out.below HBR.out))
      have HCO := Lib.hid (fun w' => count_any (n := n) (by omega) (bord r (metO z (k + 1))) (bord_lt hM2) w')
      have hg := brd_le (n := n) (r := r) (z := z) k
      have hy := szS_le n (bord r (metO z (k + 1)))
      generalize szS n (bord r (metO z (k + 1))) = y at *
      generalize bord r (metO z (k + 1)) = X at *
      rw [HMS.out] at HBO
      generalize brdTo n r z k = g at *
      have hsn : s < n := by omega
      have hs16 : s < 16 := by omega
      have hs64 : s < 64 := by omega
      have hps := pow_bd s hs16
      generalize metO z k = M at *
      have hM16 : M < 65536 := by omega
      clear h0 h1 h2 h3
      go_wp2_with (first
        | (go_at_call 77; refine HBO.out.mono ?_; rintro e w1 ⟨rfl, hb1⟩; have HB1 := Lib.hid (HBR.out.trans (hb1.mono HBR.out.size)); clear hb1)
        | (go_at_call 76; refine (HCO.out _).mono ?_; rintro e w2 ⟨rfl, rfl⟩))
      all_goals
        go_roundw
        case rel =>
          refine ⟨k + 1, by omega, by go_num, ?_, by rw [HMS.out], HB1.out⟩
          rw [HST.out]
          refine congrArg (Value.int .i64) ?_
          split <;> omega
        case measure => simp [intOf]; omega
    · have hke : k = n := by omega
      subst hke
      go_wp2_with fail
      go_ret
      exact ⟨rfl, HBR.out⟩

end Go.Proofs.YtgkpogaahndmoaaDoor
