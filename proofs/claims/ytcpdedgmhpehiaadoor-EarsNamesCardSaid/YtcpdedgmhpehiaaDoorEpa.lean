/- The contracts of cmp.Compare, of slices.Compare over two pairs, of the order that package ears' pairs sorts by. -/
import Derived.Test.YtcpdedgmhpehiaaDoorEt4
import Derived.Test.YtcpdedgmhpehiaaDoorIo
import Derived.Test.YtcpdedgmhpehiaaDoorEh
namespace Go.Proofs.YtcpdedgmhpehiaaDoor
set_option linter.unusedSimpArgs false
set_option linter.unusedVariables false
open Go.RowKit Go.Maps

set_option maxRecDepth 20000 in
set_option maxHeartbeats 1000000 in
theorem isNaN_any (x : Int) (w : World) : Calls Tryd.prog 161 #[.int .i64 x] w fun e w' => e = .returned (.bool false) ∧ w = w' := by
  have hq : (x != x) = false := by simp
  go_enter Tryd.func161, Tryd.ntmps161
  go_wp2_with fail
  go_ret
  exact ⟨by first | rfl | simp, rfl⟩
set_option maxRecDepth 20000 in
set_option maxHeartbeats 1000000 in
theorem cmp_any (x y : Int) (w : World) : Calls Tryd.prog 133 #[.int .i64 x, .int .i64 y] w fun e w' => e = .returned (.int .i64 (cmpZ x y)) ∧ w = w' := by
  by_cases h1 : x < y
  · have HC := Lib.hid (show cmpZ x y = -1 by unfold cmpZ; rw [if_pos h1])
    go_enter Tryd.func133, Tryd.ntmps133
    go_wp2_with (go_at_call 161; refine (isNaN_any _ _).mono ?_; rintro e w1 ⟨rfl, rfl⟩)
    go_ret
    exact ⟨by rw [HC.out]; rfl, rfl⟩
  · by_cases h2 : y < x
    · have HC := Lib.hid (show cmpZ x y = 1 by unfold cmpZ; rw [if_neg h1, if_pos h2])
      go_enter Tryd.func133, Tryd.ntmps133
      go_wp2_with (go_at_call 161; refine (isNaN_any _ _).mono ?_; rintro e w1 ⟨rfl, rfl⟩)
      go_ret
      exact ⟨by rw [HC.out]; rfl, rfl⟩
    · have HC := Lib.hid (show cmpZ x y = 0 by unfold cmpZ; rw [if_neg h1, if_neg h2])
      have he : x = y := by omega
      subst he
      clear h1 h2
      have h1 : ¬ x < x := by omega
      go_enter Tryd.func133, Tryd.ntmps133
      go_wp2_with (go_at_call 161; refine (isNaN_any _ _).mono ?_; rintro e w1 ⟨rfl, rfl⟩)
      go_ret
      exact ⟨by rw [HC.out]; rfl, rfl⟩

/-- Which of two pairs of numbers comes first. -/
def cmp2 (x y : Nat → Int) : Int := if x 0 < y 0 then -1 else if y 0 < x 0 then 1 else if x 1 < y 1 then -1 else if y 1 < x 1 then 1 else 0
theorem cmp2_at {x y : Nat → Int} {k : Nat} (hk : k < 2) (hs : ∀ i, i < k → x i = y i) (hne : cmpZ (x k) (y k) ≠ 0) : cmp2 x y = cmpZ (x k) (y k) := by
  have : k = 0 ∨ k = 1 := by omega
  unfold cmpZ at *
  unfold cmp2
  rcases this with rfl | rfl
  · split
    · rfl
    · split
      · rfl
      · rename_i h1 h2; exact absurd (by rw [if_neg h1, if_neg h2]) hne
  · have h0 := hs 0 (by omega)
    rw [if_neg (by omega), if_neg (by omega)]
theorem cmp2_same {x y : Nat → Int} (hs : ∀ i, i < 2 → x i = y i) : cmp2 x y = 0 := by
  have h0 := hs 0 (by omega)
  have h1 := hs 1 (by omega)
  unfold cmp2
  rw [if_neg (by omega), if_neg (by omega), if_neg (by omega), if_neg (by omega)]

set_option maxRecDepth 20000 in
set_option maxHeartbeats 2000000 in
theorem Compare2_any {x y : Nat → Int} {g h : Nat} {w : World} (hA : ∀ i, i < 2 → w.cell? ⟨g, i, none⟩ = some (.int .i64 (x i))) (hB : ∀ i, i < 2 → w.cell? ⟨h, i, none⟩ = some (.int .i64 (y i))) :
    Calls Tryd.prog 120 #[.slice (some ⟨g, 0, none⟩) 2 2, .slice (some ⟨h, 0, none⟩) 2 2] w fun e w' => e = .returned (.int .i64 (cmp2 x y)) ∧ w' = w := by
  have HA := Lib.hid hA
  have HB := Lib.hid hB
  clear hA hB
  go_enter Tryd.func120, Tryd.ntmps120
  go_wp2_with fail
  go_loopw [11] (fun i wr => ∃ k : Nat, k ≤ 2 ∧ i = .int .i64 k ∧ (∀ i, i < k → x i = y i) ∧ w = wr) (fun i _ => 2 - (intOf i).toNat)
  case atStart => exact ⟨0, Nat.zero_le _, rfl, by omega, rfl⟩
  case round =>
    obtain ⟨k, hk, rfl, hsame, rfl⟩ := hrel
    have HS := Lib.hid hsame
    clear hsame
    by_cases hlt : k < 2
    · have c1 := HA.out k hlt
      have c2 := HB.out k hlt
      have HC := Lib.hid (cmp_any (x k) (y k))
      by_cases hz : cmpZ (x k) (y k) = 0
      · have hxy : x k = y k := by
          unfold cmpZ at hz
          split at hz
          · cases hz
          · split at hz
            · cases hz
            · omega
        have HXY := Lib.hid hxy
        have HZ := Lib.hid hz
        have hq : ((0 : Int) != 0) = false := rfl
        clear hxy hz
        go_wp2_with (go_at_call 133; refine (HC.out _).mono ?_; rintro e w1 ⟨rfl, rfl⟩; rw [HZ.out])
        go_roundw
        case rel => exact ⟨k + 1, by omega, by go_num, fun i hi => by rcases Nat.lt_succ_iff_lt_or_eq.1 hi with h | h; exact HS.out i h; rw [h]; exact HXY.out, by trivial⟩
        case measure => simp [intOf]; omega
      · have HE := Lib.hid (cmp2_at hlt HS.out hz)
        have hd : (cmpZ (x k) (y k) != 0) = true := by rw [bne_iff_ne]; exact hz
        obtain ⟨c, hc⟩ : ∃ c, c = cmpZ (x k) (y k) := ⟨_, rfl⟩
        have HCC := Lib.hid hc
        rw [← hc] at hd
        clear hz hc
        go_wp2_with (go_at_call 133; refine (HC.out _).mono ?_; rintro e w1 ⟨rfl, rfl⟩; rw [← HCC.out])
        go_ret
        exact ⟨by rw [HE.out, ← HCC.out]; rfl, rfl⟩
    · have hke : k = 2 := by omega
      rw [hke] at HS
      have HE := Lib.hid (cmp2_same HS.out)
      clear hlt
      subst hke
      go_wp2_with fail
      go_ret
      exact ⟨by rw [HE.out]; rfl, rfl⟩

/-- A pair's two numbers. -/
def pz (p : Nat × Nat) (i : Nat) : Int := if i = 0 then (p.1 : Int) else (p.2 : Int)
theorem cmp2_pair (p q : Nat × Nat) : cmp2 (pz p) (pz q) = cmpP p q := by
  unfold cmp2 cmpP pz
  simp

end Go.Proofs.YtcpdedgmhpehiaaDoor
