/- The contract of package width's nextOf. -/
import Derived.Test.YtombmfphodikjaaW34
namespace Go.Proofs.Ytombmfphodikjaa
set_option linter.unusedSimpArgs false
set_option linter.unusedVariables false
open Go.RowKit Go.Maps

/-- What nextOf returns: the first index behind i whose node is in the set; or the next one, and -1 behind the last. -/
def NextIs (y : Nat → Int) (s m i : Nat) (x : Int) : Prop :=
  (∃ j : Nat, i < j ∧ j < m ∧ x = j ∧ s.testBit (y j).toNat = true ∧ ∀ t, i < t → t < j → s.testBit (y t).toNat = false) ∨
    ((∀ t, i < t → t < m → s.testBit (y t).toNat = false) ∧ x = if i + 1 = m then -1 else (i : Int) + 1)

set_option maxRecDepth 20000 in
set_option maxHeartbeats 1000000 in
theorem nextOf_any {m : Nat} {y : Nat → Int} {o : Option Addr} (co : Nat) {w : World} (hI : IntsAt w o m y) (hy : ∀ k, k < m → 0 ≤ y k ∧ y k < 9) (i s : Nat) (hs : s < 65536) (him : i < m) (h16 : m < 16) :
    Calls Try.prog 71 #[.slice o m co, .int .i64 i, .int .i64 s] w fun e w' => ∃ x : Int, e = .returned (.int .i64 x) ∧ NextIs y s m i x ∧ w = w' := by
  have HI := Lib.hid hI
  have HY := Lib.hid hy
  clear hI hy
  go_enter Try.func71, Try.ntmps71
  go_wp2_with fail
  go_loopw [7] (fun jv wr => ∃ j : Nat, i < j ∧ j ≤ m ∧ jv = .int .i64 j ∧ (∀ t, i < t → t < j → s.testBit (y t).toNat = false) ∧ w = wr) (fun jv _ => m - (intOf jv).toNat)
  case atStart => exact ⟨i + 1, by omega, by omega, by go_num, by omega, rfl⟩
  case round =>
    obtain ⟨j, hij, hj, rfl, hno, rfl⟩ := hrel
    have HN := Lib.hid hno
    clear hno
    by_cases hlt : j < m
    · obtain ⟨b, off, rfl, hb, hc⟩ := HI.out.2 (by omega)
      have ck := hc j hlt
      obtain ⟨h0, h9⟩ := HY.out j hlt
      obtain ⟨u, hu⟩ : ∃ u : Nat, y j = u := ⟨(y j).toNat, by omega⟩
      have hu64 : u < 64 := by omega
      have HU := Lib.hid hu
      rw [hu] at ck
      clear hc hu h0 h9
      cases ht : s.testBit u
      · have HT : Hid (s.testBit (y j).toNat = false) := Lib.hid (by rw [HU.out]; exact ht)
        go_wp2_with (go_at_call 61; refine (has_any s u _ hs hu64).mono ?_; rintro e w1 ⟨rfl, rfl⟩; rw [ht])
        go_roundw
        case rel => exact ⟨j + 1, by omega, by omega, by go_num, fun t h1 h2 => by rcases Nat.lt_succ_iff_lt_or_eq.1 h2 with h | h; exact HN.out t h1 h; rw [h]; exact HT.out, by trivial⟩
        case measure => simp [intOf]; omega
      · have HT : Hid (s.testBit (y j).toNat = true) := Lib.hid (by rw [HU.out]; exact ht)
        go_wp2_with (go_at_call 61; refine (has_any s u _ hs hu64).mono ?_; rintro e w1 ⟨rfl, rfl⟩; rw [ht])
        go_ret
        exact ⟨j, rfl, Or.inl ⟨j, hij, hlt, rfl, HT.out, HN.out⟩, rfl⟩
    · have hje : j = m := by omega
      subst hje
      by_cases hl : i + 1 = j
      · have hq : ((i : Int) == (j : Int) - 1) = true := by simp; omega
        have HL := Lib.hid hl
        clear hl
        go_wp2_with fail
        go_ret
        exact ⟨-1, rfl, Or.inr ⟨HN.out, by rw [if_pos HL.out]⟩, rfl⟩
      · have hq : ((i : Int) == (j : Int) - 1) = false := by simp; omega
        have HL := Lib.hid hl
        clear hl
        go_wp2_with fail
        go_ret
        exact ⟨i + 1, rfl, Or.inr ⟨HN.out, by rw [if_neg HL.out]⟩, rfl⟩

end Go.Proofs.Ytombmfphodikjaa
