/- The contract of slices.ContainsFunc with the closure of the law WidthCliques. -/
import Derived.Test.YtombmfphodikjaaW50
import Derived.Test.YtombmfphodikjaaW5
namespace Go.Proofs.Ytombmfphodikjaa
set_option linter.unusedSimpArgs false
set_option linter.unusedVariables false
open Go.RowKit Go.Maps
attribute [local go_sem] i64_bit toNat_eq_one toNat_ne_one toNat_eq_zero toNat_ne_zero i64_and i64_or i64_andNot i64_or_pow i64_andNot_pow

/-- Whether the first nodes of a set are neighbours of all others of it. -/
def clqTo (r : Nat → Nat) (s : Nat) : Nat → Bool
  | 0 => true
  | j + 1 => clqTo r s j && (!s.testBit j || diff (diff s (r j)) (2 ^ j) == 0)
theorem clqTo_succ (r : Nat → Nat) (s j : Nat) : clqTo r s (j + 1) = (clqTo r s j && (!s.testBit j || diff (diff s (r j)) (2 ^ j) == 0)) := rfl
theorem clqTo_iff {r : Nat → Nat} {s : Nat} : ∀ k, clqTo r s k = true ↔ ∀ j, j < k → s.testBit j = true → diff (diff s (r j)) (2 ^ j) = 0 := by
  intro k
  induction k with
  | zero => exact ⟨fun _ j hj => by omega, fun _ => rfl⟩
  | succ k ih =>
    rw [clqTo_succ, Bool.and_eq_true, ih]
    constructor
    · rintro ⟨h1, h2⟩ j hj hb
      rcases Nat.lt_succ_iff_lt_or_eq.1 hj with h3 | h3
      · exact h1 j h3 hb
      · subst h3
        rw [hb] at h2
        simpa using h2
    · intro h
      refine ⟨fun j hj => h j (by omega), ?_⟩
      cases hb : s.testBit k
      · rfl
      · simpa using h k (by omega) hb
theorem clq_in {n : Nat} {r : Nat → Nat} {m : Nat} {z p : Nat → Int} (D : Dec n r m z p) {s : Nat} (hs : s < 2 ^ n) (h : clqTo r s n = true) : ∃ j, j < m ∧ diff s (z j).toNat = 0 := by
  have hlt : ∀ v, s.testBit v = true → v < n := by
    intro v hv
    apply Classical.byContradiction
    intro hn
    have := Nat.testBit_lt_two_pow (i := v) (Nat.lt_of_lt_of_le hs (Nat.pow_le_pow_right (by omega) (by omega)))
    rw [this] at hv; cases hv
  obtain ⟨j, hj, h1⟩ := D.clique (s := s) hlt fun v u hv hu hne => by
    have h2 := (clqTo_iff n).1 h v (hlt v hv) hv
    have h3 := diff_zero.1 h2 u
    cases hb : (r v).testBit u
    · rw [testBit_diff, hu, hb] at h3
      have := h3 rfl
      rw [Nat.testBit_two_pow] at this
      exact absurd (of_decide_eq_true this) hne
    · rfl
  exact ⟨j, hj, diff_zero.2 h1⟩

set_option maxRecDepth 20000 in
set_option maxHeartbeats 1000000 in
theorem subClo_any {w : World} {bx s t : Nat} (hs : s < 65536) (ht : t < 65536) (hc : w.cell? ⟨bx, 0, none⟩ = some (.int .i64 (s : Nat))) :
    Calls Try.prog 38 #[.int .i64 t, .pointer (some ⟨bx, 0, none⟩)] w fun e w' => e = .returned (.bool (diff s t == 0)) ∧ w = w' := by
  have hq := cast_beq0 (diff s t)
  go_enter Try.func38, Try.ntmps38
  go_wp2
  go_ret
  exact ⟨by rw [← hq]; rfl, rfl⟩

set_option maxRecDepth 20000 in
set_option maxHeartbeats 2000000 in
theorem SubIndex_any {n : Nat} (hn : n ≤ 9) {m : Nat} {z : Nat → Int} {o : Option Addr} (co : Nat) {w : World} (hI : IntsAt w o m z) (hB : BagsOK n m z) {bx s : Nat} (hs : s < 65536) (hx : w.cell? ⟨bx, 0, none⟩ = some (.int .i64 (s : Nat))) (hex : ∃ j, j < m ∧ diff s (z j).toNat = 0) :
    Calls Try.prog 58 #[.slice o m co, .func (.func 38) #[] #[.pointer (some ⟨bx, 0, none⟩)]] w fun e w' => (∃ i : Int, e = .returned (.int .i64 i) ∧ 0 ≤ i) ∧ w = w' := by
  have hml := hI.1
  unfold maxLen at hml
  have HS := Lib.hid hI
  have HB := Lib.hid hB
  have HEX := Lib.hid hex
  clear hI hB hex
  go_enter Try.func58, Try.ntmps58
  go_wp2_with fail
  go_loopw [8] (fun i wr => ∃ k : Nat, k ≤ m ∧ i = .int .i64 k ∧ Hid (∀ j, j < k → diff s (z j).toNat ≠ 0) ∧ w = wr) (fun i _ => m - (intOf i).toNat)
  case atStart => exact ⟨0, Nat.zero_le _, rfl, Lib.hid (fun j hj => by omega), rfl⟩
  case round =>
    obtain ⟨k, hk, rfl, HCV, rfl⟩ := hrel
    by_cases hlt : k < m
    · obtain ⟨b, off, rfl, hb, hc⟩ := HS.out.2 (by omega)
      have ck := hc k hlt
      clear hc
      obtain ⟨z0, z1⟩ := HB.out k hlt
      obtain ⟨t, ht⟩ : ∃ t : Nat, z k = t := ⟨(z k).toNat, by omega⟩
      have ht16 : t < 65536 := lt16 hn (by rw [ht, Int.toNat_natCast] at z1; exact z1)
      have HTK : Hid ((z k).toNat = t) := Lib.hid (by rw [ht, Int.toNat_natCast])
      rw [ht] at ck
      clear z0 z1 ht
      by_cases hq : diff s t = 0
      · have hqb : (diff s t == 0) = true := by rw [hq]; rfl
        clear hq
        go_wp2_with (go_at_call 38; refine (subClo_any hs ht16 hx).mono ?_; rintro e w2 ⟨rfl, rfl⟩; rw [hqb])
        go_ret
        exact ⟨⟨k, rfl, by omega⟩, rfl⟩
      · have hqb : (diff s t == 0) = false := by simpa using hq
        have HQ := Lib.hid hq
        clear hq
        go_wp2_with (go_at_call 38; refine (subClo_any hs ht16 hx).mono ?_; rintro e w2 ⟨rfl, rfl⟩; rw [hqb])
        go_roundw
        case rel => exact ⟨k + 1, by omega, by go_num, Lib.hid (fun j hj => by rcases Nat.lt_succ_iff_lt_or_eq.1 hj with h | h; exact HCV.out j h; rw [h, HTK.out]; exact HQ.out), by trivial⟩
        case measure => simp [intOf]; omega
    · obtain ⟨j, hj, he⟩ := HEX.out
      exact absurd he (HCV.out j (by omega))

set_option maxRecDepth 20000 in
set_option maxHeartbeats 1000000 in
theorem SubIn_any {n : Nat} (hn : n ≤ 9) {m : Nat} {z : Nat → Int} {o : Option Addr} (co : Nat) {w : World} (hI : IntsAt w o m z) (hB : BagsOK n m z) {bx s : Nat} (hs : s < 65536) (hx : w.cell? ⟨bx, 0, none⟩ = some (.int .i64 (s : Nat))) (hex : ∃ j, j < m ∧ diff s (z j).toNat = 0) :
    Calls Try.prog 37 #[.slice o m co, .func (.func 38) #[] #[.pointer (some ⟨bx, 0, none⟩)]] w fun e w' => e = .returned (.bool true) ∧ w = w' := by
  have HI := Lib.hid hI
  have HB := Lib.hid hB
  have HEX := Lib.hid hex
  clear hI hB hex
  go_enter Try.func37, Try.ntmps37
  go_wp2_with fail
  go_at_call 58
  refine (SubIndex_any hn co HI.out HB.out hs hx HEX.out).mono ?_
  rintro e w1 ⟨⟨i, rfl, hi⟩, rfl⟩
  have hd : decide (0 ≤ i) = true := decide_eq_true hi
  go_wp2_with fail
  go_ret
  exact ⟨rfl, rfl⟩

/-- Tree decompositions in a slice of one's own. -/
structure TreesAt (w : World) (b N n : Nat) (r : Nat → Nat) : Prop where
  lt : b < w.heap.size
  each : ∀ i : Nat, i < N → ∃ xb M kb xp q kq z p, w.cell? ⟨b, i * 2, none⟩ = some (.slice xb M kb) ∧ w.cell? ⟨b, i * 2 + 1, none⟩ = some (.slice xp q kq) ∧ IntsAt w xb M z ∧ Dec n r M z p
theorem TreesAt.below {w w' : World} {b N n : Nat} {r : Nat → Nat} (h : TreesAt w b N n r) (hb : Below w.heap.size w w') : TreesAt w' b N n r := by
  refine ⟨Nat.lt_of_lt_of_le h.lt hb.size, fun i hi => ?_⟩
  obtain ⟨xb, M, kb, xp, q, kq, z, p, h1, h2, h3, h4⟩ := h.each i hi
  exact ⟨xb, M, kb, xp, q, kq, z, p, by rw [hb.cell (p := ⟨b, i * 2, none⟩) h.lt]; exact h1, by rw [hb.cell (p := ⟨b, i * 2 + 1, none⟩) h.lt]; exact h2, h3.below hb, h4⟩

end Go.Proofs.Ytombmfphodikjaa
