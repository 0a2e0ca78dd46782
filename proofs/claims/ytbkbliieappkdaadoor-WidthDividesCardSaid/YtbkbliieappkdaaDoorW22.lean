/- The least of the sets with the fewest nodes that fit: covers, the program's and the reference's. -/
import Derived.Test.YtbkbliieappkdaaDoorW21
namespace Go.Proofs.YtbkbliieappkdaaDoor
set_option linter.unusedSimpArgs false
set_option linter.unusedVariables false
open Go.RowKit Go.Maps
attribute [local go_sem] i64_bit toNat_eq_one toNat_ne_one toNat_eq_zero toNat_ne_zero i64_and i64_or i64_andNot i64_or_pow i64_andNot_pow

/-- Of the sets with the fewest nodes that fit, the least one; all nodes if no other one fits. -/
structure LeastFit (n : Nat) (p : Nat → Bool) (X : Nat) : Prop where
  lt : X < 2 ^ n
  fit : X = 2 ^ n - 1 ∨ p X = true
  least : ∀ Y, Y < 2 ^ n - 1 → p Y = true → szS n X < szS n Y ∨ szS n X = szS n Y ∧ X ≤ Y
theorem szS_all_lt {n Y : Nat} (h : Y < 2 ^ n - 1) : szS n Y < n := by
  rcases Nat.lt_or_eq_of_le (szS_le n Y) with h1 | h1
  · exact h1
  · have := sz_full (n := n) (g := Y) (by omega) h1; omega
theorem LeastFit.uniq {n : Nat} {p : Nat → Bool} {X Y : Nat} (hX : LeastFit n p X) (hY : LeastFit n p Y) : X = Y := by
  have hx := hX.lt
  have hy := hY.lt
  by_cases h1 : X = 2 ^ n - 1
  · by_cases h2 : Y = 2 ^ n - 1
    · omega
    · have hlt : Y < 2 ^ n - 1 := by omega
      have hs := szS_all_lt hlt
      have h3 := hX.least Y hlt (by rcases hY.fit with h | h; exact absurd h h2; exact h)
      rw [h1, sz_all] at h3
      omega
  · have hlx : X < 2 ^ n - 1 := by omega
    have hpx : p X = true := by rcases hX.fit with h | h; exact absurd h h1; exact h
    by_cases h2 : Y = 2 ^ n - 1
    · have hs := szS_all_lt hlx
      have h3 := hY.least X hlx hpx
      rw [h2, sz_all] at h3
      omega
    · have h3 := hX.least Y (by omega) (by rcases hY.fit with h | h; exact absurd h h2; exact h)
      have h4 := hY.least X hlx hpx
      omega

/-! ### covers -/

/-- Whether a set has a node of each of the first sets of a slice. -/
def covTo (z : Nat → Int) (s : Nat) : Nat → Bool
  | 0 => true
  | j + 1 => covTo z s j && (s &&& (z j).toNat != 0)
theorem covTo_succ (z : Nat → Int) (s j : Nat) : covTo z s (j + 1) = (covTo z s j && (s &&& (z j).toNat != 0)) := rfl
theorem covTo_no {z : Nat → Int} {s k : Nat} (h : s &&& (z k).toNat = 0) : ∀ m, k < m → covTo z s m = false := by
  intro m
  induction m with
  | zero => intro hk; omega
  | succ m ih =>
    intro hk
    rw [covTo_succ]
    rcases Nat.lt_succ_iff_lt_or_eq.1 hk with h1 | h1
    · rw [ih h1]; rfl
    · subst h1; rw [h]; simp

/-- A bramble's sets in memory: numbers of nodes. -/
structure SetsAt (w : World) (o : Option Addr) (n m : Nat) (z : Nat → Int) : Prop where
  ints : IntsAt w o m z
  bd : ∀ i, i < m → 0 ≤ z i ∧ (z i).toNat < 2 ^ n
theorem SetsAt.below {w w' : World} {o : Option Addr} {n m : Nat} {z : Nat → Int} (h : SetsAt w o n m z) (hb : Below w.heap.size w w') : SetsAt w' o n m z := ⟨h.ints.below hb, h.bd⟩
theorem brB_sets {w : World} {o : Option Addr} {n m : Nat} {r : Nat → Nat} {z : Nat → Int} (hI : IntsAt w o m z) (h : brB n r m z = true) : SetsAt w o n m z :=
  ⟨hI, fun i hi => connZ_bd (okRow_conn ((brB_iff h).2.2 i hi))⟩

set_option maxRecDepth 20000 in
set_option maxHeartbeats 1000000 in
theorem meets_any {w : World} {bx s t : Nat} (hs : s < 65536) (ht : t < 65536) (hc : w.cell? ⟨bx, 0, none⟩ = some (.int .i64 (s : Nat))) :
    Calls Tryd.prog 73 #[.int .i64 t, .pointer (some ⟨bx, 0, none⟩)] w fun e w' => e = .returned (.bool (s &&& t == 0)) ∧ w = w' := by
  have hq := cast_beq0 (s &&& t)
  go_enter Tryd.func73, Tryd.ntmps73
  go_wp2
  go_ret
  exact ⟨by rw [← hq]; rfl, rfl⟩

set_option maxRecDepth 20000 in
set_option maxHeartbeats 2000000 in
theorem IndexFunc_any {n : Nat} (hn : n ≤ 9) {m : Nat} {z : Nat → Int} {o : Option Addr} (co : Nat) {w : World} (S : SetsAt w o n m z) {bx s : Nat} (hs : s < 65536) (hx : w.cell? ⟨bx, 0, none⟩ = some (.int .i64 (s : Nat))) :
    Calls Tryd.prog 96 #[.slice o m co, .func (.func 73) #[] #[.pointer (some ⟨bx, 0, none⟩)]] w fun e w' => (∃ i : Int, e = .returned (.int .i64 i) ∧ decide (0 ≤ i) = !covTo z s m) ∧ w = w' := by
  have hml := S.ints.1
  unfold maxLen at hml
  have HS := Lib.hid S
  clear S
  go_enter Tryd.func96, Tryd.ntmps96
  go_wp2_with fail
  go_loopw [8] (fun i wr => ∃ k : Nat, k ≤ m ∧ i = .int .i64 k ∧ covTo z s k = true ∧ w = wr) (fun i _ => m - (intOf i).toNat)
  case atStart => exact ⟨0, Nat.zero_le _, rfl, rfl, rfl⟩
  case round =>
    obtain ⟨k, hk, rfl, hcv, rfl⟩ := hrel
    have HCV := Lib.hid hcv
    clear hcv
    by_cases hlt : k < m
    · obtain ⟨b, off, rfl, hb, hc⟩ := HS.out.ints.2 (by omega)
      have ck := hc k hlt
      clear hc
      obtain ⟨z0, z1⟩ := HS.out.bd k hlt
      obtain ⟨t, ht⟩ : ∃ t : Nat, z k = t := ⟨(z k).toNat, by omega⟩
      have ht16 : t < 65536 := lt16 hn (by rw [ht, Int.toNat_natCast] at z1; exact z1)
      have HTK : Hid ((z k).toNat = t) := Lib.hid (by rw [ht, Int.toNat_natCast])
      rw [ht] at ck
      clear z0 z1 ht
      by_cases hq : s &&& t = 0
      · have hqb : (s &&& t == 0) = true := by rw [hq]; rfl
        have HF := Lib.hid (covTo_no (z := z) (by rw [HTK.out]; exact hq) m hlt)
        clear hq
        go_wp2_with (go_at_call 73; refine (meets_any hs ht16 hx).mono ?_; rintro e w2 ⟨rfl, rfl⟩; rw [hqb])
        go_ret
        exact ⟨⟨k, rfl, by rw [HF.out]; simp⟩, rfl⟩
      · have hqb : (s &&& t == 0) = false := by simpa using hq
        have HF : Hid (covTo z s (k + 1) = true) := Lib.hid (by rw [covTo_succ, HCV.out, HTK.out]; simp [hq])
        clear hq
        go_wp2_with (go_at_call 73; refine (meets_any hs ht16 hx).mono ?_; rintro e w2 ⟨rfl, rfl⟩; rw [hqb])
        go_roundw
        case rel => exact ⟨k + 1, by omega, by go_num, HF.out, by trivial⟩
        case measure => simp [intOf]; omega
    · have hke : k = m := by omega
      subst hke
      go_wp2_with fail
      go_ret
      exact ⟨⟨-1, rfl, by rw [HCV.out]; rfl⟩, rfl⟩

set_option maxRecDepth 20000 in
set_option maxHeartbeats 1000000 in
theorem ContainsFunc_any {n : Nat} (hn : n ≤ 9) {m : Nat} {z : Nat → Int} {o : Option Addr} (co : Nat) {w : World} (S : SetsAt w o n m z) {bx s : Nat} (hs : s < 65536) (hx : w.cell? ⟨bx, 0, none⟩ = some (.int .i64 (s : Nat))) :
    Calls Tryd.prog 64 #[.slice o m co, .func (.func 73) #[] #[.pointer (some ⟨bx, 0, none⟩)]] w fun e w' => e = .returned (.bool (!covTo z s m)) ∧ w = w' := by
  have HS := Lib.hid S
  clear S
  go_enter Tryd.func64, Tryd.ntmps64
  go_wp2_with (go_at_call 96; refine (IndexFunc_any hn co HS.out hs hx).mono ?_; rintro e w2 ⟨⟨i, rfl, hi⟩, rfl⟩)
  go_ret
  refine ⟨?_, rfl⟩
  rw [← hi]
  rfl

set_option maxRecDepth 20000 in
set_option maxHeartbeats 1000000 in
theorem fits_any {n : Nat} (hn : n ≤ 9) {m : Nat} {z : Nat → Int} {o : Option Addr} (co : Nat) {w : World} (S : SetsAt w o n m z) {lb : Nat} (hl : w.cell? ⟨lb, 0, none⟩ = some (.slice o m co)) (hlb : lb < w.heap.size) (s : Nat) (hs : s < 65536) :
    Calls Tryd.prog 72 #[.int .i64 s, .pointer (some ⟨lb, 0, none⟩)] w fun e w' => e = .returned (.bool (covTo z s m)) ∧ Below w.heap.size w w' := by
  obtain ⟨w0, hw0, R0, HB0, hs0⟩ := new1 w 3 [.int .i64 (s : Nat)]
  have HS := Lib.hid (S.below HB0)
  have c0 := R0.cell (i := 0) rfl
  have hl0 : w0.cell? ⟨lb, 0, none⟩ = some (.slice o m co) := by rw [HB0.cell (p := ⟨lb, 0, none⟩) hlb]; exact hl
  have HW0 := Lib.hid hw0
  have HB := Lib.hid HB0
  have hmf : ∀ (fn : Fn) (first cap : Array Value) (w : World), (Instr.makeFunc fn first cap).run Tryd.prog w = .ok (.func fn first cap) w := fun _ _ _ _ => rfl
  clear S hw0 R0 HB0
  go_enter Tryd.func72, Tryd.ntmps72
  go_wp2_with fail
  rw [← HW0.out]
  go_wp2_with (go_at_call 64; refine (ContainsFunc_any hn co HS.out hs c0).mono ?_; rintro e w2 ⟨rfl, rfl⟩)
  go_ret
  exact ⟨rfl, HB.out⟩

end Go.Proofs.YtbkbliieappkdaaDoor
