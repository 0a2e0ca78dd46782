/- The contracts of bits.TrailingZeros, isConnected, touch, Touch; of the reference's Connected and Touch. -/
import Derived.Test.YtbkbliieappkdaaDoorW12
import Derived.Test.YtbkbliieappkdaaDoorW13
import Derived.Lib.LaidTab
import Derived.Lib.SmallJoins
namespace Go.Proofs.YtbkbliieappkdaaDoor
set_option linter.unusedSimpArgs false
set_option linter.unusedVariables false
open Go.RowKit Go.Maps
attribute [local go_sem] i64_bit toNat_eq_one toNat_ne_one toNat_eq_zero toNat_ne_zero i64_and i64_or i64_andNot i64_or_pow i64_andNot_pow

/-- The table of bits.TrailingZeros64, as its initialiser lays it. -/
def dbTab : List Int := [0, 1, 56, 2, 57, 49, 28, 3, 61, 58, 42, 50, 38, 29, 17, 4, 62, 47, 59, 36, 45, 43, 51, 22, 53, 39, 33, 30, 24, 18, 12, 5,
  63, 55, 48, 27, 60, 41, 37, 16, 46, 35, 44, 21, 52, 32, 23, 11, 54, 26, 40, 15, 34, 20, 31, 10, 25, 14, 19, 9, 13, 8, 7, 6]
def HasTab (w : World) : Prop := Lib.TabIs Tryd.prog w "math/bits.deBruijn64tab" .u8 dbTab
theorem gTab : Tryd.prog.globalNamed "math/bits.deBruijn64tab" = some 1 := by kernel_rfl
theorem HasTab.below {w w' : World} (h : HasTab w) (hb : Below w.heap.size w w') : HasTab w' := Joins.tab_stays gTab h hb (Nat.le_refl _)
theorem HasTab.cells {w : World} (h : HasTab w) : ∀ i, i < 64 → w.cell? ⟨1, i, none⟩ = some (.int .u8 (dbTab.getD i 0)) := fun i hi => Lib.TabIs.cell h gTab i hi

/-- The least node of a set. -/
def lowB (x : Nat) : Nat := ((List.range 9).find? fun i => x.testBit i).getD 0
theorem lowB_all : ∀ x, x < 512 → 0 < x → lowB x < 9 ∧ x.testBit (lowB x) = true ∧ ∀ i, i < lowB x → x.testBit i = false := by decide +kernel
theorem dbIx_all : ∀ x : Nat, x < 512 → 0 ≤ IntKind.u64.wrap (bits BinOp.and IntKind.u64 (x : Int) (IntKind.u64.wrap (-(x : Int))) * 285870213051353865) / 288230376151711744 ∧
    IntKind.u64.wrap (bits BinOp.and IntKind.u64 (x : Int) (IntKind.u64.wrap (-(x : Int))) * 285870213051353865) / 288230376151711744 < 64 := by decide +kernel

set_option maxRecDepth 20000 in
set_option maxHeartbeats 4000000 in
theorem tz64_any (x : Nat) (hx : x < 512) (h0 : 0 < x) (w : World) (h : HasTab w) :
    Calls Tryd.prog 104 #[.int .u64 x] w fun e w' => e = .returned (.int .i64 (lowB x : Nat)) ∧ w = w' := by
  have hc := h.cells
  obtain ⟨hi0, hi1⟩ := dbIx_all x hx
  go_enter Tryd.func104, Tryd.ntmps104
  go_wp2_with fail
  go_ret
  refine ⟨?_, rfl⟩
  refine congrArg (fun t => Ending.returned (Value.int IntKind.i64 t)) ?_
  clear hc h hi0 hi1
  revert x
  decide +kernel
set_option maxRecDepth 20000 in
set_option maxHeartbeats 4000000 in
theorem tz_any (x : Nat) (hx : x < 512) (h0 : 0 < x) (w : World) (h : HasTab w) :
    Calls Tryd.prog 75 #[.int .u64 x] w fun e w' => e = .returned (.int .i64 (lowB x : Nat)) ∧ w = w' := by
  go_enter Tryd.func75, Tryd.ntmps75
  go_wp2_with (go_at_call 104; refine (tz64_any x hx h0 _ h).mono ?_; rintro e w1 ⟨rfl, rfl⟩)
  go_ret
  exact ⟨rfl, rfl⟩

/-- Whether a number is a connected set. -/
def connZ (n : Nat) (r : Nat → Nat) (v : Int) : Bool := inB v (2 ^ n) && decide (0 < v) && partS n r v.toNat (lowB v.toNat) == v.toNat
theorem connZ_out {n : Nat} {r : Nat → Nat} {v : Int} (h : ¬ (0 ≤ v ∧ v < 2 ^ n)) : connZ n r v = false := by
  unfold connZ; rw [inB_false h]; rfl
theorem connZ_zero {n : Nat} {r : Nat → Nat} {v : Int} (h : v ≤ 0) : connZ n r v = false := by
  unfold connZ; rw [decide_eq_false (by omega), Bool.and_false]; rfl
theorem connZ_nat {n : Nat} {r : Nat → Nat} {s : Nat} (h0 : 0 < s) (h : s < 2 ^ n) : connZ n r (s : Int) = (partS n r s (lowB s) == s) := by
  unfold connZ
  rw [inB_true (by omega) (by rw [pow_cast]; omega), decide_eq_true (by omega), Int.toNat_natCast]; rfl
theorem lowB_lt {n s : Nat} (hn : n ≤ 9) (h0 : 0 < s) (hs : s < 2 ^ n) : lowB s < n := by
  have h9 := pow_le9 hn
  obtain ⟨_, h2, _⟩ := lowB_all s (by omega) h0
  apply Classical.byContradiction
  intro h
  have := Nat.testBit_lt_two_pow (i := lowB s) (Nat.lt_of_lt_of_le hs (Nat.pow_le_pow_right (by omega) (by omega)))
  rw [this] at h2; cases h2

set_option maxRecDepth 20000 in
set_option maxHeartbeats 2000000 in
theorem isConnected_any {n : Nat} {r : Nat → Nat} {a : Option Addr} {w : World} (G : Gr w a n r) (cap : Nat) (v : Int) (hT : HasTab w) :
    Calls Tryd.prog 47 #[.slice a n cap, .int .i64 v] w fun e w' => e = .returned (.bool (connZ n r v)) ∧ w = w' := by
  have hle := G.le
  have hn16 : n < 16 := by omega
  have HG := Lib.hid G
  have HT := Lib.hid hT
  clear G hT
  by_cases hin : 0 ≤ v ∧ v < 2 ^ n
  · have hi := inB_true hin.1 hin.2
    by_cases h0 : v = 0
    · subst h0
      have HF := Lib.hid (connZ_zero (n := n) (r := r) (v := 0) (by omega))
      clear hin
      go_enter Tryd.func47, Tryd.ntmps47
      go_wp2_with (go_at_call 61; refine (isSet_any _ _ _ _ _ hn16).mono ?_; rintro e w1 ⟨rfl, rfl⟩; rw [hi])
      go_ret
      exact ⟨by rw [HF.out]; rfl, rfl⟩
    · obtain ⟨s, rfl⟩ : ∃ s : Nat, v = s := ⟨v.toNat, by omega⟩
      have hs0 : 0 < s := by omega
      have hs2 : s < 2 ^ n := by have := hin.2; rw [pow_cast] at this; omega
      have hs9 : s < 512 := by have := pow_le9 hle; omega
      have hlow := lowB_lt hle hs0 hs2
      have HF := Lib.hid (connZ_nat (r := r) hs0 hs2)
      have hne : ((s : Int) != 0) = true := by simp; omega
      have hq : (((partS n r s (lowB s) : Nat) : Int) == (s : Int)) = (partS n r s (lowB s) == s) := cast_beq _ _
      have HS2 := Lib.hid hs2
      have htz : ∀ w, HasTab w → Calls Tryd.prog 75 #[.int .u64 s] w fun e w' => e = .returned (.int .i64 (lowB s : Nat)) ∧ w = w' := fun w h => tz_any s hs9 hs0 w h
      clear hin h0 hs2
      generalize lowB s = lo at *
      have HTZ := Lib.hid htz
      clear htz
      generalize hP : partS n r s lo = P at *
      have HP := Lib.hid hP
      clear hP
      go_enter Tryd.func47, Tryd.ntmps47
      go_wp2_with (first
        | (go_at_call 61; refine (isSet_any _ _ _ _ _ hn16).mono ?_; rintro e w1 ⟨rfl, rfl⟩; rw [hi])
        | (go_at_call 75; refine (HTZ.out _ HT.out).mono ?_; rintro e w2 ⟨rfl, rfl⟩)
        | (go_at_call 74; refine (part_any HG.out cap lo s hlow HS2.out).mono ?_; rintro e w3 ⟨rfl, rfl⟩; rw [HP.out]))
      go_ret
      exact ⟨by rw [HF.out, ← hq]; rfl, rfl⟩
  · have hi := inB_false hin
    have HF := Lib.hid (connZ_out (r := r) hin)
    clear hin
    go_enter Tryd.func47, Tryd.ntmps47
    go_wp2_with (go_at_call 61; refine (isSet_any _ _ _ _ _ hn16).mono ?_; rintro e w1 ⟨rfl, rfl⟩; rw [hi])
    go_ret
    exact ⟨by rw [HF.out]; rfl, rfl⟩

/-- Whether two sets touch. -/
def touB (n : Nat) (r : Nat → Nat) (x y : Nat) : Bool := (x ||| nbTo r x n) &&& y != 0
theorem or_arnd (n : Nat) (r : Nat → Nat) (x : Nat) : x ||| arnd n r x = x ||| nbTo r x n := by
  apply Nat.eq_of_testBit_eq
  intro i
  unfold arnd
  rw [Nat.testBit_or, Nat.testBit_or, testBit_diff]
  cases x.testBit i <;> simp

set_option maxRecDepth 20000 in
set_option maxHeartbeats 2000000 in
theorem touch_any {n : Nat} {r : Nat → Nat} {a : Option Addr} {w : World} (G : Gr w a n r) (cap x y : Nat) (hx : x < 65536) (hy : y < 65536) :
    Calls Tryd.prog 48 #[.slice a n cap, .int .i64 x, .int .i64 y] w fun e w' => e = .returned (.bool (touB n r x y)) ∧ w = w' := by
  have hA : arnd n r x < 65536 := lt16 G.le (arnd_lt x G.bd)
  have hor : x ||| arnd n r x < 65536 := or_lt hx hA
  have HTB : Hid (touB n r x y = (((x ||| arnd n r x) &&& y) != 0)) := Lib.hid (by unfold touB; rw [or_arnd])
  have hq : ((((x ||| arnd n r x) &&& y : Nat) : Int) != 0) = (((x ||| arnd n r x) &&& y) != 0) := by
    rw [Bool.eq_iff_iff]; simp only [bne_iff_ne, ne_eq]; omega
  go_enter Tryd.func48, Tryd.ntmps48
  go_wp2_with (go_at_call 76; refine (around_any G.at_ cap x hx).mono ?_; rintro e w1 ⟨rfl, rfl⟩)
  go_ret
  exact ⟨by rw [HTB.out, ← hq]; rfl, rfl⟩

set_option maxRecDepth 20000 in
set_option maxHeartbeats 2000000 in
theorem TouchR_any {n : Nat} {r : Nat → Nat} {a : Option Addr} {w : World} (G : Gr w a n r) (cap x y : Nat) (hx : x < 65536) (hy : y < 65536) :
    Calls Tryd.prog 23 #[.slice a n cap, .int .i64 x, .int .i64 y] w fun e w' => e = .returned (.bool (touB n r x y)) ∧ w' = w := by
  have hA : nbTo r x n < 65536 := lt16 G.le (nbTo_lt x G.bd n (Nat.le_refl _))
  have hor : x ||| nbTo r x n < 65536 := or_lt hx hA
  have HTB : Hid (touB n r x y = (((x ||| nbTo r x n) &&& y) != 0)) := Lib.hid rfl
  have hq : ((((x ||| nbTo r x n) &&& y : Nat) : Int) != 0) = (((x ||| nbTo r x n) &&& y) != 0) := by
    rw [Bool.eq_iff_iff]; simp only [bne_iff_ne, ne_eq]; omega
  go_enter Tryd.func23, Tryd.ntmps23
  go_wp2_with (go_at_call 49; refine (Around_any G.at_ cap x hx).mono ?_; rintro e w1 ⟨rfl, rfl⟩)
  go_ret
  exact ⟨by rw [HTB.out, ← hq]; rfl, rfl⟩

set_option maxRecDepth 20000 in
set_option maxHeartbeats 2000000 in
theorem ConnectedR_any {n : Nat} {r : Nat → Nat} {a : Option Addr} {w : World} (G : Gr w a n r) (cap : Nat) (v : Int) :
    Calls Tryd.prog 22 #[.slice a n cap, .int .i64 v] w fun e w' => e = .returned (.bool (connZ n r v)) ∧ Below w.heap.size w w' := by
  have hle := G.le
  have hn16 : n < 16 := by omega
  have HG := Lib.hid G
  have hpn := pow_bd n hn16
  clear G
  by_cases h0 : v ≤ 0
  · have HF := Lib.hid (connZ_zero (n := n) (r := r) h0)
    go_enter Tryd.func22, Tryd.ntmps22
    go_wp2_with fail
    go_ret
    exact ⟨by rw [HF.out]; rfl, Below.refl _ _⟩
  · by_cases h1 : 2 ^ n ≤ v
    · have HF := Lib.hid (connZ_out (n := n) (r := r) (v := v) (by omega))
      have h0' : 0 < v := by omega
      clear h0
      go_enter Tryd.func22, Tryd.ntmps22
      go_wp2_with fail
      go_ret
      exact ⟨by rw [HF.out]; rfl, Below.refl _ _⟩
    · obtain ⟨s, rfl⟩ : ∃ s : Nat, v = s := ⟨v.toNat, by omega⟩
      have hs0 : 0 < s := by omega
      have hs2 : s < 2 ^ n := by have := h1; rw [pow_cast] at this; omega
      have hs9 : s < 512 := by have := pow_le9 hle; omega
      have hlow := lowB_lt hle hs0 hs2
      obtain ⟨_, l2, l3⟩ := lowB_all s hs9 hs0
      have HL2 := Lib.hid l2
      have HL3 := Lib.hid l3
      have HF := Lib.hid (connZ_nat (r := r) hs0 hs2)
      have hq : (((partS n r s (lowB s) : Nat) : Int) == (s : Int)) = (partS n r s (lowB s) == s) := cast_beq _ _
      have hs16 : s < 65536 := by omega
      have h1' : (s : Int) < 2 ^ n := by omega
      have h0' : 0 < (s : Int) := by omega
      clear h0 h1 l2 l3 hs2
      generalize lowB s = lo at *
      generalize hP : partS n r s lo = P at *
      have HP : Hid (metIn n r s (2 ^ lo) n = P) := Lib.hid hP
      clear hP
      go_enter Tryd.func22, Tryd.ntmps22
      go_wp2_with fail
      go_loopw [5] (fun f wr => ∃ j : Nat, f = .int .i64 j ∧ j ≤ lo ∧ w = wr) (fun f _ => lo - (intOf f).toNat)
      case atStart => exact ⟨0, rfl, Nat.zero_le _, rfl⟩
      case round =>
        obtain ⟨j, rfl, hj, rfl⟩ := hrel
        have hj64 : j < 64 := by omega
        by_cases hjl : j = lo
        · subst hjl
          have hb := HL2.out
          go_wp2_with (go_at_call 31; refine (Reached_any HG.out.at_ cap s j _ _ rfl rfl hs16 hlow).mono ?_; rintro e w1 ⟨rfl, hb1⟩; rw [HP.out]; have HB1 := Lib.hid hb1; clear hb1)
          go_ret
          exact ⟨by rw [HF.out, ← hq]; rfl, HB1.out⟩
        · have hb := HL3.out j (by omega)
          go_wp2_with fail
          go_roundw
          case rel => exact ⟨j + 1, by go_num, by omega, by trivial⟩
          case measure => simp [intOf]; omega

end Go.Proofs.YtbkbliieappkdaaDoor
