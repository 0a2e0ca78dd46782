/- The contracts of bits.OnesCount and bits.TrailingZeros for sets of at most eight nodes. -/
import Derived.Test.YtbkbliieappkdaaDoorChC3a
import Derived.Lib.LaidTab
import Derived.Lib.SmallJoins
namespace Go.Proofs.YtbkbliieappkdaaDoor.Ch
set_option linter.unusedSimpArgs false
set_option linter.unusedVariables false
open Go.RowKit Go.Maps

set_option maxRecDepth 20000 in
set_option maxHeartbeats 4000000 in
theorem ones64_any (x : Nat) (hx : x < 256) (w : World) :
    Calls Tryd.prog 102 #[.int .u64 x] w fun e w' => e = .returned (.int .i64 (szS 8 x : Nat)) ∧ w = w' := by
  go_enter Tryd.func102, Tryd.ntmps102
  go_wp2
  go_ret
  refine ⟨?_, rfl⟩
  refine congrArg (fun t => Ending.returned (Value.int IntKind.i64 t)) ?_
  revert x
  decide +kernel

set_option maxRecDepth 20000 in
set_option maxHeartbeats 4000000 in
theorem ones_any (x : Nat) (hx : x < 256) (w : World) :
    Calls Tryd.prog 71 #[.int .u64 x] w fun e w' => e = .returned (.int .i64 (szS 8 x : Nat)) ∧ w = w' := by
  go_enter Tryd.func71, Tryd.ntmps71
  go_wp2_with (go_at_call 102; refine (ones64_any x hx _).mono ?_; rintro e w1 ⟨rfl, rfl⟩)
  go_ret
  exact ⟨rfl, rfl⟩

/-- The table of bits.TrailingZeros64, as its initialiser lays it. -/
def dbTab : List Int := [0, 1, 56, 2, 57, 49, 28, 3, 61, 58, 42, 50, 38, 29, 17, 4, 62, 47, 59, 36, 45, 43, 51, 22, 53, 39, 33, 30, 24, 18, 12, 5,
  63, 55, 48, 27, 60, 41, 37, 16, 46, 35, 44, 21, 52, 32, 23, 11, 54, 26, 40, 15, 34, 20, 31, 10, 25, 14, 19, 9, 13, 8, 7, 6]
def HasTab (w : World) : Prop := Lib.TabIs Tryd.prog w "math/bits.deBruijn64tab" .u8 dbTab
theorem gTab : Tryd.prog.globalNamed "math/bits.deBruijn64tab" = some 1 := by kernel_rfl
theorem HasTab.below {w w' : World} (h : HasTab w) (hb : Below w.heap.size w w') : HasTab w' := Joins.tab_stays gTab h hb (Nat.le_refl _)
theorem HasTab.cells {w : World} (h : HasTab w) : ∀ i, i < 64 → w.cell? ⟨1, i, none⟩ = some (.int .u8 (dbTab.getD i 0)) := fun i hi => Lib.TabIs.cell h gTab i hi

set_option maxRecDepth 20000 in
set_option maxHeartbeats 4000000 in
theorem tz64_any (t : Nat) (ht : t < 8) (w : World) (h : HasTab w) :
    Calls Tryd.prog 104 #[.int .u64 ((2 : Int) ^ t)] w fun e w' => e = .returned (.int .i64 t) ∧ Below w.heap.size w w' := by
  have hc := h.cells
  have h8 : t = 0 ∨ t = 1 ∨ t = 2 ∨ t = 3 ∨ t = 4 ∨ t = 5 ∨ t = 6 ∨ t = 7 := by omega
  rcases h8 with rfl | rfl | rfl | rfl | rfl | rfl | rfl | rfl
  all_goals
    go_enter Tryd.func104, Tryd.ntmps104
    go_wp2
    go_ret
    exact ⟨congrArg (fun t => Ending.returned (Value.int IntKind.i64 t)) (by decide +kernel), Below.refl _ _⟩

set_option maxRecDepth 20000 in
set_option maxHeartbeats 4000000 in
theorem tz_any (t : Nat) (ht : t < 8) (w : World) (h : HasTab w) :
    Calls Tryd.prog 75 #[.int .u64 ((2 : Int) ^ t)] w fun e w' => e = .returned (.int .i64 t) ∧ Below w.heap.size w w' := by
  go_enter Tryd.func75, Tryd.ntmps75
  go_wp2_with (go_at_call 104; refine (tz64_any t ht _ h).mono ?_; rintro e w1 ⟨rfl, hb⟩)
  go_ret
  exact ⟨rfl, hb⟩

theorem tz_nat (x t : Nat) (hx : x = 2 ^ t) (ht : t < 8) (w : World) (h : HasTab w) :
    Calls Tryd.prog 75 #[.int .u64 x] w fun e w' => e = .returned (.int .i64 t) ∧ Below w.heap.size w w' := by
  subst hx
  have := tz_any t ht w h
  rwa [pow_cast] at this

theorem szS_more {n T : Nat} (hT : T < 2 ^ n) : ∀ k, szS (n + k) T = szS n T
  | 0 => rfl
  | k + 1 => by
    have ih := szS_more hT k
    have h0 : T.testBit (n + k) = false := Nat.testBit_lt_two_pow (Nat.lt_of_lt_of_le hT (Nat.pow_le_pow_right (by omega) (by omega)))
    show szS (n + k + 1) T = _
    rw [← ih]
    unfold szS
    rw [List.range_succ, List.countP_append]
    simp [h0]
theorem szS_eight {n T : Nat} (hn : n ≤ 8) (hT : T < 2 ^ n) : szS 8 T = szS n T := by
  have := szS_more hT (8 - n)
  rwa [show n + (8 - n) = 8 by omega] at this
theorem one_bit : ∀ T, T < 256 → szS 8 T = 1 → ∃ t, t < 8 ∧ T = 2 ^ t := by decide +kernel

theorem Strip.pow {r : Nat → Nat} {n S : Nat} {L : List Nat} {T : Nat} (h : Strip r n S L T) (hS : S < 2 ^ n) : T < 2 ^ n := by
  induction h with
  | start => exact hS
  | step h0 h1 ih =>
    apply Nat.lt_pow_two_of_testBit
    intro i hi
    rw [testBit_off, Nat.testBit_lt_two_pow (Nat.lt_of_lt_of_le ih (Nat.pow_le_pow_right (by omega) hi))]
    rfl

def ApartPost (n : Nat) (r : Nat → Nat) (w : World) (e : Ending) (w' : World) : Prop :=
  ∃ L T, Strip r n (2 ^ n - 1) L T ∧ leastC r n T = none ∧ Below w.heap.size w w' ∧
    (szS n T = 1 → ∃ v t, T = 2 ^ t ∧ e = .returned (.tuple #[v, .bool true]) ∧ NatsOwn w' w.heap.size v (L ++ [t])) ∧ (szS n T ≠ 1 → e = .returned (.tuple #[.slice none 0 0, .bool false]))

set_option maxRecDepth 20000 in
set_option maxHeartbeats 4000000 in
theorem apart_any {n b : Nat} {r : Nat → Nat} {w : World} (T : TownAt w n b r) (hn8 : n ≤ 8) (cap : Nat) (hTab : HasTab w) :
    Calls Tryd.prog 60 #[townV n b cap] w (ApartPost n r w) := by
  obtain ⟨i0, hi0, hz1, hz2, hz3⟩ := info_parts info_int
  obtain ⟨w0, hw0, HB0, TB, hs⟩ := town_box T cap
  have hall : 2 ^ n - 1 < 2 ^ n := by have := Nat.one_le_two_pow (n := n); omega
  have h256 : 2 ^ n ≤ 256 := pow_le16 hn8
  have HW := Lib.hid hw0
  have c0' := TB.c0
  rw [hw0] at c0'
  clear hw0
  have HT0 := Lib.hid TB
  have HB00 := Lib.hid HB0
  have HTab := Lib.hid (hTab.below HB0)
  clear TB HB0 hTab
  go_enter Tryd.func60, Tryd.ntmps60
  go_wp2_with fail
  rw [← HW.out]
  clear HW c0'
  obtain ⟨d0, d1, dr, dB0, db0⟩ := HT0.out.facts
  go_wp2_with fail
  go_at_call 93
  refine (strip_any HT0.out.at_ cap).mono ?_
  rintro e w1 ⟨v, L, S, rfl, ho, hst, hno, hb⟩
  have hS := hst.pow hall
  have hS256 : S < 256 := by omega
  have hlen := hst.len
  have h8 := szS_eight hn8 hS
  have HO := Lib.hid ho
  have HST := Lib.hid hst
  have HNO := Lib.hid hno
  have HB1 := Lib.hid (HB00.out.trans (hb.mono HB00.out.size))
  have HTab1 := Lib.hid (HTab.out.below hb)
  have hsz1 := hb.size
  clear ho hst hno hb d0 d1 dr dB0 db0
  have hu : IntKind.u64.wrap (S : Int) = S := by
    have h2 : IntKind.u64.wrap (S : Int) = (S : Int) % 18446744073709551616 := rfl
    omega
  by_cases h1 : szS n S = 1
  · have hne : (((szS 8 S : Nat) : Int) != 1) = false := by rw [h8, h1]; rfl
    obtain ⟨t, ht, hSt⟩ := one_bit S hS256 (by rw [h8]; exact h1)
    have HC := Lib.hid hSt
    clear hSt
    go_wp2_with (first | (go_at_call 71; refine (ones_any _ hS256 _).mono ?_; rintro e w2 ⟨rfl, rfl⟩) | (go_at_call 75; refine (tz_nat S t HC.out ht _ HTab1.out).mono ?_; rintro e w2 ⟨rfl, hb2⟩; have HB2 := Lib.hid hb2; clear hb2) | (at_builtin; refine wpList_append_own _ rfl _ _ 22 rfl w0.heap.size 3 i0 (.int .i64 0) 1 8 Tryd.underlying22 hi0 hz1 hz2 hz3 rfl (by decide) _ _ _ rfl (World.ownsRow.alloc (ownsRow_below HO.out HB2.out (Nat.le_refl _)) _) ⟨_, 0, none⟩ 1 1 [.int .i64 t] rfl rfl ?c1 ?c2 ?c3 ?c4 ?c5 ?_))
    case c1 => exact cells_new _ _ _
    case c2 => intro u hu; simp at hu; subst hu; rfl
    case c3 => unfold maxLen; omega
    case c4 => omega
    case c5 => simp; have := HB1.out.size; have := HB2.out.size; omega
    intro v' w9 hown1 hg1 _
    have HO1 := Lib.hid hown1
    have HG1 := Lib.hid hg1
    clear hown1 hg1
    go_wp2_with fail
    go_ret2
    have O1 := ownsRow_below HO.out HB2.out (Nat.le_refl _)
    have B9 := HB1.out.trans (HB2.out.mono HB1.out.size)
    have hs0 := HB00.out.size
    refine ⟨L, S, HST.out, HNO.out, (B9.alloc B9.size _).grown HG1.out (by simp; have := B9.size; omega) (fun k hk => Nat.le_trans hs0 (World.ownsRow.lt O1 k hk).1), fun _ => ⟨v', t, HC.out, rfl, ?_⟩, fun h => absurd h1 h⟩
    have h3 := HO1.out
    unfold NatsOwn
    rw [List.length_append, List.map_append]
    exact ownsRow_base h3 hs0
  · have hne : (((szS 8 S : Nat) : Int) != 1) = true := by rw [h8]; simp; omega
    go_wp2_with (go_at_call 71; refine (ones_any _ hS256 _).mono ?_; rintro e w2 ⟨rfl, rfl⟩)
    go_ret2
    exact ⟨L, S, HST.out, HNO.out, HB1.out, fun h => absurd h h1, fun _ => rfl⟩

def ApartOut (n : Nat) (z : Nat → Int) (w : World) (e : Ending) (w' : World) : Prop :=
  Below w.heap.size w w' ∧ (townB n z = true → ∃ L T, Strip (reachOf z) n (2 ^ n - 1) L T ∧ leastC (reachOf z) n T = none ∧
    (szS n T = 1 → ∃ v t, T = 2 ^ t ∧ e = .returned (.tuple #[v, .int .i64 0]) ∧ NatsOwn w' w.heap.size v (L ++ [t])) ∧ (szS n T ≠ 1 → e = .returned (.tuple #[.slice none 0 0, .int .i64 5]))) ∧
    (¬ townB n z = true → e = .returned (.tuple #[.slice none 0 0, .int .i64 2]))

set_option maxRecDepth 20000 in
set_option maxHeartbeats 2000000 in
theorem Apart_any (n : Nat) (z : Nat → Int) (a : Option Addr) (cap : Nat) (w : World) (hT : IntsAt w a n z) (hTab : HasTab w) :
    Calls Tryd.prog 36 #[.slice a n cap] w (ApartOut n z w) := by
  have HT := Lib.hid hT
  have HTab := Lib.hid hTab
  clear hT hTab
  cases ht : townB n z
  · have HTB := Lib.hid ht
    clear ht
    go_enter Tryd.func36, Tryd.ntmps36
    go_wp2_with (go_at_call 59; refine (newTown_any HT.out _).mono ?_; rintro e w1 ⟨hb1, _, hno⟩; obtain rfl := hno HTB.out; have HB1 := Lib.hid hb1; clear hb1 hno)
    go_ret2
    exact ⟨HB1.out.alloc HB1.out.size _, fun h => by (rw [HTB.out] at h; cases h), fun _ => rfl⟩
  · obtain ⟨hn1, hn8⟩ := townB_le ht
    have HTB := Lib.hid ht
    clear ht
    go_enter Tryd.func36, Tryd.ntmps36
    go_wp2_with fail
    go_at_call 59
    refine (newTown_any HT.out _).mono ?_
    rintro e w1 ⟨hb1, hyes, _⟩
    obtain ⟨b, hbb, hta, rfl⟩ := hyes HTB.out
    have HB1 := Lib.hid hb1
    have HTA := Lib.hid hta
    have HTab1 := Lib.hid ((HTab.out.below hb1).below (Below.alloc (Below.refl _ _) (Nat.le_refl _) (.cells #[.int .i64 n, .slice (some ⟨b, 0, none⟩) n n] 78)))
    clear hb1 hta hyes
    have B1 := HB1.out.alloc HB1.out.size (.cells #[.int .i64 n, .slice (some ⟨b, 0, none⟩) n n] 78)
    have hs1 := HB1.out.size
    have HBB1 := Lib.hid B1
    clear B1
    go_wp2_with fail
    go_at_call 60
    refine (apart_any (HTA.out.below (Below.alloc (Below.refl _ _) (Nat.le_refl _) _) HTA.out.lt) hn8 n HTab1.out).mono ?_
    rintro e w2 ⟨L, T, hst, hno, hb2, hyes, hnot⟩
    have HB2 := Lib.hid hb2
    have HST := Lib.hid hst
    have HNO := Lib.hid hno
    clear hb2 hst hno
    by_cases h1 : szS n T = 1
    · obtain ⟨v, t, hTt, rfl, ho⟩ := hyes h1
      have HO := Lib.hid ho
      clear hyes hnot ho
      go_wp2_with fail
      go_ret2
      exact ⟨HBB1.out.trans (HB2.out.mono HBB1.out.size), fun _ => ⟨L, T, HST.out, HNO.out, fun _ => ⟨v, t, hTt, rfl, ownsRow_base HO.out HBB1.out.size⟩, fun h => absurd h1 h⟩, fun h => absurd HTB.out h⟩
    · obtain rfl := hnot h1
      clear hyes hnot
      go_wp2_with fail
      go_ret2
      exact ⟨HBB1.out.trans (HB2.out.mono HBB1.out.size), fun _ => ⟨L, T, HST.out, HNO.out, fun h => absurd h h1, fun _ => rfl⟩, fun h => absurd HTB.out h⟩

end Go.Proofs.YtbkbliieappkdaaDoor.Ch
