/- The contracts of the program's isCorner, leastCorner, strip and Core. -/
import Derived.Test.YtbkbliieappkdaaDoorChC1r
namespace Go.Proofs.YtbkbliieappkdaaDoor.Ch
set_option linter.unusedSimpArgs false
set_option linter.unusedVariables false
open Go.RowKit Go.Maps
attribute [local go_sem] i64_bit toNat_eq_one toNat_ne_one toNat_eq_zero toNat_ne_zero i64_and i64_or i64_andNot i64_or_pow i64_andNot_pow

/-- Node v is a corner of a set: of the first m nodes one covers it. -/
def crnTo (r : Nat → Nat) (set v m : Nat) : Bool := set.testBit v && (List.range m).any fun u => set.testBit u && covB r u v set

theorem crnTo_succ (r : Nat → Nat) (set v m : Nat) : crnTo r set v (m + 1) = (crnTo r set v m || covP r set v m) := by
  unfold crnTo covP
  rw [List.range_succ, List.any_append]
  simp only [List.any_cons, List.any_nil, Bool.or_false]
  cases set.testBit v <;> simp

set_option maxRecDepth 20000 in
set_option maxHeartbeats 4000000 in
theorem isCorner_any {n b : Nat} {r : Nat → Nat} {w : World} (T : TownAt w n b r) (cap v set : Nat) (hv : v < n) (hset : set < 65536) :
    Calls Tryd.prog 116 #[townV n b cap, .int .i64 v, .int .i64 set] w fun e w' => e = .returned (.bool (crnTo r set v n)) ∧ Below w.heap.size w w' := by
  obtain ⟨w0, hw0, HB0, TB, hs⟩ := town_box T cap
  have hn := T.small
  have HW := Lib.hid hw0
  have c0' := TB.c0
  rw [hw0] at c0'
  clear hw0
  cases h1 : set.testBit v
  · go_enter Tryd.func116, Tryd.ntmps116
    go_wp2_with (go_at_call 90; refine (has_any _ _ _ hset (by omega)).mono ?_; rintro e w1 ⟨rfl, rfl⟩)
    rw [← HW.out]
    clear HW c0'
    go_ret
    exact ⟨by unfold crnTo; rw [h1]; rfl, HB0⟩
  · go_enter Tryd.func116, Tryd.ntmps116
    go_wp2_with (go_at_call 90; refine (has_any _ _ _ hset (by omega)).mono ?_; rintro e w1 ⟨rfl, rfl⟩)
    rw [← HW.out]
    clear HW c0'
    go_loopw [14] (fun i wr => ∃ k : Nat, k ≤ n ∧ i = .int .i64 k ∧ crnTo r set v k = false ∧ TownBox wr w.heap.size n b cap r ∧ Below w.heap.size w wr) (fun i _ => n - (intOf i).toNat)
    case atStart => exact ⟨0, Nat.zero_le _, rfl, by simp [crnTo], TB, HB0⟩
    case round =>
      clear TB HB0 hs w0
      obtain ⟨k, hk, rfl, hno, htb, hbel⟩ := hrel
      obtain ⟨d0, d1, dr, dB0, db0⟩ := htb.facts
      have HB := Lib.hid hbel
      have HT := Lib.hid htb
      have HNO := Lib.hid hno
      clear hbel htb hno
      by_cases hlt : k < n
      · have HST := Lib.hid (crnTo_succ r set v k)
        have hk64 : k < 64 := by omega
        cases h2 : set.testBit k
        · go_wp2_with (go_at_call 90; refine (has_any _ _ _ hset (by omega)).mono ?_; rintro e w1 ⟨rfl, rfl⟩)
          go_roundw
          case rel => exact ⟨k + 1, by omega, by go_num, by rw [HST.out, HNO.out]; unfold covP; rw [h2]; simp, HT.out, HB.out⟩
          case measure => simp [intOf]; omega
        · cases hq : covB r k v set
          · have HQ := Lib.hid hq
            clear hq
            go_wp2_with (first | (go_at_call 90; refine (has_any _ _ _ hset (by omega)).mono ?_; rintro e w1 ⟨rfl, rfl⟩) | (go_at_call 120; refine (covers_any HT.out.at_ cap k v set hlt hv hset).mono ?_; rintro e w1 ⟨rfl, hb⟩; rw [HQ.out]; have HB1 := Lib.hid hb; clear hb))
            go_roundw
            case rel => exact ⟨k + 1, by omega, by go_num, by rw [HST.out, HNO.out]; unfold covP; rw [HQ.out]; simp, HT.out.below HB1.out, HB.out.trans (HB1.out.mono HB.out.size)⟩
            case measure => simp [intOf]; omega
          · have HQ := Lib.hid hq
            clear hq
            go_wp2_with (first | (go_at_call 90; refine (has_any _ _ _ hset (by omega)).mono ?_; rintro e w1 ⟨rfl, rfl⟩) | (go_at_call 120; refine (covers_any HT.out.at_ cap k v set hlt hv hset).mono ?_; rintro e w1 ⟨rfl, hb⟩; rw [HQ.out]; have HB1 := Lib.hid hb; clear hb))
            go_ret
            refine ⟨?_, HB.out.trans (HB1.out.mono HB.out.size)⟩
            have : crnTo r set v n = true := by
              unfold crnTo
              rw [h1, Bool.true_and, List.any_eq_true]
              exact ⟨k, List.mem_range.2 hlt, by rw [h2, HQ.out]; rfl⟩
            rw [this]; rfl
      · have hke : k = n := by omega
        subst hke
        go_wp2_with fail
        go_ret
        exact ⟨by rw [HNO.out]; rfl, HB.out⟩

/-- The least corner of a set. -/
def leastC (r : Nat → Nat) (n set : Nat) : Option Nat := (List.range n).find? fun v => crnTo r set v n
def leastV : Option Nat → Value
  | some v => .tuple #[.int .i64 v, .bool true]
  | none => .tuple #[.int .i64 0, .bool false]

theorem find_range {p : Nat → Bool} {n k : Nat} (hk : k < n) (hp : p k = true) (hno : ∀ j, j < k → p j = false) : (List.range n).find? p = some k := by
  rw [List.find?_range_eq_some]
  exact ⟨hp, List.mem_range.2 hk, fun j hj => by simp [hno j hj]⟩

set_option maxRecDepth 20000 in
set_option maxHeartbeats 4000000 in
theorem leastCorner_any {n b : Nat} {r : Nat → Nat} {w : World} (T : TownAt w n b r) (cap set : Nat) (hset : set < 65536) :
    Calls Tryd.prog 112 #[townV n b cap, .int .i64 set] w fun e w' => e = .returned (leastV (leastC r n set)) ∧ Below w.heap.size w w' := by
  obtain ⟨w0, hw0, HB0, TB, hs⟩ := town_box T cap
  have hn := T.small
  have HW := Lib.hid hw0
  have c0' := TB.c0
  rw [hw0] at c0'
  clear hw0
  go_enter Tryd.func112, Tryd.ntmps112
  go_wp2_with fail
  rw [← HW.out]
  clear HW c0'
  go_loopw [9] (fun i wr => ∃ k : Nat, k ≤ n ∧ i = .int .i64 k ∧ (∀ j, j < k → crnTo r set j n = false) ∧ TownBox wr w.heap.size n b cap r ∧ Below w.heap.size w wr) (fun i _ => n - (intOf i).toNat)
  case atStart => exact ⟨0, Nat.zero_le _, rfl, fun j hj => by omega, TB, HB0⟩
  case round =>
    clear TB HB0 hs w0
    obtain ⟨k, hk, rfl, hno, htb, hbel⟩ := hrel
    obtain ⟨d0, d1, dr, dB0, db0⟩ := htb.facts
    have HB := Lib.hid hbel
    have HT := Lib.hid htb
    have HNO := Lib.hid hno
    clear hbel htb hno
    by_cases hlt : k < n
    · cases hq : crnTo r set k n
      · have HQ := Lib.hid hq
        clear hq
        go_wp2_with (go_at_call 116; refine (isCorner_any HT.out.at_ cap k set hlt hset).mono ?_; rintro e w1 ⟨rfl, hb⟩; rw [HQ.out]; have HB1 := Lib.hid hb; clear hb)
        go_roundw
        case rel =>
          refine ⟨k + 1, by omega, by go_num, fun j hj => ?_, HT.out.below HB1.out, HB.out.trans (HB1.out.mono HB.out.size)⟩
          rcases Nat.lt_or_ge j k with h | h
          · exact HNO.out j h
          · rw [show j = k by omega]; exact HQ.out
        case measure => simp [intOf]; omega
      · have HQ := Lib.hid hq
        clear hq
        go_wp2_with (go_at_call 116; refine (isCorner_any HT.out.at_ cap k set hlt hset).mono ?_; rintro e w1 ⟨rfl, hb⟩; rw [HQ.out]; have HB1 := Lib.hid hb; clear hb)
        go_ret2
        refine ⟨?_, HB.out.trans (HB1.out.mono HB.out.size)⟩
        unfold leastC
        rw [find_range hlt HQ.out HNO.out]
        rfl
    · have hke : k = n := by omega
      subst hke
      go_wp2_with fail
      go_ret2
      refine ⟨?_, HB.out⟩
      have : leastC r k set = none := by
        unfold leastC
        rw [List.find?_range_eq_none]
        intro j hj
        simp [HNO.out j hj]
      rw [this]
      rfl

/-- What strip has taken from a set, in order, and what is left. -/
inductive Strip (r : Nat → Nat) (n S : Nat) : List Nat → Nat → Prop
  | start : Strip r n S [] S
  | step {L : List Nat} {T v : Nat} : Strip r n S L T → leastC r n T = some v → Strip r n S (L ++ [v]) (diff T (2 ^ v))

theorem leastC_some {r : Nat → Nat} {n set v : Nat} (h : leastC r n set = some v) : v < n ∧ crnTo r set v n = true := by
  unfold leastC at h
  have h1 := List.find?_some h
  exact ⟨List.mem_range.1 (List.mem_of_find?_eq_some h), h1⟩
theorem crnTo_in {r : Nat → Nat} {n set v : Nat} (h : crnTo r set v n = true) : set.testBit v = true := by
  unfold crnTo at h
  rw [Bool.and_eq_true] at h
  exact h.1
/-- How many of the first n nodes a set has. -/
def szS (n T : Nat) : Nat := (List.range n).countP fun v => T.testBit v
theorem testBit_off {T v j : Nat} : (diff T (2 ^ v)).testBit j = (T.testBit j && !decide (v = j)) := by
  rw [testBit_diff, Nat.testBit_two_pow]
theorem szS_le (n T : Nat) : szS n T ≤ n := by
  have := List.countP_le_length (p := fun v => T.testBit v) (l := List.range n)
  rwa [List.length_range] at this
theorem szS_lt {n T v : Nat} (hv : v < n) (h : T.testBit v = true) : szS n (diff T (2 ^ v)) < szS n T := by
  unfold szS
  refine countP_lt (fun j => T.testBit j) (fun j => (diff T (2 ^ v)).testBit j) _ v (List.mem_range.2 hv) h (by simp [testBit_off]) (fun b hb => ?_)
  simp only [testBit_off, Bool.and_eq_true] at hb
  exact hb.1

theorem Strip.len {r : Nat → Nat} {n S : Nat} {L : List Nat} {T : Nat} (h : Strip r n S L T) : L.length + szS n T ≤ n := by
  induction h with
  | start => simp [szS_le]
  | step h0 h1 ih =>
    obtain ⟨h2, h3⟩ := leastC_some h1
    have := szS_lt h2 (crnTo_in h3)
    rw [List.length_append, List.length_singleton]
    omega
theorem Strip.lt {r : Nat → Nat} {n S : Nat} {L : List Nat} {T : Nat} (h : Strip r n S L T) (hS : S < 65536) : T < 65536 := by
  induction h with
  | start => exact hS
  | step h0 h1 ih => exact diff_lt ih

/-- A slice of numbers of one's own. -/
def NatsOwn (w : World) (base : Nat) (v : Value) (L : List Nat) : Prop := w.ownsRow base 3 1 v L.length (L.map fun (x : Nat) => Value.int .i64 x)

def StripPost (n : Nat) (r : Nat → Nat) (w : World) (e : Ending) (w' : World) : Prop :=
  ∃ v L T, e = .returned (.tuple #[v, .int .i64 (T : Nat)]) ∧ NatsOwn w' w.heap.size v L ∧ Strip r n (2 ^ n - 1) L T ∧ leastC r n T = none ∧ Below w.heap.size w w'

set_option maxRecDepth 20000 in
set_option maxHeartbeats 4000000 in
theorem strip_any {n b : Nat} {r : Nat → Nat} {w : World} (T : TownAt w n b r) (cap : Nat) :
    Calls Tryd.prog 93 #[townV n b cap] w (StripPost n r w) := by
  obtain ⟨i0, hi0, hz1, hz2, hz3⟩ := info_parts info_int
  obtain ⟨w0, hw0, HB0, TB, hs⟩ := town_box T cap
  have hn := T.small
  have hpow : ((2 : Int) ^ n - 1) = ((2 ^ n - 1 : Nat) : Int) := by rw [pow_cast]; have := Nat.one_le_two_pow (n := n); omega
  have hall : 2 ^ n - 1 < 65536 := by have := pow_lt16 hn; omega
  have HW := Lib.hid hw0
  have c0' := TB.c0
  rw [hw0] at c0'
  clear hw0
  have HT0 := Lib.hid TB
  have HB00 := Lib.hid HB0
  clear TB HB0
  go_enter Tryd.func93, Tryd.ntmps93
  go_wp2_with fail
  rw [← HW.out]
  clear HW c0'
  obtain ⟨d0, d1, dr, dB0, db0⟩ := HT0.out.facts
  go_wp2_with (go_at_call 111; refine (all_any _ _ _ _ hn).mono ?_; rintro e w1 ⟨rfl, hb⟩; rw [hpow]; have HB1 := Lib.hid hb; clear hb)
  have HT1 := Lib.hid (HT0.out.below HB1.out)
  have HBS1 := Lib.hid (HB00.out.trans (HB1.out.mono HB00.out.size))
  clear HB1 HB00 HT0 d0 d1 dr dB0 db0
  go_loopw [4, 5] (fun v t wr => ∃ L S, t = .int .i64 (S : Nat) ∧ NatsOwn wr (w.heap.size + 1) v L ∧ Strip r n (2 ^ n - 1) L S ∧ TownBox wr w.heap.size n b cap r ∧ Below w.heap.size w wr) (fun _ t _ => szS n (intOf t).toNat)
  case atStart => exact ⟨[], 2 ^ n - 1, rfl, ⟨rfl, Or.inl ⟨rfl, rfl⟩⟩, .start, HT1.out, HBS1.out⟩
  case round =>
    clear HT1 HBS1
    obtain ⟨L, S, rfl, hown, hst, htb, hbel⟩ := hrel
    obtain ⟨d0, d1, dr, dB0, db0⟩ := htb.facts
    have HO := Lib.hid hown
    have HB := Lib.hid hbel
    have HT := Lib.hid htb
    have HST := Lib.hid hst
    have hS := hst.lt hall
    have hlen := hst.len
    clear hbel htb hst hown
    cases hq : leastC r n S with
    | none =>
      have HQ := Lib.hid hq
      clear hq
      go_wp2_with (go_at_call 112; refine (leastCorner_any HT.out.at_ cap S hS).mono ?_; rintro e w1 ⟨rfl, hb⟩; rw [HQ.out]; unfold leastV; have HB1 := Lib.hid hb; clear hb)
      go_ret2
      exact ⟨_, L, S, rfl, ownsRow_base (ownsRow_below HO.out HB1.out (Nat.le_refl _)) (Nat.le_succ _), HST.out, HQ.out, HB.out.trans (HB1.out.mono HB.out.size)⟩
    | some x =>
      obtain ⟨hx, hcr⟩ := leastC_some hq
      have HQ := Lib.hid hq
      have HCR := Lib.hid hcr
      have hx64 : x < 64 := by omega
      have hx16 : x < 16 := by omega
      have hpw : wrap64 ((2 : Int) ^ x) = 2 ^ x := by have := pow_bd x hx16; exact IntWalk.wrap64_in _ ⟨by omega, by omega⟩
      clear hq hcr
      go_wp2_with (first | (go_at_call 112; refine (leastCorner_any HT.out.at_ cap S hS).mono ?_; rintro e w1 ⟨rfl, hb⟩; rw [HQ.out]; unfold leastV; have HB1 := Lib.hid hb; clear hb) | (at_builtin; refine wpList_append_own _ rfl _ _ 22 rfl (w.heap.size + 1) 3 i0 (.int .i64 0) 1 8 Tryd.underlying22 hi0 hz1 hz2 hz3 rfl (by decide) _ _ _ rfl (World.ownsRow.alloc (ownsRow_below HO.out HB1.out (Nat.le_refl _)) _) ⟨_, 0, none⟩ 1 1 [.int .i64 x] rfl rfl ?c1 ?c2 ?c3 ?c4 ?c5 ?_))
      case c1 => exact cells_new _ _ _
      case c2 => intro u hu; simp at hu; subst hu; rfl
      case c3 => unfold maxLen; omega
      case c4 => omega
      case c5 => simp; have := HB.out.size; have := HB1.out.size; omega
      intro v' w9 hown1 hg1 _
      have HO1 := Lib.hid hown1
      have HG1 := Lib.hid hg1
      clear hown1 hg1
      go_wp2_with fail
      go_roundw
      case rel =>
        have O1 := ownsRow_below HO.out HB1.out (Nat.le_refl _)
        have B9 := HB.out.trans (HB1.out.mono HB.out.size)
        refine ⟨L ++ [x], diff S (2 ^ x), rfl, ?_, HST.out.step HQ.out, ?_, (B9.alloc B9.size _).grown HG1.out (by simp; have := B9.size; omega) (fun k hk => Nat.le_of_succ_le (World.ownsRow.lt O1 k hk).1)⟩
        · have h3 := HO1.out
          unfold NatsOwn
          rw [List.length_append, List.map_append]
          exact h3
        · have TB1 := HT.out.below HB1.out
          have TB2 := TB1.below (Below.alloc (Below.refl _ _) (Nat.le_refl _) (.cells #[.int .i64 x] 3))
          exact TB2.grown HG1.out (not_own O1 (by have := T.lt; omega)) (not_own O1 (by omega))
      case measure => simpa [intOf] using szS_lt hx (crnTo_in HCR.out)

def CorePost (n : Nat) (z : Nat → Int) (w : World) (e : Ending) (w' : World) : Prop :=
  Below w.heap.size w w' ∧ (townB n z = true → ∃ L T, e = .returned (.tuple #[.int .i64 (T : Nat), .int .i64 0]) ∧ Strip (reachOf z) n (2 ^ n - 1) L T ∧ leastC (reachOf z) n T = none) ∧
    (¬ townB n z = true → e = .returned (.tuple #[.int .i64 0, .int .i64 2]))

end Go.Proofs.YtbkbliieappkdaaDoor.Ch
