/- The contracts of package width's isPart, widthOf, hasCycle and isTree. -/
import Derived.Test.YtgkpogaahndmoaaDoorWdW12
namespace Go.Proofs.YtgkpogaahndmoaaDoor.Wd
set_option linter.unusedSimpArgs false
set_option linter.unusedVariables false
open Go.RowKit Go.Maps
attribute [local go_sem] i64_bit toNat_eq_one toNat_ne_one toNat_eq_zero toNat_ne_zero i64_and i64_or i64_andNot i64_or_pow i64_andNot_pow

abbrev treeV (ba : Option Addr) (m ca : Nat) (pa : Option Addr) (q cb : Nat) : Value := .agg #[.slice ba m ca, .slice pa q cb]
/-- A tree of bags in memory, whatever its numbers are. -/
structure TreeAt (w : World) (ba pa : Option Addr) (m q : Nat) (z p : Nat → Int) : Prop where
  bags : IntsAt w ba m z
  pars : IntsAt w pa q p
theorem TreeAt.below {w w' : World} {ba pa : Option Addr} {m q : Nat} {z p : Nat → Int} (h : TreeAt w ba pa m q z p) (hb : Below w.heap.size w w') : TreeAt w' ba pa m q z p := ⟨h.bags.below hb, h.pars.below hb⟩

set_option maxRecDepth 20000 in
set_option maxHeartbeats 1000000 in
theorem isPart_any (x y : Nat) (hx : x < 65536) (hy : y < 65536) (w : World) :
    Calls Tryd.prog 93 #[.int .i64 x, .int .i64 y] w fun e w' => e = .returned (.bool (diff x y == 0)) ∧ w = w' := by
  have hq := cast_beq0 (diff x y)
  have hd := diff_lt (b := y) hx
  go_enter Tryd.func93, Tryd.ntmps93
  go_wp2
  go_ret
  exact ⟨by rw [← hq]; rfl, rfl⟩

/-- Where one comes to from a bag by so many steps to parents; -1: beyond a root. -/
def upTo (p : Nat → Int) (i : Int) : Nat → Int
  | 0 => i
  | k + 1 => if upTo p i k = -1 then -1 else p (upTo p i k).toNat
theorem upTo_bd {p : Nat → Int} {q : Nat} (hp : ∀ i, i < q → -1 ≤ p i ∧ p i < q) {i : Nat} (hi : i < q) : ∀ k, -1 ≤ upTo p i k ∧ upTo p i k < q := by
  intro k
  induction k with
  | zero => show -1 ≤ (i : Int) ∧ (i : Int) < q; omega
  | succ k ih =>
    unfold upTo
    split
    · omega
    · exact hp _ (by omega)
def cycB (q : Nat) (p : Nat → Int) : Bool := (List.range q).any fun i => upTo p (i : Nat) q != -1
theorem cycB_yes {q i : Nat} {p : Nat → Int} (hi : i < q) (h : ¬ upTo p (i : Nat) q = -1) : cycB q p = true := by
  unfold cycB
  rw [List.any_eq_true]
  exact ⟨i, List.mem_range.2 hi, by simpa using h⟩
theorem cycB_no {q : Nat} {p : Nat → Int} (h : ∀ i : Nat, i < q → upTo p i q = -1) : cycB q p = false := by
  rw [Bool.eq_false_iff]
  intro ht
  unfold cycB at ht
  rw [List.any_eq_true] at ht
  obtain ⟨i, hi, hb⟩ := ht
  rw [h i (List.mem_range.1 hi)] at hb
  simp at hb

set_option maxRecDepth 20000 in
set_option maxHeartbeats 2000000 in
theorem hasCycle_any {q : Nat} {p : Nat → Int} {a : Option Addr} (cap : Nat) {w : World} (hI : IntsAt w a q p) (hp : ∀ i, i < q → -1 ≤ p i ∧ p i < q) :
    Calls Tryd.prog 105 #[.slice a q cap] w fun e w' => e = .returned (.bool (cycB q p)) ∧ w = w' := by
  have hml := hI.1
  unfold maxLen at hml
  have HI := Lib.hid hI
  have HP := Lib.hid hp
  clear hI hp
  go_enter Tryd.func105, Tryd.ntmps105
  go_wp2_with fail
  go_loopw [7] (fun i wr => ∃ k : Nat, k ≤ q ∧ i = .int .i64 k ∧ (∀ i : Nat, i < k → upTo p i q = -1) ∧ w = wr) (fun i _ => q - (intOf i).toNat)
  case atStart => exact ⟨0, Nat.zero_le _, rfl, by omega, rfl⟩
  case round =>
    obtain ⟨k, hk, rfl, hdone, rfl⟩ := hrel
    have HD := Lib.hid hdone
    clear hdone
    by_cases hlt : k < q
    · go_wp2_with fail
      go_loopw [4, 13] (fun c i wx => ∃ (j : Nat) (x : Int), j ≤ q ∧ i = .int .i64 j ∧ c = .int .i64 x ∧ x = upTo p k j ∧ w = wx) (fun _ i _ => q - (intOf i).toNat)
      case atStart => exact ⟨0, k, Nat.zero_le _, rfl, rfl, rfl, rfl⟩
      case round =>
        obtain ⟨j, x, hj, rfl, rfl, hx, rfl⟩ := hrel
        have HX := Lib.hid hx
        have hbd := upTo_bd HP.out hlt j
        rw [← hx] at hbd
        have HST : Hid (upTo p k (j + 1) = if upTo p k j = -1 then -1 else p (upTo p k j).toNat) := Lib.hid rfl
        rw [← hx] at HST
        clear hx
        by_cases hlj : j < q
        · by_cases hm : x = -1
          · have hq : (x != -1) = false := by simp [hm]
            have HM := Lib.hid hm
            clear hm
            go_wp2_with fail
            go_roundw
            case rel => exact ⟨j + 1, x, by omega, by go_num, rfl, by rw [HST.out, if_pos HM.out, HM.out], by trivial⟩
            case measure => simp [intOf]; omega
          · have hq : (x != -1) = true := by simpa using hm
            have HM := Lib.hid hm
            obtain ⟨s, rfl⟩ : ∃ s : Nat, x = s := ⟨x.toNat, by omega⟩
            have hs : s < q := by omega
            obtain ⟨b, off, rfl, hb, hc⟩ := HI.out.2 (by omega)
            have cs := hc s hs
            clear hc hm hbd
            go_wp2_with fail
            go_roundw
            case rel => exact ⟨j + 1, p s, by omega, by go_num, rfl, by rw [HST.out, if_neg HM.out, Int.toNat_natCast], by trivial⟩
            case measure => simp [intOf]; omega
        · have hje : j = q := by omega
          subst hje
          by_cases hm : x = -1
          · have hq : (x != -1) = false := by simp [hm]
            have HF : Hid (upTo p k j = -1) := Lib.hid (by rw [← HX.out]; exact hm)
            clear hm
            go_wp2_with fail
            go_roundw
            case rel => exact ⟨k + 1, by omega, by go_num, fun i hi => by rcases Nat.lt_succ_iff_lt_or_eq.1 hi with h | h; exact HD.out i h; rw [h]; exact HF.out, by trivial⟩
            case measure => simp [intOf]; omega
          · have hq : (x != -1) = true := by simpa using hm
            have HF := Lib.hid (cycB_yes hlt (p := p) (by rw [← HX.out]; exact hm))
            clear hm
            go_wp2_with fail
            go_ret
            exact ⟨by rw [HF.out]; rfl, rfl⟩
    · have hke : k = q := by omega
      subst hke
      have HF := Lib.hid (cycB_no HD.out)
      go_wp2_with fail
      go_ret
      exact ⟨by rw [HF.out]; rfl, rfl⟩

/-- The number of roots among the first bags. -/
def rootsTo (p : Nat → Int) : Nat → Nat
  | 0 => 0
  | k + 1 => if p k = -1 then rootsTo p k + 1 else rootsTo p k
theorem rootsTo_le (p : Nat → Int) : ∀ k, rootsTo p k ≤ k := by
  intro k
  induction k with
  | zero => exact Nat.le_refl _
  | succ k ih => unfold rootsTo; split <;> omega
def parB (m : Nat) (p : Nat → Int) : Bool := (List.range m).all fun i => decide (-1 ≤ p i ∧ p i < m)
/-- Whether parents make one tree of so many bags. -/
def treeB (m q : Nat) (p : Nat → Int) : Bool := decide (1 ≤ m) && decide (m ≤ 30) && decide (q = m) && parB m p && decide (rootsTo p m = 1) && !cycB m p
theorem parB_bad {m i : Nat} {p : Nat → Int} (hi : i < m) (h : ¬ (-1 ≤ p i ∧ p i < m)) : parB m p = false := by
  rw [Bool.eq_false_iff]
  intro ht
  unfold parB at ht
  rw [List.all_eq_true] at ht
  exact h (of_decide_eq_true (ht i (List.mem_range.2 hi)))
theorem parB_good {m : Nat} {p : Nat → Int} (h : ∀ i, i < m → -1 ≤ p i ∧ p i < m) : parB m p = true := by
  unfold parB
  rw [List.all_eq_true]
  exact fun i hi => decide_eq_true (h i (List.mem_range.1 hi))
theorem treeB_size {m q : Nat} {p : Nat → Int} (h : ¬ (1 ≤ m ∧ m ≤ 30 ∧ q = m)) : treeB m q p = false := by
  unfold treeB
  by_cases h1 : 1 ≤ m
  · by_cases h2 : m ≤ 30
    · rw [decide_eq_false (p := q = m) (by omega)]; simp
    · rw [decide_eq_false (p := m ≤ 30) h2]; simp
  · rw [decide_eq_false (p := 1 ≤ m) h1]; simp
theorem treeB_is {m : Nat} {p : Nat → Int} (h1 : 1 ≤ m) (h2 : m ≤ 30) : treeB m m p = (parB m p && decide (rootsTo p m = 1) && !cycB m p) := by
  unfold treeB
  simp [h1, h2]

set_option maxRecDepth 20000 in
set_option maxHeartbeats 4000000 in
theorem isTree_any {m q : Nat} {z p : Nat → Int} {ba pa : Option Addr} (ca cb : Nat) {w : World} (T : TreeAt w ba pa m q z p) :
    Calls Tryd.prog 91 #[treeV ba m ca pa q cb] w fun e w' => e = .returned (.bool (treeB m q p)) ∧ Below w.heap.size w w' := by
  have hmb := T.bags.1
  have hmp := T.pars.1
  unfold maxLen at hmb hmp
  obtain ⟨w0, hw0, R0, HB0, hs0⟩ := new1 w 71 [.slice ba m ca, .slice pa q cb]
  have HT := Lib.hid (T.below HB0)
  have HW0 := Lib.hid hw0
  have HB := Lib.hid HB0
  have c0 := R0.cell (i := 0) rfl
  have c1 := R0.cell (i := 1) rfl
  have hl := R0.lt
  clear T hw0 R0 HB0
  by_cases hsz : 1 ≤ m ∧ m ≤ 30 ∧ q = m
  · obtain ⟨h1, h30, rfl⟩ := hsz
    have HTB := Lib.hid (treeB_is (p := p) h1 h30)
    go_enter Tryd.func91, Tryd.ntmps91
    go_wp2_with fail
    rw [← HW0.out]
    go_wp2_with fail
    go_loopw [4, 26] (fun c i wr => ∃ k : Nat, k ≤ q ∧ i = .int .i64 k ∧ c = .int .i64 (rootsTo p k : Nat) ∧ (∀ i, i < k → -1 ≤ p i ∧ p i < q) ∧ w0 = wr) (fun _ i _ => q - (intOf i).toNat)
    case atStart => exact ⟨0, Nat.zero_le _, rfl, rfl, by omega, rfl⟩
    case round =>
      obtain ⟨k, hk, rfl, rfl, hok, rfl⟩ := hrel
      have HOK := Lib.hid hok
      clear hok
      have hrt := rootsTo_le p k
      by_cases hlt : k < q
      · obtain ⟨b, off, rfl, hb, hc⟩ := HT.out.pars.2 (by omega)
        have ck := hc k hlt
        clear hc
        have HST : Hid (rootsTo p (k + 1) = if p k = -1 then rootsTo p k + 1 else rootsTo p k) := Lib.hid rfl
        have HBAD : Hid (¬ (-1 ≤ p k ∧ p k < q) → treeB q q p = false) := Lib.hid (fun h => by rw [HTB.out, parB_bad hlt h]; rfl)
        have HGD : Hid (-1 ≤ p k ∧ p k < q → ∀ i, i < k + 1 → -1 ≤ p i ∧ p i < q) := Lib.hid (fun h i hi => by
          rcases Nat.lt_succ_iff_lt_or_eq.1 hi with h1 | h1
          · exact HOK.out i h1
          · rw [h1]; exact h)
        generalize p k = x at *
        generalize rootsTo p k = rt at *
        by_cases hlo : x < -1
        · have HF := Lib.hid (HBAD.out (by omega))
          go_wp2_with fail
          go_ret
          exact ⟨by rw [HF.out]; rfl, HB.out⟩
        · by_cases hhi : x < q
          · have hlo' : -1 ≤ x := by omega
            have HG2 := Lib.hid (HGD.out ⟨hlo', hhi⟩)
            clear hlo
            by_cases hm : x = -1
            · have hq : (x == -1) = true := by simp [hm]
              have HM := Lib.hid hm
              clear hm
              go_wp2_with fail
              go_roundw
              case rel => exact ⟨k + 1, by omega, by go_num, by rw [HST.out, if_pos HM.out]; first | rfl | go_num, HG2.out, by trivial⟩
              case measure => simp [intOf]; omega
            · have hq : (x == -1) = false := by simpa using hm
              have HM := Lib.hid hm
              clear hm
              go_wp2_with fail
              go_roundw
              case rel => exact ⟨k + 1, by omega, by go_num, by rw [HST.out, if_neg HM.out], HG2.out, by trivial⟩
              case measure => simp [intOf]; omega
          · have HF := Lib.hid (HBAD.out (by omega))
            have hhi' : (q : Int) ≤ x := by omega
            clear hhi
            go_wp2_with fail
            go_ret
            exact ⟨by rw [HF.out]; rfl, HB.out⟩
      · have hke : k = q := by omega
        subst hke
        have HPB := Lib.hid (parB_good HOK.out)
        by_cases hr1 : rootsTo p k = 1
        · have hq : (((rootsTo p k : Nat) : Int) == 1) = true := by rw [hr1]; rfl
          have HF : Hid (treeB k k p = !cycB k p) := Lib.hid (by rw [HTB.out, HPB.out, decide_eq_true hr1]; rfl)
          clear hr1
          cases hcy : cycB k p
          all_goals
            go_wp2_with (go_at_call 105; refine (hasCycle_any cb HT.out.pars HOK.out).mono ?_; rintro e w2 ⟨rfl, rfl⟩; rw [hcy])
            go_ret
            exact ⟨by rw [HF.out, hcy]; rfl, HB.out⟩
        · have hq : (((rootsTo p k : Nat) : Int) == 1) = false := by simp; omega
          have HF : Hid (treeB k k p = false) := Lib.hid (by rw [HTB.out, HPB.out, decide_eq_false hr1]; rfl)
          clear hr1
          go_wp2_with fail
          go_ret
          exact ⟨by rw [HF.out]; rfl, HB.out⟩
  · have HF := Lib.hid (treeB_size (p := p) hsz)
    by_cases h1 : m < 1
    · clear hsz
      go_enter Tryd.func91, Tryd.ntmps91
      go_wp2_with fail
      rw [← HW0.out]
      go_wp2_with fail
      go_ret
      exact ⟨by rw [HF.out]; rfl, HB.out⟩
    · by_cases h2 : 30 < m
      · clear hsz h1
        go_enter Tryd.func91, Tryd.ntmps91
        go_wp2_with fail
        rw [← HW0.out]
        go_wp2_with fail
        go_ret
        exact ⟨by rw [HF.out]; rfl, HB.out⟩
      · have hq : ((q : Int) != (m : Int)) = true := by simp; omega
        have h1' : 1 ≤ m := by omega
        have h2' : m ≤ 30 := by omega
        clear hsz h1 h2
        go_enter Tryd.func91, Tryd.ntmps91
        go_wp2_with fail
        rw [← HW0.out]
        go_wp2_with fail
        go_ret
        exact ⟨by rw [HF.out]; rfl, HB.out⟩

end Go.Proofs.YtgkpogaahndmoaaDoor.Wd
