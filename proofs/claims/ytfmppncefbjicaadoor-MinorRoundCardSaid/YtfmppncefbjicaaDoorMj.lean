/- Package minor: the named graphs, of the program and of the reference; the walk of the law MinorNamed. -/
import Derived.Test.YtfmppncefbjicaaDoorMh
namespace Go.Proofs.YtfmppncefbjicaaDoor
set_option linter.unusedSimpArgs false
set_option linter.unusedVariables false
open Go.RowKit Go.Maps
attribute [local go_sem] i64_bit toNat_eq_one toNat_ne_one toNat_eq_zero toNat_ne_zero i64_and i64_or i64_andNot i64_or_pow i64_andNot_pow

def mkL (n : Nat) : List Nat := (List.range n).map fun _ => 0
theorem mkL_cells (n : Nat) : natC (mkL n) = (madeCells #[.int .i64 0] n).toList := by
  unfold natC mkL madeCells
  simp [Nat.mod_one]
theorem mkL_ok (n : Nat) : okL n (mkL n) := ⟨by simp [mkL], fun x hx => by
  unfold mkL at hx
  obtain ⟨_, _, rfl⟩ := List.mem_map.1 hx
  omega⟩
/-- The complete graph as the reference makes it. -/
def kRow (L : List Nat) (i : Nat) : Nat → List Nat
  | 0 => L
  | j + 1 => lnkL (kRow L i j) i j
def kAll (n : Nat) : Nat → List Nat
  | 0 => mkL n
  | i + 1 => kRow (kAll n i) i i
theorem kRow_ok {m i : Nat} {L : List Nat} (h : okL m L) (hi : i < 7) : ∀ j, j ≤ 7 → okL m (kRow L i j) := by
  intro j
  induction j with
  | zero => intro _; exact h
  | succ j ih => intro hj; exact lnkL_ok (ih (by omega)) hi (by omega)
theorem kAll_ok {n : Nat} (hn : n ≤ 6) : ∀ i, i ≤ n → okL n (kAll n i) := by
  intro i
  induction i with
  | zero => intro _; exact mkL_ok n
  | succ i ih => intro hi; exact kRow_ok (ih (by omega)) (by omega) i (by omega)
/-- The complete graph as the program makes it. -/
def cmpL (n k : Nat) : List Nat := (List.range n).map fun v => if v < k then diff (2 ^ n - 1) (2 ^ v) else 0
theorem cmpL_zero (n : Nat) : cmpL n 0 = mkL n := by unfold cmpL mkL; simp
theorem cmpL_set {n k : Nat} : (cmpL n k).set k (diff (2 ^ n - 1) (2 ^ k)) = cmpL n (k + 1) := by
  unfold cmpL
  apply List.ext_getElem
  · simp
  · intro i h1 h2
    simp only [List.length_set, List.length_map, List.length_range] at h1
    rw [List.getElem_set]
    by_cases h : k = i
    · subst h; rw [if_pos rfl]; simp
    · rw [if_neg h]
      simp only [List.getElem_map, List.getElem_range]
      by_cases h2 : i < k
      · rw [if_pos h2, if_pos (by omega)]
      · rw [if_neg h2, if_neg (by omega)]
theorem cmpL_ok {n : Nat} (hn : n ≤ 6) (k : Nat) : okL n (cmpL n k) := ⟨by simp [cmpL], fun x hx => by
  unfold cmpL at hx
  obtain ⟨v, _, rfl⟩ := List.mem_map.1 hx
  have h6 : 2 ^ n ≤ 2 ^ 6 := Nat.pow_le_pow_right (by omega) hn
  have := diff_le (2 ^ n - 1) (2 ^ v)
  split <;> omega⟩
theorem k_same : ∀ n, n < 7 → kAll n n = cmpL n n := by decide +kernel
/-- The wheel. -/
def whl (n : Nat) : Nat → List Nat
  | 0 => mkL (n + 1)
  | v + 1 => lnkL (lnkL (whl n v) v ((v + 1) % n)) v n
theorem whl_ok {n : Nat} (h1 : 1 ≤ n) (hn : n ≤ 6) : ∀ v, v ≤ n → okL (n + 1) (whl n v) := by
  intro v
  induction v with
  | zero => intro _; exact mkL_ok (n + 1)
  | succ v ih =>
    intro hv
    have := Nat.mod_lt (v + 1) (show n > 0 by omega)
    exact lnkL_ok (lnkL_ok (ih (by omega)) (by omega) (by omega)) (by omega) (by omega)
/-- K(2,3) as the reference makes it. -/
def k23 : Nat → List Nat
  | 0 => mkL 5
  | i + 1 => lnkL (lnkL (k23 i) 0 (i + 2)) 1 (i + 2)
theorem k23_ok : ∀ i, i ≤ 3 → okL 5 (k23 i) := by
  intro i
  induction i with
  | zero => intro _; exact mkL_ok 5
  | succ i ih => intro hi; exact lnkL_ok (lnkL_ok (ih (by omega)) (by omega) (by omega)) (by omega) (by omega)
theorem k23_is : k23 3 = [28, 28, 3, 3, 3] := by decide +kernel
theorem row_ints {w : World} {g n : Nat} {L : List Nat} (h : Row w g 3 (natC L)) (hl : L.length = n) (hn : n ≤ 1000) : IntsAt w (some ⟨g, 0, none⟩) n (natL L) :=
  ⟨by unfold maxLen; omega, fun _ => ⟨g, 0, rfl, h.lt, fun i hi => by
    rw [Nat.zero_add]
    refine h.cell ?_
    unfold natC natL
    rw [List.getElem?_map, List.getElem?_eq_getElem (by omega), List.getD_eq_getElem?_getD, List.getElem?_eq_getElem (by omega)]
    rfl⟩⟩
/-- What makes a graph: a slice in a block of its own. -/
def MadePost (w : World) (n : Nat) (L : List Nat) (e : Ending) (w' : World) : Prop :=
  ∃ g, e = .returned (.slice (some ⟨g, 0, none⟩) n n) ∧ Row w' g 3 (natC L) ∧ w.heap.size ≤ g ∧ Below w.heap.size w w'
theorem mk_any (t : TypeId) (d : TypeDesc) (n : Nat) (hn : n ≤ 60) (w : World)
    (h : (Instr.makeSlice t (.int .i64 (n : Int)) (.int .i64 (n : Int))).run Tryd.prog w = .ok (.slice (some ⟨w.heap.size, 0, none⟩) n n) (w.alloc (.cells (madeCells #[.int .i64 0] n) 3))) :
    (Instr.makeSlice t (.int .i64 (n : Int)) (.int .i64 (n : Int))).run Tryd.prog w = .ok (.slice (some ⟨w.heap.size, 0, none⟩) n n) (w.alloc (.cells (natC (mkL n)).toArray 3)) := by rw [mkL_cells]; exact h

set_option maxRecDepth 20000 in
set_option maxHeartbeats 2000000 in
theorem complete_any {n : Nat} (h1 : 1 ≤ n) (h6 : n ≤ 6) (w : World) : Calls Tryd.prog 65 #[.int .i64 n] w (MadePost w n (cmpL n n)) := by
  have hmk : ∀ w : World, (Instr.makeSlice 74 (.int .i64 (n : Int)) (.int .i64 (n : Int))).run Tryd.prog w = .ok (.slice (some ⟨w.heap.size, 0, none⟩) n n) (w.alloc (.cells (natC (cmpL n 0)).toArray 3)) := by
    have h := run_make_row' (P := Tryd.prog) 74 3 (.int .i64 0) 8 Tryd.underlying74 info_int rfl .i64 .i64 n (by omega) (by omega)
    rw [cmpL_zero, mkL_cells]; exact h
  obtain ⟨w0, hw0, r0, hb0, hs0⟩ := new1 w 3 (natC (cmpL n 0))
  have HR0 := Lib.hid r0
  have HB0 := Lib.hid hb0
  clear r0 hb0
  go_enter Tryd.func65, Tryd.ntmps65
  go_wp2_with fail
  rw [← hw0]
  clear hw0 hmk
  go_loopw [8] (fun i wr => ∃ k : Nat, k ≤ n ∧ i = .int .i64 k ∧ Row wr w.heap.size 3 (natC (cmpL n k)) ∧ Below w.heap.size w wr) (fun i _ => n - (intOf i).toNat)
  case atStart => exact ⟨0, Nat.zero_le _, rfl, HR0.out, HB0.out⟩
  case round =>
    clear HR0 HB0
    obtain ⟨k, hk, rfl, hr, hb⟩ := hrel
    have HR := Lib.hid hr
    have HB := Lib.hid hb
    by_cases hlt : k < n
    · obtain ⟨c0, c1⟩ := cell_of (cmpL_ok h6 k) hlt
      have ck := hr.cell c0
      have fk := hr.free k
      have lg := hr.lt
      have HAL := Lib.hid (fun w => all_any (some ⟨(w : World).heap.size, 0, none⟩) n n w (show n < 16 by omega))
      have HAL2 : Hid (∀ w' : World, Calls Tryd.prog 85 #[.slice (some ⟨w.heap.size, 0, none⟩) n n] w' fun e w'' => e = .returned (.int .i64 (2 ^ n - 1 : Nat)) ∧ w'' = w') := Lib.hid fun w' => (all_any (some ⟨w.heap.size, 0, none⟩) n n w' (by omega)).mono fun _ _ ⟨a, b⟩ => ⟨a, b.symm⟩
      have hp6 : 2 ^ n ≤ 2 ^ 6 := Nat.pow_le_pow_right (by omega) h6
      have han := i64_andNot_pow (2 ^ n - 1) k (by omega) (by omega)
      have hpk := pow_bd k (by omega)
      have HST : Hid (natC (cmpL n (k + 1)) = (natC (cmpL n k)).set k (.int .i64 (diff (2 ^ n - 1) (2 ^ k) : Nat))) := Lib.hid (by rw [← cmpL_set, natC_set])
      generalize (cmpL n k).getD k 0 = x at *
      generalize 2 ^ n - 1 = A at *
      generalize diff A (2 ^ k) = D at *
      clear HAL hr hb c0 hp6
      go_wp2_with fail
      refine wp_region_still_tail 8 (by kernel_rfl) (by kernel_rfl) ?_
      simp only [List.take_succ_cons, List.take_zero, List.drop_succ_cons, List.drop_zero]
      repeat still_step
      still_call (HAL2.out _)
      repeat still_step
      refine wpStill_nil ?_
      change wpList _ _ _ _ _ wr.drew
      go_wp2_with fail
      go_roundw
      case rel => exact ⟨k + 1, by omega, by go_num, by rw [HST.out]; exact (HR.out.set k _).drewN 1, below_drewN (HB.out.setCell (p := ⟨w.heap.size, k, none⟩) (Nat.le_refl _) _) 1⟩
      case measure => simp [intOf]; omega
    · have hke : k = n := by omega
      rw [hke] at HR
      clear hke hr hb
      go_wp2_with fail
      go_ret
      exact ⟨_, rfl, HR.out, Nat.le_refl _, HB.out⟩

set_option maxRecDepth 20000 in
set_option maxHeartbeats 2000000 in
theorem KR_any {n : Nat} (h1 : 1 ≤ n) (h6 : n ≤ 6) (w : World) : Calls Tryd.prog 30 #[.int .i64 n] w (MadePost w n (kAll n n)) := by
  have hmk : ∀ w : World, (Instr.makeSlice 23 (.int .i64 (n : Int)) (.int .i64 (n : Int))).run Tryd.prog w = .ok (.slice (some ⟨w.heap.size, 0, none⟩) n n) (w.alloc (.cells (natC (kAll n 0)).toArray 3)) := by
    have h := run_make_row' (P := Tryd.prog) 23 3 (.int .i64 0) 8 Tryd.underlying23 info_int rfl .i64 .i64 n (by omega) (by omega)
    rw [show kAll n 0 = mkL n from rfl, mkL_cells]; exact h
  obtain ⟨w0, hw0, r0, hb0, hs0⟩ := new1 w 3 (natC (kAll n 0))
  have HR0 := Lib.hid r0
  have HB0 := Lib.hid hb0
  clear r0 hb0
  go_enter Tryd.func30, Tryd.ntmps30
  go_wp2_with fail
  rw [← hw0]
  clear hw0 hmk
  go_loopw [9] (fun x wr => ∃ i : Nat, i ≤ n ∧ x = .int .i64 i ∧ Row wr w.heap.size 3 (natC (kAll n i)) ∧ Below w.heap.size w wr) (fun x _ => n - (intOf x).toNat)
  case atStart => exact ⟨0, Nat.zero_le _, rfl, HR0.out, HB0.out⟩
  case round =>
    clear HR0 HB0
    obtain ⟨i, hi, rfl, hr, hb⟩ := hrel
    have HR := Lib.hid hr
    have HB := Lib.hid hb
    clear hr hb
    by_cases hlt : i < n
    · have hdi : decide ((i : Int) < (n : Int)) = true := decide_eq_true (by omega)
      have hdn : decide (i < n) = true := decide_eq_true hlt
      go_wp2_with fail
      go_loopw [13] (fun x wx => ∃ j : Nat, j ≤ i ∧ x = .int .i64 j ∧ Row wx w.heap.size 3 (natC (kRow (kAll n i) i j)) ∧ Below w.heap.size w wx) (fun x _ => i - (intOf x).toNat)
      case atStart => exact ⟨0, Nat.zero_le _, rfl, HR.out, HB.out⟩
      case round =>
        clear HR HB
        obtain ⟨j, hj, rfl, hr, hb⟩ := hrel
        have HR := Lib.hid hr
        have HB := Lib.hid hb
        clear hr hb
        by_cases hjl : j < i
        · have HOK := Lib.hid (kRow_ok (i := i) (kAll_ok h6 i (by omega)) (by omega) j (by omega))
          have HST : Hid (kRow (kAll n i) i (j + 1) = lnkL (kRow (kAll n i) i j) i j) := Lib.hid rfl
          generalize kRow (kAll n i) i j = L at *
          go_wp2_with fail
          go_at_call 67
          refine (join_any (c := n) HOK.out (by omega) hlt (by omega) HR.out (Nat.le_refl _)).mono ?_
          rintro e w2 ⟨rfl, hr2, hb2⟩
          have HR2 := Lib.hid hr2
          have HB2 := Lib.hid (HB.out.trans hb2)
          clear hr2 hb2
          go_wp2_with fail
          go_roundw
          case rel => exact ⟨j + 1, by omega, by go_num, by rw [HST.out]; exact HR2.out, HB2.out⟩
          case measure => simp [intOf]; omega
        · have hje : j = i := by omega
          rw [hje] at HR
          clear hje
          go_wp2_with fail
          go_roundw
          case rel => exact ⟨i + 1, by omega, by go_num, HR.out, HB.out⟩
          case measure => simp [intOf]; omega
    · have hie : i = n := by omega
      rw [hie] at HR
      clear hie
      go_wp2_with fail
      go_ret
      exact ⟨_, rfl, HR.out, Nat.le_refl _, HB.out⟩

set_option maxRecDepth 20000 in
set_option maxHeartbeats 2000000 in
theorem wheel_any {n : Nat} (h1 : 1 ≤ n) (h6 : n ≤ 6) (w : World) : Calls Tryd.prog 66 #[.int .i64 n] w (MadePost w (n + 1) (whl n n)) := by
  have hmk : ∀ w : World, (Instr.makeSlice 74 (.int .i64 ((n : Int) + 1)) (.int .i64 ((n : Int) + 1))).run Tryd.prog w = .ok (.slice (some ⟨w.heap.size, 0, none⟩) (n + 1) (n + 1)) (w.alloc (.cells (natC (whl n 0)).toArray 3)) := by
    have h := run_make_row' (P := Tryd.prog) 74 3 (.int .i64 0) 8 Tryd.underlying74 info_int rfl .i64 .i64 (n + 1) (by omega) (by omega)
    rw [show whl n 0 = mkL (n + 1) from rfl, mkL_cells]; exact h
  obtain ⟨w0, hw0, r0, hb0, hs0⟩ := new1 w 3 (natC (whl n 0))
  have HR0 := Lib.hid r0
  have HB0 := Lib.hid hb0
  have hnz : ((n : Int) == 0) = false := beq_eq_false_iff_ne.2 (by omega)
  clear r0 hb0
  go_enter Tryd.func66, Tryd.ntmps66
  go_wp2_with fail
  rw [← hw0]
  clear hw0 hmk
  go_loopw [9] (fun x wr => ∃ v : Nat, v ≤ n ∧ x = .int .i64 v ∧ Row wr w.heap.size 3 (natC (whl n v)) ∧ Below w.heap.size w wr) (fun x _ => n - (intOf x).toNat)
  case atStart => exact ⟨0, Nat.zero_le _, rfl, HR0.out, HB0.out⟩
  case round =>
    clear HR0 HB0
    obtain ⟨v, hv, rfl, hr, hb⟩ := hrel
    have HR := Lib.hid hr
    have HB := Lib.hid hb
    clear hr hb
    by_cases hlt : v < n
    · have HOK := Lib.hid (whl_ok h1 h6 v (by omega))
      have hmod := Nat.mod_lt (v + 1) (show n > 0 by omega)
      have HOK2 := Lib.hid (lnkL_ok HOK.out (show v < 7 by omega) (show (v + 1) % n < 7 by omega))
      have HST : Hid (whl n (v + 1) = lnkL (lnkL (whl n v) v ((v + 1) % n)) v n) := Lib.hid rfl
      have hrem : ((v : Int) + 1).tmod n = ((v + 1) % n : Nat) := by
        rw [Int.tmod_eq_emod_of_nonneg (by omega), Int.natCast_emod, Int.natCast_add]; rfl
      generalize (v + 1) % n = Z at *
      generalize whl n v = L at *
      go_wp2_with fail
      go_at_call 90
      refine (link_any (c := n + 1) HOK.out (by omega) (by omega) (by omega) HR.out (Nat.le_refl _)).mono ?_
      rintro e w2 ⟨rfl, hr2, hb2⟩
      have HR2 := Lib.hid hr2
      have HB2 := Lib.hid (HB.out.trans hb2)
      clear hr2 hb2
      go_wp2_with fail
      go_at_call 90
      refine (link_any (c := n + 1) HOK2.out (by omega) (by omega) (by omega) HR2.out (Nat.le_refl _)).mono ?_
      rintro e w3 ⟨rfl, hr3, hb3⟩
      have HR3 := Lib.hid hr3
      have HB3 := Lib.hid (HB2.out.trans hb3)
      clear hr3 hb3
      go_wp2_with fail
      go_roundw
      case rel => exact ⟨v + 1, by omega, by go_num, by rw [HST.out]; exact HR3.out, HB3.out⟩
      case measure => simp [intOf]; omega
    · have hie : v = n := by omega
      rw [hie] at HR
      clear hie
      go_wp2_with fail
      go_ret
      exact ⟨_, rfl, HR.out, Nat.le_refl _, HB.out⟩

set_option maxRecDepth 20000 in
set_option maxHeartbeats 2000000 in
theorem WheelR_any {n : Nat} (h1 : 1 ≤ n) (h6 : n ≤ 6) (w : World) : Calls Tryd.prog 31 #[.int .i64 n] w (MadePost w (n + 1) (whl n n)) := by
  have hmk : ∀ w : World, (Instr.makeSlice 23 (.int .i64 ((n : Int) + 1)) (.int .i64 ((n : Int) + 1))).run Tryd.prog w = .ok (.slice (some ⟨w.heap.size, 0, none⟩) (n + 1) (n + 1)) (w.alloc (.cells (natC (whl n 0)).toArray 3)) := by
    have h := run_make_row' (P := Tryd.prog) 23 3 (.int .i64 0) 8 Tryd.underlying23 info_int rfl .i64 .i64 (n + 1) (by omega) (by omega)
    rw [show whl n 0 = mkL (n + 1) from rfl, mkL_cells]; exact h
  obtain ⟨w0, hw0, r0, hb0, hs0⟩ := new1 w 3 (natC (whl n 0))
  have HR0 := Lib.hid r0
  have HB0 := Lib.hid hb0
  have hnz : ((n : Int) == 0) = false := beq_eq_false_iff_ne.2 (by omega)
  clear r0 hb0
  go_enter Tryd.func31, Tryd.ntmps31
  go_wp2_with fail
  rw [← hw0]
  clear hw0 hmk
  go_loopw [9] (fun x wr => ∃ v : Nat, v ≤ n ∧ x = .int .i64 v ∧ Row wr w.heap.size 3 (natC (whl n v)) ∧ Below w.heap.size w wr) (fun x _ => n - (intOf x).toNat)
  case atStart => exact ⟨0, Nat.zero_le _, rfl, HR0.out, HB0.out⟩
  case round =>
    clear HR0 HB0
    obtain ⟨v, hv, rfl, hr, hb⟩ := hrel
    have HR := Lib.hid hr
    have HB := Lib.hid hb
    clear hr hb
    by_cases hlt : v < n
    · have HOK := Lib.hid (whl_ok h1 h6 v (by omega))
      have hmod := Nat.mod_lt (v + 1) (show n > 0 by omega)
      have HOK2 := Lib.hid (lnkL_ok HOK.out (show v < 7 by omega) (show (v + 1) % n < 7 by omega))
      have HST : Hid (whl n (v + 1) = lnkL (lnkL (whl n v) v ((v + 1) % n)) v n) := Lib.hid rfl
      have hrem : ((v : Int) + 1).tmod n = ((v + 1) % n : Nat) := by
        rw [Int.tmod_eq_emod_of_nonneg (by omega), Int.natCast_emod, Int.natCast_add]; rfl
      generalize (v + 1) % n = Z at *
      generalize whl n v = L at *
      go_wp2_with fail
      go_at_call 67
      refine (join_any (c := n + 1) HOK.out (by omega) (by omega) (by omega) HR.out (Nat.le_refl _)).mono ?_
      rintro e w2 ⟨rfl, hr2, hb2⟩
      have HR2 := Lib.hid hr2
      have HB2 := Lib.hid (HB.out.trans hb2)
      clear hr2 hb2
      go_wp2_with fail
      go_at_call 67
      refine (join_any (c := n + 1) HOK2.out (by omega) (by omega) (by omega) HR2.out (Nat.le_refl _)).mono ?_
      rintro e w3 ⟨rfl, hr3, hb3⟩
      have HR3 := Lib.hid hr3
      have HB3 := Lib.hid (HB2.out.trans hb3)
      clear hr3 hb3
      go_wp2_with fail
      go_roundw
      case rel => exact ⟨v + 1, by omega, by go_num, by rw [HST.out]; exact HR3.out, HB3.out⟩
      case measure => simp [intOf]; omega
    · have hie : v = n := by omega
      rw [hie] at HR
      clear hie
      go_wp2_with fail
      go_ret
      exact ⟨_, rfl, HR.out, Nat.le_refl _, HB.out⟩
set_option maxRecDepth 20000 in
set_option maxHeartbeats 2000000 in
theorem K23R_any (w : World) : Calls Tryd.prog 29 #[] w (MadePost w 5 (k23 3)) := by
  have hmk : ∀ w : World, (Instr.makeSlice 23 (.int .i64 5) (.int .i64 5)).run Tryd.prog w = .ok (.slice (some ⟨w.heap.size, 0, none⟩) 5 5) (w.alloc (.cells (natC (k23 0)).toArray 3)) := by
    have h := run_make_row' (P := Tryd.prog) 23 3 (.int .i64 0) 8 Tryd.underlying23 info_int rfl .i64 .i64 5 (by omega) (by omega)
    rw [show k23 0 = mkL 5 from rfl, mkL_cells]; exact h
  obtain ⟨w0, hw0, r0, hb0, hs0⟩ := new1 w 3 (natC (k23 0))
  have HR0 := Lib.hid r0
  have HB0 := Lib.hid hb0
  clear r0 hb0
  go_enter Tryd.func29, Tryd.ntmps29
  go_wp2_with fail
  rw [← hw0]
  clear hw0 hmk
  go_loopw [2] (fun x wr => ∃ i : Nat, i ≤ 3 ∧ x = .int .i64 ((i : Int) + 2) ∧ Row wr w.heap.size 3 (natC (k23 i)) ∧ Below w.heap.size w wr) (fun x _ => 5 - (intOf x).toNat)
  case atStart => exact ⟨0, by omega, rfl, HR0.out, HB0.out⟩
  case round =>
    clear HR0 HB0
    obtain ⟨i, hi, rfl, hr, hb⟩ := hrel
    have HR := Lib.hid hr
    have HB := Lib.hid hb
    clear hr hb
    by_cases hlt : i < 3
    · have HOK := Lib.hid (k23_ok i (by omega))
      have HOK2 := Lib.hid (lnkL_ok HOK.out (show 0 < 7 by omega) (show i + 2 < 7 by omega))
      have HST : Hid (k23 (i + 1) = lnkL (lnkL (k23 i) 0 (i + 2)) 1 (i + 2)) := Lib.hid rfl
      have HJ1 : Hid (∀ w' : World, Row w' w.heap.size 3 (natC (k23 i)) → Calls Tryd.prog 67 #[.slice (some ⟨w.heap.size, 0, none⟩) 5 5, .int .i64 0, .int .i64 ((i : Int) + 2)] w' fun e w'' => e = .returned (.tuple #[]) ∧ Row w'' w.heap.size 3 (natC (lnkL (k23 i) 0 (i + 2))) ∧ Below w.heap.size w' w'') := Lib.hid fun w' h =>
        join_any (x := 0) (y := i + 2) (c := 5) HOK.out (by omega) (by omega) (by omega) h (Nat.le_refl _)
      have HJ2 : Hid (∀ w' : World, Row w' w.heap.size 3 (natC (lnkL (k23 i) 0 (i + 2))) → Calls Tryd.prog 67 #[.slice (some ⟨w.heap.size, 0, none⟩) 5 5, .int .i64 1, .int .i64 ((i : Int) + 2)] w' fun e w'' => e = .returned (.tuple #[]) ∧ Row w'' w.heap.size 3 (natC (k23 (i + 1))) ∧ Below w.heap.size w' w'') := Lib.hid fun w' h =>
        join_any (x := 1) (y := i + 2) (c := 5) HOK2.out (by omega) (by omega) (by omega) h (Nat.le_refl _)
      go_wp2_with fail
      go_at_call 67
      refine (HJ1.out _ HR.out).mono ?_
      rintro e w2 ⟨rfl, hr2, hb2⟩
      have HR2 := Lib.hid hr2
      have HB2 := Lib.hid (HB.out.trans hb2)
      clear hr2 hb2
      go_wp2_with fail
      go_at_call 67
      refine (HJ2.out _ HR2.out).mono ?_
      rintro e w3 ⟨rfl, hr3, hb3⟩
      have HR3 := Lib.hid hr3
      have HB3 := Lib.hid (HB2.out.trans hb3)
      clear hr3 hb3
      go_wp2_with fail
      go_roundw
      case rel => exact ⟨i + 1, by omega, by first | go_num | (congr 1; omega), HR3.out, HB3.out⟩
      case measure => simp [intOf]; omega
    · have hie : i = 3 := by omega
      rw [hie] at HR
      subst hie
      go_wp2_with fail
      go_ret
      exact ⟨_, rfl, HR.out, Nat.le_refl _, HB.out⟩
set_option maxRecDepth 20000 in
set_option maxHeartbeats 1000000 in
theorem K23_any (w : World) : Calls Tryd.prog 28 #[] w (MadePost w 5 [28, 28, 3, 3, 3]) := by
  go_enter Tryd.func28, Tryd.ntmps28
  go_wp2_with fail
  go_ret
  exact ⟨_, rfl, Row.new w 3 (natC [28, 28, 3, 3, 3]), Nat.le_refl _, (Below.refl _ _).alloc (Nat.le_refl _) _⟩

set_option maxRecDepth 20000 in
set_option maxHeartbeats 2000000 in
theorem EqualG_true {m : Nat} {z : Nat → Int} {a b : Option Addr} (ca cb : Nat) {w : World} (hA : IntsAt w a m z) (hB : IntsAt w b m z) :
    Calls Tryd.prog 27 #[.slice a m ca, .slice b m cb] w fun e w' => e = .returned (.bool true) ∧ Below w.heap.size w w' := by
  have hml := hA.1
  unfold maxLen at hml
  have HA := Lib.hid hA
  have HB := Lib.hid hB
  clear hA hB
  have hq : ((m : Int) != (m : Int)) = false := by simp
  go_enter Tryd.func27, Tryd.ntmps27
  go_wp2_with fail
  go_loopw [13] (fun i wr => ∃ k : Nat, k ≤ m ∧ i = .int .i64 k ∧ Below w.heap.size w wr) (fun i _ => m - (intOf i).toNat)
  case atStart => exact ⟨0, Nat.zero_le _, rfl, Below.refl _ _⟩
  case round =>
    obtain ⟨k, hk, rfl, hbel⟩ := hrel
    have HBL := Lib.hid hbel
    clear hbel
    by_cases hlt : k < m
    · obtain ⟨b1, o1, rfl, h1, c1⟩ := (HA.out.below HBL.out).2 (by omega)
      obtain ⟨b2, o2, rfl, h2, c2⟩ := (HB.out.below HBL.out).2 (by omega)
      have d1 := c1 k hlt
      have d2 := c2 k hlt
      have hz : ((z k) != (z k)) = false := by simp
      clear c1 c2
      go_wp2_with fail
      go_quiet (fail)
      go_wp2_with fail
      go_roundw
      case rel => exact ⟨k + 1, by omega, by go_num, below_drewN HBL.out _⟩
      case measure => simp [intOf]; omega
    · have hke : k = m := by omega
      subst hke
      go_wp2_with fail
      go_ret
      exact ⟨rfl, HBL.out⟩

/-! ### K and W -/

set_option maxRecDepth 20000 in
set_option maxHeartbeats 1000000 in
theorem K_yes {n : Nat} (h1 : 1 ≤ n) (h6 : n ≤ 6) (w : World) : Calls Tryd.prog 25 #[.int .i64 n] w fun e w' => ∃ g, e = .returned (.tuple #[.slice (some ⟨g, 0, none⟩) n n, .int .i64 0]) ∧ Row w' g 3 (natC (cmpL n n)) ∧ Below w.heap.size w w' := by
  have d1 : decide ((n : Int) < 1) = false := decide_eq_false (by omega)
  have d2 : decide ((n : Int) > 6) = false := decide_eq_false (by omega)
  have d3 : decide (6 < (n : Int)) = false := decide_eq_false (by omega)
  go_enter Tryd.func25, Tryd.ntmps25
  go_wp2_with fail
  go_at_call 65
  refine (complete_any (by omega) (by omega) w).mono ?_
  rintro e w1 ⟨g, rfl, hr, _, hb⟩
  have HR := Lib.hid hr
  have HB := Lib.hid hb
  clear hr hb
  go_wp2_with fail
  go_ret2
  exact ⟨_, rfl, HR.out, HB.out⟩
set_option maxRecDepth 20000 in
set_option maxHeartbeats 1000000 in
theorem K_no {k : Int} (h : k < 1 ∨ 6 < k) (w : World) : Calls Tryd.prog 25 #[.int .i64 k] w fun e w' => e = .returned (.tuple #[.slice none 0 0, .int .i64 2]) ∧ w = w' := by
  by_cases h1 : k < 1
  · have d1 : decide (k < 1) = true := decide_eq_true h1
    go_enter Tryd.func25, Tryd.ntmps25
    go_wp2_with fail
    go_ret2
    exact ⟨rfl, rfl⟩
  · have d1 : decide (k < 1) = false := decide_eq_false h1
    have d2 : decide (k > 6) = true := decide_eq_true (by omega)
    have d3 : decide (6 < k) = true := decide_eq_true (by omega)
    go_enter Tryd.func25, Tryd.ntmps25
    go_wp2_with fail
    go_ret2
    exact ⟨rfl, rfl⟩

set_option maxRecDepth 20000 in
set_option maxHeartbeats 1000000 in
theorem W_yes {n : Nat} (h1 : 3 ≤ n) (h6 : n ≤ 5) (w : World) : Calls Tryd.prog 26 #[.int .i64 n] w fun e w' => ∃ g, e = .returned (.tuple #[.slice (some ⟨g, 0, none⟩) (n + 1) (n + 1), .int .i64 0]) ∧ Row w' g 3 (natC (whl n n)) ∧ Below w.heap.size w w' := by
  have d1 : decide ((n : Int) < 3) = false := decide_eq_false (by omega)
  have d2 : decide ((n : Int) > 5) = false := decide_eq_false (by omega)
  have d3 : decide (5 < (n : Int)) = false := decide_eq_false (by omega)
  go_enter Tryd.func26, Tryd.ntmps26
  go_wp2_with fail
  go_at_call 66
  refine (wheel_any (by omega) (by omega) w).mono ?_
  rintro e w1 ⟨g, rfl, hr, _, hb⟩
  have HR := Lib.hid hr
  have HB := Lib.hid hb
  clear hr hb
  go_wp2_with fail
  go_ret2
  exact ⟨_, rfl, HR.out, HB.out⟩
set_option maxRecDepth 20000 in
set_option maxHeartbeats 1000000 in
theorem W_no {k : Int} (h : k < 3 ∨ 5 < k) (w : World) : Calls Tryd.prog 26 #[.int .i64 k] w fun e w' => e = .returned (.tuple #[.slice none 0 0, .int .i64 2]) ∧ w = w' := by
  by_cases h1 : k < 3
  · have d1 : decide (k < 3) = true := decide_eq_true h1
    go_enter Tryd.func26, Tryd.ntmps26
    go_wp2_with fail
    go_ret2
    exact ⟨rfl, rfl⟩
  · have d1 : decide (k < 3) = false := decide_eq_false h1
    have d2 : decide (k > 5) = true := decide_eq_true (by omega)
    have d3 : decide (5 < k) = true := decide_eq_true (by omega)
    go_enter Tryd.func26, Tryd.ntmps26
    go_wp2_with fail
    go_ret2
    exact ⟨rfl, rfl⟩

/-! ### the law -/

theorem len_cells {w : World} {g n : Nat} {L : List Nat} (h : Row w g 3 (natC L)) : g < w.heap.size := h.lt
set_option maxRecDepth 200000 in
set_option maxHeartbeats 4000000 in
theorem MinorNamed_walk (k : Int) (w : World) (hTab : HasTab w) : Calls Tryd.prog 4 #[.int .i64 k] w (LawTrue w) := by
  have HT := Lib.hid (Tab.of hTab)
  have HK23 := Lib.hid k23_is
  clear hTab
  -- the beginning is the same whatever K and W return
  have key : ∀ (va vb : Value) (ea eb : Int) (wx : World), Below w.heap.size w wx → True := fun _ _ _ _ _ _ => trivial
  clear key
  by_cases hk : k < 1 ∨ 6 < k
  · have HKN := Lib.hid (fun w => K_no hk w)
    have HWN := Lib.hid (fun w => W_no (k := k) (by omega) w)
    have hd : decide (k < 1) = true ∨ decide (k < 1) = false ∧ decide (k > 6) = true ∧ decide (6 < k) = true := by
      by_cases h1 : k < 1
      · exact .inl (decide_eq_true h1)
      · exact .inr ⟨decide_eq_false h1, decide_eq_true (by omega), decide_eq_true (by omega)⟩
    clear hk
    have HD := Lib.hid hd
    clear hd
    go_enter Tryd.func4, Tryd.ntmps4
    go_wp2_with fail
    go_at_call 25
    refine (HKN.out _).mono ?_
    rintro e w1 ⟨rfl, rfl⟩
    go_wp2_with fail
    go_at_call 26
    refine (HWN.out _).mono ?_
    rintro e w2 ⟨rfl, rfl⟩
    go_wp2_with fail
    go_at_call 28
    refine (K23_any _).mono ?_
    rintro e w3 ⟨g3, rfl, hr3, _, hb3⟩
    have HR3 := Lib.hid hr3
    have HB3 := Lib.hid hb3
    clear hr3 hb3
    go_wp2_with fail
    go_at_call 29
    refine (K23R_any _).mono ?_
    rintro e w4 ⟨g4, rfl, hr4, _, hb4⟩
    rw [HK23.out] at hr4
    have HI4 := Lib.hid (row_ints (n := 5) hr4 rfl (by omega))
    have HI3 := Lib.hid (row_ints (n := 5) (HR3.out.below hb4 HR3.out.lt) rfl (by omega))
    have HB4 := Lib.hid (HB3.out.trans (hb4.mono HB3.out.size))
    clear hr4 hb4
    go_wp2_with fail
    go_at_call 27
    refine (EqualG_true 5 5 HI3.out HI4.out).mono ?_
    rintro e w5 ⟨rfl, hb5⟩
    have HB5 := Lib.hid (HB4.out.trans (hb5.mono HB4.out.size))
    clear hb5
    go_wp2_with fail
    go_at_call 21
    refine (awake_any _ (HT.out.below HB5.out)).mono ?_
    rintro e w7 ⟨rfl, hb7⟩
    have HB7 := Lib.hid (HB5.out.trans (hb7.mono HB5.out.size))
    clear hb7
    rcases HD.out with h | ⟨h, h', h''⟩
    all_goals
      go_wp2_with fail
      go_ret
      exact ⟨rfl, HB7.out⟩
  · obtain ⟨n, rfl⟩ : ∃ n : Nat, k = n := ⟨k.toNat, by omega⟩
    have h1 : 1 ≤ n := by omega
    have h6 : n ≤ 6 := by omega
    have d1 : decide ((n : Int) < 1) = false := decide_eq_false (by omega)
    have d2 : decide ((n : Int) > 6) = false := decide_eq_false (by omega)
    have d3 : decide (6 < (n : Int)) = false := decide_eq_false (by omega)
    have HKY := Lib.hid (fun w => K_yes h1 h6 w)
    have HSAME := Lib.hid (k_same n (by omega))
    have HLC : Hid ((cmpL n n).length = n) := Lib.hid (cmpL_ok h6 n).1
    have HKR := Lib.hid (fun w => KR_any h1 h6 w)
    by_cases hw : n < 3 ∨ 5 < n
    · have HWN := Lib.hid (fun w => W_no (k := (n : Int)) (by omega) w)
      have hd : decide ((n : Int) < 3) = true ∨ decide ((n : Int) < 3) = false ∧ decide ((n : Int) > 5) = true ∧ decide (5 < (n : Int)) = true := by
        by_cases h1 : n < 3
        · exact .inl (decide_eq_true (by omega))
        · exact .inr ⟨decide_eq_false (by omega), decide_eq_true (by omega), decide_eq_true (by omega)⟩
      have HD := Lib.hid hd
      clear hd hk hw
      go_enter Tryd.func4, Tryd.ntmps4
      go_wp2_with fail
      go_at_call 25
      refine (HKY.out _).mono ?_
      rintro e w1 ⟨g1, rfl, hr1, hb1⟩
      have HR1 := Lib.hid hr1
      have HB1 := Lib.hid hb1
      clear hr1 hb1
      go_wp2_with fail
      go_at_call 26
      refine (HWN.out _).mono ?_
      rintro e w2 ⟨rfl, rfl⟩
      go_wp2_with fail
      go_at_call 28
      refine (K23_any _).mono ?_
      rintro e w3 ⟨g3, rfl, hr3, _, hb3⟩
      have HR3 := Lib.hid hr3
      have HB3 := Lib.hid hb3
      clear hr3 hb3
      go_wp2_with fail
      go_at_call 29
      refine (K23R_any _).mono ?_
      rintro e w4 ⟨g4, rfl, hr4, _, hb4⟩
      rw [HK23.out] at hr4
      have HI4 := Lib.hid (row_ints (n := 5) hr4 rfl (by omega))
      have HI3 := Lib.hid (row_ints (n := 5) (HR3.out.below hb4 HR3.out.lt) rfl (by omega))
      have HB4 := Lib.hid (HB3.out.trans (hb4.mono HB3.out.size))
      clear hr4 hb4
      go_wp2_with fail
      go_at_call 27
      refine (EqualG_true 5 5 HI3.out HI4.out).mono ?_
      rintro e w5 ⟨rfl, hb5⟩
      have HB5 := Lib.hid (HB4.out.trans (hb5.mono HB4.out.size))
      clear hb5
      go_wp2_with fail
      go_at_call 21
      refine (awake_any _ (HT.out.below (HB1.out.trans (HB5.out.mono HB1.out.size)))).mono ?_
      rintro e w7 ⟨rfl, hb7⟩
      have HBZ := Lib.hid (HB5.out.trans (hb7.mono HB5.out.size))
      have HB7 := Lib.hid (HB1.out.trans (HBZ.out.mono HB1.out.size))
      clear hb7
      have HIA := Lib.hid (row_ints (HR1.out.below HBZ.out HR1.out.lt) HLC.out (by omega))
      go_wp2_with fail
      go_at_call 30
      refine (HKR.out _).mono ?_
      rintro e w8 ⟨g8, rfl, hr8, _, hb8⟩
      have HIB := Lib.hid (row_ints (by rw [HSAME.out] at hr8; exact hr8) HLC.out (by omega))
      have HIA8 := Lib.hid (HIA.out.below hb8)
      have HB8 := Lib.hid (HB7.out.trans (hb8.mono HB7.out.size))
      clear hr8 hb8
      go_wp2_with fail
      go_at_call 27
      refine (EqualG_true n n HIA8.out HIB.out).mono ?_
      rintro e w9 ⟨rfl, hb9⟩
      have HB9 := Lib.hid (HB8.out.trans (hb9.mono HB8.out.size))
      clear hb9
      rcases HD.out with h | ⟨h, h', h''⟩
      all_goals
        go_wp2_with fail
        go_ret
        exact ⟨rfl, HB9.out⟩
    · have h3 : 3 ≤ n := by omega
      have h5 : n ≤ 5 := by omega
      have d4 : decide ((n : Int) < 3) = false := decide_eq_false (by omega)
      have d5 : decide ((n : Int) > 5) = false := decide_eq_false (by omega)
      have d6 : decide (5 < (n : Int)) = false := decide_eq_false (by omega)
      have HWY := Lib.hid (fun w => W_yes h3 h5 w)
      have HWR := Lib.hid (fun w => WheelR_any h1 h6 w)
      have HLW : Hid ((whl n n).length = n + 1) := Lib.hid (whl_ok h1 h6 n (Nat.le_refl _)).1
      clear hk hw
      go_enter Tryd.func4, Tryd.ntmps4
      go_wp2_with fail
      go_at_call 25
      refine (HKY.out _).mono ?_
      rintro e w1 ⟨g1, rfl, hr1, hb1⟩
      have HR0 := Lib.hid hr1
      have HB0 := Lib.hid hb1
      clear hr1 hb1
      go_wp2_with fail
      go_at_call 26
      refine (HWY.out _).mono ?_
      rintro e w2 ⟨g2, rfl, hr2, hb2⟩
      have HR1 := Lib.hid hr2
      have HR01 := Lib.hid (HR0.out.below hb2 HR0.out.lt)
      have HB1 := Lib.hid (HB0.out.trans (hb2.mono HB0.out.size))
      clear hr2 hb2
      go_wp2_with fail
      go_at_call 28
      refine (K23_any _).mono ?_
      rintro e w3 ⟨g3, rfl, hr3, _, hb3⟩
      have HR3 := Lib.hid hr3
      have HB3 := Lib.hid hb3
      clear hr3 hb3
      go_wp2_with fail
      go_at_call 29
      refine (K23R_any _).mono ?_
      rintro e w4 ⟨g4, rfl, hr4, _, hb4⟩
      rw [HK23.out] at hr4
      have HI4 := Lib.hid (row_ints (n := 5) hr4 rfl (by omega))
      have HI3 := Lib.hid (row_ints (n := 5) (HR3.out.below hb4 HR3.out.lt) rfl (by omega))
      have HB4 := Lib.hid (HB3.out.trans (hb4.mono HB3.out.size))
      clear hr4 hb4
      go_wp2_with fail
      go_at_call 27
      refine (EqualG_true 5 5 HI3.out HI4.out).mono ?_
      rintro e w5 ⟨rfl, hb5⟩
      have HB5 := Lib.hid (HB4.out.trans (hb5.mono HB4.out.size))
      clear hb5
      go_wp2_with fail
      go_at_call 21
      refine (awake_any _ (HT.out.below (HB1.out.trans (HB5.out.mono HB1.out.size)))).mono ?_
      rintro e w7 ⟨rfl, hb7⟩
      have HBZ := Lib.hid (HB5.out.trans (hb7.mono HB5.out.size))
      have HB7 := Lib.hid (HB1.out.trans (HBZ.out.mono HB1.out.size))
      clear hb7
      have HIA := Lib.hid (row_ints (HR01.out.below HBZ.out HR01.out.lt) HLC.out (by omega))
      have HIW := Lib.hid (row_ints (HR1.out.below HBZ.out HR1.out.lt) HLW.out (by omega))
      go_wp2_with fail
      go_at_call 30
      refine (HKR.out _).mono ?_
      rintro e w8 ⟨g8, rfl, hr8, _, hb8⟩
      have HIB := Lib.hid (row_ints (by rw [HSAME.out] at hr8; exact hr8) HLC.out (by omega))
      have HIA8 := Lib.hid (HIA.out.below hb8)
      have HIW8 := Lib.hid (HIW.out.below hb8)
      have HB8 := Lib.hid (HB7.out.trans (hb8.mono HB7.out.size))
      clear hr8 hb8
      go_wp2_with fail
      go_at_call 27
      refine (EqualG_true n n HIA8.out HIB.out).mono ?_
      rintro e w9 ⟨rfl, hb9⟩
      have HIW9 := Lib.hid (HIW8.out.below hb9)
      have HB9 := Lib.hid (HB8.out.trans (hb9.mono HB8.out.size))
      clear hb9
      go_wp2_with fail
      go_at_call 31
      refine (HWR.out _).mono ?_
      rintro e w10 ⟨g10, rfl, hr10, _, hb10⟩
      have HIC := Lib.hid (row_ints hr10 HLW.out (by omega))
      have HIW10 := Lib.hid (HIW9.out.below hb10)
      have HB10 := Lib.hid (HB9.out.trans (hb10.mono HB9.out.size))
      clear hr10 hb10
      go_wp2_with fail
      go_at_call 27
      refine (EqualG_true (n + 1) (n + 1) HIW10.out HIC.out).mono ?_
      rintro e w11 ⟨rfl, hb11⟩
      have HB11 := Lib.hid (HB10.out.trans (hb11.mono HB10.out.size))
      clear hb11
      go_wp2_with fail
      go_ret
      exact ⟨rfl, HB11.out⟩

end Go.Proofs.YtfmppncefbjicaaDoor
