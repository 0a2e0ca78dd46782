/- The contract of package chase's newTown. -/
import Derived.Test.YtbkbliieappkdaaDoorChC1a
import Derived.Deep.OwnRows
namespace Go.Proofs.YtbkbliieappkdaaDoor.Ch
set_option linter.unusedSimpArgs false
set_option linter.unusedVariables false
open Go.RowKit
attribute [local go_sem] i64_bit toNat_eq_one toNat_ne_one toNat_eq_zero toNat_ne_zero i64_and i64_or i64_andNot i64_or_pow i64_andNot_pow

theorem info_int : (Tryd.prog.info? 3).map (fun i => (i.zero, i.size, i.bytes)) = some (some (.int .i64 0), 1, 8) := by kernel_rfl

def okCell (n : Nat) (z : Nat → Int) (i : Nat) : Bool := inB (z i) (2 ^ n) && !(z i).toNat.testBit i
def reachOf (z : Nat → Int) (i : Nat) : Nat := (z i).toNat ||| 2 ^ i
def townB (n : Nat) (z : Nat → Int) : Bool := decide (1 ≤ n) && decide (n ≤ 8) && ((List.range n).all (okCell n z)) && mutB n (reachOf z) && connB n (reachOf z)

/-- What newTown returns. -/
def TownPost (n : Nat) (z : Nat → Int) (w : World) (e : Ending) (w' : World) : Prop :=
  Below w.heap.size w w' ∧ (townB n z = true → ∃ b, w.heap.size ≤ b ∧ TownAt w' n b (reachOf z) ∧ e = .returned (.tuple #[townV n b n, .bool true])) ∧
    (townB n z = false → e = .returned (.tuple #[.agg #[.int .i64 0, .slice none 0 0], .bool false]))

theorem TownPost.no {n : Nat} {z : Nat → Int} {w w' : World} (hb : Below w.heap.size w w') (h : townB n z = false) :
    TownPost n z w (.returned (.tuple #[.agg #[.int .i64 0, .slice none 0 0], .bool false])) w' := ⟨hb, fun h' => by (rw [h] at h'; cases h'), fun _ => rfl⟩

set_option maxHeartbeats 400000 in
theorem newTown_size (n : Nat) (z : Nat → Int) (a : Option Addr) (cap : Nat) (w : World) (hn : n < 1 ∨ 8 < n) (hm : n ≤ maxLen) :
    Calls Tryd.prog 59 #[.slice a n cap] w (TownPost n z w) := by
  unfold maxLen at hm
  have hB : townB n z = false := by
    unfold townB
    rcases hn with h | h
    · simp [show ¬ 1 ≤ n by omega]
    · simp [show ¬ n ≤ 8 by omega]
  have HBB := Lib.hid hB; clear hB
  rcases hn with h | h
  all_goals
    go_enter Tryd.func59, Tryd.ntmps59
    go_wp2_with fail
    exact bodyPost_ret (v := .tuple #[.agg #[.int .i64 0, .slice none 0 0], .bool false]) (by simp [results, Tryd.results59, go_sem]) rfl (TownPost.no ((Below.refl _ _).alloc (Nat.le_refl _) _) HBB.out)

theorem townB_cell {n : Nat} {z : Nat → Int} {i : Nat} (hi : i < n) (h : okCell n z i = false) : townB n z = false := by
  rw [Bool.eq_false_iff]; intro ht
  unfold townB at ht
  simp only [Bool.and_eq_true, List.all_eq_true, List.mem_range] at ht
  have := ht.1.1.2 i hi
  rw [h] at this; cases this
theorem townB_mut {n : Nat} {z : Nat → Int} (h : mutB n (reachOf z) = false) : townB n z = false := by
  unfold townB; rw [h]; simp
theorem townB_conn {n : Nat} {z : Nat → Int} (h : connB n (reachOf z) = false) : townB n z = false := by
  unfold townB; rw [h]; simp
theorem townB_yes {n : Nat} {z : Nat → Int} (h1 : 1 ≤ n) (h8 : n ≤ 8) (h : ∀ i, i < n → okCell n z i = true) (hm : mutB n (reachOf z) = true) (hc : connB n (reachOf z) = true) : townB n z = true := by
  unfold townB
  simp only [Bool.and_eq_true, List.all_eq_true, List.mem_range, decide_eq_true_eq]
  exact ⟨⟨⟨⟨h1, h8⟩, h⟩, hm⟩, hc⟩

theorem nat_pow_cast {z : Int} {n : Nat} (h : z < 2 ^ n) (h0 : 0 ≤ z) : z.toNat < 2 ^ n := by
  rw [pow_cast] at h; omega
theorem pow_le16 {n : Nat} (h : n ≤ 8) : 2 ^ n ≤ 256 := by
  have : 2 ^ n ≤ 2 ^ 8 := Nat.pow_le_pow_right (by omega) h
  simpa using this

/-- The cells of the reach while they are filled. -/
def rowOf (n : Nat) (z : Nat → Int) (k : Nat) : List Value := (List.range n).map fun i => if i < k then .int .i64 (reachOf z i) else .int .i64 0
theorem rowOf_zero (n : Nat) (z : Nat → Int) : rowOf n z 0 = (madeCells #[.int .i64 0] n).toList := by
  unfold rowOf madeCells
  simp [Nat.mod_one]
theorem rowOf_set (n : Nat) (z : Nat → Int) (k : Nat) : (rowOf n z k).set k (.int .i64 (reachOf z k)) = rowOf n z (k + 1) := by
  unfold rowOf
  rw [map_range_set]
  apply List.map_congr_left
  intro i _
  by_cases h : i = k
  · subst h; simp
  · by_cases h2 : i < k
    · simp [h, h2]; omega
    · have : ¬ i < k + 1 := by omega
      simp [h, h2, this]

set_option maxHeartbeats 2000000 in
theorem newTown_walk (n : Nat) (z : Nat → Int) (gb go cap : Nat) (w : World) (h1 : 1 ≤ n) (h8 : n ≤ 8) (hgb : gb < w.heap.size)
    (hc : ∀ i, i < n → w.cell? ⟨gb, go + i, none⟩ = some (.int .i64 (z i))) :
    Calls Tryd.prog 59 #[.slice (some ⟨gb, go, none⟩) n cap] w (TownPost n z w) := by
  have hmk : ∀ w : World, (Instr.makeSlice 22 (.int .i64 (n : Int)) (.int .i64 (n : Int))).run Tryd.prog w = .ok (.slice (some ⟨w.heap.size, 0, none⟩) n n) (w.alloc (.cells (rowOf n z 0).toArray 3)) := by
    have h := run_make_row' (P := Tryd.prog) 22 3 (.int .i64 0) 8 Tryd.underlying22 info_int rfl .i64 .i64 n (by omega) (by omega)
    rw [rowOf_zero]; exact h
  obtain ⟨w0, hw0, R0, R1, R2, HB, hsz⟩ := new3 w 78 3 78 [.int .i64 0, .slice none 0 0] (rowOf n z 0) [.int .i64 n, .slice (some ⟨w.heap.size + 1, 0, none⟩) n n]
  have HW := Lib.hid hw0
  clear hw0
  have HR0 := Lib.hid R0
  have HR1 := Lib.hid R1
  have HR2 := Lib.hid R2
  clear R0 R1 R2
  go_enter Tryd.func59, Tryd.ntmps59
  go_wp2_with fail
  rw [← HW.out]
  clear HW hmk
  go_loopw [23] (fun i wr => ∃ k : Nat, k ≤ n ∧ i = .int .i64 k ∧ Row wr w.heap.size 78 [.int .i64 0, .slice none 0 0] ∧ Row wr (w.heap.size + 1) 3 (rowOf n z k) ∧
      Row wr (w.heap.size + 1 + 1) 78 [.int .i64 n, .slice (some ⟨w.heap.size + 1, 0, none⟩) n n] ∧ Below w.heap.size w wr ∧ (∀ i, i < k → okCell n z i = true)) (fun i _ => n - (intOf i).toNat)
  case atStart => exact ⟨0, Nat.zero_le _, rfl, HR0.out, HR1.out, HR2.out, HB, by omega⟩
  case round =>
    clear HR0 HR1 HR2 HB hsz
    obtain ⟨k, hk, rfl, r0, r1, r2, hbel, hok⟩ := hrel
    have R0 := Lib.hid r0
    have R1 := Lib.hid r1
    have R2 := Lib.hid r2
    have HBE := Lib.hid hbel
    have HOK := Lib.hid hok
    have d0 := r0.cell (i := 0) rfl
    have d1 := r0.cell (i := 1) rfl
    have e0 := r2.cell (i := 0) rfl
    have e1 := r2.cell (i := 1) rfl
    have l2 := r2.lt
    clear r0 r1 r2 hbel hok
    by_cases hlt : k < n
    · by_cases hz : 0 ≤ z k ∧ z k < 2 ^ n
      · obtain ⟨m, hm⟩ : ∃ m : Nat, z k = (m : Int) := ⟨(z k).toNat, by omega⟩
        have hm2 : m < 2 ^ n := by have := hz.2; rw [hm, pow_cast] at this; omega
        have hp := pow_le16 h8
        have hpk := pow_lt16 (v := k) (by omega)
        have hreach : reachOf z k = m ||| 2 ^ k := by unfold reachOf; rw [hm]; rfl
        have hzt : inB (m : Int) (2 ^ n) = true := by rw [← hm]; exact inB_true hz.1 hz.2
        have hck : wr.cell? ⟨gb, go + k, none⟩ = some (.int .i64 (m : Int)) := by rw [HBE.out.cell (p := ⟨gb, go + k, none⟩) hgb, ← hm]; exact hc k hlt
        have hcc := hc
        clear hc
        have HRE := Lib.hid hreach
        have hokk : okCell n z k = !m.testBit k := by unfold okCell; rw [hm, hzt]; rfl
        have HOKK := Lib.hid hokk
        have HM := Lib.hid hm
        clear hreach hokk hm hz hcc
        have hm3 : m < 65536 := by omega
        clear hm2
        cases hbit : m.testBit k
        · have rk : (rowOf n z k)[k]? = some (.int .i64 0) := by unfold rowOf; rw [map_range_get _ hlt, if_neg (by omega)]
          have RK := Lib.hid rk
          clear rk
          have hk16 : k < 16 := by omega
          have hpw : wrap64 ((2 : Int) ^ k) = 2 ^ k := by have := pow_bd k (by omega); exact IntWalk.wrap64_in _ ⟨by omega, by omega⟩
          have hpor : bits BinOp.or IntKind.i64 (m : Int) ((2 : Int) ^ k) = ((m ||| 2 ^ k : Nat) : Int) := i64_or_pow m k hm3 (by omega)
          go_wp2_with (first | (go_at_call 90; refine (has_any _ _ _ hm3 (by omega)).mono ?_; rintro e w' ⟨rfl, rfl⟩) | (go_at_call 89; refine (isSet_any _ _ _ _ _ (by omega)).mono ?_; rintro e w1 ⟨rfl, hb1⟩; have HB1 := Lib.hid hb1; have g0 := (R2.out.below hb1 R2.out.lt).cell (i := 0) rfl; have g1 := (R2.out.below hb1 R2.out.lt).cell (i := 1) rfl; have gk := (R1.out.below hb1 R1.out.lt).cell RK.out; have gf := (R1.out.below hb1 R1.out.lt).free k; clear hb1))
          go_region
          all_goals
            clear hpw hpor
            go_wp2_with fail
            go_roundw
            case rel =>
              have B1 := HBE.out.trans (HB1.out.mono (Nat.le_of_lt (Nat.lt_trans (by omega) l2)))
              refine ⟨k + 1, by omega, by go_num, ((R0.out.below HB1.out R0.out.lt).other (by simp) _).drewN 1, ?_, ((R2.out.below HB1.out R2.out.lt).other (by simp) _).drewN 1, below_drewN (B1.setCell (by simp) _) 1, fun i hi => ?_⟩
              · rw [← rowOf_set, HRE.out]
                exact ((R1.out.below HB1.out R1.out.lt).set k _).drewN 1
              · rcases Nat.lt_succ_iff_lt_or_eq.1 hi with h | h
                · exact HOK.out i h
                · subst h; rw [HOKK.out, hbit]; rfl
            case measure => simp [intOf]; omega
        · have hckf : okCell n z k = false := by rw [HOKK.out, hbit]; rfl
          have HCF := Lib.hid hckf
          clear hckf
          go_wp2_with (first | (go_at_call 90; refine (has_any _ _ _ hm3 (by omega)).mono ?_; rintro e w' ⟨rfl, rfl⟩) | (go_at_call 89; refine (isSet_any _ _ _ _ _ (by omega)).mono ?_; rintro e w1 ⟨rfl, hb1⟩; have HB1 := Lib.hid hb1; have g0 := (R0.out.below hb1 R0.out.lt).cell (i := 0) rfl; have g1 := (R0.out.below hb1 R0.out.lt).cell (i := 1) rfl; have f0 := (R0.out.below hb1 R0.out.lt).free 0; have f1 := (R0.out.below hb1 R0.out.lt).free 1; clear hb1))
          exact bodyPost_ret (v := .tuple #[.agg #[.int .i64 0, .slice none 0 0], .bool false]) (by simp [results, Tryd.results59, go_sem, g0, g1]) rfl (TownPost.no (((HBE.out.trans (HB1.out.mono (by omega))).setCell (by simp) _).setCell (by simp) _) (townB_cell hlt HCF.out))
      · have hzf := inB_false hz
        have hckf : okCell n z k = false := by unfold okCell; rw [hzf]; rfl
        have HCF := Lib.hid hckf
        clear hckf hz
        have hck : wr.cell? ⟨gb, go + k, none⟩ = some (.int .i64 (z k)) := by rw [HBE.out.cell (p := ⟨gb, go + k, none⟩) hgb]; exact hc k hlt
        go_wp2_with (go_at_call 89; refine (isSet_any _ _ _ _ _ (by omega)).mono ?_; rintro e w1 ⟨rfl, hb1⟩; have HB1 := Lib.hid hb1; have g0 := (R0.out.below hb1 R0.out.lt).cell (i := 0) rfl; have g1 := (R0.out.below hb1 R0.out.lt).cell (i := 1) rfl; have f0 := (R0.out.below hb1 R0.out.lt).free 0; have f1 := (R0.out.below hb1 R0.out.lt).free 1; clear hb1)
        exact bodyPost_ret (v := .tuple #[.agg #[.int .i64 0, .slice none 0 0], .bool false]) (by simp [results, Tryd.results59, go_sem, g0, g1]) rfl (TownPost.no (((HBE.out.trans (HB1.out.mono (by omega))).setCell (by simp) _).setCell (by simp) _) (townB_cell hlt HCF.out))
    · have : k = n := by omega
      subst this
      have T : TownAt wr k (w.heap.size + 1) (reachOf z) := ⟨R1.out.lt, by omega, fun i hi => R1.out.cell (by unfold rowOf; rw [map_range_get _ hi, if_pos hi]), fun i hi => by
        have h2 := HOK.out i hi
        unfold okCell at h2
        simp only [Bool.and_eq_true] at h2
        have h3 := inB_iff.1 h2.1
        have h4 := nat_pow_cast h3.2 h3.1
        have h5 := pow_le16 h8
        exact or_lt (by omega) (pow_lt16 (by omega))⟩
      have HT := Lib.hid T
      clear T
      cases hmu : mutB k (reachOf z)
      · have HF := Lib.hid (townB_mut hmu)
        go_wp2_with (go_at_call 91; refine (mutual_any HT.out _).mono ?_; rintro e w1 ⟨rfl, hb1⟩; have HB1 := Lib.hid hb1; have g0 := (R0.out.below hb1 R0.out.lt).cell (i := 0) rfl; have g1 := (R0.out.below hb1 R0.out.lt).cell (i := 1) rfl; have f0 := (R0.out.below hb1 R0.out.lt).free 0; have f1 := (R0.out.below hb1 R0.out.lt).free 1; clear hb1)
        exact bodyPost_ret (v := .tuple #[.agg #[.int .i64 0, .slice none 0 0], .bool false]) (by simp [results, Tryd.results59, go_sem, g0, g1]) rfl (TownPost.no (((HBE.out.trans (HB1.out.mono (by omega))).setCell (by simp) _).setCell (by simp) _) HF.out)
      · cases hco : connB k (reachOf z)
        · have HF := Lib.hid (townB_conn hco)
          go_wp2_with (first | (go_at_call 91; refine (mutual_any HT.out _).mono ?_; rintro e w1 ⟨rfl, hb1⟩; have HB1 := Lib.hid hb1; have HT1 := Lib.hid (HT.out.below hb1 HT.out.lt); have q0 := (R2.out.below hb1 R2.out.lt).cell (i := 0) rfl; have q1 := (R2.out.below hb1 R2.out.lt).cell (i := 1) rfl; clear hb1) | (go_at_call 92; refine (connected_any HT1.out _).mono ?_; rintro e w2 ⟨rfl, hb2⟩; have HB2 := Lib.hid hb2; have hb3 := (show Below wr.heap.size wr w2 from HB1.out.trans (hb2.mono HB1.out.size)); have HB3 := Lib.hid hb3; have g0 := (R0.out.below hb3 R0.out.lt).cell (i := 0) rfl; have g1 := (R0.out.below hb3 R0.out.lt).cell (i := 1) rfl; have f0 := (R0.out.below hb3 R0.out.lt).free 0; have f1 := (R0.out.below hb3 R0.out.lt).free 1; have p0 := (R2.out.below hb3 R2.out.lt).cell (i := 0) rfl; have p1 := (R2.out.below hb3 R2.out.lt).cell (i := 1) rfl; clear hb2 hb3))
          exact bodyPost_ret (v := .tuple #[.agg #[.int .i64 0, .slice none 0 0], .bool false]) (by simp [results, Tryd.results59, go_sem, g0, g1]) rfl (TownPost.no (((HBE.out.trans (HB3.out.mono (by omega))).setCell (by simp) _).setCell (by simp) _) HF.out)
        · have HF := Lib.hid (townB_yes h1 h8 HOK.out hmu hco)
          go_wp2_with (first | (go_at_call 91; refine (mutual_any HT.out _).mono ?_; rintro e w1 ⟨rfl, hb1⟩; have HB1 := Lib.hid hb1; have HT1 := Lib.hid (HT.out.below hb1 HT.out.lt); have q0 := (R2.out.below hb1 R2.out.lt).cell (i := 0) rfl; have q1 := (R2.out.below hb1 R2.out.lt).cell (i := 1) rfl; clear hb1) | (go_at_call 92; refine (connected_any HT1.out _).mono ?_; rintro e w2 ⟨rfl, hb2⟩; have HB2 := Lib.hid hb2; have hb3 := (show Below wr.heap.size wr w2 from HB1.out.trans (hb2.mono HB1.out.size)); have HB3 := Lib.hid hb3; have g0 := (R0.out.below hb3 R0.out.lt).cell (i := 0) rfl; have g1 := (R0.out.below hb3 R0.out.lt).cell (i := 1) rfl; have f0 := (R0.out.below hb3 R0.out.lt).free 0; have f1 := (R0.out.below hb3 R0.out.lt).free 1; have p0 := (R2.out.below hb3 R2.out.lt).cell (i := 0) rfl; have p1 := (R2.out.below hb3 R2.out.lt).cell (i := 1) rfl; clear hb2 hb3))
          refine bodyPost_ret (v := .tuple #[townV k (w.heap.size + 1) k, .bool true]) (by simp [results, Tryd.results59, go_sem, g0, g1]) rfl ?_
          refine ⟨((HBE.out.trans (HB3.out.mono (by omega))).setCell (by simp) _).setCell (by simp) _, fun _ => ⟨w.heap.size + 1, by omega, ?_, rfl⟩, fun h => by (rw [HF.out] at h; cases h)⟩
          have T3 := HT.out.below HB3.out HT.out.lt
          have R13 := ((R1.out.below HB3.out R1.out.lt).other (a := ⟨w.heap.size, 0, none⟩) (by simp) (.int .i64 k)).other (a := ⟨w.heap.size, 1, none⟩) (by simp) (.slice (some ⟨w.heap.size + 1, 0, none⟩) k k)
          exact ⟨R13.lt, T3.small, fun i hi => R13.cell (by unfold rowOf; rw [map_range_get _ hi, if_pos hi]), T3.bd⟩

theorem newTown_any {n : Nat} {z : Nat → Int} {a : Option Addr} {w : World} (h : IntsAt w a n z) (cap : Nat) :
    Calls Tryd.prog 59 #[.slice a n cap] w (TownPost n z w) := by
  by_cases hn : 1 ≤ n ∧ n ≤ 8
  · obtain ⟨b, off, rfl, hlt, hc⟩ := h.2 (by omega)
    exact newTown_walk n z b off cap w hn.1 hn.2 hlt hc
  · exact newTown_size n z a cap w (by omega) h.1

end Go.Proofs.YtbkbliieappkdaaDoor.Ch
