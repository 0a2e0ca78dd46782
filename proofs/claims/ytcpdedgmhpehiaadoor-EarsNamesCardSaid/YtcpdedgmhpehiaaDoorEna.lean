/- The closures of the law EarsNames, and its turned graph. -/
import Derived.Test.YtcpdedgmhpehiaaDoorEpc
import Derived.Test.YtcpdedgmhpehiaaDoorEcc
import Derived.Test.YtcpdedgmhpehiaaDoorEci
import Derived.Test.YtcpdedgmhpehiaaDoorEt9
namespace Go.Proofs.YtcpdedgmhpehiaaDoor
set_option linter.unusedSimpArgs false
set_option linter.unusedVariables false
open Go.RowKit Go.Maps
attribute [local go_sem] i64_bit toNat_eq_one toNat_ne_one toNat_eq_zero toNat_ne_zero i64_and i64_or i64_andNot i64_or_pow i64_andNot_pow

theorem graph_pl {n : Nat} {r : Nat → Nat} (h : Pl n r) : graphB n 10 (fun i => (r i : Int)) = true := by
  unfold graphB
  simp only [Bool.and_eq_true, decide_eq_true_eq, List.all_eq_true, List.mem_range, beq_iff_eq]
  refine ⟨⟨h.one, h.le⟩, fun i hi => ⟨?_, fun j hj => by rw [bitZ_nat, bitZ_nat]; exact h.sym i j hi hj⟩⟩
  unfold okCellZ
  rw [Bool.and_eq_true, bitZ_nat, h.loop i hi]
  have := h.bd i hi
  exact ⟨inB_true (show (0 : Int) ≤ (r i : Int) by omega) (show (r i : Int) < 2 ^ n by rw [pow_cast]; omega), rfl⟩
theorem shr_nat (s v : Nat) : ((s : Nat) : Int) / 2 ^ v = ((s >>> v : Nat) : Int) := by
  rw [Nat.shiftRight_eq_div_pow, Int.natCast_ediv, Int.natCast_pow]; rfl
theorem shl_nat (s v : Nat) : ((s : Nat) : Int) * 2 ^ v = ((s <<< v : Nat) : Int) := by
  rw [Nat.shiftLeft_eq, Int.natCast_mul, Int.natCast_pow]; rfl
theorem shl_lt {n b s : Nat} (hn : n ≤ 10) (hb : b < n) (hs : s < 2 ^ n) : s <<< b < 1048576 := by
  rw [Nat.shiftLeft_eq]
  have h1 : 2 ^ n ≤ 2 ^ 10 := Nat.pow_le_pow_right (by omega) hn
  have h2 : 2 ^ b ≤ 2 ^ 10 := Nat.pow_le_pow_right (by omega) (by omega)
  have h3 : s * 2 ^ b < 2 ^ 10 * 2 ^ 10 := Nat.lt_of_lt_of_le (Nat.mul_lt_mul_of_pos_right (Nat.lt_of_lt_of_le hs h1) (Nat.two_pow_pos b)) (Nat.mul_le_mul_left _ h2)
  simpa using h3

theorem i64_and32 (a b : Nat) (ha : a < 4294967296) (hb : b < 4294967296) : bits .and .i64 (a : Int) (b : Int) = ((a &&& b : Nat) : Int) := by
  have h : a &&& b < 4294967296 := Nat.lt_of_le_of_lt Nat.and_le_left ha
  show IntKind.i64.wrap (((BitVec.ofInt 64 (a : Int) &&& BitVec.ofInt 64 (b : Int)).toNat : Nat) : Int) = _
  rw [BitVec.toNat_and, toNat_ofInt64 a (by omega), toNat_ofInt64 b (by omega)]
  exact wrap_i64_nat _ (by omega)
theorem i64_or32 (a b : Nat) (ha : a < 4294967296) (hb : b < 4294967296) : bits .or .i64 (a : Int) (b : Int) = ((a ||| b : Nat) : Int) := by
  have h : a ||| b < 4294967296 := Nat.or_lt_two_pow (n := 32) ha hb
  show IntKind.i64.wrap (((BitVec.ofInt 64 (a : Int) ||| BitVec.ofInt 64 (b : Int)).toNat : Nat) : Int) = _
  rw [BitVec.toNat_or, toNat_ofInt64 a (by omega), toNat_ofInt64 b (by omega)]
  exact wrap_i64_nat _ (by omega)
theorem turn_val {n b s : Nat} (hn : n ≤ 10) (hb : b < n) (hs : s < 2 ^ n) :
    bits .and .i64 (bits .or .i64 (wrap64 ((s : Int) * 2 ^ b)) ((s : Int) / 2 ^ (n - b))) (wrap64 (wrap64 (2 ^ n) - 1)) = ((turnS n b s : Nat) : Int) := by
  have h1 := shl_lt hn hb hs
  have h2 : s >>> (n - b) ≤ s := Nat.shiftRight_le s (n - b)
  have h10 := pow_le10 hn
  have h3 : s <<< b ||| s >>> (n - b) < 4294967296 := Nat.or_lt_two_pow (n := 32) (by omega) (by omega)
  have h4 := Nat.two_pow_pos n
  have h5 : (0 : Int) ≤ ((s <<< b : Nat) : Int) := Int.natCast_nonneg _
  rw [shl_nat, shr_nat, IntWalk.wrap64_in ((s <<< b : Nat) : Int) ⟨by omega, by omega⟩, pow_cast, IntWalk.wrap64_in ((2 ^ n : Nat) : Int) ⟨by omega, by omega⟩, show ((2 ^ n : Nat) : Int) - 1 = ((2 ^ n - 1 : Nat) : Int) by omega, IntWalk.wrap64_in _ ⟨by omega, by omega⟩, i64_or32 _ _ (by omega) (by omega), i64_and32 _ _ h3 (by omega)]
  rfl

set_option maxRecDepth 20000 in
set_option maxHeartbeats 1000000 in
theorem turn_any {n b s g1 g2 : Nat} (hn : n ≤ 10) (hb : b < n) (hs : s < 2 ^ n) (w : World) (h1 : g1 < w.heap.size) (h2 : g2 < w.heap.size) (c1 : w.cell? ⟨g1, 0, none⟩ = some (.int .i64 b)) (c2 : w.cell? ⟨g2, 0, none⟩ = some (.int .i64 n)) :
    Calls Tryd.prog 45 #[.int .i64 s, .pointer (some ⟨g1, 0, none⟩), .pointer (some ⟨g2, 0, none⟩)] w fun e w' => e = .returned (.int .i64 (turnS n b s : Nat)) ∧ Below w.heap.size w w' := by
  have HV := Lib.hid (turn_val hn hb hs)
  go_enter Tryd.func45, Tryd.ntmps45
  go_wp2_with fail
  go_quiet (fail)
  go_wp2_with fail
  go_ret
  exact ⟨by rw [← HV.out]; rfl, below_drewN (Below.refl _ _) _⟩

theorem rot_val {n b x : Nat} (hn : n ≤ 10) (hb : b < n) (hx : x < n) : ((x : Int) + b).tmod n = (rot n b x : Nat) := by
  rw [Int.tmod_eq_emod_of_nonneg (by omega)]
  unfold rot
  rw [Int.natCast_emod, Int.natCast_add]
set_option maxRecDepth 20000 in
set_option maxHeartbeats 1000000 in
theorem pairN_any {n b x y g1 g2 : Nat} (hn : n ≤ 10) (hb : b < n) (hx : x < n) (hy : y < n) (w : World) (h1 : g1 < w.heap.size) (h2 : g2 < w.heap.size) (c1 : w.cell? ⟨g1, 0, none⟩ = some (.int .i64 b)) (c2 : w.cell? ⟨g2, 0, none⟩ = some (.int .i64 n)) :
    Calls Tryd.prog 48 #[.agg #[.int .i64 x, .int .i64 y], .pointer (some ⟨g1, 0, none⟩), .pointer (some ⟨g2, 0, none⟩)] w fun e w' => e = .returned (.agg #[.int .i64 (ordP (rot n b) (x, y)).1, .int .i64 (ordP (rot n b) (x, y)).2]) ∧ Below w.heap.size w w' := by
  have h0 : 0 < n := by omega
  have hn0 : ((n : Int) == 0) = false := beq_eq_false_iff_ne.2 (by omega)
  have e1 := rot_val hn hb hx
  have e2 := rot_val hn hb hy
  have l1 := rot_lt (b := b) (x := x) h0
  have l2 := rot_lt (b := b) (x := y) h0
  have HO : Hid (ordP (rot n b) (x, y) = (min (rot n b x) (rot n b y), max (rot n b x) (rot n b y))) := Lib.hid rfl
  rw [HO.out]
  generalize rot n b x = X at *
  generalize rot n b y = Y at *
  obtain ⟨w0, hw0, R1, R2, hb0, hsz⟩ := new2 w 66 66 [.int .i64 x, .int .i64 y] [.int .i64 0, .int .i64 0]
  have HB0 := Lib.hid hb0
  have c1' := (hb0.cell (p := ⟨g1, 0, none⟩) h1).trans c1
  have c2' := (hb0.cell (p := ⟨g2, 0, none⟩) h2).trans c2
  have k0 := R1.cell (i := 0) rfl
  have k1 := R1.cell (i := 1) rfl
  have hg1' : g1 < w0.heap.size := by omega
  have hg2' : g2 < w0.heap.size := by omega
  have m0 := R2.cell (i := 0) rfl
  have m1 := R2.cell (i := 1) rfl
  have f0 := R2.free 0
  have f1 := R2.free 1
  have HR2 := Lib.hid R2
  clear R1 R2 hb0 c1 c2
  go_enter Tryd.func48, Tryd.ntmps48
  go_wp2_with fail
  rw [← hw0]
  clear hw0
  go_wp2_with fail
  go_quiet (fail)
  rcases Nat.le_total X Y with hXY | hXY
  all_goals
    have q1 : min (X : Int) Y = ((min X Y : Nat) : Int) := by omega
    have q2 : max (X : Int) Y = ((max X Y : Nat) : Int) := by omega
    go_wp2_with fail
  all_goals
    refine bodyPost_ret (results_cell_row rfl _ _ (w.heap.size + 1) 66 _ (0, 0) _ rfl (((HR2.out.drewN nq).set 0 _).set 1 _) rfl rfl rfl) rfl ?_
    refine ⟨?_, ((below_drewN HB0.out nq).setCell (Nat.le_succ _) _).setCell (Nat.le_succ _) _⟩
    first
      | rfl
      | (rw [Nat.min_eq_left (by omega), Nat.max_eq_right (by omega)]; rfl)
      | (rw [Nat.min_eq_right (by omega), Nat.max_eq_left (by omega)]; rfl)
      | (have hh : X = Y := by omega
         subst hh; rw [Nat.min_self, Nat.max_self]; rfl)
      | (have hh : X = Y := by omega
         subst hh; rfl)

/-- The turned graph's cells behind i rows. -/
def hT (n b : Nat) (r : Nat → Nat) (i : Nat) : List Value := (List.range n).map fun x => .int .i64 ((if unrot n b x < i then turnG n b r x else 0 : Nat) : Int)
theorem hT_zero (n b : Nat) (r : Nat → Nat) : hT n b r 0 = (madeCells #[.int .i64 0] n).toList := by
  unfold hT madeCells
  simp [Nat.mod_one]
theorem hT_set {n b : Nat} {r : Nat → Nat} (hb : b < n) {i : Nat} (hi : i < n) : (hT n b r i).set (rot n b i) (.int .i64 (turnS n b (r i) : Nat)) = hT n b r (i + 1) := by
  unfold hT
  rw [map_range_set]
  apply List.map_congr_left
  intro x hx
  have hx := List.mem_range.1 hx
  by_cases h : x = rot n b i
  · subst h
    rw [if_pos rfl, unrot_rot hb hi, if_pos (Nat.lt_succ_self i)]
    unfold turnG
    rw [unrot_rot hb hi]
  · have : unrot n b x ≠ i := fun e => h (by rw [← e, rot_unrot hb hx])
    rw [if_neg h]
    by_cases h2 : unrot n b x < i
    · rw [if_pos h2, if_pos (by omega)]
    · rw [if_neg h2, if_neg (by omega)]
theorem hT_all {n b : Nat} {r : Nat → Nat} (hb : b < n) {x : Nat} (hx : x < n) : (hT n b r n)[x]? = some (.int .i64 (turnG n b r x : Nat)) := by
  unfold hT
  rw [map_range_get _ hx, if_pos (unrot_lt (by omega))]
theorem hT_at {n b : Nat} {r : Nat → Nat} {i x : Nat} (hx : x < n) : ∃ X : Nat, (hT n b r i)[x]? = some (.int .i64 X) := ⟨_, by unfold hT; rw [map_range_get _ hx]⟩

/-! ### slices.Contains over pairs that stand anywhere -/

set_option maxRecDepth 20000 in
set_option maxHeartbeats 2000000 in
theorem IndexA_any {L : List (Nat × Nat)} {a : Option Addr} {c : Nat} {w : World} (h : PairsAt w (.slice a L.length c) L) (hL : L.length ≤ 65536) (x y : Nat) :
    Calls Tryd.prog 85 #[.slice a L.length c, .agg #[.int .i64 x, .int .i64 y]] w fun e w' => ∃ i : Int, e = .returned (.int .i64 i) ∧ ((0 ≤ i ∧ (x, y) ∈ L) ∨ (i = -1 ∧ ¬ (x, y) ∈ L)) ∧ Below w.heap.size w w' := by
  have hneq := fun w a b c e => run_eql_pair w a b c e
  obtain ⟨a', c', hv, hcells⟩ := h
  simp only [Value.slice.injEq] at hv
  obtain ⟨rfl, _, rfl⟩ := hv
  have HC := Lib.hid hcells
  clear hcells
  obtain ⟨w0, hw0, r3, hb0, hsz⟩ := new1 w 66 [.int .i64 x, .int .i64 y]
  go_enter Tryd.func85, Tryd.ntmps85
  go_wp2_with fail
  rw [← hw0]
  clear hw0
  go_loopw [8] (fun i wr => ∃ k : Nat, k ≤ L.length ∧ i = .int .i64 k ∧ (∀ j, j < k → L[j]? ≠ some (x, y)) ∧ Row wr w.heap.size 66 [.int .i64 x, .int .i64 y] ∧ Below w.heap.size w wr) (fun i _ => L.length - (intOf i).toNat)
  case atStart => exact ⟨0, Nat.zero_le _, rfl, by omega, r3, hb0⟩
  case round =>
    obtain ⟨k, hk, rfl, hd, q3, hbel⟩ := hrel
    have HD := Lib.hid hd
    have HB := Lib.hid hbel
    clear hd hbel r3 hb0
    by_cases hlt : k < L.length
    · obtain ⟨p, hp⟩ : ∃ p, L[k]? = some p := ⟨L[k], by simp [hlt]⟩
      obtain ⟨g1, rfl, x1, x2⟩ := HC.out wr HB.out k p hp
      obtain ⟨pa, pb⟩ := p
      dsimp only at x1 x2
      have HP := Lib.hid hp
      clear hp
      have c0 := q3.cell (i := 0) rfl
      have c1 := q3.cell (i := 1) rfl
      have HQ := Lib.hid q3
      have s1 := cast_beq x pa
      have s2 := cast_beq y pb
      by_cases he : x = pa ∧ y = pb
      · have t1 : (x == pa) = true := by simpa using he.1
        have t2 : (y == pb) = true := by simpa using he.2
        rw [t1] at s1
        rw [t2] at s2
        have HE : Hid ((x, y) ∈ L) := Lib.hid (by rw [he.1, he.2]; exact List.mem_of_getElem? HP.out)
        clear he t1 t2 q3
        go_wp2_with fail
        go_quiet (fail)
        go_wp2_with fail
        go_ret
        exact ⟨_, rfl, Or.inl ⟨by omega, HE.out⟩, below_drewN HB.out _⟩
      · have HE : Hid (L[k]? ≠ some (x, y)) := Lib.hid (fun h => by rw [HP.out] at h; simp at h; exact he ⟨h.1.symm, h.2.symm⟩)
        have t : (((x : Int) == (pa : Int)) && ((y : Int) == (pb : Int))) = false := by
          rw [s1, s2]
          rw [Bool.eq_false_iff]
          intro h
          rw [Bool.and_eq_true, beq_iff_eq, beq_iff_eq] at h
          exact he h
        clear he s1 s2 q3
        go_wp2_with fail
        go_quiet (fail)
        go_wp2_with fail
        go_roundw
        case rel => exact ⟨k + 1, by omega, by go_num, fun i hi => by rcases Nat.lt_succ_iff_lt_or_eq.1 hi with h | h; exact HD.out i h; rw [h]; exact HE.out, HQ.out.drewN _, below_drewN HB.out _⟩
        case measure => simp [intOf]; omega
    · have hke : k = L.length := by omega
      subst hke
      go_wp2_with fail
      go_ret
      refine ⟨-1, rfl, Or.inr ⟨rfl, fun hm => ?_⟩, HB.out⟩
      obtain ⟨i, hi⟩ := List.mem_iff_getElem?.1 hm
      exact HD.out i (List.getElem?_eq_some_iff.1 hi).1 hi
set_option maxRecDepth 20000 in
set_option maxHeartbeats 1000000 in
theorem ContainsA_yes {L : List (Nat × Nat)} {a : Option Addr} {c : Nat} {w : World} (h : PairsAt w (.slice a L.length c) L) (hL : L.length ≤ 65536) (x y : Nat) (hm : (x, y) ∈ L) :
    Calls Tryd.prog 49 #[.slice a L.length c, .agg #[.int .i64 x, .int .i64 y]] w fun e w' => e = .returned (.bool true) ∧ Below w.heap.size w w' := by
  obtain ⟨w0, hw0, r3, hb0, hsz⟩ := new1 w 66 [.int .i64 x, .int .i64 y]
  have HIX := Lib.hid (IndexA_any (h.below hb0) hL x y)
  have HB0 := Lib.hid hb0
  have HM := Lib.hid hm
  clear h hb0 hm
  go_enter Tryd.func49, Tryd.ntmps49
  go_wp2_with fail
  rw [← hw0]
  clear hw0
  go_at_call 85
  refine HIX.out.mono ?_
  rintro e w1 ⟨i, rfl, hx, hb⟩
  have HB := Lib.hid (HB0.out.trans (hb.mono HB0.out.size))
  clear hb
  have h0 : (0 : Int) ≤ i := by
    rcases hx with h | h
    · exact h.1
    · exact absurd HM.out h.2
  have hd : decide ((0 : Int) ≤ i) = true := decide_eq_true h0
  clear hx
  go_wp2_with fail
  go_ret
  exact ⟨by first | rfl | simp, HB.out⟩

end Go.Proofs.YtcpdedgmhpehiaaDoor
