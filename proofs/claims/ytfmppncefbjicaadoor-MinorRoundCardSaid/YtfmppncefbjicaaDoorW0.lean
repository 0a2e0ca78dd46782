/- The contracts of the reference's IsGraph and Reached. -/
import Derived.Test.YtfmppncefbjicaaDoorRows
import Derived.Test.YtfmppncefbjicaaDoorMap
namespace Go.Proofs.YtfmppncefbjicaaDoor
set_option linter.unusedSimpArgs false
set_option linter.unusedVariables false
open Go.RowKit Go.Maps

theorem ofInt64_and_one (x : Int) : (BitVec.ofInt 64 x &&& BitVec.ofInt 64 1).toNat = (x % 2).toNat := by
  rw [BitVec.toNat_and, BitVec.toNat_ofInt, BitVec.toNat_ofInt]
  rw [show ((1 : Int) % (2 ^ 64 : Nat)).toNat = 1 from rfl, nat_mask1]
  omega
theorem i64_and_one (x : Int) : bits .and .i64 x 1 = x % 2 := by
  show IntKind.i64.wrap (((BitVec.ofInt 64 x &&& BitVec.ofInt 64 1).toNat : Nat) : Int) = _
  rw [ofInt64_and_one, wrap_i64_nat _ (by omega)]
  omega
/-- Bit j of a whole number. -/
def bitZ (z : Int) (j : Nat) : Bool := z / 2 ^ j % 2 == 1
theorem bitZ_nat (m j : Nat) : bitZ (m : Int) j = m.testBit j := by
  unfold bitZ
  rw [Nat.testBit_eq_decide_div_mod_eq]
  have e : ((m : Nat) : Int) / 2 ^ j = ((m / 2 ^ j : Nat) : Int) := by rw [Int.natCast_ediv, Int.natCast_pow]; rfl
  rw [e, Bool.eq_iff_iff]
  simp only [beq_iff_eq, decide_eq_true_eq]
  omega
theorem bitZ_ne (a b : Int) (i j : Nat) : (a / 2 ^ i % 2 != b / 2 ^ j % 2) = (bitZ a i != bitZ b j) := by
  unfold bitZ
  have h1 : a / 2 ^ i % 2 = 0 ∨ a / 2 ^ i % 2 = 1 := by omega
  have h2 : b / 2 ^ j % 2 = 0 ∨ b / 2 ^ j % 2 = 1 := by omega
  rcases h1 with h1 | h1 <;> rcases h2 with h2 | h2 <;> rw [h1, h2] <;> rfl

def okCellZ (n : Nat) (z : Nat → Int) (i : Nat) : Bool := inB (z i) (2 ^ n) && !bitZ (z i) i
def graphB (n most : Nat) (z : Nat → Int) : Bool := decide (1 ≤ n) && decide (n ≤ most) && (List.range n).all fun i => okCellZ n z i && (List.range n).all fun j => bitZ (z i) j == bitZ (z j) i

theorem graphB_no {n most : Nat} {z : Nat → Int} (h : n < 1 ∨ most < n) : graphB n most z = false := by
  unfold graphB
  rcases h with h | h
  · simp [show ¬ 1 ≤ n by omega]
  · simp [show ¬ n ≤ most by omega]
theorem graphB_cell {n most : Nat} {z : Nat → Int} {i : Nat} (hi : i < n) (h : okCellZ n z i = false) : graphB n most z = false := by
  rw [Bool.eq_false_iff]; intro ht
  unfold graphB at ht
  simp only [Bool.and_eq_true, List.all_eq_true, List.mem_range] at ht
  have := (ht.2 i hi).1
  rw [h] at this; cases this
theorem graphB_bit {n most : Nat} {z : Nat → Int} {i j : Nat} (hi : i < n) (hj : j < n) (h : (bitZ (z i) j != bitZ (z j) i) = true) : graphB n most z = false := by
  rw [Bool.eq_false_iff]; intro ht
  unfold graphB at ht
  simp only [Bool.and_eq_true, List.all_eq_true, List.mem_range, beq_iff_eq] at ht
  have := (ht.2 i hi).2 j hj
  rw [this] at h; simp at h
theorem graphB_yes {n most : Nat} {z : Nat → Int} (h1 : 1 ≤ n) (h2 : n ≤ most) (h : ∀ i, i < n → okCellZ n z i = true ∧ ∀ j, j < n → bitZ (z i) j = bitZ (z j) i) : graphB n most z = true := by
  unfold graphB
  simp only [Bool.and_eq_true, List.all_eq_true, List.mem_range, beq_iff_eq, decide_eq_true_eq]
  exact ⟨⟨h1, h2⟩, fun i hi => h i hi⟩

section
attribute [local go_sem] i64_and_one

set_option maxRecDepth 20000 in
set_option maxHeartbeats 2000000 in
theorem IsGraph_any (n most : Nat) (mI : Int) (hmI : mI = most) (z : Nat → Int) (a : Option Addr) (cap : Nat) (w : World) (hI : IntsAt w a n z) (hz : ∀ i, -9223372036854775808 ≤ z i ∧ z i ≤ 9223372036854775807) (hm : most < 16) :
    Calls Tryd.prog 62 #[.slice a n cap, .int .i64 mI] w fun e w' => e = .returned (.bool (graphB n most z)) ∧ Below w.heap.size w w' := by
  subst hmI
  by_cases hn : n = 0
  · subst hn
    have HF := Lib.hid (graphB_no (n := 0) (most := most) (z := z) (Or.inl (by omega)))
    clear hI
    go_enter Tryd.func62, Tryd.ntmps62
    go_wp2_with fail
    refine wp_loop_rounds 1 ?_
    rw [rounds_succ]
    go_wp2
    go_ret
    exact ⟨by rw [HF.out]; rfl, Below.refl _ _⟩
  · obtain ⟨hml, hI⟩ := hI
    obtain ⟨b, off, rfl, hlt, hc⟩ := hI (by omega)
    unfold maxLen at hml
    by_cases hm2 : most < n
    · have HF := Lib.hid (graphB_no (n := n) (most := most) (z := z) (Or.inr hm2))
      have c0 := hc 0 (by omega)
      rw [Nat.add_zero] at c0
      have hn0 : 0 < n := by omega
      clear hc
      go_enter Tryd.func62, Tryd.ntmps62
      go_wp2_with fail
      refine wp_loop_rounds 1 ?_
      rw [rounds_succ]
      go_wp2
      go_ret
      exact ⟨by rw [HF.out]; rfl, Below.refl _ _⟩
    · have h1 : 1 ≤ n := by omega
      have h2 : n ≤ most := by omega
      have hbc : ∀ wx, Below w.heap.size w wx → ∀ i, i < n → wx.cell? ⟨b, off + i, none⟩ = some (.int .i64 (z i)) := fun wx hb i hi => by rw [hb.cell (p := ⟨b, off + i, none⟩) hlt]; exact hc i hi
      have HC := Lib.hid hbc
      have HZ := Lib.hid hz
      have hpn := pow_bd n (by omega)
      clear hbc hc hz hm2
      go_enter Tryd.func62, Tryd.ntmps62
      go_wp2_with fail
      go_loopw [10] (fun i wr => ∃ k : Nat, k ≤ n ∧ i = .int .i64 k ∧ (∀ i, i < k → okCellZ n z i = true ∧ ∀ j, j < n → bitZ (z i) j = bitZ (z j) i) ∧ Below w.heap.size w wr) (fun i _ => n - (intOf i).toNat)
      case atStart => exact ⟨0, Nat.zero_le _, rfl, by omega, Below.refl _ _⟩
      case round =>
        obtain ⟨k, hk, rfl, hok, hbel⟩ := hrel
        have HOK := Lib.hid hok
        have HB := Lib.hid hbel
        clear hok hbel
        by_cases hlt2 : k < n
        · have ck := HC.out wr HB.out k hlt2
          obtain ⟨z1, z2⟩ := HZ.out k
          have hk16 : k < 64 := by omega
          generalize hzk : z k = zk at *
          have HZK := Lib.hid hzk
          clear hzk
          by_cases g1 : zk < 0
          · have HF := Lib.hid (graphB_cell (most := most) hlt2 (show okCellZ n z k = false by unfold okCellZ; rw [HZK.out, inB_false (by omega)]; rfl))
            go_wp2_with fail
            go_ret
            exact ⟨by rw [HF.out]; rfl, HB.out⟩
          · by_cases g2 : zk < 2 ^ n
            · have hd : decide ((2 : Int) ^ n ≤ zk) = false := by simp; omega
              cases g3 : bitZ zk k
              · have g3' : (zk / 2 ^ k % 2 == 1) = false := g3
                have HOKK := Lib.hid (show okCellZ n z k = true by unfold okCellZ; rw [HZK.out, inB_true (by omega) g2, g3]; rfl)
                have HG3 := Lib.hid g3
                clear g3
                go_wp2_with fail
                go_loopw [39] (fun i wx => ∃ j : Nat, j ≤ n ∧ i = .int .i64 j ∧ (∀ u, u < j → bitZ (z k) u = bitZ (z u) k) ∧ Below w.heap.size w wx) (fun i _ => n - (intOf i).toNat)
                case atStart => exact ⟨0, Nat.zero_le _, rfl, by omega, HB.out⟩
                case round =>
                  clear ck HB
                  obtain ⟨j, hj, rfl, hdone, hbel⟩ := hrel
                  have HD := Lib.hid hdone
                  have HB := Lib.hid hbel
                  clear hdone hbel
                  by_cases hlj : j < n
                  · have cj := HC.out wr HB.out j hlj
                    obtain ⟨z3, z4⟩ := HZ.out j
                    have hj16 : j < 64 := by omega
                    cases hq : (zk / 2 ^ j % 2 != z j / 2 ^ k % 2)
                    · have HQ := Lib.hid (show bitZ (z k) j = bitZ (z j) k by have := bitZ_ne zk (z j) j k; rw [hq, ← HZK.out] at this; simpa using this.symm)
                      go_wp2_with fail
                      go_quiet (fail)
                      go_wp2_with fail
                      go_roundw
                      case rel => exact ⟨j + 1, by omega, by go_num, fun u hu => by rcases Nat.lt_succ_iff_lt_or_eq.1 hu with h | h; exact HD.out u h; rw [h]; exact HQ.out, below_drewN HB.out _⟩
                      case measure => simp [intOf]; omega
                    · have HF := Lib.hid (graphB_bit (most := most) (z := z) hlt2 hlj (by rw [← bitZ_ne, HZK.out]; exact hq))
                      go_wp2_with fail
                      go_quiet (fail)
                      go_wp2_with fail
                      go_ret
                      exact ⟨by rw [HF.out]; rfl, below_drewN HB.out _⟩
                  · have hje : j = n := by omega
                    subst hje
                    go_wp2_with fail
                    go_roundw
                    case rel => exact ⟨k + 1, by omega, by go_num, fun i hi => by rcases Nat.lt_succ_iff_lt_or_eq.1 hi with h | h; exact HOK.out i h; rw [h]; exact ⟨HOKK.out, HD.out⟩, HB.out⟩
                    case measure => simp [intOf]; omega
              · have g3' : (zk / 2 ^ k % 2 == 1) = true := g3
                have HF := Lib.hid (graphB_cell (most := most) hlt2 (show okCellZ n z k = false by unfold okCellZ; rw [HZK.out, g3]; simp))
                clear g3
                go_wp2_with fail
                go_ret
                exact ⟨by rw [HF.out]; rfl, HB.out⟩
            · have HF := Lib.hid (graphB_cell (most := most) hlt2 (show okCellZ n z k = false by unfold okCellZ; rw [HZK.out, inB_false (by omega)]; rfl))
              go_wp2_with fail
              go_ret
              exact ⟨by rw [HF.out]; rfl, HB.out⟩
        · have hke : k = n := by omega
          subst hke
          go_wp2_with fail
          go_ret
          exact ⟨by rw [graphB_yes h1 h2 HOK.out]; rfl, HB.out⟩

end

/-- The set that is met from a set along the first nodes, as the reference reckons it. -/
def metTo (g : Nat → Nat) (set f : Nat) : Nat → Nat
  | 0 => f
  | j + 1 => if (metTo g set f j).testBit j then metTo g set f j ||| (g j &&& set) else metTo g set f j
def metIn (n : Nat) (g : Nat → Nat) (set f : Nat) : Nat → Nat
  | 0 => f
  | k + 1 => metTo g set (metIn n g set f k) n
theorem metTo_lt {g : Nat → Nat} {set f n : Nat} (hf : f < 65536) (hr : ∀ i, i < n → g i < 65536) : ∀ j, j ≤ n → metTo g set f j < 65536 := by
  intro j
  induction j with
  | zero => intro _; exact hf
  | succ j ih =>
    intro hj
    have h1 := ih (by omega)
    unfold metTo
    split
    · exact or_lt h1 (and_lt (hr j (by omega)))
    · exact h1
theorem metIn_lt {g : Nat → Nat} {n set f : Nat} (hf : f < 65536) (hr : ∀ i, i < n → g i < 65536) : ∀ k, metIn n g set f k < 65536 := by
  intro k
  induction k with
  | zero => exact hf
  | succ k ih => exact metTo_lt ih hr n (Nat.le_refl _)

attribute [local go_sem] i64_bit toNat_eq_one toNat_ne_one toNat_eq_zero toNat_ne_zero i64_and i64_or i64_andNot i64_or_pow i64_andNot_pow


theorem pow_le16 {n : Nat} (h : n ≤ 8) : 2 ^ n ≤ 256 := by
  have : 2 ^ n ≤ 2 ^ 8 := Nat.pow_le_pow_right (by omega) h
  simpa using this
theorem nat_pow_cast {n : Nat} {z : Int} (h : z < 2 ^ n) (h0 : 0 ≤ z) : z.toNat < 2 ^ n := by
  rw [pow_cast] at h; omega

/-- A valid graph as the reference reads it. -/
structure GrAt (w : World) (a : Option Addr) (n : Nat) (g : Nat → Nat) : Prop where
  ints : IntsAt w a n (fun i => ((g i : Nat) : Int))
  pos : 0 < n
  small : n < 16
  bd : ∀ i, i < n → g i < 65536
theorem GrAt.below {w w' : World} {a : Option Addr} {n : Nat} {g : Nat → Nat} (h : GrAt w a n g) (hb : Below w.heap.size w w') : GrAt w' a n g :=
  ⟨h.ints.below hb, h.pos, h.small, h.bd⟩

set_option maxRecDepth 20000 in
set_option maxHeartbeats 2000000 in
theorem Reached_any {n : Nat} {g : Nat → Nat} {a : Option Addr} {w : World} (G : GrAt w a n g) (cap set node : Nat) (sI nI : Int) (hs : sI = set) (hn0 : nI = node) (hset : set < 65536) (hnode : node < n) :
    Calls Tryd.prog 56 #[.slice a n cap, .int .i64 sI, .int .i64 nI] w fun e w' => e = .returned (.int .i64 (metIn n g set (2 ^ node) n)) ∧ Below w.heap.size w w' := by
  obtain ⟨hml, hI⟩ := G.ints
  obtain ⟨b, off, rfl, hlt, hc⟩ := hI G.pos
  have hn := G.small
  have hbd := G.bd
  have hpw := pow_bd node (by omega)
  have HPC := Lib.hid (pow_cast node)
  have hpl := pow_lt16 (v := node) (by omega)
  have HS := Lib.hid hs
  have hs0 : 0 ≤ sI ∧ sI < 65536 := by omega
  have hn1 : 0 ≤ nI ∧ nI < n := by omega
  subst hn0
  clear hs hI
  unfold maxLen at hml
  go_enter Tryd.func56, Tryd.ntmps56
  go_wp2_with fail
  rw [HPC.out]
  go_loopw [7, 13] (fun f i wr => ∃ k : Nat, k ≤ n ∧ i = .int .i64 k ∧ f = .int .i64 (metIn n g set (2 ^ node) k) ∧ wr = w) (fun _ i _ => n - (intOf i).toNat)
  case atStart => exact ⟨0, Nat.zero_le _, rfl, rfl, rfl⟩
  case round =>
    obtain ⟨k, hk, rfl, rfl, rfl⟩ := hrel
    have hfk := metIn_lt (set := set) (n := n) hpl hbd k
    by_cases hlt2 : k < n
    · go_wp2_with fail
      go_loopw [7, 17] (fun f i wx => ∃ j : Nat, j ≤ n ∧ i = .int .i64 j ∧ f = .int .i64 (metTo g set (metIn n g set (2 ^ node) k) j) ∧ wx = wr) (fun _ i _ => n - (intOf i).toNat)
      case atStart => exact ⟨0, Nat.zero_le _, rfl, rfl, rfl⟩
      case round =>
        obtain ⟨j, hj, rfl, rfl, rfl⟩ := hrel
        have hsj := metTo_lt (set := set) hfk hbd j hj
        by_cases hlj : j < n
        · have hrj := hbd j hlj
          have HST : Hid (metTo g set (metIn n g set (2 ^ node) k) (j + 1) = if (metTo g set (metIn n g set (2 ^ node) k) j).testBit j then metTo g set (metIn n g set (2 ^ node) k) j ||| (g j &&& set) else metTo g set (metIn n g set (2 ^ node) k) j) := Lib.hid rfl
          have cj := hc j hlj
          generalize metTo g set (metIn n g set (2 ^ node) k) j = f at *
          have ha := and_lt (b := set) hrj
          have e1 := HS.out
          subst e1
          cases hq : f.testBit j
          all_goals
            go_wp2_with fail
            go_roundw
            case rel => exact ⟨j + 1, by omega, by go_num, by rw [HST.out, hq]; rfl, by trivial⟩
            case measure => simp [intOf]; omega
        · go_wp2_with fail
          go_roundw
          case rel =>
            have : j = n := by omega
            subst this
            exact ⟨k + 1, by omega, by go_num, by trivial, by trivial⟩
          case measure => simp [intOf]; omega
    · have : k = n := by omega
      subst this
      go_wp2_with fail
      go_ret
      exact ⟨rfl, Below.refl _ _⟩

theorem graphB_le {n most : Nat} {z : Nat → Int} (h : graphB n most z = true) : 1 ≤ n ∧ n ≤ most ∧ ∀ i, i < n → 0 ≤ z i ∧ z i < 2 ^ n := by
  unfold graphB at h
  simp only [Bool.and_eq_true, decide_eq_true_eq, List.all_eq_true, List.mem_range] at h
  refine ⟨h.1.1, h.1.2, fun i hi => ?_⟩
  have := (h.2 i hi).1
  unfold okCellZ at this
  simp only [Bool.and_eq_true] at this
  exact inB_iff.1 this.1

theorem GrAt.of_graph {w : World} {a : Option Addr} {n most : Nat} {z : Nat → Int} (h : IntsAt w a n z) (hg : graphB n most z = true) (hm : most < 16) : GrAt w a n (fun i => (z i).toNat) := by
  obtain ⟨h1, h2, h3⟩ := graphB_le hg
  refine ⟨⟨h.1, fun hn => ?_⟩, by omega, by omega, fun i hi => ?_⟩
  · obtain ⟨b, off, ha, hlt, hc⟩ := h.2 hn
    refine ⟨b, off, ha, hlt, fun i hi => ?_⟩
    rw [hc i hi]
    show some (Value.int .i64 (z i)) = some (.int .i64 (((z i).toNat : Nat) : Int))
    rw [Int.toNat_of_nonneg (h3 i hi).1]
  · have h4 := nat_pow_cast (h3 i hi).2 (h3 i hi).1
    exact Nat.lt_trans h4 (pow_lt16 (by omega))

theorem IsGraph_is {n most : Nat} {z : Nat → Int} {bb : Bool} (hb : graphB n most z = bb) (mI : Int) (hmI : mI = most) (a : Option Addr) (cap : Nat) (w : World) (hI : IntsAt w a n z) (hz : ∀ i, -9223372036854775808 ≤ z i ∧ z i ≤ 9223372036854775807) (hm : most < 16) :
    Calls Tryd.prog 62 #[.slice a n cap, .int .i64 mI] w fun e w' => e = .returned (.bool bb) ∧ Below w.heap.size w w' := by
  rw [← hb]; exact IsGraph_any n most mI hmI z a cap w hI hz hm

end Go.Proofs.YtfmppncefbjicaaDoor
