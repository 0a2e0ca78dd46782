/- The contracts of the reference's all, Connected, Edges, without, linked, Bridges, cuts, Cuts. -/
import Derived.Test.YtcpdedgmhpehiaaDoorEt1
namespace Go.Proofs.YtcpdedgmhpehiaaDoor
set_option linter.unusedSimpArgs false
set_option linter.unusedVariables false
open Go.RowKit Go.Maps
attribute [local go_sem] i64_bit toNat_eq_one toNat_ne_one toNat_eq_zero toNat_ne_zero i64_and i64_or i64_andNot i64_or_pow i64_andNot_pow

theorem allR0_any (a : Option Addr) (n cap : Nat) (w : World) (hn : n < 16) :
    Calls Tryd.prog 60 #[.slice a n cap] w fun e w' => e = .returned (.int .i64 (2 ^ n - 1)) ∧ w = w' := by
  obtain ⟨h1, h2⟩ := pow_bd n hn
  go_enter Tryd.func60, Tryd.ntmps60
  go_wp2
  go_ret
  exact ⟨rfl, rfl⟩
theorem allR_any (a : Option Addr) (n cap : Nat) (w : World) (hn : n < 16) :
    Calls Tryd.prog 60 #[.slice a n cap] w fun e w' => e = .returned (.int .i64 (2 ^ n - 1 : Nat)) ∧ w = w' := by
  rw [← pow_pred]; exact allR0_any a n cap w hn
theorem allR_b (a : Option Addr) (n cap : Nat) (w : World) (hn : n < 16) :
    Calls Tryd.prog 60 #[.slice a n cap] w fun e w' => e = .returned (.int .i64 (2 ^ n - 1 : Nat)) ∧ Below w.heap.size w w' :=
  (allR_any a n cap w hn).mono fun _ _ ⟨h1, h2⟩ => ⟨h1, by subst h2; exact Below.refl _ _⟩

set_option maxRecDepth 20000 in
set_option maxHeartbeats 2000000 in
theorem ConnectedR_any {n : Nat} {r : Nat → Nat} {a : Option Addr} {w : World} (G : GrAt w a n r) (hle : n ≤ 10) (cap s : Nat) (hs0 : 0 < s) (hs2 : s < 2 ^ n) :
    Calls Tryd.prog 61 #[.slice a n cap, .int .i64 s] w fun e w' => e = .returned (.bool (connN n r s)) ∧ Below w.heap.size w w' := by
  have hn16 : n < 16 := by omega
  have HG := Lib.hid G
  have hpn := pow_bd n hn16
  have hml := G.ints.1
  unfold maxLen at hml
  clear G
  have hs9 : s < 1024 := by have := pow_le10 hle; omega
  have hlow := lowN_lt hle hs0 hs2
  obtain ⟨_, l2, l3⟩ := lowN_all s hs9 hs0
  have HL2 := Lib.hid l2
  have HL3 := Lib.hid l3
  have HF := Lib.hid (connN_nat (r := r) hs0 hs2)
  have hq : (((partS n r s (lowN s) : Nat) : Int) == (s : Int)) = (partS n r s (lowN s) == s) := cast_beq _ _
  have hs16 : s < 65536 := by omega
  have h1' : (s : Int) < 2 ^ n := by rw [pow_cast]; omega
  have h0' : 0 < (s : Int) := by omega
  clear l2 l3 hs2
  generalize lowN s = lo at *
  generalize hP : partS n r s lo = P at *
  have HP : Hid (metIn n r s (2 ^ lo) n = P) := Lib.hid hP
  clear hP
  go_enter Tryd.func61, Tryd.ntmps61
  go_wp2_with fail
  go_loopw [5] (fun f wr => ∃ j : Nat, f = .int .i64 j ∧ j ≤ lo ∧ w = wr) (fun f _ => lo - (intOf f).toNat)
  case atStart => exact ⟨0, rfl, Nat.zero_le _, rfl⟩
  case round =>
    obtain ⟨j, rfl, hj, rfl⟩ := hrel
    have hj64 : j < 64 := by omega
    by_cases hjl : j = lo
    · subst hjl
      have hb := HL2.out
      go_wp2_with (go_at_call 40; refine (Reached_any HG.out cap s j _ _ rfl rfl hs16 hlow).mono ?_; rintro e w1 ⟨rfl, hb1⟩; rw [HP.out]; have HB1 := Lib.hid hb1; clear hb1)
      go_ret
      exact ⟨by rw [HF.out, ← hq]; rfl, HB1.out⟩
    · have hb := HL3.out j (by omega)
      go_wp2_with fail
      go_roundw
      case rel => exact ⟨j + 1, by go_num, by omega, by trivial⟩
      case measure => simp [intOf]; omega

/-- The edges from node k to the nodes below another one. -/
def rowR (bit : Nat → Bool) (k b : Nat) : List (Nat × Nat) := ((List.range b).filter fun x => decide (k < x) && bit x).map fun x => (k, x)
theorem rowR_succ (bit : Nat → Bool) (k b : Nat) : rowR bit k (b + 1) = rowR bit k b ++ (if k < b ∧ bit b = true then [(k, b)] else []) := by
  unfold rowR
  rw [List.range_succ, List.filter_append, List.map_append]
  congr 1
  by_cases h1 : k < b <;> cases h2 : bit b <;> simp [h1, h2]
theorem rowR_low (bit : Nat → Bool) (k : Nat) : rowR bit k (k + 1) = [] := by
  unfold rowR
  rw [List.map_eq_nil_iff, List.filter_eq_nil_iff]
  intro x hx
  have : x < k + 1 := List.mem_range.1 hx
  simp; omega
theorem rowR_len (bit : Nat → Bool) (k b : Nat) : (rowR bit k b).length ≤ b := by
  unfold rowR; rw [List.length_map]; exact Nat.le_trans (List.length_filter_le _ _) (by simp)
theorem rowR_is {n k : Nat} {r : Nat → Nat} (hn : n ≤ 10) (hr : r k < 2 ^ n) : rowR (fun x => (r k).testBit x) k n = rowE k (bitsOf (r k)) := by
  unfold rowR rowE bitsOf
  rw [List.filter_filter]
  congr 1
  rw [show List.range 10 = List.range (n + (10 - n)) by rw [show n + (10 - n) = 10 by omega], List.range_add, List.filter_append]
  have : (List.map (n + ·) (List.range (10 - n))).filter (fun x => decide (k < x) && (r k).testBit x) = [] := by
    rw [List.filter_eq_nil_iff]
    intro x hx
    obtain ⟨y, _, rfl⟩ := List.mem_map.1 hx
    have := Nat.testBit_lt_two_pow (i := n + y) (Nat.lt_of_lt_of_le hr (Nat.pow_le_pow_right (by omega) (by omega)))
    simp [this]
  rw [this, List.append_nil]

set_option maxRecDepth 20000 in
set_option maxHeartbeats 4000000 in
theorem EdgesR_any {n : Nat} {r : Nat → Nat} {a : Option Addr} {w : World} (G : GrAt w a n r) (hn10 : n ≤ 10) (hr : ∀ i, i < n → r i < 2 ^ n) (cap : Nat) :
    Calls Tryd.prog 68 #[.slice a n cap] w fun e w' => ∃ v, e = .returned v ∧ PairsOwn w' w.heap.size v (edgesTo r n) ∧ Below w.heap.size w w' := by
  obtain ⟨hml, hI⟩ := G.ints
  obtain ⟨b, off, rfl, hlt, hc⟩ := hI G.pos
  have h10 := pow_le10 hn10
  have hbc : ∀ wx, Below w.heap.size w wx → ∀ i, i < n → wx.cell? ⟨b, off + i, none⟩ = some (.int .i64 (r i : Nat)) := fun wx hb i hi => by rw [hb.cell (p := ⟨b, off + i, none⟩) hlt]; exact hc i hi
  have HC := Lib.hid hbc
  have HR := Lib.hid hr
  obtain ⟨i0, hi0, hz1, hz2, hz3⟩ := info_parts info_pair
  unfold maxLen at hml
  clear hbc hc hI hr G
  go_enter Tryd.func68, Tryd.ntmps68
  go_wp2_with fail
  go_loopw [3, 8] (fun v i wr => ∃ k : Nat, k ≤ n ∧ i = .int .i64 k ∧ PairsOwn wr w.heap.size v (edgesTo r k) ∧ Below w.heap.size w wr) (fun _ i _ => n - (intOf i).toNat)
  case atStart => exact ⟨0, Nat.zero_le _, rfl, ⟨rfl, Or.inl ⟨rfl, rfl⟩⟩, Below.refl _ _⟩
  case round =>
    obtain ⟨k, hk, rfl, hown, hbr⟩ := hrel
    by_cases hltk : k < n
    · have HOW := Lib.hid hown
      have HBR := Lib.hid hbr
      have hlen0 := edgesTo_len r k
      have HST : Hid (edgesTo r (k + 1) = edgesTo r k ++ rowE k (bitsOf (r k))) := Lib.hid rfl
      have HRI := Lib.hid (rowR_is hn10 (HR.out k hltk))
      have hrk := HR.out k hltk
      clear hown hbr
      generalize edgesTo r k = L0 at *
      go_wp2_with fail
      go_loopw [3, 5] (fun v i wx => ∃ j : Nat, k < j ∧ j ≤ n ∧ i = .int .i64 j ∧ PairsOwn wx w.heap.size v (L0 ++ rowR (fun x => (r k).testBit x) k j) ∧ Below w.heap.size w wx) (fun _ i _ => n - (intOf i).toNat)
      case atStart => exact ⟨k + 1, by omega, by omega, by go_num, by rw [rowR_low, List.append_nil]; exact HOW.out, HBR.out⟩
      case round =>
        clear HOW HBR
        obtain ⟨j, hkj, hj, rfl, hown, hbr⟩ := hrel
        have HOW := Lib.hid hown
        have HBR := Lib.hid hbr
        have hsz := hbr.size
        clear hown
        by_cases hlj : j < n
        · have ck := HC.out wr hbr k hltk
          have hj64 : j < 64 := by omega
          have HRS := Lib.hid (rowR_succ (fun x => (r k).testBit x) k j)
          have hll := rowR_len (fun x => (r k).testBit x) k j
          have hs16 : r k < 65536 := by omega
          generalize rowR (fun x => (r k).testBit x) k j = L1 at *
          generalize r k = s at *
          cases hq : s.testBit j
          · rw [hq, if_neg (by simp)] at HRS
            go_wp2_with fail
            go_roundw
            case rel => exact ⟨j + 1, by omega, by omega, by go_num, by rw [HRS.out, List.append_nil]; exact HOW.out, HBR.out⟩
            case measure => simp [intOf]; omega
          · rw [hq, if_pos ⟨hkj, rfl⟩] at HRS
            have HLL := Lib.hid (show (L0 ++ L1).length ≤ 200 by rw [List.length_append]; omega)
            go_wp2_with (at_builtin; refine wpList_append_own _ rfl _ _ 61 rfl w.heap.size 66 i0 (.agg #[.int .i64 0, .int .i64 0]) 2 16 Tryd.underlying61 hi0 hz1 hz2 hz3 rfl (by decide) _ _ _ rfl (HOW.out.alloc _) ⟨wr.heap.size, 0, none⟩ 1 1 [.int .i64 k, .int .i64 j] rfl rfl ?c1 ?c2 ?c3 ?c4 ?c5 ?_)
            case c1 => exact cells_new _ _ _
            case c2 => intro u hu; simp at hu; rcases hu with rfl | rfl <;> rfl
            case c3 => have := HLL.out; unfold maxLen; omega
            case c4 => have := HLL.out; omega
            case c5 => simp; omega
            intro v' w9 hown1 hg1 _
            have HO1 := Lib.hid hown1
            have HG1 := Lib.hid hg1
            clear hown1 hg1
            go_wp2_with fail
            go_roundw
            case rel =>
              refine ⟨j + 1, by omega, by omega, by go_num, ?_, (HBR.out.alloc (by omega) _).grown HG1.out (by simp; omega) (fun k hk => (World.ownsRow.lt HOW.out k hk).1)⟩
              rw [HRS.out, ← List.append_assoc]
              unfold PairsOwn
              rw [pairCells_snoc, List.length_append (bs := [(k, j)]), List.length_singleton, List.length_append]
              exact HO1.out
            case measure => simp [intOf]; omega
        · have hje : j = n := by omega
          subst hje
          go_wp2_with fail
          go_roundw
          case rel => exact ⟨k + 1, by omega, by go_num, by rw [HST.out, ← HRI.out]; exact HOW.out, HBR.out⟩
          case measure => simp [intOf]; omega
    · have hke : k = n := by omega
      subst hke
      go_wp2_with fail
      go_ret
      exact ⟨_, rfl, hown, hbr⟩

end Go.Proofs.YtcpdedgmhpehiaaDoor
