/- The contracts of the program's corners and Corners. -/
import Derived.Test.YtfjpbceddnnnaaaC1n
namespace Go.Proofs.Ytfjpbceddnnnaaa
open Go.RowKit Go.Maps
attribute [local go_sem] i64_bit toNat_eq_one toNat_ne_one toNat_eq_zero toNat_ne_zero i64_and i64_or i64_andNot i64_or_pow i64_andNot_pow

def covP (r : Nat → Nat) (set v u : Nat) : Bool := set.testBit v && set.testBit u && covB r u v set

set_option maxRecDepth 20000 in
set_option maxHeartbeats 4000000 in
theorem corners_any {n b : Nat} {r : Nat → Nat} {w : World} (T : TownAt w n b r) (cap set : Nat) (hset : set < 65536) :
    Calls Try.prog 42 #[townV n b cap, .int .i64 set] w fun e w' => (∃ v, e = .returned v ∧ PairsOwn w' w.heap.size v (cornTo (covP r set) n n)) ∧ Below w.heap.size w w' := by
  obtain ⟨i0, hi0, hz1, hz2, hz3⟩ := info_parts info_pair
  obtain ⟨w0, hw0, HB0, TB, hs⟩ := town_box T cap
  have hn := T.small
  have HW := Lib.hid hw0
  have c0' := TB.c0
  rw [hw0] at c0'
  clear hw0
  go_enter Try.func42, Try.ntmps42
  go_wp2_with fail
  rw [← HW.out]
  clear HW c0'
  go_loopw [5, 10] (fun v i wr => ∃ k : Nat, k ≤ n ∧ i = .int .i64 k ∧ PairsOwn wr (w.heap.size + 1) v (cornTo (covP r set) n k) ∧ TownBox wr w.heap.size n b cap r ∧ Below w.heap.size w wr) (fun _ i _ => n - (intOf i).toNat)
  case atStart => exact ⟨0, Nat.zero_le _, rfl, ⟨rfl, Or.inl ⟨rfl, rfl⟩⟩, TB, HB0⟩
  case round =>
    clear TB HB0 hs w0
    obtain ⟨k, hk, rfl, hown, htb, hbel⟩ := hrel
    obtain ⟨d0, d1, dr, dB0, db0⟩ := htb.facts
    have HO := Lib.hid hown
    have HB := Lib.hid hbel
    have HT := Lib.hid htb
    clear hown hbel htb
    by_cases hlt : k < n
    · have HST : Hid (cornTo (covP r set) n (k + 1) = cornTo (covP r set) n k ++ rowTo (covP r set k) k n) := Lib.hid rfl
      have hll := cornTo_len (covP r set) n hn k
      have hk64 : k < 64 := by omega
      generalize cornTo (covP r set) n k = L at *
      go_wp2_with fail
      go_loopw [5, 15] (fun v i wx => ∃ j : Nat, j ≤ n ∧ i = .int .i64 j ∧ PairsOwn wx (w.heap.size + 1) v (L ++ rowTo (covP r set k) k j) ∧ TownBox wx w.heap.size n b cap r ∧ Below w.heap.size w wx) (fun _ i _ => n - (intOf i).toNat)
      case atStart => exact ⟨0, Nat.zero_le _, rfl, by rw [show rowTo (covP r set k) k 0 = [] from rfl, List.append_nil]; exact HO.out, HT.out, HB.out⟩
      case round =>
        clear HO HB HT d0 d1 dr dB0 db0
        obtain ⟨j, hj, rfl, hown, htb, hbel⟩ := hrel
        obtain ⟨d0, d1, dr, dB0, db0⟩ := htb.facts
        have HO := Lib.hid hown
        have HB := Lib.hid hbel
        have HT := Lib.hid htb
        clear hown hbel htb
        by_cases hlj : j < n
        · have HSJ : Hid (rowTo (covP r set k) k (j + 1) = if covP r set k j then rowTo (covP r set k) k j ++ [(k, j)] else rowTo (covP r set k) k j) := Lib.hid rfl
          have hrl := rowTo_len (covP r set k) k j
          have hj64 : j < 64 := by omega
          generalize rowTo (covP r set k) k j = M at *
          cases h1 : set.testBit k
          · go_wp2_with (go_at_call 63; refine (has_any _ _ _ hset (by omega)).mono ?_; rintro e w1 ⟨rfl, rfl⟩)
            go_roundw
            case rel => exact ⟨j + 1, by omega, by go_num, by rw [HSJ.out]; unfold covP; rw [h1]; exact HO.out, HT.out, HB.out⟩
            case measure => simp [intOf]; omega
          · cases h2 : set.testBit j
            · go_wp2_with (go_at_call 63; refine (has_any _ _ _ hset (by omega)).mono ?_; rintro e w1 ⟨rfl, rfl⟩)
              go_roundw
              case rel => exact ⟨j + 1, by omega, by go_num, by rw [HSJ.out]; unfold covP; rw [h1, h2]; exact HO.out, HT.out, HB.out⟩
              case measure => simp [intOf]; omega
            · cases hq : covB r j k set
              · have HQ := Lib.hid hq
                clear hq
                go_wp2_with (first | (go_at_call 63; refine (has_any _ _ _ hset (by omega)).mono ?_; rintro e w1 ⟨rfl, rfl⟩) | (go_at_call 67; refine (covers_any HT.out.at_ cap j k set hlj hlt hset).mono ?_; rintro e w1 ⟨rfl, hb⟩; rw [HQ.out]; have HB1 := Lib.hid hb; clear hb))
                go_roundw
                case rel => exact ⟨j + 1, by omega, by go_num, by rw [HSJ.out]; unfold covP; rw [h1, h2, HQ.out]; exact ownsRow_below HO.out HB1.out (Nat.le_refl _), HT.out.below HB1.out, HB.out.trans (HB1.out.mono HB.out.size)⟩
                case measure => simp [intOf]; omega
              · have HQ := Lib.hid hq
                clear hq
                go_wp2_with (first | (go_at_call 63; refine (has_any _ _ _ hset (by omega)).mono ?_; rintro e w1 ⟨rfl, rfl⟩) | (go_at_call 67; refine (covers_any HT.out.at_ cap j k set hlj hlt hset).mono ?_; rintro e w1 ⟨rfl, hb⟩; rw [HQ.out]; have HB1 := Lib.hid hb; clear hb) | (at_builtin; refine wpList_append_own _ rfl _ _ 24 rfl (w.heap.size + 1) 32 i0 (.agg #[.int .i64 0, .int .i64 0]) 2 16 Try.underlying24 hi0 hz1 hz2 hz3 rfl (by decide) _ _ _ rfl (World.ownsRow.alloc (ownsRow_below HO.out HB1.out (Nat.le_refl _)) _) ⟨_, 0, none⟩ 1 1 [.int .i64 k, .int .i64 j] rfl rfl ?c1 ?c2 ?c3 ?c4 ?c5 ?_))
                case c1 => exact cells_new _ _ _
                case c2 => intro u hu; simp at hu; rcases hu with rfl | rfl <;> rfl
                case c3 => rw [List.length_append]; unfold maxLen; omega
                case c4 => rw [List.length_append]; omega
                case c5 => simp; have := HB.out.size; have := HB1.out.size; omega
                intro v' w9 hown1 hg1 _
                have HO1 := Lib.hid hown1
                have HG1 := Lib.hid hg1
                clear hown1 hg1
                go_wp2_with fail
                go_roundw
                case rel =>
                  have O1 := ownsRow_below HO.out HB1.out (Nat.le_refl _)
                  have B9 := HB.out.trans (HB1.out.mono HB.out.size)
                  refine ⟨j + 1, by omega, by go_num, ?_, ?_, (B9.alloc B9.size _).grown HG1.out (by simp; have := B9.size; omega) (fun k hk => Nat.le_of_succ_le (World.ownsRow.lt O1 k hk).1)⟩
                  · rw [HSJ.out]
                    have h3 := HO1.out
                    have hcp : covP r set k j = true := by unfold covP; rw [h1, h2, HQ.out]; rfl
                    unfold PairsOwn
                    rw [if_pos hcp, ← List.append_assoc, pairCells_snoc, List.length_append (bs := [(k, j)]), List.length_append]
                    exact h3
                  · have TB1 := HT.out.below HB1.out
                    have TB2 := TB1.below (Below.alloc (Below.refl _ _) (Nat.le_refl _) (.cells #[.int .i64 k, .int .i64 j] 32))
                    exact TB2.grown HG1.out (not_own O1 (by have := T.lt; omega)) (not_own O1 (by omega))
                case measure => simp [intOf]; omega
        · have hje : j = n := by omega
          subst hje
          go_wp2_with fail
          go_roundw
          case rel => exact ⟨k + 1, by omega, by go_num, by rw [HST.out]; exact HO.out, HT.out, HB.out⟩
          case measure => simp [intOf]; omega
    · have hke : k = n := by omega
      subst hke
      go_wp2_with fail
      go_ret
      exact ⟨⟨_, rfl, ownsRow_base HO.out (Nat.le_succ _)⟩, HB.out⟩

end Go.Proofs.Ytfjpbceddnnnaaa
