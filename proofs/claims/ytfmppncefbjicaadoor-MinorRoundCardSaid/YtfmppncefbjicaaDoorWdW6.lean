/- The contract of package width's newTown. -/
import Derived.Test.YtfmppncefbjicaaDoorWdW5
namespace Go.Proofs.YtfmppncefbjicaaDoor.Wd
set_option linter.unusedSimpArgs false
set_option linter.unusedVariables false
open Go.RowKit Go.Maps
attribute [local go_sem] i64_bit toNat_eq_one toNat_ne_one toNat_eq_zero toNat_ne_zero i64_and i64_or i64_andNot i64_or_pow i64_andNot_pow

/-- What newTown returns. -/
def townRes (a : Option Addr) (n cap : Nat) : Bool → Value
  | true => .tuple #[.slice a n cap, .bool true]
  | false => .tuple #[.slice none 0 0, .bool false]

set_option maxRecDepth 20000 in
set_option maxHeartbeats 2000000 in
theorem newTown_any (n : Nat) (z : Nat → Int) (a : Option Addr) (cap : Nat) (w : World) (hI : IntsAt w a n z) (hz : ∀ i, -9223372036854775808 ≤ z i ∧ z i ≤ 9223372036854775807) :
    Calls Tryd.prog 82 #[.slice a n cap] w fun e w' => e = .returned (townRes a n cap (graphB n 9 z)) ∧ Below w.heap.size w w' := by
  have hml := hI.1
  unfold maxLen at hml
  by_cases hn : n < 1 ∨ 9 < n
  · have HF := Lib.hid (graphB_no (n := n) (most := 9) (z := z) (by omega))
    clear hI hz
    by_cases h1 : n < 1
    · go_enter Tryd.func82, Tryd.ntmps82
      go_wp2_with fail
      go_ret2
      exact ⟨by rw [HF.out]; rfl, Below.refl _ _⟩
    · have h9 : 9 < n := by omega
      clear hn
      go_enter Tryd.func82, Tryd.ntmps82
      go_wp2_with fail
      go_ret2
      exact ⟨by rw [HF.out]; rfl, Below.refl _ _⟩
  · have h1 : 1 ≤ n := by omega
    have h9 : n ≤ 9 := by omega
    obtain ⟨_, hI⟩ := hI
    obtain ⟨b, off, rfl, hlt, hc⟩ := hI (by omega)
    have hbc : ∀ wx, Below w.heap.size w wx → ∀ i, i < n → wx.cell? ⟨b, off + i, none⟩ = some (.int .i64 (z i)) := fun wx hb i hi => by rw [hb.cell (p := ⟨b, off + i, none⟩) hlt]; exact hc i hi
    have HC := Lib.hid hbc
    have HZ := Lib.hid hz
    have hpn := pow_bd n (by omega)
    clear hbc hc hz hn hI
    go_enter Tryd.func82, Tryd.ntmps82
    go_wp2_with fail
    go_loopw [20] (fun i wr => ∃ k : Nat, k ≤ n ∧ i = .int .i64 k ∧ (∀ i, i < k → okCellZ n z i = true) ∧ w = wr) (fun i _ => n - (intOf i).toNat)
    case atStart => exact ⟨0, Nat.zero_le _, rfl, by omega, rfl⟩
    case round =>
      obtain ⟨k, hk, rfl, hok, rfl⟩ := hrel
      have HOK := Lib.hid hok
      clear hok
      by_cases hlt2 : k < n
      · have ck := HC.out w (Below.refl _ _) k hlt2
        have hk16 : k < 64 := by omega
        generalize hzk : z k = zk at *
        have HZK := Lib.hid hzk
        clear hzk
        by_cases g1 : 0 ≤ zk ∧ zk < 2 ^ n
        · obtain ⟨s, rfl⟩ : ∃ s : Nat, zk = s := ⟨zk.toNat, by omega⟩
          have hin := inB_true g1.1 g1.2
          have hs16 : s < 65536 := by have := nat_pow_cast g1.2 g1.1; rw [Int.toNat_natCast] at this; exact lt16 h9 this
          clear g1
          cases g3 : s.testBit k
          · have HOKK := Lib.hid (show okCellZ n z k = true by unfold okCellZ; rw [HZK.out, hin, bitZ_nat, g3]; rfl)
            go_wp2_with (first | (go_at_call 102; refine (isSet_any _ _ _ _ _ (by omega)).mono ?_; rintro e w1 ⟨rfl, rfl⟩; rw [hin]) | (go_at_call 103; refine (has_any _ _ _ hs16 hk16).mono ?_; rintro e w2 ⟨rfl, rfl⟩; rw [g3]))
            go_roundw
            case rel => exact ⟨k + 1, by omega, by go_num, fun i hi => by rcases Nat.lt_succ_iff_lt_or_eq.1 hi with h | h; exact HOK.out i h; rw [h]; exact HOKK.out, by trivial⟩
            case measure => simp [intOf]; omega
          · have HF := Lib.hid (graphB_cell (most := 9) hlt2 (show okCellZ n z k = false by unfold okCellZ; rw [HZK.out, bitZ_nat, g3]; simp))
            go_wp2_with (first | (go_at_call 102; refine (isSet_any _ _ _ _ _ (by omega)).mono ?_; rintro e w1 ⟨rfl, rfl⟩; rw [hin]) | (go_at_call 103; refine (has_any _ _ _ hs16 hk16).mono ?_; rintro e w2 ⟨rfl, rfl⟩; rw [g3]))
            go_ret2
            exact ⟨by rw [HF.out]; rfl, Below.refl _ _⟩
        · have hin := inB_false g1
          have HF := Lib.hid (graphB_cell (most := 9) hlt2 (show okCellZ n z k = false by unfold okCellZ; rw [HZK.out, hin]; rfl))
          clear g1
          go_wp2_with (go_at_call 102; refine (isSet_any _ _ _ _ _ (by omega)).mono ?_; rintro e w1 ⟨rfl, rfl⟩; rw [hin])
          go_ret2
          exact ⟨by rw [HF.out]; rfl, Below.refl _ _⟩
      · have hke : k = n := by omega
        subst hke
        have hnat : ∀ i, i < k → ∃ s : Nat, z i = s ∧ s < 65536 := fun i hi => by
          have h := HOK.out i hi
          unfold okCellZ at h
          rw [Bool.and_eq_true] at h
          obtain ⟨h1, h2⟩ := inB_iff.1 h.1
          have := nat_pow_cast h2 h1
          exact ⟨(z i).toNat, by omega, lt16 h9 this⟩
        have HN := Lib.hid hnat
        clear hnat
        go_wp2_with fail
        go_loopw [37] (fun i wx => ∃ m : Nat, m ≤ k ∧ i = .int .i64 m ∧ (∀ i, i < m → ∀ j, j < k → bitZ (z i) j = bitZ (z j) i) ∧ Below w.heap.size w wx) (fun i _ => k - (intOf i).toNat)
        case atStart => exact ⟨0, Nat.zero_le _, rfl, by omega, Below.refl _ _⟩
        case round =>
          obtain ⟨m, hm, rfl, hmut, hbel⟩ := hrel
          have HM := Lib.hid hmut
          have HB := Lib.hid hbel
          clear hmut hbel
          by_cases hltm : m < k
          · go_wp2_with fail
            go_loopw [42] (fun i wx => ∃ j : Nat, j ≤ k ∧ i = .int .i64 j ∧ (∀ u, u < j → bitZ (z m) u = bitZ (z u) m) ∧ Below w.heap.size w wx) (fun i _ => k - (intOf i).toNat)
            case atStart => exact ⟨0, Nat.zero_le _, rfl, by omega, HB.out⟩
            case round =>
              clear HB
              obtain ⟨j, hj, rfl, hdone, hbel⟩ := hrel
              have HD := Lib.hid hdone
              have HB := Lib.hid hbel
              clear hdone hbel
              by_cases hlj : j < k
              · have cm := HC.out _ HB.out m hltm
                have cj := HC.out _ HB.out j hlj
                obtain ⟨s, hzm, hs⟩ := HN.out m hltm
                obtain ⟨t, hzj, ht⟩ := HN.out j hlj
                rw [hzm] at cm
                rw [hzj] at cj
                have HZM := Lib.hid hzm
                have HZJ := Lib.hid hzj
                clear hzm hzj
                have hj64 : j < 64 := by omega
                have hm64 : m < 64 := by omega
                cases hq : (!(s.testBit j == t.testBit m))
                · have HQ := Lib.hid (show bitZ (z m) j = bitZ (z j) m by rw [HZM.out, HZJ.out, bitZ_nat, bitZ_nat]; simpa using hq)
                  go_wp2_with fail
                  go_quiet ((go_at_call 103; exact Calls.quiet_of_same (has_quiet _ _ _ (by omega) (by omega))))
                  go_wp2_with fail
                  go_roundw
                  case rel => exact ⟨j + 1, by omega, by go_num, fun u hu => by rcases Nat.lt_succ_iff_lt_or_eq.1 hu with h | h; exact HD.out u h; rw [h]; exact HQ.out, below_drewN HB.out _⟩
                  case measure => simp [intOf]; omega
                · have HF := Lib.hid (graphB_bit (most := 9) (z := z) hltm hlj (by rw [HZM.out, HZJ.out, bitZ_nat, bitZ_nat]; simpa using hq))
                  go_wp2_with fail
                  go_quiet ((go_at_call 103; exact Calls.quiet_of_same (has_quiet _ _ _ (by omega) (by omega))))
                  go_wp2_with fail
                  go_ret2
                  exact ⟨by rw [HF.out]; rfl, below_drewN HB.out _⟩
              · have hje : j = k := by omega
                subst hje
                go_wp2_with fail
                go_roundw
                case rel => exact ⟨m + 1, by omega, by go_num, fun i hi => by rcases Nat.lt_succ_iff_lt_or_eq.1 hi with h | h; exact HM.out i h; rw [h]; exact HD.out, HB.out⟩
                case measure => simp [intOf]; omega
          · have hme : m = k := by omega
            subst hme
            go_wp2_with fail
            go_ret2
            exact ⟨by rw [graphB_yes h1 h9 (fun i hi => ⟨HOK.out i hi, HM.out i hi⟩)]; rfl, HB.out⟩

/-- A valid graph is one for the walks. -/
theorem Gr.of_graph {w : World} {a : Option Addr} {n : Nat} {z : Nat → Int} (h : IntsAt w a n z) (hg : graphB n 9 z = true) : Gr w a n (fun i => (z i).toNat) :=
  ⟨GrAt.of_graph h hg (by omega), (graphB_le hg).2.1, fun i hi => nat_pow_cast ((graphB_le hg).2.2 i hi).2 ((graphB_le hg).2.2 i hi).1⟩

end Go.Proofs.YtfmppncefbjicaaDoor.Wd
