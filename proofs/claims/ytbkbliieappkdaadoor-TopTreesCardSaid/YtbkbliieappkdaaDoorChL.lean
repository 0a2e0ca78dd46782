/- The walk of the law TopTrees. -/
import Derived.Test.YtbkbliieappkdaaDoorChT
import Derived.Test.YtbkbliieappkdaaDoorChC3c
namespace Go.Proofs.YtbkbliieappkdaaDoor
set_option linter.unusedSimpArgs false
set_option linter.unusedVariables false
open Go.RowKit Go.Maps

/-- What a law returns: true, and nothing that was there has turned. -/
def LawTrueT (w : World) (e : Ending) (w' : World) : Prop := e = .returned (.bool true) ∧ Below w.heap.size w w'
abbrev HasTab (w : World) : Prop := Ch.HasTab w
theorem gTab : Tryd.prog.globalNamed "math/bits.deBruijn64tab" = some 1 := Ch.gTab

set_option maxRecDepth 200000 in
set_option maxHeartbeats 2000000 in
theorem TopTrees_walk (n : Nat) (z : Nat → Int) (v : Value) (w : World) (hA : Ch.SliceArg w v n z) (hz : InI64 z) (hT : HasTab w) :
    Calls Tryd.prog 9 #[v] w (LawTrueT w) := by
  obtain ⟨a, cap, rfl, hI⟩ := hA.ints
  have HA := Lib.hid hA
  have HI0 := Lib.hid hI
  have HZ := Lib.hid hz
  have HT := Lib.hid hT
  clear hA hI hz hT
  cases hv : Ch.validB n z
  · have HV := Lib.hid hv
    clear hv
    go_enter Tryd.func9, Tryd.ntmps9
    go_wp2_with fail
    go_at_call 32
    refine (Ch.Valid_any n z _ _ _ HI0.out HZ.out).mono ?_
    rintro e w1 ⟨rfl, hb1⟩
    rw [HV.out]
    have HB1 := Lib.hid hb1
    clear hb1
    go_wp2_with fail
    go_at_call 33
    refine (Ch.awake_any _).mono ?_
    rintro e w2 ⟨rfl, hb2⟩
    have HB2 := Lib.hid (HB1.out.trans (hb2.mono HB1.out.size))
    clear hb2
    go_wp2_with fail
    go_ret
    exact ⟨rfl, HB2.out⟩
  · have HV := Lib.hid hv
    have ht : Ch.townB n z = true := by rw [Ch.townB_valid]; exact hv
    have HTB := Lib.hid ht
    obtain ⟨hn1, hn8⟩ := Ch.townB_le ht
    have HM : Hid (min n 13 = n) := Lib.hid (by omega)
    have HG := Lib.hid (graph_of_town ht)
    have HK1 : Hid (Ch.okGame n z 1) := Lib.hid ⟨ht, .inl rfl⟩
    obtain ⟨W, hW⟩ : ∃ W, W = widthG n z := ⟨_, rfl⟩
    have HW := Lib.hid hW
    have hW9 : W ≤ 9 := by
      rw [hW]
      exact Nat.le_trans (rst_le (Nat.two_pow_pos n)) (by omega)
    have hcore := fun L T => Ch.core_one (Ch.net_town ht) (L := L) (T := T)
    have hs0 : Ch.bestG n z (1 : Int).toNat = Ch.bestOf n (Ch.ranksF n (Ch.reachOf z) (Ch.chs n 1)) (Ch.chs n 1) := rfl
    rw [← hs0] at hcore
    generalize hs1 : Ch.bestG n z (1 : Int).toNat = s1 at *
    obtain ⟨p1, m1⟩ := s1
    dsimp only at hcore
    have HS1 := Lib.hid hs1
    have HCORE := Lib.hid hcore
    clear hs1 hcore hv ht hW hs0
    by_cases hm : m1 = -1
    · have HMM := Lib.hid hm
      clear hm
      go_enter Tryd.func9, Tryd.ntmps9
      go_wp2_with fail
      go_at_call 32
      refine (Ch.Valid_any n z _ _ _ HI0.out HZ.out).mono ?_
      rintro e w1 ⟨rfl, hb1⟩
      rw [HV.out]
      have HB1 := Lib.hid hb1
      clear hb1
      go_wp2_with fail
      go_at_call 34
      refine (Ch.Few_any n z _ _ (Ch.SliceArg.below HA.out HB1.out)).mono ?_
      rintro e w2 ⟨a2, c2, rfl, hi2, hb2⟩
      rw [HM.out] at hi2
      rw [HM.out]
      have HI2 := Lib.hid hi2
      clear hi2
      have HB2 := Lib.hid (HB1.out.trans (hb2.mono HB1.out.size))
      clear hb2
      go_wp2_with fail
      go_at_call 26
      refine (Width_yes _ HI2.out HZ.out HG.out).mono ?_
      rintro e w3 ⟨rfl, hb3⟩
      rw [← HW.out]
      have HB3 := Lib.hid (HB2.out.trans (hb3.mono HB2.out.size))
      clear hb3
      go_wp2_with fail
      go_at_call 34
      refine (Ch.Few_any n z _ _ (Ch.SliceArg.below HA.out HB3.out)).mono ?_
      rintro e w4 ⟨a4, c4, rfl, hi4, hb4⟩
      rw [HM.out] at hi4
      rw [HM.out]
      have HI4 := Lib.hid hi4
      clear hi4
      have HB4 := Lib.hid (HB3.out.trans (hb4.mono HB3.out.size))
      clear hb4
      go_wp2_with fail
      go_at_call 35
      refine (Ch.Rounds_any n z 1 _ _ _ HI4.out).mono ?_
      rintro e w5 ⟨hb5, hr1, hr2, -⟩
      obtain rfl := hr1 HK1.out (by rw [HS1.out]; exact HMM.out)
      clear hr1 hr2
      have HB5 := Lib.hid (HB4.out.trans (hb5.mono HB4.out.size))
      clear hb5
      go_wp2_with fail
      go_at_call 34
      refine (Ch.Few_any n z _ _ (Ch.SliceArg.below HA.out HB5.out)).mono ?_
      rintro e w6 ⟨a6, c6, rfl, hi6, hb6⟩
      rw [HM.out] at hi6
      rw [HM.out]
      have HI6 := Lib.hid hi6
      clear hi6
      have HB6 := Lib.hid (HB5.out.trans (hb6.mono HB5.out.size))
      clear hb6
      go_wp2_with fail
      go_at_call 36
      refine (Ch.Apart_any n z _ _ _ HI6.out (HT.out.below HB6.out)).mono ?_
      rintro e w7 ⟨hb7, hr1, -⟩
      obtain ⟨L, T, hst, hno, hyes, hnot⟩ := hr1 HTB.out
      clear hr1
      have hz4 : Ch.szS n T ≠ 1 := by
        rcases HCORE.out L T hst hno with ⟨_, h⟩ | ⟨h, _⟩
        · exact absurd HMM.out h
        · omega
      have hW1 : 1 < W := by
        apply Classical.byContradiction
        intro h
        exact hz4 (tree_one HTB.out (by rw [← HW.out]; omega) hst hno)
      obtain rfl := hnot hz4
      clear hyes hnot hst hno hz4
      have HB7 := Lib.hid (HB6.out.trans (hb7.mono HB6.out.size))
      clear hb7
      go_wp2_with fail
      go_at_call 33
      refine (Ch.awake_any _).mono ?_
      rintro e w8 ⟨rfl, hb8⟩
      have HB8 := Lib.hid (HB7.out.trans (hb8.mono HB7.out.size))
      clear hb8
      go_wp2_with fail
      go_ret
      exact ⟨rfl, HB8.out⟩
    · have HMM := Lib.hid hm
      have hm0 : ¬ m1 = -1 := hm
      clear hm
      go_enter Tryd.func9, Tryd.ntmps9
      go_wp2_with fail
      go_at_call 32
      refine (Ch.Valid_any n z _ _ _ HI0.out HZ.out).mono ?_
      rintro e w1 ⟨rfl, hb1⟩
      rw [HV.out]
      have HB1 := Lib.hid hb1
      clear hb1
      go_wp2_with fail
      go_at_call 34
      refine (Ch.Few_any n z _ _ (Ch.SliceArg.below HA.out HB1.out)).mono ?_
      rintro e w2 ⟨a2, c2, rfl, hi2, hb2⟩
      rw [HM.out] at hi2
      rw [HM.out]
      have HI2 := Lib.hid hi2
      clear hi2
      have HB2 := Lib.hid (HB1.out.trans (hb2.mono HB1.out.size))
      clear hb2
      go_wp2_with fail
      go_at_call 26
      refine (Width_yes _ HI2.out HZ.out HG.out).mono ?_
      rintro e w3 ⟨rfl, hb3⟩
      rw [← HW.out]
      have HB3 := Lib.hid (HB2.out.trans (hb3.mono HB2.out.size))
      clear hb3
      go_wp2_with fail
      go_at_call 34
      refine (Ch.Few_any n z _ _ (Ch.SliceArg.below HA.out HB3.out)).mono ?_
      rintro e w4 ⟨a4, c4, rfl, hi4, hb4⟩
      rw [HM.out] at hi4
      rw [HM.out]
      have HI4 := Lib.hid hi4
      clear hi4
      have HB4 := Lib.hid (HB3.out.trans (hb4.mono HB3.out.size))
      clear hb4
      go_wp2_with fail
      go_at_call 35
      refine (Ch.Rounds_any n z 1 _ _ _ HI4.out).mono ?_
      rintro e w5 ⟨hb5, hr1, hr2, -⟩
      obtain rfl := hr2 HK1.out (by rw [HS1.out]; exact HMM.out)
      rw [HS1.out]
      clear hr1 hr2
      have HB5 := Lib.hid (HB4.out.trans (hb5.mono HB4.out.size))
      clear hb5
      go_wp2_with fail
      go_at_call 34
      refine (Ch.Few_any n z _ _ (Ch.SliceArg.below HA.out HB5.out)).mono ?_
      rintro e w6 ⟨a6, c6, rfl, hi6, hb6⟩
      rw [HM.out] at hi6
      rw [HM.out]
      have HI6 := Lib.hid hi6
      clear hi6
      have HB6 := Lib.hid (HB5.out.trans (hb6.mono HB5.out.size))
      clear hb6
      go_wp2_with fail
      go_at_call 36
      refine (Ch.Apart_any n z _ _ _ HI6.out (HT.out.below HB6.out)).mono ?_
      rintro e w7 ⟨hb7, hr1, -⟩
      obtain ⟨L, T, hst, hno, hyes, hnot⟩ := hr1 HTB.out
      clear hr1
      have hz1 : Ch.szS n T = 1 := by
        rcases HCORE.out L T hst hno with ⟨h, _⟩ | ⟨_, h⟩
        · exact h
        · exact absurd h HMM.out
      obtain ⟨lv, t, -, rfl, -⟩ := hyes hz1
      clear hyes hnot hst hno hz1
      have HB7 := Lib.hid (HB6.out.trans (hb7.mono HB6.out.size))
      clear hb7
      by_cases hW1 : 1 < W
      all_goals
        go_wp2_with fail
        go_at_call 33
        refine (Ch.awake_any _).mono ?_
        rintro e w8 ⟨rfl, hb8⟩
        have HB8 := Lib.hid (HB7.out.trans (hb8.mono HB7.out.size))
        clear hb8
        go_wp2_with fail
        go_ret
        exact ⟨rfl, HB8.out⟩

end Go.Proofs.YtbkbliieappkdaaDoor
