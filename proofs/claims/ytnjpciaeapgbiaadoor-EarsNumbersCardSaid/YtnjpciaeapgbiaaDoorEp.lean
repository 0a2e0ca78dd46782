/- The contract of the reference's Number. -/
import Derived.Test.YtnjpciaeapgbiaaDoorEl
import Derived.Test.YtnjpciaeapgbiaaDoorEm
namespace Go.Proofs.YtnjpciaeapgbiaaDoor
set_option linter.unusedSimpArgs false
set_option linter.unusedVariables false
open Go.RowKit Go.Maps
attribute [local go_sem] i64_bit toNat_eq_one toNat_ne_one toNat_eq_zero toNat_ne_zero i64_and i64_or i64_andNot i64_or_pow i64_andNot_pow

set_option maxRecDepth 100000 in
set_option maxHeartbeats 8000000 in
theorem NumberR_any {n : Nat} {r : Nat → Nat} {ad : Option Addr} {w : World} (G : GrAt w ad n r) (hP : Pl n r) (cap s t : Nat) (hs : s < n) (ht : t < n) (hst : s ≠ t) (hd : doubleB n r = true) :
    Calls Tryd.prog 39 #[.slice ad n cap, .int .i64 s, .int .i64 t] w fun e w' => ∃ v, e = .returned v ∧ IntsOwn w' w.heap.size v (numL n r s t) ∧ Below w.heap.size w w' := by
  have hn10 := hP.le
  have hn16 : n < 16 := by omega
  have h10 := pow_le10 hn10
  obtain ⟨hml, hI⟩ := G.ints
  obtain ⟨b, off, rfl, hlt0, hc⟩ := hI G.pos
  have hbg : ∀ wx, Below w.heap.size w wx → ∀ i, i < n → wx.cell? ⟨b, off + i, none⟩ = some (.int .i64 (r i : Nat)) := fun wx hb i hi => by rw [hb.cell (p := ⟨b, off + i, none⟩) hlt0]; exact hc i hi
  have HCG := Lib.hid hbg
  unfold maxLen at hml
  have HG := Lib.hid G
  have HPL := Lib.hid hP
  have HS0 := Lib.hid (NumSit.start hP hd hs hst)
  have HW := Lib.hid (double_whole hP hd)
  have hs16 : s < 16 := by omega
  have hps := pow_bd s hs16
  have HPC := Lib.hid (pow_cast s)
  have hall16 : 2 ^ n - 1 < 65536 := by omega
  have HOL := Lib.hid (IntsOwn.lit w (s : Int))
  have hb0 : Below w.heap.size w (w.alloc (.cells #[.int .i64 (s : Int)] 3)) := (Below.refl _ _).alloc (Nat.le_refl _) _
  have HB0 := Lib.hid hb0
  clear G hP hd hb0 hI hc hbg hlt0
  go_enter Tryd.func39, Tryd.ntmps39
  go_wp2_with fail
  generalize w.alloc (.cells #[.int .i64 (s : Int)] 3) = w1 at *
  go_loopw [7, 8] (fun v bf wr => ∃ (L : List Nat) (before k c : Nat) (a : Option Addr), k = L.length ∧ v = .slice a k c ∧ bf = .int .i64 before ∧ IntsOwn wr w.heap.size v (natsI L) ∧ NumSit n r s t L before ∧ Below w.heap.size w wr) (fun v _ _ => match v with | .slice _ m _ => n - m | _ => 0)
  case atStart => exact ⟨[s], 2 ^ s, 1, 1, _, rfl, rfl, by rw [HPC.out], HOL.out, HS0.out, HB0.out⟩
  case round =>
    obtain ⟨L, before, k, c, a, hk, rfl, rfl, hown, hS, hbr⟩ := hrel
    have HK := Lib.hid hk
    have HOW := Lib.hid hown
    have HS := Lib.hid hS
    have HBR := Lib.hid hbr
    have hkn : k ≤ n - 1 := by rw [hk]; exact hS.le
    have hbl := hS.lt
    have hbsz := hbr.size
    clear hk hown hS hbr HS0 HOL HB0
    by_cases hlt : k < n - 1
    · have HEX := Lib.hid (nx_some HPL.out HW.out hs ht HS.out (by rw [← HK.out]; exact hlt))
      have hb16 : before < 65536 := by omega
      have hki : (k : Int) < (n : Int) - 1 := by omega
      have hrest : restS n before < 65536 := Nat.lt_of_lt_of_le rest_lt (by omega)
      go_wp2_with fail
      obtain ⟨wo, rfl⟩ : ∃ x, x = wr := ⟨_, rfl⟩
      go_loopw [7, 8, 23] (fun v bf i wx => ∃ j : Nat, j ≤ n ∧ v = .slice a k c ∧ bf = .int .i64 before ∧ i = .int .i64 j ∧ (∀ u, u < j → nxP n r before t u = false) ∧ Below wo.heap.size wo wx) (fun _ _ i _ => n - (intOf i).toNat)
      case atStart => exact ⟨0, Nat.zero_le _, rfl, rfl, rfl, by omega, Below.refl _ _⟩
      case round =>
        obtain ⟨j, hj, rfl, rfl, rfl, hno, hbx⟩ := hrel
        have HNO := Lib.hid hno
        have HBX := Lib.hid hbx
        clear hno hbx
        by_cases hjn : j < n
        · have HSAME := Lib.hid (nx_same HPL.out ht HS.out hjn)
          have HNR : Hid (nxR n r before t j = (!before.testBit j && !(j == t) && (r j &&& before != 0) && (r j &&& diff (restS n before) (2 ^ j) != 0) && partS n r (diff (restS n before) (2 ^ j)) t == diff (restS n before) (2 ^ j))) := Lib.hid rfl
          have HNEXT : Hid (nxP n r before t j = false → ∀ u, u < j + 1 → nxP n r before t u = false) := Lib.hid fun h u hu => by
            rcases Nat.lt_succ_iff_lt_or_eq.1 hu with h2 | h2
            · exact HNO.out u h2
            · rw [h2]; exact h
          have hrj := HPL.out.bd j hjn
          have hrj16 : r j < 65536 := by omega
          have hj16 : j < 16 := by omega
          have hj64 : j < 64 := by omega
          have hpj := pow_bd j hj16
          have hleft : diff (restS n before) (2 ^ j) < 65536 := Nat.lt_of_le_of_lt (diff_le _ _) hrest
          have hand1 : r j &&& before < 65536 := Nat.lt_of_le_of_lt Nat.and_le_left hrj16
          have hand2 : r j &&& diff (restS n before) (2 ^ j) < 65536 := Nat.lt_of_le_of_lt Nat.and_le_left hrj16
          go_wp2_with fail
          go_quiet ((go_at_call 66; exact Calls.quiet_of_same (allR_q _ _ _ _ hn16)))
          have HBD := Lib.hid (below_drewN HBX.out nq)
          generalize wr.drewN nq = wq at *
          clear HBX
          have cj := HCG.out wq (HBR.out.trans (HBD.out.mono hbsz)) j hjn
          generalize hLL : diff (restS n before) (2 ^ j) = LL at *
          have HLL := Lib.hid hLL
          clear hLL
          cases hbj : before.testBit j
          rotate_left
          · have HF := Lib.hid (HNEXT.out (by rw [HSAME.out, HNR.out, hbj]; rfl))
            go_wp2_with fail
            go_roundw
            case rel => exact ⟨j + 1, by omega, rfl, rfl, by go_num, HF.out, HBD.out⟩
            case measure => simp [intOf]; omega
          by_cases hjt : j = t
          · have HF := Lib.hid (HNEXT.out (by rw [HSAME.out, HNR.out, hjt]; simp))
            have d1 : ((j : Int) != (t : Int)) = false := by rw [hjt]; simp
            have HJT := Lib.hid hjt
            clear hjt
            go_wp2_with fail
            go_roundw
            case rel => exact ⟨j + 1, by omega, rfl, rfl, by go_num, HF.out, HBD.out⟩
            case measure => simp [intOf]; omega
          have d1 : ((j : Int) != (t : Int)) = true := by rw [bne_iff_ne]; omega
          have HJT : Hid ((!(j == t)) = true) := Lib.hid (by simpa using hjt)
          clear hjt
          by_cases hX : r j &&& before = 0
          · have HF := Lib.hid (HNEXT.out (by rw [HSAME.out, HNR.out, hX]; simp))
            have d2 : (((r j &&& before : Nat) : Int) != 0) = false := by rw [hX]; rfl
            clear hX
            go_wp2_with fail
            go_roundw
            case rel => exact ⟨j + 1, by omega, rfl, rfl, by go_num, HF.out, HBD.out⟩
            case measure => simp [intOf]; omega
          have d2 : (((r j &&& before : Nat) : Int) != 0) = true := by rw [bne_iff_ne]; omega
          by_cases hY : r j &&& LL = 0
          · have HF := Lib.hid (HNEXT.out (by rw [HSAME.out, HNR.out, hY]; simp))
            have d3 : (((r j &&& LL : Nat) : Int) != 0) = false := by rw [hY]; rfl
            clear hX hY
            go_wp2_with fail
            go_roundw
            case rel => exact ⟨j + 1, by omega, rfl, rfl, by go_num, HF.out, HBD.out⟩
            case measure => simp [intOf]; omega
          have d3 : (((r j &&& LL : Nat) : Int) != 0) = true := by rw [bne_iff_ne]; omega
          have HRE := Lib.hid (Reached_any ((HG.out.below HBR.out).below HBD.out) cap LL t _ _ rfl rfl hleft ht)
          by_cases hZ : partS n r LL t = LL
          · have HNP : Hid (nxP n r before t j = true) := Lib.hid (by rw [HSAME.out, HNR.out, hbj, HJT.out, bne_iff_ne.2 hX, bne_iff_ne.2 hY, hZ]; simp)
            have hZ' : metIn n r LL (2 ^ t) n = LL := hZ
            rw [hZ'] at HRE
            have HX := Lib.hid (HS.out.step HPL.out ht (by rw [← HK.out]; exact hlt) hjn HNP.out HNO.out)
            clear hX hY hZ hZ'
            go_wp2_with fail
            go_at_call 53
            refine HRE.out.mono ?_
            rintro e w2 ⟨rfl, hb2⟩
            have hbx2 := HBD.out.trans (hb2.mono HBD.out.size)
            have HO2 := Lib.hid (HOW.out.below hbx2)
            have HB2 := Lib.hid (HBR.out.trans (hbx2.mono hbsz))
            have hb2sz := HB2.out.size
            clear hb2 hbx2 HRE cj
            go_wp2_with (at_builtin; refine wpList_app_int w.heap.size _ (j : Int) _ rfl _ _ rfl rfl HO2.out rfl ?c1 ?c2 ?_)
            case c1 => rw [natsI_len]; have := HK.out; omega
            try (case c2 => exact hb2sz)
            intro v' w3 ho3 hb3 _
            have HF := Lib.hid (own_form ho3)
            have HO3 := Lib.hid ho3
            have HB3 := Lib.hid (HB2.out.trans hb3)
            clear ho3 hb3
            go_wp2_with fail
            obtain ⟨a3, c3, hv3⟩ := HF.out
            have hL1 : (natsI L ++ [(j : Int)]).length = k + 1 := by rw [List.length_append, natsI_len, HK.out]; rfl
            rw [hL1] at hv3
            subst hv3
            go_roundw
            case rel => exact ⟨L ++ [j], before ||| 2 ^ j, k + 1, c3, a3, by rw [List.length_append, HK.out]; rfl, rfl, rfl, by rw [natsI_snoc]; exact HO3.out, HX.out, HB3.out⟩
            case measure => show n - (k + 1) < n - k; omega
          · have HF := Lib.hid (HNEXT.out (by rw [HSAME.out, HNR.out, show (partS n r LL t == LL) = false from beq_eq_false_iff_ne.2 hZ, Bool.and_false]))
            have d4 : (((metIn n r LL (2 ^ t) n : Nat) : Int) == (LL : Int)) = false := by rw [cast_beq]; exact beq_eq_false_iff_ne.2 hZ
            clear hX hY hZ
            go_wp2_with fail
            go_at_call 53
            refine HRE.out.mono ?_
            rintro e w2 ⟨rfl, hb2⟩
            have HB2 := Lib.hid (HBD.out.trans (hb2.mono HBD.out.size))
            clear hb2 HRE
            go_wp2_with fail
            go_roundw
            case rel => exact ⟨j + 1, by omega, rfl, rfl, by go_num, HF.out, HB2.out⟩
            case measure => simp [intOf]; omega
        · exfalso
          obtain ⟨v, h1, h2⟩ := HEX.out
          rw [HNO.out v (by omega)] at h2; cases h2
    · have hke : k = n - 1 := by omega
      have hki : ¬ (k : Int) < (n : Int) - 1 := by omega
      have HD := Lib.hid (HS.out.done (by rw [← HK.out]; exact hke))
      have HKE := Lib.hid hke
      clear hke hlt
      go_wp2_with (at_builtin; refine wpList_app_int w.heap.size _ (t : Int) _ rfl _ _ rfl rfl HOW.out rfl ?c1 ?c2 ?_)
      case c1 => rw [natsI_len]; have := HK.out; omega
      try (case c2 => exact hbsz)
      intro v' w3 ho3 hb3 _
      have HO3 := Lib.hid ho3
      have HB3 := Lib.hid (HBR.out.trans hb3)
      clear ho3 hb3
      go_wp2_with fail
      go_ret
      exact ⟨v', rfl, by unfold numL; rw [← HD.out]; exact HO3.out, HB3.out⟩

end Go.Proofs.YtnjpciaeapgbiaaDoor
