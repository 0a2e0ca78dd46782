/- The contracts of package ears' pairs and Pairs, of the reference's Pairs; the walk of the law EarsPairs. -/
import Derived.Test.YtcpdedgmhpehiaaDoorEpb
import Derived.Test.YtcpdedgmhpehiaaDoorEl
namespace Go.Proofs.YtcpdedgmhpehiaaDoor
set_option linter.unusedSimpArgs false
set_option linter.unusedVariables false
open Go.RowKit Go.Maps
attribute [local go_sem] i64_bit toNat_eq_one toNat_ne_one toNat_eq_zero toNat_ne_zero i64_and i64_or i64_andNot i64_or_pow i64_andNot_pow

section
variable {ops : Array Oper} {rest : List Oper} {o : Oper} {a : Act} {Q : Exit → Act → World → Prop} {w : World}
theorem wpList_app_pair (base : Nat) (L : List (Nat × Nat)) (x y : Nat) (v : Value) (hgd : o.guard = none) (s z : Operand)
    (ho : o.op = .call { callee := .builtin .append, args := #[s, z], argTypes := #[61, 61] }) (hs : a.eval s = v) (hown : PairsOwn w base v L) (hx : a.eval z = .slice (some ⟨w.heap.size, 0, none⟩) 1 1)
    (hlen : L.length ≤ 65536) (hbase : base ≤ w.heap.size)
    (h : ∀ v' w', PairsOwn w' base v' (L ++ [(x, y)]) → Below base w w' → wpList Tryd.prog ops Q rest (a.put o.dst v') w') : wpList Tryd.prog ops Q (o :: rest) a (w.alloc (.cells #[.int .i64 x, .int .i64 y] 66)) := by
  obtain ⟨i0, hi0, hz1, hz2, hz3⟩ := info_parts info_pair
  refine wpList_append_own _ hgd s z _ ho base 66 i0 (.agg #[.int .i64 0, .int .i64 0]) 2 16 Tryd.underlying61 hi0 hz1 hz2 hz3 rfl (by decide) v _ _ hs (World.ownsRow.alloc hown _) ⟨w.heap.size, 0, none⟩ 1 1 [.int .i64 x, .int .i64 y] hx rfl (cells_new _ _ _) (by intro u hu; simp at hu; rcases hu with rfl | rfl <;> rfl) (by unfold maxLen; omega) (by omega) (Nat.le_trans hbase (by simp)) ?_
  intro v' w' h1 h2 _
  have hg := grown_of_alloc h2
  refine h v' w' ?_ ((Below.refl base w).grown hg hbase fun k hk => (World.ownsRow.lt hown k hk).1)
  unfold PairsOwn
  rw [pairCells_snoc, List.length_append (bs := [(x, y)])]
  exact h1
end

theorem PairsOwn.nil (w : World) (base : Nat) : PairsOwn w base (.slice none 0 0) [] := ⟨rfl, .inl ⟨rfl, rfl⟩⟩
theorem leftP_is {n a b : Nat} : diff (diff (2 ^ n - 1) (2 ^ a)) (2 ^ b) = leftP n a b := by
  unfold leftP
  apply Nat.eq_of_testBit_eq
  intro i
  simp only [testBit_diff, Nat.testBit_or]
  cases (2 ^ n - 1).testBit i <;> cases (2 ^ a).testBit i <;> cases (2 ^ b).testBit i <;> rfl
theorem leftP_lt {n a b : Nat} : leftP n a b < 2 ^ n := Nat.lt_of_le_of_lt (diff_le _ _) (all_lt n)


set_option maxRecDepth 20000 in
set_option maxHeartbeats 4000000 in
theorem pairs_any {n : Nat} {r : Nat → Nat} {ad : Option Addr} {w : World} (G : GrAt w ad n r) (hP : Pl n r) (cap : Nat) (hT : Tab w) :
    Calls Tryd.prog 84 #[.slice ad n cap] w fun e w' => ∃ v, e = .returned v ∧ PairsAt w' v (pairsG n r) ∧ Below w.heap.size w w' := by
  have hn10 := hP.le
  have hn16 : n < 16 := by omega
  have h10 := pow_le10 hn10
  have hml := G.ints.1
  unfold maxLen at hml
  have HG := Lib.hid G
  have HPL := Lib.hid hP
  have HT := Lib.hid hT
  have hall16 : 2 ^ n - 1 < 65536 := by omega
  have HX : Hid (pairsG n r = bif conB n r (2 ^ n - 1) then refL n r n else []) := Lib.hid rfl
  clear G hP hT
  cases hc : conB n r (2 ^ n - 1)
  · have HC := Lib.hid hc
    rw [hc] at HX
    clear hc
    go_enter Tryd.func84, Tryd.ntmps84
    go_wp2_with (first
      | (go_at_call 89; refine (all_any _ _ _ _ hn16).mono ?_; rintro e w1 ⟨rfl, rfl⟩)
      | (go_at_call 98; refine (isConnected_any HG.out hn10 HPL.out.bd cap _ (all_lt n) HT.out).mono ?_; rintro e w2 ⟨rfl, hb2⟩; rw [HC.out]; have HB2 := Lib.hid hb2; clear hb2))
    go_ret
    exact ⟨_, rfl, by rw [HX.out]; exact PairsAt.nil _ _ _, HB2.out⟩
  · have HC := Lib.hid hc
    rw [hc] at HX
    clear hc
    go_enter Tryd.func84, Tryd.ntmps84
    go_wp2_with (first
      | (go_at_call 89; refine (all_any _ _ _ _ hn16).mono ?_; rintro e w1 ⟨rfl, rfl⟩)
      | (go_at_call 98; refine (isConnected_any HG.out hn10 HPL.out.bd cap _ (all_lt n) HT.out).mono ?_; rintro e w2 ⟨rfl, hb2⟩; rw [HC.out]; have HB2 := Lib.hid hb2; clear hb2))
    go_loopw [3, 13] (fun v i wr => ∃ b : Nat, b ≤ n ∧ i = .int .i64 b ∧ PairsOwn wr w.heap.size v (prgL n r b) ∧ Below w.heap.size w wr) (fun _ i _ => n - (intOf i).toNat)
    case atStart => exact ⟨0, Nat.zero_le _, rfl, PairsOwn.nil _ _, HB2.out⟩
    case round =>
      obtain ⟨b, hb, rfl, hown, hbr⟩ := hrel
      have HOW := Lib.hid hown
      have HBR := Lib.hid hbr
      clear hown hbr HB2
      by_cases hbn : b < n
      · have HSU := Lib.hid (prgL_succ n r b)
        have HPLN := Lib.hid (prgL_len n r b (by omega))
        go_wp2_with fail
        go_loopw [3, 17] (fun v i wx => ∃ a : Nat, a ≤ b ∧ i = .int .i64 a ∧ PairsOwn wx w.heap.size v (prgL n r b ++ rowP n r b a) ∧ Below w.heap.size w wx) (fun _ i _ => b - (intOf i).toNat)
        case atStart => exact ⟨0, Nat.zero_le _, rfl, by show PairsOwn _ _ _ (_ ++ []); rw [List.append_nil]; exact HOW.out, HBR.out⟩
        case round =>
          clear HOW HBR
          obtain ⟨a, ha, rfl, hown, hbr⟩ := hrel
          have HOW := Lib.hid hown
          have HBR := Lib.hid hbr
          have hbsz := hbr.size
          clear hown hbr
          by_cases hab : a < b
          · have HRS := Lib.hid (rowP_succ n r b a)
            have HRL := Lib.hid (rowP_len n r b a)
            have hpa := pow_bd a (by omega)
            have hpb := pow_bd b (by omega)
            have ha16 : a < 16 := by omega
            have hb16 : b < 16 := by omega
            have hwa : IntKind.i64.wrap ((2 : Int) ^ a) = 2 ^ a := IntWalk.i64_in _ (by omega)
            have hwb : IntKind.i64.wrap ((2 : Int) ^ b) = 2 ^ b := IntWalk.i64_in _ (by omega)
            have hor : bits .or .i64 ((2 : Int) ^ a) ((2 : Int) ^ b) = ((2 ^ a ||| 2 ^ b : Nat) : Int) := by rw [pow_cast a]; exact i64_or_pow _ _ (pow_lt16 ha16) hb16
            have hor16 := or_lt (pow_lt16 ha16) (pow_lt16 hb16)
            have HLP : Hid (partB n r a b = !conB n r (leftP n a b)) := Lib.hid rfl
            have HCN : Hid (∀ u : BelowW wr.heap.size wr, Calls Tryd.prog 98 #[.slice ad n cap, .int .i64 (leftP n a b : Nat)] u.w fun e w' => e = .returned (.bool (conB n r (leftP n a b))) ∧ Below u.w.heap.size u.w w') := Lib.hid fun u =>
              isConnected_any ((HG.out.below HBR.out).below u.h) hn10 HPL.out.bd cap _ leftP_lt ((HT.out.below HBR.out).below u.h)
            have HLX : Hid (diff (2 ^ n - 1) (2 ^ a ||| 2 ^ b) = leftP n a b) := Lib.hid rfl
            have hand : bits .andNot .i64 ((2 ^ n - 1 : Nat) : Int) ((2 ^ a ||| 2 ^ b : Nat) : Int) = ((leftP n a b : Nat) : Int) := i64_andNot _ _ hall16 hor16
            cases hcn : conB n r (leftP n a b)
            all_goals
              rw [hcn] at HCN HLP
              clear hcn
              clear hpa hpb
              go_wp2_with fail
              refine wp_region_below wr.heap.size wr (Below.refl _ _) (by kernel_rfl) (by kernel_rfl) ?_
              repeat (go_big_quiet_step (first | (go_at_call 89; exact calls_below (Nat.le_refl _) (all_b _ _ _ _ hn16)) | (go_at_call 98; exact calls_below (Nat.le_refl _) (HCN.out _))))
              refine wpQuiet_nil ?_
              rintro _ ⟨u, rfl⟩
              have HU := Lib.hid u.h
              have HO2 := Lib.hid (ownsRow_below (show wr.ownsRow _ _ _ _ _ _ from HOW.out) HU.out (Nat.le_refl _))
              have HB2 := Lib.hid (HBR.out.trans (HU.out.mono hbsz))
              have hb2s := HB2.out.size
              generalize u.w = W2 at *
              clear hwa hwb hor hand
            · have hlen : (prgL n r b ++ rowP n r b a).length ≤ 65536 := by have h1 := HPLN.out; have h2 := HRL.out; rw [List.length_append]; omega
              rw [HLP.out] at HRS
              go_wp2_with (at_builtin; refine wpList_app_pair w.heap.size _ a b _ rfl _ _ rfl rfl HO2.out rfl ?c1 ?c2 ?_)
              try (case c1 => exact hlen)
              try (case c2 => exact hb2s)
              intro v' w3 ho3 hb3
              have HO3 := Lib.hid ho3
              have HB3 := Lib.hid (HB2.out.trans hb3)
              clear ho3 hb3
              go_wp2_with fail
              go_roundw
              case rel => exact ⟨a + 1, by omega, by go_num, by rw [HRS.out]; show PairsOwn _ _ _ (_ ++ (_ ++ [(a, b)])); exact HO3.out, HB3.out⟩
              case measure => simp [intOf]; omega
            · rw [HLP.out] at HRS
              go_wp2_with fail
              go_roundw
              case rel => exact ⟨a + 1, by omega, by go_num, by rw [HRS.out]; show PairsOwn _ _ _ (_ ++ (_ ++ [])); rw [List.append_nil]; exact HO2.out, HB2.out⟩
              case measure => simp [intOf]; omega
          · have hae : a = b := by omega
            rw [hae] at HOW
            clear hae
            go_wp2_with fail
            go_roundw
            case rel => exact ⟨b + 1, by omega, by go_num, by rw [HSU.out]; exact HOW.out, HBR.out⟩
            case measure => simp [intOf]; omega
      · have hbe : b = n := by omega
        rw [hbe] at HOW
        have HSO := Lib.hid (sortPairs_any HOW.out HBR.out.size (by have := prgL_len n r n hn10; omega))
        clear hbe HOW
        have hbsz := HBR.out.size
        go_wp2_with fail
        go_at_call 118
        refine HSO.out.mono ?_
        rintro e w2 ⟨rfl, hb2, M, hM1, hM2, hM3⟩
        have HM := Lib.hid (pairs_sorted hM1 hM2)
        have HMA := Lib.hid hM3
        have HB3 := Lib.hid (HBR.out.trans hb2)
        clear hM1 hM2 hM3 hb2
        go_wp2_with fail
        go_ret
        exact ⟨_, rfl, by rw [HX.out]; show PairsAt _ _ (refL n r n); rw [← HM.out]; exact HMA.out, HB3.out⟩


end Go.Proofs.YtcpdedgmhpehiaaDoor
