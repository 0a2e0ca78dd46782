/- The contracts of package ears' pairs and Pairs, of the reference's Pairs; the walk of the law EarsPairs. -/
import Derived.Test.YtnjpciaeapgbiaaDoorEpb
import Derived.Test.YtnjpciaeapgbiaaDoorEl
namespace Go.Proofs.YtnjpciaeapgbiaaDoor
set_option linter.unusedSimpArgs false
set_option linter.unusedVariables false
open Go.RowKit Go.Maps
attribute [local go_sem] i64_bit toNat_eq_one toNat_ne_one toNat_eq_zero toNat_ne_zero i64_and i64_or i64_andNot i64_or_pow i64_andNot_pow

section
variable {ops : Array Oper} {rest : List Oper} {o : Oper} {a : Act} {Q : Exit → Act → World → Prop} {w : World}
theorem wpList_app_pair (base : Nat) (L : List (Nat × Nat)) (x y : Nat) (v : Value) (hgd : o.guard = none) (s z : Operand)
    (ho : o.op = .call { callee := .builtin .append, args := #[s, z], argTypes := #[24, 24] }) (hs : a.eval s = v) (hown : PairsOwn w base v L) (hx : a.eval z = .slice (some ⟨w.heap.size, 0, none⟩) 1 1)
    (hlen : L.length ≤ 65536) (hbase : base ≤ w.heap.size)
    (h : ∀ v' w', PairsOwn w' base v' (L ++ [(x, y)]) → Below base w w' → wpList Tryd.prog ops Q rest (a.put o.dst v') w') : wpList Tryd.prog ops Q (o :: rest) a (w.alloc (.cells #[.int .i64 x, .int .i64 y] 34)) := by
  obtain ⟨i0, hi0, hz1, hz2, hz3⟩ := info_parts info_pair
  refine wpList_append_own _ hgd s z _ ho base 34 i0 (.agg #[.int .i64 0, .int .i64 0]) 2 16 Tryd.underlying24 hi0 hz1 hz2 hz3 rfl (by decide) v _ _ hs (World.ownsRow.alloc hown _) ⟨w.heap.size, 0, none⟩ 1 1 [.int .i64 x, .int .i64 y] hx rfl (cells_new _ _ _) (by intro u hu; simp at hu; rcases hu with rfl | rfl <;> rfl) (by unfold maxLen; omega) (by omega) (Nat.le_trans hbase (by simp)) ?_
  intro v' w' h1 h2 _
  have hg := grown_of_alloc h2
  refine h v' w' ?_ ((Below.refl base w).grown hg hbase fun k hk => (World.ownsRow.lt hown k hk).1)
  unfold PairsOwn
  rw [pairCells_snoc, List.length_append (bs := [(x, y)])]
  exact h1
end

theorem PairsOwn.nil (w : World) (base : Nat) : PairsOwn w base (.slice none 0 0) [] := ⟨rfl, .inl ⟨rfl, rfl⟩⟩
theorem leftP_is {n a b : Nat} : diff (diff (2 ^ n - 1) (2 ^ a)) (2 ^ b) = leftP n a b := by
  unfold leftP
  apply Nat.eq_of_testBit_eq
  intro i
  simp only [testBit_diff, Nat.testBit_or]
  cases (2 ^ n - 1).testBit i <;> cases (2 ^ a).testBit i <;> cases (2 ^ b).testBit i <;> rfl
theorem leftP_lt {n a b : Nat} : leftP n a b < 2 ^ n := Nat.lt_of_le_of_lt (diff_le _ _) (all_lt n)

/-- All pairs that part a graph. -/
def pairsG (n : Nat) (r : Nat → Nat) : List (Nat × Nat) := bif conB n r (2 ^ n - 1) then refL n r n else []

set_option maxRecDepth 20000 in
set_option maxHeartbeats 4000000 in
theorem pairs_any {n : Nat} {r : Nat → Nat} {ad : Option Addr} {w : World} (G : GrAt w ad n r) (hP : Pl n r) (cap : Nat) (hT : Tab w) :
    Calls Tryd.prog 87 #[.slice ad n cap] w fun e w' => ∃ v, e = .returned v ∧ PairsAt w' v (pairsG n r) ∧ Below w.heap.size w w' := by
  have hn10 := hP.le
  have hn16 : n < 16 := by omega
  have h10 := pow_le10 hn10
  have hml := G.ints.1
  unfold maxLen at hml
  have HG := Lib.hid G
  have HPL := Lib.hid hP
  have HT := Lib.hid hT
  have hall16 : 2 ^ n - 1 < 65536 := by omega
  have HX : Hid (pairsG n r = bif conB n r (2 ^ n - 1) then refL n r n else []) := Lib.hid rfl
  clear G hP hT
  cases hc : conB n r (2 ^ n - 1)
  · have HC := Lib.hid hc
    rw [hc] at HX
    clear hc
    go_enter Tryd.func87, Tryd.ntmps87
    go_wp2_with (first
      | (go_at_call 91; refine (all_any _ _ _ _ hn16).mono ?_; rintro e w1 ⟨rfl, rfl⟩)
      | (go_at_call 101; refine (isConnected_any HG.out hn10 HPL.out.bd cap _ (all_lt n) HT.out).mono ?_; rintro e w2 ⟨rfl, hb2⟩; rw [HC.out]; have HB2 := Lib.hid hb2; clear hb2))
    go_ret
    exact ⟨_, rfl, by rw [HX.out]; exact PairsAt.nil _ _ _, HB2.out⟩
  · have HC := Lib.hid hc
    rw [hc] at HX
    clear hc
    go_enter Tryd.func87, Tryd.ntmps87
    go_wp2_with (first
      | (go_at_call 91; refine (all_any _ _ _ _ hn16).mono ?_; rintro e w1 ⟨rfl, rfl⟩)
      | (go_at_call 101; refine (isConnected_any HG.out hn10 HPL.out.bd cap _ (all_lt n) HT.out).mono ?_; rintro e w2 ⟨rfl, hb2⟩; rw [HC.out]; have HB2 := Lib.hid hb2; clear hb2))
    go_loopw [3, 13] (fun v i wr => ∃ b : Nat, b ≤ n ∧ i = .int .i64 b ∧ PairsOwn wr w.heap.size v (prgL n r b) ∧ Below w.heap.size w wr) (fun _ i _ => n - (intOf i).toNat)
    case atStart => exact ⟨0, Nat.zero_le _, rfl, PairsOwn.nil _ _, HB2.out⟩
    case round =>
      obtain ⟨b, hb, rfl, hown, hbr⟩ := hrel
      have HOW := Lib.hid hown
      have HBR := Lib.hid hbr
      clear hown hbr HB2
      by_cases hbn : b < n
      · have HSU := Lib.hid (prgL_succ n r b)
        have HPLN := Lib.hid (prgL_len n r b (by omega))
        go_wp2_with fail
        go_loopw [3, 17] (fun v i wx => ∃ a : Nat, a ≤ b ∧ i = .int .i64 a ∧ PairsOwn wx w.heap.size v (prgL n r b ++ rowP n r b a) ∧ Below w.heap.size w wx) (fun _ i _ => b - (intOf i).toNat)
        case atStart => exact ⟨0, Nat.zero_le _, rfl, by show PairsOwn _ _ _ (_ ++ []); rw [List.append_nil]; exact HOW.out, HBR.out⟩
        case round =>
          clear HOW HBR
          obtain ⟨a, ha, rfl, hown, hbr⟩ := hrel
          have HOW := Lib.hid hown
          have HBR := Lib.hid hbr
          have hbsz := hbr.size
          clear hown hbr
          by_cases hab : a < b
          · have HRS := Lib.hid (rowP_succ n r b a)
            have HRL := Lib.hid (rowP_len n r b a)
            have hpa := pow_bd a (by omega)
            have hpb := pow_bd b (by omega)
            have ha16 : a < 16 := by omega
            have hb16 : b < 16 := by omega
            have hwa : IntKind.i64.wrap ((2 : Int) ^ a) = 2 ^ a := IntWalk.i64_in _ (by omega)
            have hwb : IntKind.i64.wrap ((2 : Int) ^ b) = 2 ^ b := IntWalk.i64_in _ (by omega)
            have hor : bits .or .i64 ((2 : Int) ^ a) ((2 : Int) ^ b) = ((2 ^ a ||| 2 ^ b : Nat) : Int) := by rw [pow_cast a]; exact i64_or_pow _ _ (pow_lt16 ha16) hb16
            have hor16 := or_lt (pow_lt16 ha16) (pow_lt16 hb16)
            have HLP : Hid (partB n r a b = !conB n r (leftP n a b)) := Lib.hid rfl
            have HCN : Hid (∀ u : BelowW wr.heap.size wr, Calls Tryd.prog 101 #[.slice ad n cap, .int .i64 (leftP n a b : Nat)] u.w fun e w' => e = .returned (.bool (conB n r (leftP n a b))) ∧ Below u.w.heap.size u.w w') := Lib.hid fun u =>
              isConnected_any ((HG.out.below HBR.out).below u.h) hn10 HPL.out.bd cap _ leftP_lt ((HT.out.below HBR.out).below u.h)
            have HLX : Hid (diff (2 ^ n - 1) (2 ^ a ||| 2 ^ b) = leftP n a b) := Lib.hid rfl
            have hand : bits .andNot .i64 ((2 ^ n - 1 : Nat) : Int) ((2 ^ a ||| 2 ^ b : Nat) : Int) = ((leftP n a b : Nat) : Int) := i64_andNot _ _ hall16 hor16
            cases hcn : conB n r (leftP n a b)
            all_goals
              rw [hcn] at HCN HLP
              clear hcn
              clear hpa hpb
              go_wp2_with fail
              refine wp_region_below wr.heap.size wr (Below.refl _ _) (by kernel_rfl) (by kernel_rfl) ?_
              repeat (go_big_quiet_step (first | (go_at_call 91; exact calls_below (Nat.le_refl _) (all_b _ _ _ _ hn16)) | (go_at_call 101; exact calls_below (Nat.le_refl _) (HCN.out _))))
              refine wpQuiet_nil ?_
              rintro _ ⟨u, rfl⟩
              have HU := Lib.hid u.h
              have HO2 := Lib.hid (ownsRow_below (show wr.ownsRow _ _ _ _ _ _ from HOW.out) HU.out (Nat.le_refl _))
              have HB2 := Lib.hid (HBR.out.trans (HU.out.mono hbsz))
              have hb2s := HB2.out.size
              generalize u.w = W2 at *
              clear hwa hwb hor hand
            · have hlen : (prgL n r b ++ rowP n r b a).length ≤ 65536 := by have h1 := HPLN.out; have h2 := HRL.out; rw [List.length_append]; omega
              rw [HLP.out] at HRS
              go_wp2_with (at_builtin; refine wpList_app_pair w.heap.size _ a b _ rfl _ _ rfl rfl HO2.out rfl ?c1 ?c2 ?_)
              try (case c1 => exact hlen)
              try (case c2 => exact hb2s)
              intro v' w3 ho3 hb3
              have HO3 := Lib.hid ho3
              have HB3 := Lib.hid (HB2.out.trans hb3)
              clear ho3 hb3
              go_wp2_with fail
              go_roundw
              case rel => exact ⟨a + 1, by omega, by go_num, by rw [HRS.out]; show PairsOwn _ _ _ (_ ++ (_ ++ [(a, b)])); exact HO3.out, HB3.out⟩
              case measure => simp [intOf]; omega
            · rw [HLP.out] at HRS
              go_wp2_with fail
              go_roundw
              case rel => exact ⟨a + 1, by omega, by go_num, by rw [HRS.out]; show PairsOwn _ _ _ (_ ++ (_ ++ [])); rw [List.append_nil]; exact HO2.out, HB2.out⟩
              case measure => simp [intOf]; omega
          · have hae : a = b := by omega
            rw [hae] at HOW
            clear hae
            go_wp2_with fail
            go_roundw
            case rel => exact ⟨b + 1, by omega, by go_num, by rw [HSU.out]; exact HOW.out, HBR.out⟩
            case measure => simp [intOf]; omega
      · have hbe : b = n := by omega
        rw [hbe] at HOW
        have HSO := Lib.hid (sortPairs_any HOW.out HBR.out.size (by have := prgL_len n r n hn10; omega))
        clear hbe HOW
        have hbsz := HBR.out.size
        go_wp2_with fail
        go_at_call 119
        refine HSO.out.mono ?_
        rintro e w2 ⟨rfl, hb2, M, hM1, hM2, hM3⟩
        have HM := Lib.hid (pairs_sorted hM1 hM2)
        have HMA := Lib.hid hM3
        have HB3 := Lib.hid (HBR.out.trans hb2)
        clear hM1 hM2 hM3 hb2
        go_wp2_with fail
        go_ret
        exact ⟨_, rfl, by rw [HX.out]; show PairsAt _ _ (refL n r n); rw [← HM.out]; exact HMA.out, HB3.out⟩

set_option maxRecDepth 20000 in
set_option maxHeartbeats 4000000 in
theorem PairsR_any {n : Nat} {r : Nat → Nat} {ad : Option Addr} {w : World} (G : GrAt w ad n r) (hP : Pl n r) (cap : Nat) :
    Calls Tryd.prog 52 #[.slice ad n cap] w fun e w' => ∃ v, e = .returned v ∧ PairsOwn w' w.heap.size v (pairsG n r) ∧ Below w.heap.size w w' := by
  have hn10 := hP.le
  have hn1 := hP.one
  have hn16 : n < 16 := by omega
  have h10 := pow_le10 hn10
  have hml := G.ints.1
  unfold maxLen at hml
  have HG := Lib.hid G
  have HPL := Lib.hid hP
  have hall16 : 2 ^ n - 1 < 65536 := by omega
  have hall0 : 0 < 2 ^ n - 1 := by
    have : 2 ^ 1 ≤ 2 ^ n := Nat.pow_le_pow_right (by omega) hn1
    omega
  have HX : Hid (pairsG n r = bif connN n r ((2 ^ n - 1 : Nat) : Int) then refL n r n else []) := Lib.hid (by unfold pairsG; rw [conB_all hn1])
  clear G hP
  cases hc : connN n r ((2 ^ n - 1 : Nat) : Int)
  · have HC := Lib.hid hc
    rw [hc] at HX
    clear hc
    go_enter Tryd.func52, Tryd.ntmps52
    go_wp2_with (first
      | (go_at_call 66; refine (allR_any _ _ _ _ hn16).mono ?_; rintro e w1 ⟨rfl, rfl⟩)
      | (go_at_call 70; refine (ConnectedR_any HG.out hn10 cap _ hall0 (all_lt n)).mono ?_; rintro e w2 ⟨rfl, hb2⟩; rw [HC.out]; have HB2 := Lib.hid hb2; clear hb2))
    go_ret
    exact ⟨_, rfl, by rw [HX.out]; exact PairsOwn.nil _ _, HB2.out⟩
  · have HC := Lib.hid hc
    rw [hc] at HX
    clear hc
    go_enter Tryd.func52, Tryd.ntmps52
    go_wp2_with (first
      | (go_at_call 66; refine (allR_any _ _ _ _ hn16).mono ?_; rintro e w1 ⟨rfl, rfl⟩)
      | (go_at_call 70; refine (ConnectedR_any HG.out hn10 cap _ hall0 (all_lt n)).mono ?_; rintro e w2 ⟨rfl, hb2⟩; rw [HC.out]; have HB2 := Lib.hid hb2; clear hb2))
    go_loopw [3, 14] (fun v i wr => ∃ a : Nat, a ≤ n ∧ i = .int .i64 a ∧ PairsOwn wr w.heap.size v (refL n r a) ∧ Below w.heap.size w wr) (fun _ i _ => n - (intOf i).toNat)
    case atStart => exact ⟨0, Nat.zero_le _, rfl, PairsOwn.nil _ _, HB2.out⟩
    case round =>
      obtain ⟨a, ha, rfl, hown, hbr⟩ := hrel
      have HOW := Lib.hid hown
      have HBR := Lib.hid hbr
      clear hown hbr HB2
      by_cases han : a < n
      · have HSU := Lib.hid (refL_succ n r a)
        have HPLN := Lib.hid (refL_len n r hn10 a)
        go_wp2_with fail
        go_loopw [3, 5] (fun v i wx => ∃ b : Nat, a < b ∧ b ≤ n ∧ i = .int .i64 b ∧ PairsOwn wx w.heap.size v (refL n r a ++ rowQ n r a b) ∧ Below w.heap.size w wx) (fun _ i _ => n - (intOf i).toNat)
        case atStart => exact ⟨a + 1, by omega, by omega, by go_num, by rw [rowQ_low, List.append_nil]; exact HOW.out, HBR.out⟩
        case round =>
          clear HOW HBR
          obtain ⟨b, hab, hb, rfl, hown, hbr⟩ := hrel
          have HOW := Lib.hid hown
          have HBR := Lib.hid hbr
          have hbsz := hbr.size
          clear hown hbr
          by_cases hbn : b < n
          · have HRS := Lib.hid (rowQ_succ n r a b)
            rw [decide_eq_true hab, Bool.true_and] at HRS
            have HRL := Lib.hid (rowQ_len n r a b)
            have hpa := pow_bd a (by omega)
            have hpb := pow_bd b (by omega)
            have ha16 : a < 16 := by omega
            have hb16 : b < 16 := by omega
            have hd1 : diff (2 ^ n - 1) (2 ^ a) < 65536 := diff_lt hall16
            have hd2 : leftP n a b < 65536 := Nat.lt_of_lt_of_le leftP_lt (by omega)
            have HLP : Hid (partB n r a b = !conB n r (leftP n a b)) := Lib.hid rfl
            have hleft := leftP_is (n := n) (a := a) (b := b)
            have HLE := Lib.hid hleft
            go_wp2_with fail
            go_quiet ((go_at_call 66; exact Calls.quiet_of_same (allR_q _ _ _ _ hn16)))
            have HBD := Lib.hid (below_drewN HBR.out nq)
            have HO1 : Hid (PairsOwn (wr.drewN nq) w.heap.size u3 (refL n r a ++ rowQ n r a b)) := Lib.hid HOW.out
            have hbdz := HBD.out.size
            generalize wr.drewN nq = wq at *
            clear hpa hpb
            by_cases h0 : leftP n a b = 0
            · have hx0 : ((leftP n a b : Nat) : Int) = 0 := by rw [h0]; rfl
              have HPF : Hid (partB n r a b = false) := Lib.hid (by rw [HLP.out, h0]; rfl)
              rw [HPF.out] at HRS
              clear h0
              generalize leftP n a b = X at *
              have hx1 : ((X : Int) != 0) = false := by rw [hx0]; rfl
              clear hx0
              go_wp2_with fail
              go_roundw
              case rel => exact ⟨b + 1, by omega, by omega, by go_num, by rw [HRS.out]; show PairsOwn _ _ _ (_ ++ (_ ++ [])); rw [List.append_nil]; exact HO1.out, HBD.out⟩
              case measure => simp [intOf]; omega
            · have hpos : 0 < leftP n a b := by omega
              have hx1 : (((leftP n a b : Nat) : Int) != 0) = true := by rw [bne_iff_ne]; omega
              have HCN := Lib.hid (ConnectedR_any (HG.out.below HBD.out) hn10 cap (leftP n a b) hpos leftP_lt)
              have HCE : Hid (conB n r (leftP n a b) = connN n r (leftP n a b : Nat)) := Lib.hid (by
                rw [connN_nat hpos leftP_lt]; unfold conB
                rw [show (leftP n a b == 0) = false from beq_eq_false_iff_ne.2 h0, Bool.false_or])
              rw [HCE.out] at HLP
              clear h0
              cases hcn : connN n r (leftP n a b : Nat)
              · rw [hcn] at HCN HLP
                rw [HLP.out] at HRS
                clear hcn
                have hlen : (refL n r a ++ rowQ n r a b).length ≤ 65536 := by have h1 := HPLN.out; have h2 := HRL.out; rw [List.length_append]; omega
                go_wp2_with fail
                go_at_call 70
                refine HCN.out.mono ?_
                rintro e w2 ⟨rfl, hb2⟩
                have HO2 := Lib.hid (ownsRow_below (show wq.ownsRow _ _ _ _ _ _ from HO1.out) hb2 (Nat.le_refl _))
                have HB2 := Lib.hid (HBD.out.trans (hb2.mono hbdz))
                have hb2s := HB2.out.size
                clear hb2
                go_wp2_with (at_builtin; refine wpList_app_pair w.heap.size _ a b _ rfl _ _ rfl rfl HO2.out rfl ?c1 ?c2 ?_)
                try (case c1 => exact hlen)
                try (case c2 => exact hb2s)
                intro v' w3 ho3 hb3
                have HO3 := Lib.hid ho3
                have HB3 := Lib.hid (HB2.out.trans hb3)
                clear ho3 hb3
                go_wp2_with fail
                go_roundw
                case rel => exact ⟨b + 1, by omega, by omega, by go_num, by rw [HRS.out]; show PairsOwn _ _ _ (_ ++ (_ ++ [(a, b)])); exact HO3.out, HB3.out⟩
                case measure => simp [intOf]; omega
              · rw [hcn] at HCN HLP
                rw [HLP.out] at HRS
                clear hcn
                go_wp2_with fail
                go_at_call 70
                refine HCN.out.mono ?_
                rintro e w2 ⟨rfl, hb2⟩
                have HO2 := Lib.hid (ownsRow_below (show wq.ownsRow _ _ _ _ _ _ from HO1.out) hb2 (Nat.le_refl _))
                have HB2 := Lib.hid (HBD.out.trans (hb2.mono hbdz))
                clear hb2
                go_wp2_with fail
                go_roundw
                case rel => exact ⟨b + 1, by omega, by omega, by go_num, by rw [HRS.out]; show PairsOwn _ _ _ (_ ++ (_ ++ [])); rw [List.append_nil]; exact HO2.out, HB2.out⟩
                case measure => simp [intOf]; omega
          · have hbe : b = n := by omega
            rw [hbe] at HOW
            clear hbe
            go_wp2_with fail
            go_roundw
            case rel => exact ⟨a + 1, by omega, by go_num, by rw [HSU.out]; exact HOW.out, HBR.out⟩
            case measure => simp [intOf]; omega
      · have hae : a = n := by omega
        rw [hae] at HOW
        clear hae
        go_wp2_with fail
        go_ret
        exact ⟨_, rfl, by rw [HX.out]; exact HOW.out, HBR.out⟩

end Go.Proofs.YtnjpciaeapgbiaaDoor
