/- The contracts of package sweep's isOrder, thinSets, isPair. -/
import Derived.Test.YtgkpogaahndmoaaDoorQt8
import Derived.Test.YtgkpogaahndmoaaDoorQia
import Derived.Test.YtgkpogaahndmoaaDoorQh
namespace Go.Proofs.YtgkpogaahndmoaaDoor
set_option linter.unusedSimpArgs false
set_option linter.unusedVariables false
open Go.RowKit Go.Maps
attribute [local go_sem] i64_bit toNat_eq_one toNat_ne_one toNat_eq_zero toNat_ne_zero i64_and i64_or i64_andNot i64_or_pow i64_andNot_pow

theorem isOrder_any (x : Int) (w : World) :
    Calls Tryd.prog 65 #[.int .i64 x] w fun e w' => e = .returned (.bool (inB x 8)) ∧ w = w' := by
  by_cases h0 : 0 ≤ x
  · go_enter Tryd.func65, Tryd.ntmps65
    go_wp2
    go_ret
    refine ⟨?_, rfl⟩
    show Ending.returned (Value.bool (decide (x ≤ 7))) = _
    unfold inB; congr 2; apply decide_eq_decide.2; omega
  · go_enter Tryd.func65, Tryd.ntmps65
    go_wp2
    go_ret
    refine ⟨?_, rfl⟩
    rw [inB_false (by omega)]; rfl

theorem thinL_succ (n : Nat) (r : Nat → Nat) (K k : Nat) : thinL n r K (k + 1) = thinL n r K k ++ (bif thinB n r K k then [k] else []) := by
  unfold thinL
  rw [List.range_succ, List.filter_append]
  cases h : thinB n r K k <;> simp [h]
theorem thinL_len (n : Nat) (r : Nat → Nat) (K k : Nat) : (thinL n r K k).length ≤ k := by
  unfold thinL; exact Nat.le_trans (List.length_filter_le _ _) (by simp)
theorem thinL_mem {n : Nat} {r : Nat → Nat} {K k x : Nat} (h : x ∈ thinL n r K k) : x < k ∧ thinB n r K x = true := by
  unfold thinL at h
  rw [List.mem_filter, List.mem_range] at h
  exact h

set_option maxRecDepth 20000 in
set_option maxHeartbeats 2000000 in
theorem thinSets_any {n : Nat} {r : Nat → Nat} {ad : Option Addr} {w : World} (G : GrAt w ad n r) (hP : Pl n r) (cap K : Nat) (hK : K ≤ 7) (hT : Tab w) :
    Calls Tryd.prog 84 #[.slice ad n cap, .int .i64 K] w fun e w' => ∃ v, e = .returned v ∧ IntsOwn w' w.heap.size v (natsI (thinL n r K (2 ^ n))) ∧ Below w.heap.size w w' := by
  have hn7 := hP.le
  have hn16 : n < 16 := by omega
  have h7 := pow_le7 hn7
  have HG := Lib.hid G
  have HPL := Lib.hid hP
  have HT := Lib.hid hT
  have hpn := Nat.two_pow_pos n
  clear G hP hT
  go_enter Tryd.func84, Tryd.ntmps84
  go_wp2_with (go_at_call 79; refine (all_any _ _ _ _ hn16).mono ?_; rintro e w1 ⟨rfl, rfl⟩)
  go_loopw [5, 10] (fun v i wr => ∃ k : Nat, k ≤ 2 ^ n ∧ i = .int .i64 k ∧ IntsOwn wr w.heap.size v (natsI (thinL n r K k)) ∧ Below w.heap.size w wr) (fun _ i _ => 2 ^ n - (intOf i).toNat)
  case atStart => exact ⟨0, Nat.zero_le _, rfl, IntsOwn.nil _ _, Below.refl _ _⟩
  case round =>
    obtain ⟨k, hk, rfl, hown, hbr⟩ := hrel
    have HOW := Lib.hid hown
    have HBR := Lib.hid hbr
    have hbsz := hbr.size
    clear hown hbr
    by_cases hlt : k < 2 ^ n
    · have HST := Lib.hid (thinL_succ n r K k)
      have HLL := Lib.hid (thinL_len n r K k)
      have hki : (k : Int) < ((2 ^ n - 1 : Nat) : Int) + 1 := by omega
      have hbl := bord_lt (r := r) hlt
      have HTB : Hid (thinB n r K k = decide (szS n (bord r k) ≤ K)) := Lib.hid rfl
      have HSL := szS_le n (bord r k)
      have HBO := Lib.hid (border_any (HG.out.below HBR.out) hn7 HPL.out.bd cap k hlt (HT.out.below HBR.out))
      have HCO := Lib.hid (fun w => count_any (n := n) (by omega) (bord r k) hbl w)
      generalize bord r k = X at *
      generalize szS n X = Y at *
      by_cases hY : Y ≤ K
      · have d1 : decide ((Y : Int) ≤ (K : Int)) = true := by simp; omega
        rw [HTB.out, decide_eq_true hY] at HST
        go_wp2_with (first
          | (go_at_call 77; refine HBO.out.mono ?_; rintro e w2 ⟨rfl, hb2⟩; have HO2 := Lib.hid (HOW.out.below hb2); have HB2 := Lib.hid (HBR.out.trans (hb2.mono hbsz)); have hb2sz := HB2.out.size; clear hb2)
          | (go_at_call 76; refine (HCO.out _).mono ?_; rintro e w3 ⟨rfl, rfl⟩)
          | (at_builtin; refine wpList_app_int w.heap.size _ (k : Int) _ rfl _ _ rfl rfl HO2.out rfl ?c1 ?c2 ?_))
        case c1 => rw [natsI_len]; have := HLL.out; omega
        try (case c2 => exact hb2sz)
        intro v' w4 ho4 hb4 _
        have HO4 := Lib.hid ho4
        have HB4 := Lib.hid (HB2.out.trans hb4)
        clear ho4 hb4
        go_wp2_with fail
        go_roundw
        case rel => exact ⟨k + 1, by omega, by go_num, by rw [HST.out]; show IntsOwn w4 _ _ (natsI (_ ++ [k])); rw [natsI_snoc]; exact HO4.out, HB4.out⟩
        case measure => simp [intOf]; omega
      · have d1 : decide ((Y : Int) ≤ (K : Int)) = false := by simp; omega
        rw [HTB.out, decide_eq_false hY] at HST
        go_wp2_with (first
          | (go_at_call 77; refine HBO.out.mono ?_; rintro e w2 ⟨rfl, hb2⟩; have HO2 := Lib.hid (HOW.out.below hb2); have HB2 := Lib.hid (HBR.out.trans (hb2.mono hbsz)); clear hb2)
          | (go_at_call 76; refine (HCO.out _).mono ?_; rintro e w3 ⟨rfl, rfl⟩))
        go_roundw
        case rel => exact ⟨k + 1, by omega, by go_num, by rw [HST.out]; show IntsOwn w2 _ _ (natsI (_ ++ [])); rw [List.append_nil]; exact HO2.out, HB2.out⟩
        case measure => simp [intOf]; omega
    · have hke : k = 2 ^ n := by omega
      have hki : ¬ (k : Int) < ((2 ^ n - 1 : Nat) : Int) + 1 := by omega
      have HKE := Lib.hid hke
      clear hke hlt
      go_wp2_with fail
      go_ret
      exact ⟨_, rfl, by rw [← HKE.out]; exact HOW.out, HBR.out⟩

set_option maxRecDepth 20000 in
set_option maxHeartbeats 2000000 in
theorem isPair_any {n : Nat} {r : Nat → Nat} {ad : Option Addr} {w : World} (G : GrAt w ad n r) (hP : Pl n r) (cap K x y : Nat) (hx : x < 2 ^ n) (hy : y < 2 ^ n) (hT : Tab w) :
    Calls Tryd.prog 87 #[.slice ad n cap, .int .i64 x, .int .i64 y, .int .i64 K] w fun e w' => e = .returned (.bool (pairT n r K x y)) ∧ Below w.heap.size w w' := by
  have hn7 := hP.le
  have hn16 : n < 16 := by omega
  have h7 := pow_le7 hn7
  have HG := Lib.hid G
  have HPL := Lib.hid hP
  have HT := Lib.hid hT
  have hx16 : x < 65536 := by omega
  have hy16 : y < 65536 := by omega
  have hor := or_lt hx16 hy16
  have hand : x &&& y < 65536 := and_lt hx16
  have hxy : x &&& y < 2 ^ n := Nat.lt_of_le_of_lt Nat.and_le_left hx
  have HX : Hid (pairT n r K x y = ((x ||| y == 2 ^ n - 1) && (decide (szS n (x &&& y) ≤ K) && diff (bord r x) y == 0))) := Lib.hid rfl
  have q1 : (((x ||| y : Nat) : Int) == ((2 ^ n - 1 : Nat) : Int)) = (x ||| y == 2 ^ n - 1) := cast_beq _ _
  have HCO := Lib.hid (fun w => count_any (n := n) (by omega) (x &&& y) hxy w)
  have HBO := Lib.hid (border_any HG.out hn7 HPL.out.bd cap x hx HT.out)
  have hbl := bord_lt (r := r) hx
  have HPA := Lib.hid (fun w => isPart_any (bord r x) y w (by omega) hy16)
  have HSL := szS_le n (x &&& y)
  clear G hP hT
  generalize (diff (bord r x) y == 0) = P at *
  generalize bord r x = X at *
  generalize szS n (x &&& y) = Y at *
  cases h1 : (x ||| y == 2 ^ n - 1)
  · rw [h1] at HX q1
    go_enter Tryd.func87, Tryd.ntmps87
    go_wp2_with (go_at_call 79; refine (all_any _ _ _ _ hn16).mono ?_; rintro e w1 ⟨rfl, rfl⟩)
    go_ret
    exact ⟨by rw [HX.out]; rfl, Below.refl _ _⟩
  · rw [h1] at HX q1
    by_cases hY : Y ≤ K
    · have d1 : decide ((Y : Int) ≤ (K : Int)) = true := by simp; omega
      rw [decide_eq_true hY] at HX
      go_enter Tryd.func87, Tryd.ntmps87
      go_wp2_with (first
        | (go_at_call 79; refine (all_any _ _ _ _ hn16).mono ?_; rintro e w1 ⟨rfl, rfl⟩)
        | (go_at_call 76; refine (HCO.out _).mono ?_; rintro e w1 ⟨rfl, rfl⟩)
        | (go_at_call 77; refine HBO.out.mono ?_; rintro e w2 ⟨rfl, hb2⟩; have HB2 := Lib.hid hb2; clear hb2)
        | (go_at_call 80; refine (HPA.out _).mono ?_; rintro e w3 ⟨rfl, rfl⟩))
      go_ret
      exact ⟨by rw [HX.out]; rfl, HB2.out⟩
    · have d1 : decide ((Y : Int) ≤ (K : Int)) = false := by simp; omega
      rw [decide_eq_false hY] at HX
      go_enter Tryd.func87, Tryd.ntmps87
      go_wp2_with (first
        | (go_at_call 79; refine (all_any _ _ _ _ hn16).mono ?_; rintro e w1 ⟨rfl, rfl⟩)
        | (go_at_call 76; refine (HCO.out _).mono ?_; rintro e w1 ⟨rfl, rfl⟩))
      go_ret
      exact ⟨by rw [HX.out]; rfl, Below.refl _ _⟩

end Go.Proofs.YtgkpogaahndmoaaDoor
