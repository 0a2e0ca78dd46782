/- The contracts of leastSet for dividing sets, of Divide, and of the reference's Divide. -/
import Derived.Test.YtbkbliieappkdaaDoorW25
import Derived.Test.YtbkbliieappkdaaDoorW23
namespace Go.Proofs.YtbkbliieappkdaaDoor
set_option linter.unusedSimpArgs false
set_option linter.unusedVariables false
open Go.RowKit Go.Maps
attribute [local go_sem] i64_bit toNat_eq_one toNat_ne_one toNat_eq_zero toNat_ne_zero i64_and i64_or i64_andNot i64_or_pow i64_andNot_pow

set_option maxRecDepth 20000 in
set_option maxHeartbeats 4000000 in
theorem leastSet_divides {n : Nat} {a : Option Addr} (cap : Nat) (hn : n ≤ 9) {w : World} {p : Nat → Bool}
    (hf : ∀ wz, Below w.heap.size w wz → ∀ s : Nat, s < 2 ^ n → Calls Tryd.prog 51 #[.slice a n cap, .int .i64 (s : Nat)] wz fun e w' => e = .returned (.bool (p s)) ∧ Below wz.heap.size wz w') :
    Calls Tryd.prog 50 #[.slice a n cap, .func (.func 51) #[.slice a n cap] #[]] w fun e w' => (∃ X, e = .returned (.int .i64 (X : Nat)) ∧ LeastFit n p X) ∧ Below w.heap.size w w' := by
  have hn16 : n < 16 := by omega
  have hpn := pow_bd n hn16
  have h9 := pow_le9 hn
  have h1 := Nat.one_le_two_pow (n := n)
  obtain ⟨N, hN⟩ : ∃ N : Nat, N = 2 ^ n - 1 := ⟨_, rfl⟩
  have hcast : ((2 : Int) ^ n - 1) = (N : Int) := by rw [pow_cast, hN]; omega
  have HF := Lib.hid hf
  have HN := Lib.hid hN
  have HC := Lib.hid hcast
  have hN9 : N < 512 := by omega
  clear hf hN hcast h9
  go_enter Tryd.func50, Tryd.ntmps50
  go_wp2_with fail
  go_loopw [9] (fun i wr => ∃ k : Nat, k ≤ n ∧ i = .int .i64 k ∧ NoneYet n p k 0 ∧ Below w.heap.size w wr) (fun i _ => n - (intOf i).toNat)
  case atStart => exact ⟨0, Nat.zero_le _, rfl, NoneYet.start, Below.refl _ _⟩
  case round =>
    obtain ⟨k, hk, rfl, hno, hbel⟩ := hrel
    have HNO := Lib.hid hno
    have HB := Lib.hid hbel
    clear hno hbel
    by_cases hlt : k < n
    · go_wp2_with (go_at_call 77; refine (all_any _ _ _ _ hn16).mono ?_; rintro e wz ⟨rfl, rfl⟩; rw [HC.out])
      go_loopw [14] (fun i wx => ∃ j : Nat, j ≤ N ∧ i = .int .i64 j ∧ NoneYet n p k j ∧ Below w.heap.size w wx) (fun i _ => N - (intOf i).toNat)
      case atStart => exact ⟨0, Nat.zero_le _, rfl, HNO.out, HB.out⟩
      case round =>
        clear HNO HB
        obtain ⟨j, hj, rfl, hno, hbel⟩ := hrel
        have HNO := Lib.hid hno
        have HB := Lib.hid hbel
        clear hno hbel
        by_cases hlj : j < N
        · have hj2 : j < 2 ^ n := by have := HN.out; omega
          have HJ2 := Lib.hid hj2
          have hsz := szS_le n j
          clear hj2
          by_cases hq : szS n j = k
          · have hqb : (((szS n j : Nat) : Int) == (k : Int)) = true := by rw [hq]; simp
            have HQ := Lib.hid hq
            clear hq
            cases hp : p j
            · have HP := Lib.hid hp
              go_wp2_with (first
                | (go_at_call 44; refine (count_any hn j HJ2.out _).mono ?_; rintro e w4 ⟨rfl, rfl⟩)
                | (go_at_call 51; refine (HF.out _ HB.out j HJ2.out).mono ?_; rintro e w5 ⟨rfl, hb5⟩; rw [hp]; have HB5 := Lib.hid (HB.out.trans (hb5.mono HB.out.size)); clear hb5))
              go_roundw
              case rel => exact ⟨j + 1, by omega, by go_num, HNO.out.step (fun _ => HP.out), HB5.out⟩
              case measure => simp [intOf]; omega
            · have HP := Lib.hid hp
              go_wp2_with (first
                | (go_at_call 44; refine (count_any hn j HJ2.out _).mono ?_; rintro e w4 ⟨rfl, rfl⟩)
                | (go_at_call 51; refine (HF.out _ HB.out j HJ2.out).mono ?_; rintro e w5 ⟨rfl, hb5⟩; rw [hp]; have HB5 := Lib.hid (HB.out.trans (hb5.mono HB.out.size)); clear hb5))
              go_ret
              exact ⟨⟨j, rfl, NoneYet.found (by rw [HQ.out]; exact HNO.out) (by rw [← HN.out]; exact hlj) HP.out⟩, HB5.out⟩
          · have hqb : (((szS n j : Nat) : Int) == (k : Int)) = false := by rw [cast_beq]; simpa using hq
            have HQ := Lib.hid hq
            clear hq
            go_wp2_with (go_at_call 44; refine (count_any hn j HJ2.out _).mono ?_; rintro e w4 ⟨rfl, rfl⟩)
            go_roundw
            case rel => exact ⟨j + 1, by omega, by go_num, HNO.out.step (fun h => absurd h HQ.out), HB.out⟩
            case measure => simp [intOf]; omega
        · have hje : j = N := by omega
          subst hje
          go_wp2_with fail
          go_roundw
          case rel => exact ⟨k + 1, by omega, by go_num, (by have h := HNO.out; rw [HN.out] at h; exact h.next), HB.out⟩
          case measure => simp [intOf]; omega
    · have hke : k = n := by omega
      subst hke
      go_wp2_with (go_at_call 77; refine (all_any _ _ _ _ hn16).mono ?_; rintro e wz ⟨rfl, rfl⟩; rw [HC.out])
      go_ret
      exact ⟨⟨N, rfl, by rw [HN.out]; exact HNO.out.all⟩, HB.out⟩

theorem graph_sym {n : Nat} {z : Nat → Int} (h : graphB n 9 z = true) : SymG n (natG z) := fun u x hu hx => by
  unfold graphB at h
  simp only [Bool.and_eq_true, List.all_eq_true, List.mem_range, beq_iff_eq] at h
  have h1 := (h.2 u hu).2 x hx
  have hb := graphB_le (n := n) (most := 9) (z := z) (by unfold graphB; simp only [Bool.and_eq_true, List.all_eq_true, List.mem_range, beq_iff_eq]; exact h)
  have e : ∀ i, i < n → ∀ j, bitZ (z i) j = (natG z i).testBit j := fun i hi j => by
    have := bitZ_nat (natG z i) j
    rw [← this]
    unfold natG
    rw [Int.toNat_of_nonneg (hb.2.2 i hi).1]
  rw [e u hu, e x hx] at h1
  exact h1

set_option maxRecDepth 20000 in
set_option maxHeartbeats 2000000 in
theorem Divide_yes {n : Nat} {z : Nat → Int} {a : Option Addr} (cap : Nat) {w : World} (hI : IntsAt w a n z) (hz : InI64 z) (hT : HasTab w) (hg : graphB n 9 z = true) :
    Calls Tryd.prog 24 #[.slice a n cap] w fun e w' => (∃ X, e = .returned (.tuple #[.int .i64 (X : Nat), .int .i64 0]) ∧ LeastFit n (fun s => dvTo n (natG z) s n) X) ∧ Below w.heap.size w w' := by
  have HI := Lib.hid hI
  have HZ := Lib.hid hz
  have HT := Lib.hid hT
  have hle := (graphB_le hg).2.1
  have HSY := Lib.hid (graph_sym hg)
  have hmf : ∀ (fn : Fn) (first cap : Array Value) (w : World), (Instr.makeFunc fn first cap).run Tryd.prog w = .ok (.func fn first cap) w := fun _ _ _ _ => rfl
  clear hI hz hT
  go_enter Tryd.func24, Tryd.ntmps24
  go_wp2_with (first
    | (go_at_call 37; refine (newTown_yes cap HI.out HZ.out hg).mono ?_; rintro e w1 ⟨rfl, hb1, hG⟩; have HB1 := Lib.hid hb1; have HG := Lib.hid hG; have HT1 := Lib.hid (HT.out.below hb1); have HDV : Hid (∀ wz, Below w1.heap.size w1 wz → ∀ s : Nat, s < 2 ^ n → Calls Tryd.prog 51 #[.slice a n cap, .int .i64 (s : Nat)] wz fun e w' => e = .returned (.bool (dvTo n (natG z) s n)) ∧ Below wz.heap.size wz w') := Lib.hid (fun wz hb s hs => divides_any (HG.out.below hb) HSY.out cap s hs (HT1.out.below hb)); clear hb1 hG)
    | (go_at_call 50; refine (leastSet_divides (p := fun s => dvTo n (natG z) s n) cap hle HDV.out).mono ?_; rintro e w3 ⟨⟨X, rfl, hX⟩, hb3⟩; have HX := Lib.hid hX; have HB3 := Lib.hid (HB1.out.trans (hb3.mono HB1.out.size)); clear hX hb3))
  go_ret2
  exact ⟨⟨X, rfl, HX.out⟩, HB3.out⟩

set_option maxRecDepth 20000 in
set_option maxHeartbeats 2000000 in
theorem Divide_no {n : Nat} {z : Nat → Int} {a : Option Addr} (cap : Nat) {w : World} (hI : IntsAt w a n z) (hz : InI64 z) (hg : graphB n 9 z = false) :
    Calls Tryd.prog 24 #[.slice a n cap] w fun e w' => e = .returned (.tuple #[.int .i64 0, .int .i64 2]) ∧ Below w.heap.size w w' := by
  have HI := Lib.hid hI
  have HZ := Lib.hid hz
  clear hI hz
  go_enter Tryd.func24, Tryd.ntmps24
  go_wp2_with (go_at_call 37; refine (newTown_no cap HI.out HZ.out hg).mono ?_; rintro e w1 ⟨rfl, hb1⟩; have HB1 := Lib.hid hb1; clear hb1)
  go_ret2
  exact ⟨rfl, HB1.out⟩

set_option maxRecDepth 20000 in
set_option maxHeartbeats 4000000 in
theorem DivideR_any {n : Nat} {r : Nat → Nat} {a : Option Addr} {w : World} (G : Gr w a n r) (cap : Nat) :
    Calls Tryd.prog 25 #[.slice a n cap] w fun e w' => (∃ X, e = .returned (.int .i64 (X : Nat)) ∧ LeastFit n (fun s => dvTo n r s n) X) ∧ Below w.heap.size w w' := by
  have hn := G.le
  have hn16 : n < 16 := by omega
  have hpn := pow_bd n hn16
  have h9 := pow_le9 hn
  have h1 := Nat.one_le_two_pow (n := n)
  obtain ⟨N, hN⟩ : ∃ N : Nat, N = 2 ^ n := ⟨_, rfl⟩
  have hcast : (2 : Int) ^ n = (N : Int) := by rw [pow_cast, hN]
  have HG := Lib.hid G
  have HN := Lib.hid hN
  have HC := Lib.hid hcast
  have hN9 : N ≤ 512 := by omega
  have hN1 : 1 ≤ N := by omega
  clear hN h9 G
  go_enter Tryd.func25, Tryd.ntmps25
  go_wp2_with fail
  try rw [HC.out]
  go_loopw [3, 14] (fun b i wr => ∃ (k X : Nat), k ≤ N ∧ i = .int .i64 k ∧ b = .int .i64 (X : Nat) ∧ BestTo n (fun s => dvTo n r s n) k X ∧ Below w.heap.size w wr) (fun _ i _ => N - (intOf i).toNat)
  case atStart => exact ⟨0, 2 ^ n - 1, Nat.zero_le _, rfl, by first | (rw [← HN.out]; congr 1; omega) | (rw [← HN.out]) | (congr 1; have := HN.out; omega), BestTo.start, Below.refl _ _⟩
  case round =>
    obtain ⟨k, X, hk, rfl, rfl, hbt, hbel⟩ := hrel
    have hX2 := hbt.lt
    have HBT := Lib.hid hbt
    have HB := Lib.hid hbel
    clear hbt hbel
    by_cases hlt : k < N
    · have hk2 : k < 2 ^ n := by rw [← HN.out]; exact hlt
      have hk16 := lt16 hn hk2
      have hsk := szS_le n k
      have hsX := szS_le n X
      obtain ⟨b0, hb0⟩ : ∃ b0, b0 = decide (szS n k < szS n X) := ⟨_, rfl⟩
      have HB0 := Lib.hid hb0
      have hd : decide (((szS n k : Nat) : Int) < ((szS n X : Nat) : Int)) = b0 := by rw [hb0]; apply decide_eq_decide.2; omega
      go_wp2_with (go_at_call 15; refine (Size_any hn _ (by assumption) _).mono ?_; rintro e w4 ⟨rfl, rfl⟩)
      go_loopw [5, 24] (fun c i wx => ∃ j : Nat, j ≤ n ∧ i = .int .i64 j ∧ c = .bool (b0 && dvTo n r k j) ∧ Below w.heap.size w wx) (fun _ i _ => n - (intOf i).toNat)
      case atStart => exact ⟨0, Nat.zero_le _, rfl, by rw [show (b0 && dvTo n r k 0) = b0 from Bool.and_true _, HB0.out], HB.out⟩
      case round =>
        clear HB
        obtain ⟨j, hj, rfl, rfl, hbel⟩ := hrel
        have HB := Lib.hid hbel
        have HGW := Lib.hid (HG.out.below hbel)
        clear hbel
        by_cases hlj : j < n
        · have hj16 : j < 16 := by omega
          have HST : Hid ((b0 && dvTo n r k (j + 1)) = ((b0 && dvTo n r k j) && (k.testBit j || decide (2 * szS n (partS n r (diff (2 ^ n - 1) k) j) ≤ n)))) := Lib.hid (by
            show (b0 && (dvTo n r k j && _)) = _
            rw [Bool.and_assoc])
          generalize (b0 && dvTo n r k j) = c at *
          cases hq : k.testBit j
          · have hN1' : (2 : Int) ^ n - 1 = ((N - 1 : Nat) : Int) := by rw [hcast]; omega
            have hm16 : N - 1 < 65536 := by omega
            have hR2 : diff (N - 1) k < 2 ^ n := Nat.lt_of_le_of_lt (diff_le _ _) (by have := HN.out; omega)
            have hR16 := lt16 hn hR2
            have hRN : diff (2 ^ n - 1) k = diff (N - 1) k := by rw [← HN.out]
            have hP2 : partS n r (diff (N - 1) k) j < 2 ^ n := partS_lt hlj HG.out.bd
            rw [hRN] at HST
            have hsP := szS_le n (partS n r (diff (N - 1) k) j)
            have HP2 := Lib.hid hP2
            have hanb : bits .andNot .i64 ((N : Int) - 1) (k : Int) = ((diff (N - 1) k : Nat) : Int) := by
              rw [show ((N : Int) - 1) = ((N - 1 : Nat) : Int) by omega]; exact i64_andNot (N - 1) k hm16 hk16
            have HAN := Lib.hid hanb
            clear hanb
            clear hRN hR2 hP2
            obtain ⟨S, hS⟩ : ∃ S, S = szS n (partS n r (diff (N - 1) k) j) := ⟨_, rfl⟩
            rw [← hS] at HST hsP
            have HSS : Hid (szS n (metIn n r (diff (N - 1) k) (2 ^ j) n) = S) := Lib.hid hS.symm
            have HP2' : Hid (metIn n r (diff (N - 1) k) (2 ^ j) n < 2 ^ n) := HP2
            clear hS
            by_cases hgt : S + S > n
            · have hgt' : (n : Int) < 2 * (S : Int) := by omega
              have HV : Hid (decide (2 * S ≤ n) = false) := Lib.hid (decide_eq_false (by omega))
              clear hgt
              go_wp2_with (first
                | (go_at_call 31; refine (Reached_any HGW.out.at_ cap (diff (N - 1) k) j _ _ HAN.out rfl hR16 hlj).mono ?_; rintro e w5 ⟨rfl, hb5⟩; have HB5 := Lib.hid (HB.out.trans (hb5.mono HB.out.size)); clear hb5)
                | (go_at_call 15; refine (Size_any hn _ HP2'.out _).mono ?_; rintro e w6 ⟨rfl, rfl⟩; rw [HSS.out]))
              go_roundw
              case rel => exact ⟨j + 1, by omega, by go_num, by rw [HST.out, hq, HV.out]; simp, HB5.out⟩
              case measure => simp [intOf]; omega
            · have hgt' : ¬ (n : Int) < 2 * (S : Int) := by omega
              have HV : Hid (decide (2 * S ≤ n) = true) := Lib.hid (decide_eq_true (by omega))
              clear hgt
              go_wp2_with (first
                | (go_at_call 31; refine (Reached_any HGW.out.at_ cap (diff (N - 1) k) j _ _ HAN.out rfl hR16 hlj).mono ?_; rintro e w5 ⟨rfl, hb5⟩; have HB5 := Lib.hid (HB.out.trans (hb5.mono HB.out.size)); clear hb5)
                | (go_at_call 15; refine (Size_any hn _ HP2'.out _).mono ?_; rintro e w6 ⟨rfl, rfl⟩; rw [HSS.out]))
              go_roundw
              case rel => exact ⟨j + 1, by omega, by go_num, by rw [HST.out, hq, HV.out]; simp, HB5.out⟩
              case measure => simp [intOf]; omega
          · go_wp2_with fail
            go_roundw
            case rel => exact ⟨j + 1, by omega, by go_num, by rw [HST.out, hq]; simp, HB.out⟩
            case measure => simp [intOf]; omega
        · have hje : j = n := by omega
          subst hje
          cases hcc : (b0 && dvTo j r k j)
          · have HCC := Lib.hid hcc
            go_wp2_with fail
            go_roundw
            case rel => exact ⟨k + 1, X, by omega, by go_num, rfl, HBT.out.keep (fun h => by
              have h5 := HCC.out
              rw [HB0.out, decide_eq_true h.1] at h5
              simp only [Bool.true_and] at h5
              rw [h.2] at h5; cases h5), HB.out⟩
            case measure => simp [intOf]; omega
          · have HCC := Lib.hid hcc
            go_wp2_with fail
            go_roundw
            case rel => exact ⟨k + 1, k, by omega, by go_num, rfl, HBT.out.take hk2 (by
              have h5 := HCC.out
              rw [Bool.and_eq_true, HB0.out] at h5
              exact of_decide_eq_true h5.1) (by
              have h5 := HCC.out
              rw [Bool.and_eq_true] at h5
              exact h5.2), HB.out⟩
            case measure => simp [intOf]; omega
    · have hke : k = N := by omega
      subst hke
      go_wp2_with fail
      go_ret
      exact ⟨⟨X, rfl, by have h := HBT.out; rw [HN.out] at h; exact h.all⟩, HB.out⟩

end Go.Proofs.YtbkbliieappkdaaDoor
