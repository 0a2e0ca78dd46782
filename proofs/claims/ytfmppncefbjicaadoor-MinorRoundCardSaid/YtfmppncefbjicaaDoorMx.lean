/- Package minor: the reference's Size, Around, Connected (as in width's and ears' texts), fits. -/
import Derived.Test.YtfmppncefbjicaaDoorMo
import Derived.Test.YtfmppncefbjicaaDoorMw
import Derived.Deep.RegionHeld3
namespace Go.Proofs.YtfmppncefbjicaaDoor
set_option linter.unusedSimpArgs false
set_option linter.unusedVariables false
open Go.RowKit Go.Maps
attribute [local go_sem] i64_bit toNat_eq_one toNat_ne_one toNat_eq_zero toNat_ne_zero i64_and i64_or i64_andNot i64_or_pow i64_andNot_pow

theorem szS_low : ∀ S, S < 512 → 0 < S → szS 9 (S &&& (S - 1)) + 1 = szS 9 S ∧ S &&& (S - 1) < S := by decide +kernel

set_option maxRecDepth 20000 in
set_option maxHeartbeats 2000000 in
theorem Size_any {n : Nat} (hn : n ≤ 9) (T : Nat) (hT : T < 2 ^ n) (w : World) :
    Calls Tryd.prog 51 #[.int .i64 T] w fun e w' => e = .returned (.int .i64 (szS n T : Nat)) ∧ w = w' := by
  have h9 : szS 9 T ≤ 9 := szS_le 9 T
  have HS := Lib.hid (szS_nine hn hT)
  have hT9 : T < 512 := by have := pow_le9 hn; omega
  clear hT
  go_enter Tryd.func51, Tryd.ntmps51
  go_wp2_with fail
  go_loopw [0, 3] (fun s c wr => ∃ S k, s = .int .i64 (S : Nat) ∧ c = .int .i64 (k : Nat) ∧ S < 512 ∧ k + szS 9 S = szS 9 T ∧ w = wr) (fun s _ _ => (intOf s).toNat)
  case atStart => exact ⟨T, 0, rfl, rfl, hT9, by omega, rfl⟩
  case round =>
    obtain ⟨S, k, rfl, rfl, hS, hk, rfl⟩ := hrel
    by_cases h0 : 0 < S
    · obtain ⟨l1, l2⟩ := szS_low S hS h0
      have hc : wrap64 ((S : Int) - 1) = ((S - 1 : Nat) : Int) := by
        rw [show ((S : Int) - 1) = ((S - 1 : Nat) : Int) by omega]
        exact IntWalk.wrap64_in _ ⟨by omega, by omega⟩
      have hb : bits .and .i64 (S : Int) ((S : Int) - 1) = ((S &&& (S - 1) : Nat) : Int) := by
        rw [show ((S : Int) - 1) = ((S - 1 : Nat) : Int) by omega, i64_and S (S - 1) (by omega) (by omega)]
      go_wp2_with fail
      go_roundw
      case rel => exact ⟨S &&& (S - 1), k + 1, by first | rfl | exact congrArg (Value.int .i64) hb, by go_num, by omega, by omega, by first | trivial | rfl⟩
      case measure => simpa [intOf, hb] using l2
    · have : S = 0 := by omega
      subst this
      go_wp2_with fail
      go_ret
      have h00 : szS 9 0 = 0 := by decide
      rw [h00] at hk
      have hk2 : k = szS n T := by rw [← HS.out]; omega
      subst hk2
      exact ⟨rfl, rfl⟩

set_option maxRecDepth 20000 in
set_option maxHeartbeats 2000000 in
theorem Around_any {n : Nat} {r : Nat → Nat} {a : Option Addr} {w : World} (G : GrAt w a n r) (cap s : Nat) (hs : s < 65536) :
    Calls Tryd.prog 89 #[.slice a n cap, .int .i64 s] w fun e w' => e = .returned (.int .i64 (nbTo r s n : Nat)) ∧ w' = w := by
  obtain ⟨hml, hI⟩ := G.ints
  obtain ⟨b, off, rfl, hlt, hc⟩ := hI G.pos
  have hn := G.small
  have hbd := G.bd
  unfold maxLen at hml
  clear hI
  go_enter Tryd.func89, Tryd.ntmps89
  go_wp2_with fail
  go_loopw [5, 9] (fun f i wr => ∃ j : Nat, j ≤ n ∧ i = .int .i64 j ∧ f = .int .i64 (nbTo r s j : Nat) ∧ wr = w) (fun _ i _ => n - (intOf i).toNat)
  case atStart => exact ⟨0, Nat.zero_le _, rfl, rfl, rfl⟩
  case round =>
    obtain ⟨j, hj, rfl, rfl, rfl⟩ := hrel
    have hfj : nbTo r s j < 65536 := nbTo_lt (m := 16) s hbd j hj
    by_cases hlj : j < n
    · have hrj := hbd j hlj
      have cj := hc j hlj
      have HST : Hid (nbTo r s (j + 1) = if s.testBit j then nbTo r s j ||| r j else nbTo r s j) := Lib.hid rfl
      have hj64 : j < 64 := by omega
      generalize nbTo r s j = f at *
      cases hq : s.testBit j
      all_goals
        go_wp2_with fail
        go_roundw
        case rel => exact ⟨j + 1, by omega, by go_num, by rw [HST.out, hq]; rfl, by trivial⟩
        case measure => simp [intOf]; omega
    · have : j = n := by omega
      subst this
      go_wp2_with fail
      go_ret
      exact ⟨rfl, rfl⟩

set_option maxRecDepth 20000 in
set_option maxHeartbeats 2000000 in
theorem ConnectedR_any {n : Nat} {r : Nat → Nat} {a : Option Addr} {w : World} (G : GrAt w a n r) (hle : n ≤ 8) (cap s : Nat) (hs0 : 0 < s) (hs2 : s < 2 ^ n) :
    Calls Tryd.prog 57 #[.slice a n cap, .int .i64 s] w fun e w' => e = .returned (.bool (conB n r s)) ∧ Below w.heap.size w w' := by
  have hn16 : n < 16 := by omega
  have HG := Lib.hid G
  have hpn := pow_bd n hn16
  have hml := G.ints.1
  unfold maxLen at hml
  clear G
  have hs9 : s < 1024 := by have := pow_le8 hle; omega
  have hlow := lowN_ltm hle hs0 hs2
  obtain ⟨_, l2, l3⟩ := lowN_all s hs9 hs0
  have HL2 := Lib.hid l2
  have HL3 := Lib.hid l3
  have HF : Hid (conB n r s = (partS n r s (lowN s) == s)) := Lib.hid (by unfold conB; rw [decide_eq_true hs0, Bool.true_and])
  have hq : (((partS n r s (lowN s) : Nat) : Int) == (s : Int)) = (partS n r s (lowN s) == s) := cast_beq _ _
  have hs16 : s < 65536 := by omega
  have h1' : (s : Int) < 2 ^ n := by rw [pow_cast]; omega
  have h0' : 0 < (s : Int) := by omega
  clear l2 l3 hs2
  generalize lowN s = lo at *
  generalize hP : partS n r s lo = P at *
  have HP : Hid (metIn n r s (2 ^ lo) n = P) := Lib.hid hP
  clear hP
  go_enter Tryd.func57, Tryd.ntmps57
  go_wp2_with fail
  go_loopw [5] (fun f wr => ∃ j : Nat, f = .int .i64 j ∧ j ≤ lo ∧ w = wr) (fun f _ => lo - (intOf f).toNat)
  case atStart => exact ⟨0, rfl, Nat.zero_le _, rfl⟩
  case round =>
    obtain ⟨j, rfl, hj, rfl⟩ := hrel
    have hj64 : j < 64 := by omega
    by_cases hjl : j = lo
    · subst hjl
      have hb := HL2.out
      go_wp2_with (go_at_call 56; refine (Reached_any HG.out cap s j _ _ rfl rfl hs16 hlow).mono ?_; rintro e w1 ⟨rfl, hb1⟩; rw [HP.out]; have HB1 := Lib.hid hb1; clear hb1)
      go_ret
      exact ⟨by rw [HF.out, ← hq]; rfl, HB1.out⟩
    · have hb := HL3.out j (by omega)
      go_wp2_with fail
      go_roundw
      case rel => exact ⟨j + 1, by go_num, by omega, by trivial⟩
      case measure => simp [intOf]; omega

theorem nbTo_aro {n : Nat} {r : Nat → Nat} {s : Nat} (hn : n ≤ 8) (hs : s < 2 ^ n) : nbTo r s n = aroN r s := by
  apply Nat.eq_of_testBit_eq
  intro i
  rw [Bool.eq_iff_iff, testBit_nbTo, testBit_aro hn hs]

set_option maxRecDepth 20000 in
set_option maxHeartbeats 2000000 in
theorem fits_any {n q : Nat} {r pr : Nat → Nat} {a b : Option Addr} {w : World} (T : Tn w a n r) (P : Tn w b q pr) (ca cb : Nat) {B : List Nat} {am : Option Addr} {m : Nat} (cm : Nat) {y : Nat → Int} (hM : IntsAt w am m y) (hBm : B.length ≤ m) (hy : ∀ i, i < B.length → y i = (B.getD i 0 : Nat)) (hB : ∀ x ∈ B, x < 2 ^ n) (hq : B.length < q) (s : Nat) (hs : s < 2 ^ n) :
    Calls Tryd.prog 64 #[.slice a n ca, .slice b q cb, .slice am m cm, .int .i64 (B.length : Nat), .int .i64 s] w fun e w' => e = .returned (.bool (rchB r s (pr B.length) B)) ∧ Below w.heap.size w w' := by
  have hn8 := T.le
  have hq8 := P.le
  have h8 := pow_le8 hn8
  have hq256 := pow_le8 hq8
  obtain ⟨hml, hI⟩ := P.at_.ints
  obtain ⟨bp, op, rfl, hltp, hcp⟩ := hI P.at_.pos
  have hmm := hM.1
  unfold maxLen at hml hmm
  have hpi := P.bd _ hq
  have hpi16 : pr B.length < 65536 := by omega
  have cpi : w.cell? ⟨bp, op + B.length, none⟩ = some (.int .i64 (pr B.length : Nat)) := hcp _ hq
  have HAR : Hid (∀ w', Below w.heap.size w w' → Calls Tryd.prog 89 #[.slice a n ca, .int .i64 s] w' fun e w'' => e = .returned (.int .i64 (aroN r s : Nat)) ∧ w'' = w') := Lib.hid fun w' hb => by
    rw [← nbTo_aro hn8 hs]
    exact Around_any (T.below hb).at_ ca s (by omega)
  have har16 : aroN r s < 65536 := lt16m hn8 (aroN_lt T.bd hs)
  obtain ⟨A, hA⟩ : ∃ A, A = aroN r s := ⟨_, rfl⟩
  obtain ⟨N, hN⟩ : ∃ N, N = pr B.length := ⟨_, rfl⟩
  obtain ⟨L, hL⟩ : ∃ L, L = B.length := ⟨_, rfl⟩
  have HM := Lib.hid hM
  have HY := Lib.hid hy
  have HBB := Lib.hid hB
  have HNO : Hid (∀ i, i < L → N.testBit i = true → A &&& B.getD i 0 = 0 → rchB r s N B = false) := Lib.hid fun i hi h1 h2 => rchB_no (by omega) h1 (by rw [← hA]; exact h2)
  have HYS : Hid ((∀ i, i < L → N.testBit i = true → A &&& B.getD i 0 ≠ 0) → rchB r s N B = true) := Lib.hid fun h => rchB_yes (fun i hi h1 => by rw [← hA]; exact h i (by omega) h1)
  rw [← hA] at HAR har16
  rw [← hN] at hpi16 cpi ⊢
  rw [← hL] at cpi HY hBm hq ⊢
  have hLm : L ≤ 8 := by omega
  have HL := Lib.hid hL
  clear hcp hI T P hM hy hB hpi hA hN hL
  go_enter Tryd.func64, Tryd.ntmps64
  go_wp2_with fail
  go_loopw [11, 13] (fun _ i wr => ∃ j : Nat, j ≤ L ∧ i = .int .i64 j ∧ (∀ i, i < j → N.testBit i = true → A &&& B.getD i 0 ≠ 0) ∧ Below w.heap.size w wr) (fun _ i _ => L - (intOf i).toNat)
  case atStart => exact ⟨0, Nat.zero_le _, rfl, fun i hi => by omega, Below.refl _ _⟩
  case round =>
    obtain ⟨j, hj, rfl, hall, hb⟩ := hrel
    have HALL := Lib.hid hall
    have HB := Lib.hid hb
    clear hall
    by_cases hjl : j < L
    · have hj64 : j < 64 := by omega
      have cpj := hb.cell (p := ⟨bp, op + L, none⟩) hltp
      rw [cpi] at cpj
      have hjm : j < m := by omega
      obtain ⟨bm, om, rfl, hltm, hcm⟩ := (HM.out.below hb).2 (by omega)
      have cj := hcm j hjm
      rw [HY.out j hjl] at cj
      have hbj : B.getD j 0 < 65536 := by
        have hjB : j < B.length := by have := HL.out; omega
        have : B.getD j 0 ∈ B := by rw [List.getD_eq_getElem?_getD, List.getElem?_eq_getElem hjB]; exact List.getElem_mem hjB
        have := HBB.out _ this
        omega
      have HARW := Lib.hid (HAR.out wr hb)
      obtain ⟨X, hX⟩ : ∃ X, X = B.getD j 0 := ⟨_, rfl⟩
      have HX := Lib.hid hX
      rw [← hX] at cj hbj
      clear hcm hb hX
      cases hbit : N.testBit j
      · go_wp2_with fail
        go_quiet (fail)
        go_wp2_with fail
        go_roundw
        case rel =>
          refine ⟨j + 1, by omega, by go_num, fun i hi h1 => ?_, below_drewN HB.out _⟩
          by_cases e : i = j
          · subst e; rw [hbit] at h1; cases h1
          · exact HALL.out i (by omega) h1
        case measure => simp [intOf]; omega
      · by_cases h0 : A &&& X = 0
        · have hno := HNO.out j hjl hbit (by rw [← HX.out]; exact h0)
          go_wp2_with fail
          go_quiet ((go_at_call 89; exact Calls.quiet_of_same (HAR.out _ (below_drewN HB.out _))))
          go_wp2_with fail
          go_ret
          exact ⟨by rw [hno]; rfl, below_drewN HB.out _⟩
        · have HNE := Lib.hid (show A &&& B.getD j 0 ≠ 0 by rw [← HX.out]; exact h0)
          go_wp2_with fail
          go_quiet ((go_at_call 89; exact Calls.quiet_of_same (HAR.out _ (below_drewN HB.out _))))
          go_wp2_with fail
          go_roundw
          case rel =>
            refine ⟨j + 1, by omega, by go_num, fun i hi h1 => ?_, below_drewN HB.out _⟩
            by_cases e : i = j
            · subst e; exact HNE.out
            · exact HALL.out i (by omega) h1
          case measure => simp [intOf]; omega
    · have : j = L := by omega
      subst this
      have hyes := HYS.out HALL.out
      go_wp2_with fail
      go_ret
      exact ⟨by rw [hyes]; rfl, HB.out⟩

end Go.Proofs.YtfmppncefbjicaaDoor
