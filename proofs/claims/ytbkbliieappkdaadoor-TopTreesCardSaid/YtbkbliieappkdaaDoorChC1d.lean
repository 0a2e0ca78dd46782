/- The contracts of package chase's game: lostCats, worst, best. -/
import Derived.Test.YtbkbliieappkdaaDoorChC1c
namespace Go.Proofs.YtbkbliieappkdaaDoor.Ch
set_option linter.unusedSimpArgs false
set_option linter.unusedVariables false
open Go.RowKit Go.Maps
attribute [local go_sem] i64_bit toNat_eq_one toNat_ne_one toNat_eq_zero toNat_ne_zero i64_and i64_or i64_andNot i64_or_pow i64_andNot_pow

theorem lostS_succ (n : Nat) (r : Nat → Nat) (F : Pl → Option Nat) (ab : Nat × Nat) (k : Nat) (p : Nat → Bool) : bitsOf p (k + 1) = if p k then bitsOf p k ||| 2 ^ k else bitsOf p k := rfl

theorem rankV_ne (F : Pl → Option Nat) (p : Pl) : (rankV F p != -1) = (F p).isSome := by
  unfold rankV
  cases F p with
  | none => rfl
  | some v => simp

set_option maxHeartbeats 2000000 in
theorem lostCats_any {w : World} {gp n b cb cc mb : Nat} {r : Nat → Nat} {C : List (Nat × Nat)} {F : Pl → Option Nat} (G : GameAt w gp n b cb cc mb r C F) (ab : Nat × Nat) (hab : ab.1 < n ∧ ab.2 < n) :
    Calls Tryd.prog 114 #[.pointer (some ⟨gp, 0, none⟩), pairV ab] w fun e w' => e = .returned (.int .i64 (lostS n r F ab)) ∧ Below w.heap.size w w' := by
  obtain ⟨a, b'⟩ := ab
  obtain ⟨ha, hb'⟩ := hab
  dsimp only at ha hb'
  obtain ⟨w0, hw0, R0, HB, hsz⟩ := new1 w 74 [.int .i64 a, .int .i64 b']
  have G0 := G.below HB
  obtain ⟨c0, c1, c2, c3, cr, hgp, hb, hn⟩ := G0.facts
  have d0 := R0.cell (i := 0) rfl
  have d1 := R0.cell (i := 1) rfl
  have HR0 := Lib.hid R0
  have HG := Lib.hid G0
  have c0' := c0
  rw [hw0] at c0'
  have HW := Lib.hid hw0
  clear hw0 R0 G0
  show Calls Tryd.prog 114 #[.pointer (some ⟨gp, 0, none⟩), .agg #[.int .i64 a, .int .i64 b']] w _
  go_enter Tryd.func114, Tryd.ntmps114
  go_wp2_with fail
  rw [← HW.out]
  clear HW c0'
  go_loopw [5, 14] (fun f i wr => ∃ k : Nat, k ≤ n ∧ i = .int .i64 k ∧ f = .int .i64 (bitsOf (fun c => (F (a, b', c)).isSome) k) ∧ Below w0.heap.size w0 wr) (fun _ i _ => n - (intOf i).toNat)
  case atStart => exact ⟨0, Nat.zero_le _, rfl, rfl, Below.refl _ _⟩
  case round =>
    clear c0 c1 c2 c3 cr hgp hb d0 d1
    obtain ⟨k, hk, rfl, rfl, hbel⟩ := hrel
    have hbk := bitsOf_lt (fun c => (F (a, b', c)).isSome) (n := k) (by omega)
    have hst : bitsOf (fun c => (F (a, b', c)).isSome) (k + 1) = if (F (a, b', k)).isSome then bitsOf (fun c => (F (a, b', c)).isSome) k ||| 2 ^ k else bitsOf (fun c => (F (a, b', c)).isSome) k := rfl
    have HST := Lib.hid hst
    clear hst
    obtain ⟨c0, c1, c2, c3, cr, hgp, hb, _⟩ := (HG.out.below hbel).facts
    have d0 := (HR0.out.below hbel HR0.out.lt).cell (i := 0) rfl
    have d1 := (HR0.out.below hbel HR0.out.lt).cell (i := 1) rfl
    have HBE := Lib.hid hbel
    clear hbel
    have hp2 := pow_bd k (by omega)
    have hk16 : k < 16 := by omega
    by_cases hlt : k < n
    · generalize hgs : bitsOf (fun c => (F (a, b', c)).isSome) k = gs at *
      have HGS := Lib.hid hgs
      clear hgs
      cases hF : (F (a, b', k)).isSome
      all_goals
        have hne : (rankV F (a, b', k) != -1) = (F (a, b', k)).isSome := rankV_ne F _
        rw [hF] at hne
        have HF := Lib.hid hF
        clear hF
        go_wp2_with (first | (go_at_call 108; refine (at_any _ _ _ _).mono ?_; rintro e w1 ⟨rfl, hb1⟩; have HB1 := Lib.hid hb1; clear hb1) | (go_at_call 110; refine (rank_any ((HG.out.below HBE.out).below HB1.out) (a, b', k) (by dsimp only; omega)).mono ?_; rintro e w2 ⟨rfl, hb2⟩; have HB2 := Lib.hid hb2; clear hb2))
        go_roundw
        case rel => exact ⟨k + 1, by omega, by go_num, by rw [HST.out, HF.out]; rfl, (HBE.out.trans (HB1.out.mono HBE.out.size)).trans (HB2.out.mono (Nat.le_trans HBE.out.size HB1.out.size))⟩
        case measure => simp [intOf]; omega
    · have : k = n := by omega
      subst this
      go_wp2_with fail
      have HBE0 := HBE
      clear HST HBE hk hlt
      have hrs : bitsOf (fun c => (F (a, b', c)).isSome) k = rankedS k F (a, b') := rfl
      generalize bitsOf (fun c => (F (a, b', c)).isSome) k = gs at *
      go_loopw [7, 33] (fun f i wx => ∃ j : Nat, j ≤ k ∧ i = .int .i64 j ∧ f = .int .i64 (bitsOf (fun c => ctchB (a, b', c) || diff (r c) gs == 0) j) ∧ Below w0.heap.size w0 wx) (fun _ i _ => k - (intOf i).toNat)
      case atStart => exact ⟨0, Nat.zero_le _, rfl, rfl, HBE0.out⟩
      case round =>
        clear c0 c1 c2 c3 cr hgp hb d0 d1
        have HRS := Lib.hid hrs
        clear hrs
        obtain ⟨j, hj, rfl, rfl, hbel⟩ := hrel
        have hbj := bitsOf_lt (fun c => ctchB (a, b', c) || diff (r c) gs == 0) (n := j) (by omega)
        have hst : bitsOf (fun c => ctchB (a, b', c) || diff (r c) gs == 0) (j + 1) = if (ctchB (a, b', j) || diff (r j) gs == 0) then bitsOf (fun c => ctchB (a, b', c) || diff (r c) gs == 0) j ||| 2 ^ j else bitsOf (fun c => ctchB (a, b', c) || diff (r c) gs == 0) j := rfl
        have HST := Lib.hid hst
        clear hst
        have hfin : bitsOf (fun c => ctchB (a, b', c) || diff (r c) gs == 0) k = lostS k r F (a, b') := by rw [HRS.out]; rfl
        have HFIN := Lib.hid hfin
        clear hfin
        have g1 := (HG.out.below hbel)
        have HG1 := Lib.hid g1
        obtain ⟨c0, c1, c2, c3, cr, hgp, hb, _⟩ := g1.facts
        have d0 := (HR0.out.below hbel HR0.out.lt).cell (i := 0) rfl
        have d1 := (HR0.out.below hbel HR0.out.lt).cell (i := 1) rfl
        have HBX := Lib.hid hbel
        clear hbel g1
        have hp3 := pow_bd j (by omega)
        have hj16 : j < 16 := by omega
        by_cases hlj : j < k
        · have hrj := G.town.bd j hlj
          generalize bitsOf (fun c => ctchB (a, b', c) || diff (r c) gs == 0) j = hs at *
          cases hC : ctchB (a, b', j)
          · have hdd : (((diff (r j) gs : Nat) : Int) == 0) = (diff (r j) gs == 0) := cast_beq0 _
            cases hD : (diff (r j) gs == 0)
            all_goals
              rw [hD] at hdd
              have HC := Lib.hid hC
              have HD := Lib.hid hD
              clear hC hD
              go_wp2_with (first | (go_at_call 108; refine (at_any _ _ _ _).mono ?_; rintro e w1 ⟨rfl, hb1⟩; have HB1 := Lib.hid hb1; clear hb1) | (go_at_call 119; refine (caught_any (a, b', j) _).mono ?_; rintro e w2 ⟨rfl, hb2⟩; rw [HC.out]; have hb3 := (HB1.out.trans (hb2.mono HB1.out.size)); have HB3 := Lib.hid hb3; obtain ⟨q0, q1, q2, q3, qr, qgp, qb, _⟩ := (HG1.out.below hb3).facts; clear hb2 hb3))
              go_roundw
              case rel => exact ⟨j + 1, by omega, by go_num, by rw [HST.out, HC.out, HD.out]; rfl, HBX.out.trans (HB3.out.mono HBX.out.size)⟩
              case measure => simp [intOf]; omega
          · have HC := Lib.hid hC
            clear hC
            go_wp2_with (first | (go_at_call 108; refine (at_any _ _ _ _).mono ?_; rintro e w1 ⟨rfl, hb1⟩; have HB1 := Lib.hid hb1; clear hb1) | (go_at_call 119; refine (caught_any (a, b', j) _).mono ?_; rintro e w2 ⟨rfl, hb2⟩; rw [HC.out]; have hb3 := (HB1.out.trans (hb2.mono HB1.out.size)); have HB3 := Lib.hid hb3; clear hb2 hb3))
            go_roundw
            case rel => exact ⟨j + 1, by omega, by go_num, by rw [HST.out, HC.out]; rfl, HBX.out.trans (HB3.out.mono HBX.out.size)⟩
            case measure => simp [intOf]; omega
        · have : j = k := by omega
          subst this
          go_wp2_with fail
          go_ret
          exact ⟨by rw [← HFIN.out]; rfl, HB.trans (HBX.out.mono (by omega))⟩

end Go.Proofs.YtbkbliieappkdaaDoor.Ch
