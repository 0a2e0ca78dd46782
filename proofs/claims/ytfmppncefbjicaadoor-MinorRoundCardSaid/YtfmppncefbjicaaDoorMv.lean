/- Package minor: the reference's Model and Pattern. -/
import Derived.Test.YtfmppncefbjicaaDoorMu
namespace Go.Proofs.YtfmppncefbjicaaDoor
set_option linter.unusedSimpArgs false
set_option linter.unusedVariables false
open Go.RowKit Go.Maps

theorem ints_nil (w : World) : IntsAt w none 0 (natL []) := ⟨by unfold maxLen; omega, fun h => absurd h (by omega)⟩
/-- What the reference's Model returns. -/
def RefModel (w : World) (o : Option (List Nat)) (e : Ending) (w' : World) : Prop :=
  Below w.heap.size w w' ∧ match o with
    | none => e = .returned (.tuple #[.slice none 0 0, .int .i64 4])
    | some B' => ∃ x c, e = .returned (.tuple #[.slice (some x) B'.length c, .int .i64 0]) ∧ IntsAt w' (some x) B'.length (natL B')

set_option maxRecDepth 20000 in
set_option maxHeartbeats 2000000 in
theorem ModelR_any {n q : Nat} {r pr : Nat → Nat} {a b : Option Addr} {w : World} (T : Tn w a n r) (P : Tn w b q pr) (hq6 : q ≤ 6) (ca cb : Nat) :
    Calls Tryd.prog 22 #[.slice a n ca, .slice b q cb] w (RefModel w (refM n q r pr)) := by
  have hn8 := T.le
  have HREC := Lib.hid (fun (i : Nat) (w' : World) (hi : q + i ≤ 60) (hw : Below w.heap.size w w') => model_rec T P hq6 ca cb q [] 0 (q + i) (by simp) (Nat.two_pow_pos n) hi (by simp) w' none 0 (fun _ => ⟨rfl, rfl⟩) (Nat.le_refl _) (ints_nil w') hw)
  have HN := Lib.hid (find_none (f := fun i => exL n r pr q [] 0 (q + i)) (n + 1 - q))
  have HS := Lib.hid (fun (y : List Nat) (j : Nat) => find_at (f := fun i => exL n r pr q [] 0 (q + i)) (j := j) (y := y))
  have HM : Hid (refM n q r pr = (List.range (n + 1 - q)).findSome? fun i => exL n r pr q [] 0 (q + i)) := Lib.hid rfl
  obtain ⟨X, hX⟩ : ∃ X, X = refM n q r pr := ⟨_, rfl⟩
  rw [← hX] at HM ⊢
  clear T P hX
  go_enter Tryd.func22, Tryd.ntmps22
  go_wp2_with fail
  go_loopw [6, 7] (fun sz _ wr => ∃ i : Nat, i ≤ n + 1 - q ∧ sz = .int .i64 (q + i : Nat) ∧ (∀ j, j < i → exL n r pr q [] 0 (q + j) = none) ∧ Below w.heap.size w wr) (fun sz _ _ => n + 1 - (intOf sz).toNat)
  case atStart => exact ⟨0, Nat.zero_le _, rfl, fun j hj => absurd hj (by omega), Below.refl _ _⟩
  case round =>
    obtain ⟨i, hi, rfl, hall, hb⟩ := hrel
    have HALL := Lib.hid hall
    have HB := Lib.hid hb
    clear hall hb
    by_cases hlt : q + i ≤ n
    · have d1 : decide (((q + i : Nat) : Int) ≤ (n : Int)) = true := by simp; omega
      have d2 : decide ((q + i : Nat) ≤ n) = true := by simp; omega
      have HC := Lib.hid (HREC.out i _ (by omega) HB.out)
      obtain ⟨O, hO⟩ : ∃ O, O = exL n r pr q [] 0 (q + i) := ⟨_, rfl⟩
      rw [← hO] at HC
      have HO := Lib.hid hO
      obtain ⟨S, hSe⟩ : ∃ S, S = q + i := ⟨_, rfl⟩
      have HSE := Lib.hid hSe
      rw [← hSe] at d1 d2 HC hlt ⊢
      clear hO hSe
      go_wp2_with fail
      go_at_call 63
      refine HC.out.mono ?_
      rintro e w5 ⟨hb5, hp5⟩
      have HB5 := Lib.hid (HB.out.trans (hb5.mono HB.out.size))
      clear hb5
      have hin : i < n + 1 - q := by have := HSE.out; omega
      cases O with
      | none =>
        subst hp5
        go_wp2_with fail
        go_roundw
        case rel => exact ⟨i + 1, by omega, by have := HSE.out; rw [show q + (i + 1) = S + 1 by omega]; go_num, fun j hj => by
          by_cases e : j = i
          · subst e; exact HO.out.symm
          · exact HALL.out j (by omega), HB5.out⟩
        case measure => have := HSE.out; simp [intOf]; omega
      | some B' =>
        obtain ⟨x5, c5, rfl, hat5⟩ := hp5
        have HXX := Lib.hid (HM.out.trans (HS.out B' i HALL.out HO.out.symm _ hin))
        have HA5 := Lib.hid hat5
        clear hat5
        go_wp2_with fail
        go_ret2
        unfold RefModel
        rw [HXX.out]
        exact ⟨HB5.out, x5, c5, rfl, HA5.out⟩
    · have d1 : decide (((q + i : Nat) : Int) ≤ (n : Int)) = false := by simp; omega
      have d2 : decide ((q + i : Nat) ≤ n) = false := by simp; omega
      have HXX := Lib.hid (HM.out.trans (HN.out fun j hj => HALL.out j (by omega)))
      obtain ⟨S, hSe⟩ : ∃ S, S = q + i := ⟨_, rfl⟩
      rw [← hSe] at d1 d2 hlt ⊢
      clear hSe
      go_wp2_with fail
      go_ret2
      unfold RefModel
      rw [HXX.out]
      exact ⟨HB.out, rfl⟩

set_option maxRecDepth 20000 in
set_option maxHeartbeats 1000000 in
theorem PatternR_any (n : Nat) (z : Nat → Int) (a : Option Addr) (cap : Nat) (w : World) (hI : IntsAt w a n z) (hz : InI64 z) :
    Calls Tryd.prog 20 #[.slice a n cap] w fun e w' => e = .returned (.bool (graphB n 6 z)) ∧ Below w.heap.size w w' := by
  have HI := Lib.hid hI
  have HZ := Lib.hid hz
  clear hI hz
  go_enter Tryd.func20, Tryd.ntmps20
  go_wp2_with (go_at_call 62; refine (IsGraph_any n 6 6 rfl z a cap _ HI.out HZ.out (by omega)).mono ?_; rintro e w1 ⟨rfl, hb1⟩; have HB1 := Lib.hid hb1; clear hb1)
  go_ret
  exact ⟨rfl, HB1.out⟩

end Go.Proofs.YtfmppncefbjicaaDoor
