/- Package minor: the contracts of outerOrder, Outer, apex, Apex. -/
import Derived.Test.YtjhodfabomhdaaaDoorNk
namespace Go.Proofs.YtjhodfabomhdaaaDoor
set_option linter.unusedSimpArgs false
set_option linter.unusedVariables false
open Go.RowKit Go.Maps
attribute [local go_sem] i64_bit toNat_eq_one toNat_ne_one toNat_eq_zero toNat_ne_zero i64_and i64_or i64_andNot i64_or_pow i64_andNot_pow

@[local go_sem] theorem run_store_funcO (w : World) (a : Addr) (fn : Fn) (x y : Array Value) (m : Mode) : (store a (.func fn x y) m).run Tryd.prog w = stored Tryd.prog w a (.func fn x y) m := run_store Tryd.prog w a _ m rfl
set_option maxRecDepth 100000 in
set_option maxHeartbeats 4000000 in
theorem outerOrder_any {n : Nat} {r : Nat → Nat} {a : Option Addr} {w : World} (T : Tn w a n r) (cap : Nat) (hT : Tab w) (hs : ∀ u x, u < n → x < n → (r u).testBit x = (r x).testBit u) :
    Calls Tryd.prog 66 #[.slice a n cap] w fun e w' => ∃ v, e = .returned (.tuple #[v, .bool (outL n r n []).isSome]) ∧ IntsOwn w' w.heap.size v (castL ((outL n r n []).getD [])) ∧ Below w.heap.size w w' := by
  have hn8 := T.le
  have h8 := pow_le8 hn8
  have hn1 := T.at_.pos
  have hpn := Nat.two_pow_pos n
  have hL : LeftOf n [0] (diff (2 ^ n - 1) 1) := LeftOf.step (n := n) (x := 0) (B := []) (left := 2 ^ n - 1) ⟨by omega, fun v hv => by rw [all_bit hv]; rfl⟩
  have hbn : bits .andNot .i64 ((2 ^ n - 1 : Nat) : Int) 1 = ((diff (2 ^ n - 1) 1 : Nat) : Int) := i64_andNot (2 ^ n - 1) 1 (by omega) (by omega)
  obtain ⟨w0, hw0, r1, r2, r3, hb0, hsz⟩ := new3 w 70 3 22 [.slice a n cap] [.int .i64 0] [.slice (some ⟨w.heap.size + 1, 0, none⟩) 1 1]
  have e0 : w0.heap.size = w.heap.size + 1 + 1 + 1 := by rw [hw0]; simp
  obtain ⟨wn, hwn, r4, hbn', hszn⟩ := new1 w0 40 [exoF (w.heap.size + 1 + 1) w.heap.size (w.heap.size + 1 + 1 + 1)]
  rw [e0] at r4 hszn
  have hbw : Below w.heap.size w wn := hb0.trans (hbn'.mono hb0.size)
  have q1 := r1.below hbn' r1.lt
  have q2 := r2.below hbn' r2.lt
  have q3 := r3.below hbn' r3.lt
  have hown : IntsOwn wn w.heap.size (.slice (some ⟨w.heap.size + 1, 0, none⟩) 1 1) (castL [0]) := by
    refine ⟨rfl, Or.inr ⟨w.heap.size + 1, 1, #[.int .i64 0], rfl, by omega, q2, by decide, by decide, rfl, rfl⟩⟩
  have HEX : Hid (∀ u : BelowW wn.heap.size wn, Calls Tryd.prog 93 #[.int .i64 (diff (2 ^ n - 1) 1 : Nat), ptrV (w.heap.size + 1 + 1), ptrV w.heap.size, ptrV (w.heap.size + 1 + 1 + 1)] u.w (ExoPost w u.w (w.heap.size + 1 + 1) (.slice (some ⟨w.heap.size + 1, 0, none⟩) 1 1) (outL n r (n - 1) [0]) [0])) := Lib.hid fun u =>
    exo_rec T hT hs (by omega) (by omega) (by omega) (by omega) (n - 1) [0] (diff (2 ^ n - 1) 1) (by simp; omega) hL (fun i hi => by
      have : i = 0 := by simpa using hi
      subst this; exact hn1) (fun i j hi hj _ => by
      have : i = 0 := by simpa using hi
      have : j = 0 := by simpa using hj
      omega) u.w _ (q3.below u.h q3.lt) (IntsOwn.below hown u.h) (r4.below u.h r4.lt) (q1.below u.h q1.lt) (hbw.trans (u.h.mono hbw.size))
  rw [outL_first hn1 hs]
  have HAL := Lib.hid (fun w => all_any a n cap w (show n < 16 by omega))
  have hmf : ∀ (fn : Fn) (first cap : Array Value) (w : World), (Instr.makeFunc fn first cap).run Tryd.prog w = .ok (.func fn first cap) w := fun _ _ _ _ => rfl
  have cE := r4.cell (i := 0) rfl
  have cT := q1.cell (i := 0) rfl
  obtain ⟨O, hO⟩ : ∃ O, O = outL n r (n - 1) [0] := ⟨_, rfl⟩
  rw [← hO] at HEX ⊢
  have HHBW := Lib.hid hbw
  have HBN := Lib.hid hbn
  clear T hT hs hL hO hown q1 q2 q3 r1 r2 r3 r4 hb0 hbn' hbw hbn
  go_enter Tryd.func66, Tryd.ntmps66
  go_wp2_with fail
  rw [← hw0, ← hwn]
  clear hw0 hwn
  have hbn := HBN.out
  obtain ⟨A, hA⟩ : ∃ A, A = 2 ^ n - 1 := ⟨_, rfl⟩
  rw [← hA] at HAL hbn HEX
  obtain ⟨D, hD⟩ : ∃ D, D = diff A 1 := ⟨_, rfl⟩
  rw [← hD] at HEX hbn
  clear hA hD HBN hpn h8 hmf
  refine wp_region_still_tail 4 (by kernel_rfl) (by kernel_rfl) ?_
  simp only [List.take_succ_cons, List.take_zero, List.drop_succ_cons, List.drop_zero]
  repeat still_step
  still_call ((HAL.out _).mono fun _ _ ⟨h1, h2⟩ => ⟨h1, h2.symm⟩)
  repeat still_step
  refine wpStill_nil ?_
  change wpList _ _ _ _ _ wn.drew
  have HEX2 := Lib.hid (HEX.out ⟨wn.drew, below_drewN (Below.refl _ _) 1⟩)
  cases O with
  | none =>
    go_wp2_with fail
    go_at_call 93
    refine HEX2.out.mono ?_
    rintro e w11 ⟨v2, rfl, s0, s1, s2, s3, s4⟩
    have HB4 := Lib.hid s4
    clear s0 s1 s2 s3 s4
    go_wp2_with fail
    go_ret2
    exact ⟨_, rfl, IntsOwn.nil _ _, HB4.out⟩
  | some B2 =>
    go_wp2_with fail
    go_at_call 93
    refine HEX2.out.mono ?_
    rintro e w11 ⟨v2, rfl, s0, s1, s2, s3, s4⟩
    have k0 := s0.cell (i := 0) rfl
    have HB4 := Lib.hid s4
    have HO1 := Lib.hid s1
    clear s0 s1 s2 s3 s4
    go_wp2_with fail
    go_ret2
    exact ⟨_, rfl, HO1.out, HB4.out⟩

end Go.Proofs.YtjhodfabomhdaaaDoor
