/- The contracts of package sweep's do and spread, along a plan that never goes back. -/
import Derived.Test.YthbhhfeiianmcaaDoorQbb
namespace Go.Proofs.YthbhhfeiianmcaaDoor
set_option linter.unusedSimpArgs false
set_option linter.unusedVariables false
open Go.RowKit Go.Maps
attribute [local go_sem] i64_bit toNat_eq_one toNat_ne_one toNat_eq_zero toNat_ne_zero i64_and i64_or i64_andNot i64_or_pow i64_andNot_pow

section
set_option maxRecDepth 100000 in
set_option maxHeartbeats 4000000 in
theorem do_any {n : Nat} {S r : Nat → Nat} {wB w : World} {pb sb sc cap H had most v : Nat} {p : Bool} {a : Option Addr} (hn7 : n ≤ 7) (hW : WatchAt w pb sb sc a n cap r S H had most) (hS : ∀ x, x < n → S x < 2 ^ n) (hH : H < 2 ^ n) (hhad : had < 2 ^ n) (hv : v < n) (hp : H.testBit v = !p) (hT : Tab wB) (hBw : Below wB.heap.size wB w) (hpB : wB.heap.size ≤ pb) (hsB : wB.heap.size ≤ sb) (hGB : GrAt wB a n r) (hmost : most ≤ 7) :
    Calls Tryd.prog 82 #[.pointer (some ⟨pb, 0, none⟩), .agg #[.bool p, .int .i64 v]] w fun e w' => e = .returned (.bool true) ∧ WatchAt w' pb sb sc a n cap r (if p then clrS S (H ^^^ 2 ^ v) v (bitsOf (H ^^^ 2 ^ v)) else S) (H ^^^ 2 ^ v) (if p then had ||| (H ^^^ 2 ^ v) else had) (if p then max most (szS n (H ^^^ 2 ^ v)) else most) ∧ Below wB.heap.size wB w' := by
  have HW := Lib.hid hW
  have HGB := Lib.hid hGB
  have HT := Lib.hid hT
  have HS := Lib.hid hS
  have hne := hW.ne
  have h7 := pow_le7 hn7
  have hH16 : H < 65536 := by omega
  have hv16 : v < 16 := by omega
  have hv64 : v < 64 := by omega
  have hpw := pow_bd v hv16
  have hpl : 2 ^ v < 2 ^ n := Nat.pow_lt_pow_right (by omega) hv
  have hgl : H ^^^ 2 ^ v < 2 ^ n := Nat.xor_lt_two_pow hH hpl
  have hgl16 : H ^^^ 2 ^ v < 65536 := by omega
  have hhad16 : had < 65536 := by omega
  have hx : bits .xor .i64 (H : Int) ((2 : Int) ^ v) = ((H ^^^ 2 ^ v : Nat) : Int) := by
    rw [pow_cast]; exact i64_xor H (2 ^ v) (by omega) (by omega)
  have h7 := pow_le7 hn7
  have hszB := hBw.size
  obtain ⟨w0, hw0, r3, hb0, hsz⟩ := new1 w 88 [.bool p, .int .i64 v]
  have R1 := HW.out.row.below hb0 hW.row.lt
  have M1 := HW.out.smo.below hb0 hW.smo.lt
  have c0 := R1.cell (i := 0) rfl
  have c1 := R1.cell (i := 1) rfl
  have c2 := R1.cell (i := 2) rfl
  have c3 := R1.cell (i := 3) rfl
  have c4 := R1.cell (i := 4) rfl
  have f2 := R1.free 2
  have f3 := R1.free 3
  have f4 := R1.free 4
  have b0 := r3.cell (i := 0) rfl
  have b1 := r3.cell (i := 1) rfl
  have HB0 := Lib.hid (hBw.trans (hb0.mono hszB))
  have HP : Hid ((H.testBit v == p) = false) := Lib.hid (by rw [hp]; cases p <;> rfl)
  have HIN := Lib.hid (inB_true (v := (v : Int)) (m := (n : Int)) (by omega) (by omega))
  clear hW hBw hGB hT hS
  have hlw := HW.out.row.lt
  cases p
  ·
    go_enter Tryd.func82, Tryd.ntmps82
    go_wp2_with fail
    rw [← hw0]
    clear hw0
    go_quiet (first
      | (go_at_call 75; refine Calls.quiet_of_same ((isNode_any _ _ _ _ _ (by omega)).mono fun _ _ ⟨a, b⟩ => ⟨by rw [a, HIN.out], b.symm⟩))
      | (go_at_call 73; exact Calls.quiet_of_same ((has_any H v _ (by assumption) (by omega)).mono fun _ _ ⟨a, b⟩ => ⟨by rw [a, hp], b.symm⟩)))
    have R2 := R1.drewN nq
    have M2 := M1.drewN nq
    have r4 := r3.drewN nq
    have HB2 := Lib.hid (below_drewN HB0.out nq)
    clear c0 c1 c2 c3 c4 f2 f3 f4 b0 b1 R1 M1 r3 HB0
    obtain ⟨wd, hwd⟩ : ∃ wd, wd = w0.drewN nq := ⟨_, rfl⟩
    rw [← hwd] at R2 M2 r4 HB2 ⊢
    clear hwd
    have c2 := R2.cell (i := 2) rfl
    have f2 := R2.free 2
    have l2 := R2.lt
    have b0 := r4.cell (i := 0) rfl
    have b1 := r4.cell (i := 1) rfl
    go_upto_region 3 with fail
    go_cut [32] (fun _ wx => Row wx pb 93 [.slice a n cap, .slice (some ⟨sb, 0, none⟩) n sc, .int .i64 (H ^^^ 2 ^ v : Nat), .int .i64 (had : Nat), .int .i64 (most : Nat), .bool false] ∧ SmoAt wx sb n S ∧ Below wB.heap.size wB wx ∧ Row wx w.heap.size 88 [.bool false, .int .i64 v])
    case first =>
      go_wp2_with fail
      go_region
      all_goals
        go_wp2_with fail
        go_meet
        exact ⟨(R2.drewN _).set 2 _, (M2.drewN _).other (Ne.symm hne) _, (below_drewN HB2.out _).setCell (p := ⟨pb, 2, none⟩) hpB _, (r4.drewN _).other (by simp; omega) _⟩
    case rest =>
      obtain ⟨kR, kM, kB, k3⟩ := hcut
      have d0 := k3.cell (i := 0) rfl
      go_wp2_with fail
      go_ret
      exact ⟨rfl, ⟨kR, kM, hne, HGB.out.below kB⟩, kB⟩
  ·
    go_enter Tryd.func82, Tryd.ntmps82
    go_wp2_with fail
    rw [← hw0]
    clear hw0
    go_quiet (first
      | (go_at_call 75; refine Calls.quiet_of_same ((isNode_any _ _ _ _ _ (by omega)).mono fun _ _ ⟨a, b⟩ => ⟨by rw [a, HIN.out], b.symm⟩))
      | (go_at_call 73; exact Calls.quiet_of_same ((has_any H v _ (by assumption) (by omega)).mono fun _ _ ⟨a, b⟩ => ⟨by rw [a, hp], b.symm⟩)))
    have R2 := R1.drewN nq
    have M2 := M1.drewN nq
    have r4 := r3.drewN nq
    have HB2 := Lib.hid (below_drewN HB0.out nq)
    clear c0 c1 c2 c3 c4 f2 f3 f4 b0 b1 R1 M1 r3 HB0
    obtain ⟨wd, hwd⟩ : ∃ wd, wd = w0.drewN nq := ⟨_, rfl⟩
    rw [← hwd] at R2 M2 r4 HB2 ⊢
    clear hwd
    have c2 := R2.cell (i := 2) rfl
    have f2 := R2.free 2
    have l2 := R2.lt
    have b0 := r4.cell (i := 0) rfl
    have b1 := r4.cell (i := 1) rfl
    go_upto_region 3 with fail
    go_cut [32] (fun _ wx => Row wx pb 93 [.slice a n cap, .slice (some ⟨sb, 0, none⟩) n sc, .int .i64 (H ^^^ 2 ^ v : Nat), .int .i64 (had : Nat), .int .i64 (most : Nat), .bool false] ∧ SmoAt wx sb n S ∧ Below wB.heap.size wB wx ∧ Row wx w.heap.size 88 [.bool true, .int .i64 v])
    case first =>
      go_wp2_with fail
      go_region
      all_goals
        go_wp2_with fail
        go_meet
        exact ⟨(R2.drewN _).set 2 _, (M2.drewN _).other (Ne.symm hne) _, (below_drewN HB2.out _).setCell (p := ⟨pb, 2, none⟩) hpB _, (r4.drewN _).other (by simp; omega) _⟩
    case rest =>
      obtain ⟨kR, kM, kB, k3⟩ := hcut
      have d0 := k3.cell (i := 0) rfl
      have d1 := k3.cell (i := 1) rfl
      have c2' := kR.cell (i := 2) rfl
      have c3' := kR.cell (i := 3) rfl
      have f3' := kR.free 3
      have l3' := kR.lt
      have HKB := Lib.hid kB
      clear kB hp HP hx c2 f2 l2 b0 b1 R2 M2 r4 HB2
      obtain ⟨G, hG⟩ : ∃ G, G = H ^^^ 2 ^ v := ⟨_, rfl⟩
      rw [← hG] at hgl hgl16 kR c2'
      have HGE := Lib.hid hG
      clear hG
      go_upto_region 5 with fail
      go_cut [45] (fun _ wx => Row wx pb 93 [.slice a n cap, .slice (some ⟨sb, 0, none⟩) n sc, .int .i64 (G : Nat), .int .i64 (had ||| G : Nat), .int .i64 (most : Nat), .bool false] ∧ SmoAt wx sb n S ∧ Below wB.heap.size wB wx ∧ Row wx w.heap.size 88 [.bool true, .int .i64 v])
      case first =>
        go_wp2_with fail
        go_region
        all_goals
          go_wp2_with fail
          go_meet
          exact ⟨(kR.drewN _).set 3 _, (kM.drewN _).other (Ne.symm hne) _, (below_drewN HKB.out _).setCell (p := ⟨pb, 3, none⟩) hpB _, (k3.drewN _).other (by simp; omega) _⟩
      case rest =>
        obtain ⟨jR, jM, jB, j3⟩ := hcut
        have e1 := j3.cell (i := 1) rfl
        have e2 := jR.cell (i := 2) rfl
        have e4 := jR.cell (i := 4) rfl
        have g4 := jR.free 4
        have m4 := jR.lt
        have HJB := Lib.hid jB
        have hsl := szS_le n G
        have HSZ := Lib.hid (fun w' => count_any (n := n) (by omega) G hgl w')
        clear jB kM k3 d0 d1 c3' f3' l3' HKB kR c2'
        obtain ⟨sz, hsz2⟩ : ∃ sz, sz = szS n G := ⟨_, rfl⟩
        rw [← hsz2] at hsl HSZ
        have HSE := Lib.hid hsz2
        clear hsz2
        go_upto_region 6 with fail
        go_cut [58] (fun _ wx => Row wx pb 93 [.slice a n cap, .slice (some ⟨sb, 0, none⟩) n sc, .int .i64 (G : Nat), .int .i64 (had ||| G : Nat), .int .i64 (max most sz : Nat), .bool false] ∧ SmoAt wx sb n S ∧ Below wB.heap.size wB wx ∧ Row wx w.heap.size 88 [.bool true, .int .i64 v])
        case first =>
          go_wp2_with fail
          go_region_law? (go_simp; go_at_call 76; refine (HSZ.out _).mono ?_; rintro _ _ ⟨rfl, rfl⟩)
          all_goals go_wp2_with fail
          all_goals
            go_meet
            refine ⟨?_, (jM.drewN _).other (Ne.symm hne) _, (below_drewN HJB.out _).setCell (p := ⟨pb, 4, none⟩) hpB _, (j3.drewN _).other (by simp; omega) _⟩
            first
              | (rw [show max most sz = sz by omega]; exact jR.set 4 _)
              | (rw [show max most sz = most by omega]; exact jR.set 4 _)
        case rest =>
          obtain ⟨iR, iM, iB, i3⟩ := hcut
          have e1' := i3.cell (i := 1) rfl
          have HIB := Lib.hid iB
          have HIR := Lib.hid iR
          have HIM := Lib.hid iM
          clear iB iM i3 e1 e2 e4 g4 m4 HJB HSZ jM j3 jR
          go_wp2_with (go_at_call 99; refine (clearAt_any hn7 HIR.out HIM.out hne HS.out hgl hv HT.out HIB.out hpB hsB).mono ?_; rintro _ w5 ⟨rfl, oR, oM, oB⟩; have HOB := Lib.hid oB; have HOR := Lib.hid oR; have HOM := Lib.hid oM; clear oR oM oB)
          go_ret
          have z1 := HOR.out
          have z2 := HOM.out
          rw [HSE.out, HGE.out] at z1
          rw [HGE.out] at z2
          exact ⟨rfl, ⟨z1, z2, hne, HGB.out.below HOB.out⟩, HOB.out⟩
end
end Go.Proofs.YthbhhfeiianmcaaDoor
