/- The contract of package sweep's clears, along a plan that never goes back. -/
import Derived.Test.YthbhhfeiianmcaaDoorQbe
namespace Go.Proofs.YthbhhfeiianmcaaDoor
set_option linter.unusedSimpArgs false
set_option linter.unusedVariables false
open Go.RowKit Go.Maps
attribute [local go_sem] i64_bit toNat_eq_one toNat_ne_one toNat_eq_zero toNat_ne_zero i64_and i64_or i64_andNot i64_or_pow i64_andNot_pow

theorem WatchAt.below {w w' : World} {pb sb sc : Nat} {a : Option Addr} {n cap : Nat} {r S : Nat → Nat} {H had most : Nat} (h : WatchAt w pb sb sc a n cap r S H had most) (hb : Below w.heap.size w w') : WatchAt w' pb sb sc a n cap r S H had most :=
  ⟨h.row.below hb h.row.lt, h.smo.below hb h.smo.lt, h.ne, h.gr.below hb⟩
theorem watch_step {w : World} {pb sb sc : Nat} {a : Option Addr} {n cap v : Nat} {p : Bool} {r : Nat → Nat} {s : Sit} (h : Along n r s) (hn : n ≤ 10) (hp : s.G.testBit v = !p) (hv : v < n)
    (hw : WatchAt w pb sb sc a n cap r (if p then clrS (smS n r s.C) (s.G ^^^ 2 ^ v) v (bitsOf (s.G ^^^ 2 ^ v)) else smS n r s.C) (s.G ^^^ 2 ^ v) (if p then s.had ||| (s.G ^^^ 2 ^ v) else s.had) (if p then max s.most (szS n (s.G ^^^ 2 ^ v)) else s.most)) :
    WatchAt w pb sb sc a n cap r (smS n r (step n r (p, v) s).C) (step n r (p, v) s).G (step n r (p, v) s).had (step n r (p, v) s).most := by
  cases p
  · obtain ⟨e1, e2, e3⟩ := step_off h hp
    rw [e1, e2]
    exact ⟨hw.row, hw.smo.mono fun i hi => smS_congr fun y hy => e3 i y hi hy, hw.ne, hw.gr⟩
  · exact ⟨hw.row, hw.smo.mono fun i hi => (clrS_on hn h hp hv hi).symm, hw.ne, hw.gr⟩

set_option maxRecDepth 100000 in
set_option maxHeartbeats 4000000 in
theorem clears_yes {n : Nat} {r : Nat → Nat} {wB w : World} {pb sb sc cap base : Nat} {a : Option Addr} {L : Acts} {v : Value} (hn7 : n ≤ 7) (hr : ∀ i, i < n → r i < 2 ^ n) (hW : WatchAt w pb sb sc a n cap r r 0 0 0) (hT : Tab wB) (hBw : Below wB.heap.size wB w) (hpB : wB.heap.size ≤ pb) (hsB : wB.heap.size ≤ sb) (hGB : GrAt wB a n r) (hL : ActsOwn 88 wB base v L) (hlen : L.length ≤ 100) (hok : okRun n r L sit0) (hhad : (run n r L sit0).had = 2 ^ n - 1) (hall : allClear n r (run n r L sit0).C) :
    Calls Tryd.prog 63 #[.pointer (some ⟨pb, 0, none⟩), v] w fun e w' => e = .returned (.bool true) ∧ WatchAt w' pb sb sc a n cap r (smS n r (run n r L sit0).C) (run n r L sit0).G (run n r L sit0).had (run n r L sit0).most ∧ Below wB.heap.size wB w' := by
  have h7 := pow_le7 hn7
  obtain ⟨pa, pc, rfl⟩ := own_form hL
  have HCL := Lib.hid hL.cells
  have HR := Lib.hid hr
  have HT := Lib.hid hT
  have HGB := Lib.hid hGB
  have HW := Lib.hid hW
  have HB0 := Lib.hid hBw
  have HOK := Lib.hid hok
  have HHAD := Lib.hid hhad
  have HALL := Lib.hid hall
  have d1 : decide (100 < (L.length : Int)) = false := decide_eq_false (by omega)
  clear hL hr hT hGB hW hBw hok hhad hall
  go_enter Tryd.func63, Tryd.ntmps63
  go_wp2_with fail
  go_loopw [14] (fun i wr => ∃ t : Nat, t ≤ L.length ∧ i = .int .i64 t ∧ WatchAt wr pb sb sc a n cap r (smS n r (run n r (L.take t) sit0).C) (run n r (L.take t) sit0).G (run n r (L.take t) sit0).had (run n r (L.take t) sit0).most ∧ Below wB.heap.size wB wr) (fun i _ => L.length - (intOf i).toNat)
  case atStart =>
    exact ⟨0, Nat.zero_le _, rfl, ⟨HW.out.row, HW.out.smo.mono fun i hi => smS_all (HR.out i hi) fun _ _ => rfl, HW.out.ne, HW.out.gr⟩, HB0.out⟩
  case round =>
    obtain ⟨t, ht, rfl, hwa, hbel⟩ := hrel
    have HWA := Lib.hid hwa
    have HB := Lib.hid hbel
    clear hwa hbel HW HB0
    by_cases hlt : t < L.length
    · obtain ⟨hgood, hnext⟩ := okRun_at HOK.out t hlt
      have hsit := sit_ok HOK.out t ht
      have hal := along_at HOK.out t ht
      obtain ⟨q, hq⟩ : ∃ q, L[t]? = some q := ⟨L[t], by simp [hlt]⟩
      have hq2 : L[t] = q := by
        rw [List.getElem?_eq_getElem hlt] at hq
        exact Option.some.inj hq
      rw [hq2] at hgood hnext
      obtain ⟨pg, rfl, x1, x2⟩ := HCL.out wr HB.out t q hq
      obtain ⟨p, v⟩ := q
      obtain ⟨hv, hgv, hnb⟩ := hgood
      dsimp only at x1 x2 hv hgv
      have HNX := Lib.hid hnext
      have HNB := Lib.hid hnb
      obtain ⟨S, hS⟩ : ∃ S, S = run n r (L.take t) sit0 := ⟨_, rfl⟩
      rw [← hS] at HNX HNB hgv hsit hal HWA
      have HAL := Lib.hid hal
      have HSIT := Lib.hid hsit
      have hnl := sit_ok HOK.out (t + 1) (by omega)
      rw [HNX.out] at hnl
      have HSIT2 := Lib.hid hnl
      clear hS hnb hnext hal hsit hnl
      have hmo : S.most ≤ 7 := by have := HSIT.out; obtain ⟨_, _, h⟩ := this; omega
      have hGl : S.G < 2 ^ n := by have := HSIT.out; obtain ⟨h, _, _⟩ := this; exact h
      have hHl : S.had < 2 ^ n := by have := HSIT.out; obtain ⟨_, h, _⟩ := this; exact h
      have hGl2 : (step n r (p, v) S).G < 2 ^ n := by have := HSIT2.out; obtain ⟨h, _, _⟩ := this; exact h
      have hbb : Below wr.heap.size wr (wr.alloc (.cells #[.bool p, .int .i64 v] 88)) := (Below.refl _ _).alloc (Nat.le_refl _) _
      have hszr := HB.out.size
      go_wp2_with (first
        | (go_at_call 82; refine (do_any (r := r) hn7 (HWA.out.below hbb) (fun x _ => smS_lt n r S.C x) hGl hHl hv hgv HT.out (HB.out.trans (hbb.mono hszr)) hpB hsB HGB.out hmo).mono ?_; rintro _ w2 ⟨rfl, hw2, hb2⟩; have HW2 := Lib.hid (watch_step HAL.out (by omega) hgv hv hw2); have HB2 := Lib.hid hb2; clear hw2 hb2)
        | (go_at_call 83; refine (spread_any hn7 HW2.out (fun x _ => smS_lt n r _ x) HR.out hGl2 HT.out HB2.out hpB hsB HGB.out (fun u hu hg => still HNB.out HR.out hu hg)).mono ?_; rintro _ w3 ⟨rfl, hw3, hb3⟩; have HW3 := Lib.hid hw3; have HB3 := Lib.hid hb3; clear hw3 hb3))
      go_roundw
      case rel => exact ⟨t + 1, by omega, by go_num, by rw [HNX.out]; exact HW3.out, HB3.out⟩
      case measure => simp [intOf]; omega
    · have hte : t = L.length := by omega
      subst hte
      rw [List.take_length] at HWA
      have hz : ∀ x, x < n → smS n r (run n r L sit0).C x = 0 := fun x hx => smS_zero.2 fun u hu ha => HALL.out x u hx hu ha
      have HSM := Lib.hid (HWA.out.smo.mono (S' := fun _ => 0) fun i hi => (hz i hi).symm)
      have c0 := HWA.out.row.cell (i := 0) rfl
      have c1 := HWA.out.row.cell (i := 1) rfl
      have c3 := HWA.out.row.cell (i := 3) rfl
      rw [HHAD.out] at c3
      have hM : 2 ^ n - 1 < 65536 := by omega
      clear hz
      go_wp2_with fail
      have hn16 : n < 16 := by omega
      go_loopw [30] (fun i wx => ∃ k : Nat, k ≤ n ∧ i = .int .i64 k ∧ wx = wr) (fun i _ => n - (intOf i).toNat)
      case atStart => exact ⟨0, Nat.zero_le _, rfl, by trivial⟩
      case round =>
        obtain ⟨k, hk, rfl, rfl⟩ := hrel
        by_cases hlk : k < n
        · have ck := HSM.out.cell hlk
          go_wp2_with fail
          go_roundw
          case rel => exact ⟨k + 1, by omega, by go_num, by trivial⟩
          case measure => simp [intOf]; omega
        · have hke : k = n := by omega
          subst hke
          go_wp2_with fail
          go_quiet ((go_at_call 79; exact Calls.quiet_of_same ((all_any _ _ _ _ hn16).mono fun _ _ ⟨a, b⟩ => ⟨a, b.symm⟩)))
          go_wp2_with fail
          go_ret
          exact ⟨rfl, HWA.out.below (below_drewN (Below.refl _ _) _), below_drewN HB.out _⟩
end Go.Proofs.YthbhhfeiianmcaaDoor
