/- The contract of package width's mergeable. -/
import Derived.Test.YtombmfphodikjaaW34
namespace Go.Proofs.Ytombmfphodikjaa
set_option linter.unusedSimpArgs false
set_option linter.unusedVariables false
open Go.RowKit Go.Maps

/-- Whether a bag or its parent is a part of the other one. -/
def mrgB (z p : Nat → Int) (i : Nat) : Bool := !(decide (p i = -1)) && (diff (z i).toNat (z (p i).toNat).toNat == 0 || diff (z (p i).toNat).toNat (z i).toNat == 0)
/-- What mergeable returns: the first such bag's index, or -1. -/
def MrgIs (z p : Nat → Int) (m : Nat) (x : Int) : Prop :=
  (∃ i : Nat, i < m ∧ x = i ∧ mrgB z p i = true ∧ ∀ t, t < i → mrgB z p t = false) ∨ ((∀ t, t < m → mrgB z p t = false) ∧ x = -1)

set_option maxRecDepth 20000 in
set_option maxHeartbeats 2000000 in
theorem mergeable_any {n m : Nat} (hn : n ≤ 9) {z p : Nat → Int} {ba pa : Option Addr} (ca cb : Nat) {w : World} (T : TreeAt w ba pa m m z p) (hz : BagsOK n m z) (hp : ∀ i, i < m → -1 ≤ p i ∧ p i < m) :
    Calls Try.prog 69 #[treeV ba m ca pa m cb] w fun e w' => ∃ x : Int, e = .returned (.int .i64 x) ∧ MrgIs z p m x ∧ Below w.heap.size w w' := by
  have hmb := T.bags.1
  unfold maxLen at hmb
  obtain ⟨w0, hw0, R0, HB0, hs0⟩ := new1 w 42 [.slice ba m ca, .slice pa m cb]
  have HT := Lib.hid (T.below HB0)
  have HW0 := Lib.hid hw0
  have HB := Lib.hid HB0
  have HR := Lib.hid R0
  have HZ := Lib.hid hz
  have HP := Lib.hid hp
  have c0 := R0.cell (i := 0) rfl
  have c1 := R0.cell (i := 1) rfl
  have hl := R0.lt
  clear T hw0 R0 HB0 hz hp
  go_enter Try.func69, Try.ntmps69
  go_wp2_with fail
  rw [← HW0.out]
  go_wp2_with fail
  clear c0 c1 hl
  go_loopw [8] (fun iv wr => ∃ i : Nat, i ≤ m ∧ iv = .int .i64 i ∧ (∀ t, t < i → mrgB z p t = false) ∧ Below w0.heap.size w0 wr) (fun iv _ => m - (intOf iv).toNat)
  case atStart => exact ⟨0, by omega, rfl, by omega, Below.refl _ _⟩
  case round =>
    obtain ⟨i, hi, rfl, hno, hbel⟩ := hrel
    have HN := Lib.hid hno
    have HBL := Lib.hid hbel
    clear hno hbel
    by_cases hlt : i < m
    · have HRW := Lib.hid (HR.out.below HBL.out HR.out.lt)
      have HTW := Lib.hid (HT.out.below HBL.out)
      have d0 : ∀ u : BelowW wr.heap.size wr, u.w.cell? ⟨w.heap.size, 0, none⟩ = some (.slice ba m ca) := fun u => (HRW.out.below u.h HRW.out.lt).cell (i := 0) rfl
      obtain ⟨b, off, rfl, hb, hc⟩ := HTW.out.bags.2 (by omega)
      obtain ⟨b', off', rfl, hb', hc'⟩ := HTW.out.pars.2 (by omega)
      have HBK := Lib.hid hb
      have HC := Lib.hid hc
      have pk := hc' i hlt
      have hl := HRW.out.lt
      obtain ⟨s, hs, hs2⟩ := HZ.out.nat hlt
      have hs16 := lt16 hn hs2
      obtain ⟨p0, p1⟩ := HP.out i hlt
      have dk : ∀ u : BelowW wr.heap.size wr, u.w.cell? ⟨b, off + i, none⟩ = some (.int .i64 (s : Nat)) := fun u => by
        rw [u.h.cell (p := ⟨b, off + i, none⟩) HBK.out, HC.out i hlt, hs]
      clear hc hc' hb
      by_cases hm : p i = -1
      · have HF : Hid (mrgB z p i = false) := Lib.hid (by unfold mrgB; rw [decide_eq_true hm]; rfl)
        rw [hm] at pk
        clear hs hs2 p0 p1 hm
        go_wp2_with fail
        refine wp_region_below wr.heap.size wr (Below.refl _ _) (by kernel_rfl) (by kernel_rfl) ?_
        repeat (go_big_quiet_step (fail))
        refine wpQuiet_nil ?_
        rintro _ ⟨uw, rfl⟩
        have HU := Lib.hid uw.h
        go_wp2_with fail
        go_roundw
        case rel => exact ⟨i + 1, by omega, by go_num, fun t h2 => by rcases Nat.lt_succ_iff_lt_or_eq.1 h2 with h | h; exact HN.out t h; rw [h]; exact HF.out, HBL.out.trans (HU.out.mono HBL.out.size)⟩
        case measure => simp [intOf]; omega
      · obtain ⟨x, hx⟩ : ∃ x : Nat, p i = x := ⟨(p i).toNat, by omega⟩
        have hxm : x < m := by omega
        obtain ⟨t, ht, ht2⟩ := HZ.out.nat hxm
        have ht16 := lt16 hn ht2
        have dx : ∀ u : BelowW wr.heap.size wr, u.w.cell? ⟨b, off + x, none⟩ = some (.int .i64 (t : Nat)) := fun u => by
          rw [u.h.cell (p := ⟨b, off + x, none⟩) HBK.out, HC.out x hxm, ht]
        rw [hx] at pk
        have HM : Hid (mrgB z p i = (diff s t == 0 || diff t s == 0)) := Lib.hid (by unfold mrgB; rw [decide_eq_false hm, hs, hx, Int.toNat_natCast, Int.toNat_natCast, ht, Int.toNat_natCast]; rfl)
        have hne : ((x : Int) != -1) = true := by simp
        have H1 : Hid (∀ wz : World, Calls Try.prog 74 #[.int .i64 s, .int .i64 t] wz fun e w' => e = .returned (.bool (diff s t == 0)) ∧ Below wz.heap.size wz w') := Lib.hid fun wz => (isPart_any s t hs16 ht16 wz).mono fun e w' ⟨he, hw⟩ => ⟨he, by rw [← hw]; exact Below.refl _ _⟩
        have H2 : Hid (∀ wz : World, Calls Try.prog 74 #[.int .i64 t, .int .i64 s] wz fun e w' => e = .returned (.bool (diff t s == 0)) ∧ Below wz.heap.size wz w') := Lib.hid fun wz => (isPart_any t s ht16 hs16 wz).mono fun e w' ⟨he, hw⟩ => ⟨he, by rw [← hw]; exact Below.refl _ _⟩
        clear hs hs2 p0 p1 hm hx ht ht2
        cases hq1 : (diff s t == 0)
        · cases hq2 : (diff t s == 0)
          · have HF : Hid (mrgB z p i = false) := Lib.hid (by rw [HM.out, hq1, hq2]; rfl)
            rw [hq1] at H1
            rw [hq2] at H2
            go_wp2_with fail
            refine wp_region_below wr.heap.size wr (Below.refl _ _) (by kernel_rfl) (by kernel_rfl) ?_
            repeat (go_big_quiet_step (first
              | (go_at_call 74; exact calls_below (Nat.le_refl _) (H1.out _))
              | (go_at_call 74; exact calls_below (Nat.le_refl _) (H2.out _))))
            refine wpQuiet_nil ?_
            rintro _ ⟨uw, rfl⟩
            have HU := Lib.hid uw.h
            go_wp2_with fail
            go_roundw
            case rel => exact ⟨i + 1, by omega, by go_num, fun t h2 => by rcases Nat.lt_succ_iff_lt_or_eq.1 h2 with h | h; exact HN.out t h; rw [h]; exact HF.out, HBL.out.trans (HU.out.mono HBL.out.size)⟩
            case measure => simp [intOf]; omega
          · have HF : Hid (mrgB z p i = true) := Lib.hid (by rw [HM.out, hq1, hq2]; rfl)
            rw [hq1] at H1
            rw [hq2] at H2
            go_wp2_with fail
            refine wp_region_below wr.heap.size wr (Below.refl _ _) (by kernel_rfl) (by kernel_rfl) ?_
            repeat (go_big_quiet_step (first
              | (go_at_call 74; exact calls_below (Nat.le_refl _) (H1.out _))
              | (go_at_call 74; exact calls_below (Nat.le_refl _) (H2.out _))))
            refine wpQuiet_nil ?_
            rintro _ ⟨uw, rfl⟩
            have HU := Lib.hid uw.h
            go_wp2_with fail
            go_ret
            exact ⟨i, rfl, Or.inl ⟨i, hlt, rfl, HF.out, HN.out⟩, HB.out.trans ((HBL.out.trans (HU.out.mono HBL.out.size)).mono HB.out.size)⟩
        · have HF : Hid (mrgB z p i = true) := Lib.hid (by rw [HM.out, hq1]; rfl)
          rw [hq1] at H1
          go_wp2_with fail
          refine wp_region_below wr.heap.size wr (Below.refl _ _) (by kernel_rfl) (by kernel_rfl) ?_
          repeat (go_big_quiet_step (first
            | (go_at_call 74; exact calls_below (Nat.le_refl _) (H1.out _))
            | (go_at_call 74; exact calls_below (Nat.le_refl _) (H2.out _))))
          refine wpQuiet_nil ?_
          rintro _ ⟨uw, rfl⟩
          have HU := Lib.hid uw.h
          go_wp2_with fail
          go_ret
          exact ⟨i, rfl, Or.inl ⟨i, hlt, rfl, HF.out, HN.out⟩, HB.out.trans ((HBL.out.trans (HU.out.mono HBL.out.size)).mono HB.out.size)⟩
    · have hie : i = m := by omega
      subst hie
      go_wp2_with fail
      go_ret
      exact ⟨-1, rfl, Or.inr ⟨HN.out, rfl⟩, HB.out.trans (HBL.out.mono HB.out.size)⟩

end Go.Proofs.Ytombmfphodikjaa
