/- The contracts of the program's wins and bestMove. -/
import Derived.Test.YtmkcnpphdghbaaaC1k
import Derived.Test.YtmkcnpphdghbaaaEq
namespace Go.Proofs.Ytmkcnpphdghbaaa
set_option linter.unusedSimpArgs false
set_option linter.unusedVariables false
open Go.RowKit Go.Maps
attribute [local go_sem] i64_bit toNat_eq_one toNat_ne_one toNat_eq_zero toNat_ne_zero i64_and i64_or i64_andNot i64_or_pow i64_andNot_pow

/-- Whether the cat, on a node that it can reach, has a lesser rank. -/
def lessF (F : Pl → Option Nat) (x y : Nat) (v : Int) (d : Nat) : Bool := !(rankV F (x, y, d) == -1) && decide (rankV F (x, y, d) < v)
def winF (n : Nat) (r : Nat → Nat) (F : Pl → Option Nat) (p : Pl) (t : Nat × Nat) : Bool :=
  ctchB (t.1, t.2, p.2.2) || (List.range n).all fun d => !(r p.2.2).testBit d || lessF F t.1 t.2 (rankV F p) d
theorem winF_no {n : Nat} {r : Nat → Nat} {F : Pl → Option Nat} {p : Pl} {t : Nat × Nat} {d : Nat} (hc : ctchB (t.1, t.2, p.2.2) = false) (hd : d < n) (hb : (r p.2.2).testBit d = true) (h : lessF F t.1 t.2 (rankV F p) d = false) : winF n r F p t = false := by
  rw [Bool.eq_false_iff]
  intro hw
  unfold winF at hw
  rw [hc, Bool.false_or, List.all_eq_true] at hw
  have := hw d (List.mem_range.2 hd)
  rw [hb, h] at this
  cases this
theorem winF_yes {n : Nat} {r : Nat → Nat} {F : Pl → Option Nat} {p : Pl} {t : Nat × Nat} (h : ∀ d, d < n → (!(r p.2.2).testBit d || lessF F t.1 t.2 (rankV F p) d) = true) : winF n r F p t = true := by
  unfold winF
  rw [Bool.or_eq_true, List.all_eq_true]
  exact Or.inr fun d hd => h d (List.mem_range.1 hd)

set_option maxRecDepth 20000 in
set_option maxHeartbeats 2000000 in
theorem winsP_any {w : World} {gp n b cb cc mb : Nat} {r : Nat → Nat} {C : List (Nat × Nat)} {F : Pl → Option Nat} (G : GameAt w gp n b cb cc mb r C F) (p : Pl) (t : Nat × Nat) (h1 : p.1 < n) (h2 : p.2.1 < n) (h3 : p.2.2 < n) (ht : t.1 < n ∧ t.2 < n) :
    Calls Try.prog 63 #[.pointer (some ⟨gp, 0, none⟩), encPl p, pairV t] w fun e w' => e = .returned (.bool (winF n r F p t)) ∧ Below w.heap.size w w' := by
  obtain ⟨p1, p2, p3⟩ := p
  obtain ⟨t1, t2⟩ := t
  obtain ⟨ht1, ht2⟩ := ht
  dsimp only at h1 h2 h3 ht1 ht2
  obtain ⟨w0, hw0, R0, R1, HB, hsz⟩ := new2 w 30 32 [.int .i64 p1, .int .i64 p2, .int .i64 p3] [.int .i64 t1, .int .i64 t2]
  have hn := G.town.small
  have HG := Lib.hid (G.below HB)
  have HW := Lib.hid hw0
  have HR0 := Lib.hid R0
  have HR1 := Lib.hid R1
  have HS : w.heap.size ≤ w0.heap.size := by omega
  have HBW := Lib.hid HB
  have d0 := R0.cell (i := 0) rfl
  have d1 := R0.cell (i := 1) rfl
  have d2 := R0.cell (i := 2) rfl
  have e0 := R1.cell (i := 0) rfl
  have e1 := R1.cell (i := 1) rfl
  clear hw0 R0 R1 HB
  show Calls Try.prog 63 #[.pointer (some ⟨gp, 0, none⟩), .agg #[.int .i64 p1, .int .i64 p2, .int .i64 p3], .agg #[.int .i64 t1, .int .i64 t2]] w _
  cases hC : ctchB (t1, t2, p3)
  · have HC := Lib.hid hC
    clear hC
    go_enter Try.func63, Try.ntmps63
    go_wp2_with fail
    rw [← HW.out]
    clear HW
    go_wp2_with fail
    go_at_call 66
    refine (at_any t1 t2 p3 _).mono ?_
    rintro e w1 ⟨rfl, hb1⟩
    have HB1 := Lib.hid hb1
    clear hb1
    go_wp2_with fail
    go_at_call 61
    refine (caught_any (t1, t2, p3) _).mono ?_
    rintro e w2 ⟨rfl, hb2⟩
    rw [HC.out]
    have HB2 := Lib.hid (HB1.out.trans (hb2.mono HB1.out.size))
    clear hb2
    obtain ⟨c0, c1, c2, c3, cr, hgp, hb, _⟩ := (HG.out.below HB2.out).facts
    clear d0 d1 d2 e0 e1
    go_wp2_with fail
    go_loopw [19] (fun i wr => ∃ k : Nat, k ≤ n ∧ i = .int .i64 k ∧ Hid (∀ d, d < k → (!(r p3).testBit d || lessF F t1 t2 (rankV F (p1, p2, p3)) d) = true) ∧ Below w0.heap.size w0 wr) (fun i _ => n - (intOf i).toNat)
    case atStart => exact ⟨0, Nat.zero_le _, rfl, Lib.hid (by omega), HB2.out⟩
    case round =>
      clear c0 c1 c2 c3 cr hgp hb
      obtain ⟨k, hk, rfl, HALL, hbel⟩ := hrel
      have HBE := Lib.hid hbel
      have g1 := HG.out.below hbel
      have HG1 := Lib.hid g1
      obtain ⟨c0, c1, c2, c3, cr, hgp, hb, _⟩ := g1.facts
      have r0 := HR0.out.below hbel HR0.out.lt
      have r1 := HR1.out.below hbel HR1.out.lt
      have HR0x := Lib.hid r0
      have HR1x := Lib.hid r1
      have d0 := r0.cell (i := 0) rfl
      have d1 := r0.cell (i := 1) rfl
      have d2 := r0.cell (i := 2) rfl
      have e0 := r1.cell (i := 0) rfl
      have e1 := r1.cell (i := 1) rfl
      clear hbel g1 r0 r1
      by_cases hlt : k < n
      · have hrp := HG1.out.town.bd p3 h3
        have x3 := cr p3 h3
        clear cr
        cases hq : (r p3).testBit k
        · have HQ := Lib.hid hq
          go_wp2_with fail
          go_quiet ((go_at_call 71; exact Calls.quiet_of_same (has_quiet _ _ _ (by assumption) (by omega))))
          go_wp2_with fail
          go_roundw
          case rel =>
            refine ⟨k + 1, by omega, by go_num, Lib.hid (fun d hd => ?_), below_drewN HBE.out _⟩
            rcases Nat.lt_succ_iff_lt_or_eq.1 hd with h | h
            · exact HALL.out d h
            · rw [h, HQ.out]; rfl
          case measure => simp [intOf]; omega
        · have HQ := Lib.hid hq
          have hrg := rankV_ge F (t1, t2, k)
          have hrg2 := rankV_ge F (p1, p2, p3)
          by_cases hv : rankV F (t1, t2, k) = -1
          · have hv1 : (rankV F (t1, t2, k) == -1) = true := by simp [hv]
            have HF := Lib.hid (winF_no (n := n) (r := r) (F := F) (p := (p1, p2, p3)) (t := (t1, t2)) HC.out hlt hq (by unfold lessF; rw [hv1]; rfl))
            clear hv
            go_wp2_with fail
            go_quiet ((go_at_call 71; exact Calls.quiet_of_same (has_quiet _ _ _ (by assumption) (by omega))))
            go_wp2_with fail
            go_at_call 66
            refine (at_any t1 t2 k _).mono ?_
            rintro e w3 ⟨rfl, hb3⟩
            have HB3 := Lib.hid ((below_drewN (Below.refl wr.heap.size wr) nq).trans (hb3.mono (Nat.le_refl _)))
            clear hb3
            go_wp2_with fail
            go_at_call 39
            refine (rank_any (HG1.out.below HB3.out) (t1, t2, k) (by dsimp only; omega)).mono ?_
            rintro e w4 ⟨rfl, hb4⟩
            have HB4 := Lib.hid (HB3.out.trans (hb4.mono HB3.out.size))
            clear hb4
            go_wp2_with fail
            go_ret
            exact ⟨by rw [HF.out]; rfl, HBW.out.trans ((HBE.out.trans (HB4.out.mono HBE.out.size)).mono HS)⟩
          · have hv1 : (rankV F (t1, t2, k) == -1) = false := by simp [hv]
            by_cases hl : rankV F (t1, t2, k) < rankV F (p1, p2, p3)
            all_goals
              have HL := Lib.hid hl
              have hv2 : 0 ≤ rankV F (t1, t2, k) := by omega
              have hl' : decide (rankV F (p1, p2, p3) ≤ rankV F (t1, t2, k)) = !decide (rankV F (t1, t2, k) < rankV F (p1, p2, p3)) := by
                rw [Bool.eq_iff_iff]; simp
              simp only [hl, decide_true, decide_false, Bool.not_true, Bool.not_false] at hl'
              clear hv hl
              go_wp2_with fail
              go_quiet ((go_at_call 71; exact Calls.quiet_of_same (has_quiet _ _ _ (by assumption) (by omega))))
              go_wp2_with fail
              go_at_call 66
              refine (at_any t1 t2 k _).mono ?_
              rintro e w3 ⟨rfl, hb3⟩
              have HB3 := Lib.hid ((below_drewN (Below.refl wr.heap.size wr) nq).trans (hb3.mono (Nat.le_refl _)))
              clear hb3
              go_wp2_with fail
              go_at_call 39
              refine (rank_any (HG1.out.below HB3.out) (t1, t2, k) (by dsimp only; omega)).mono ?_
              rintro e w4 ⟨rfl, hb4⟩
              have HB4 := Lib.hid (HB3.out.trans (hb4.mono HB3.out.size))
              clear hb4
              have r0 := HR0x.out.below HB4.out HR0x.out.lt
              have q0 := r0.cell (i := 0) rfl
              have q1 := r0.cell (i := 1) rfl
              have q2 := r0.cell (i := 2) rfl
              clear r0 d0 d1 d2 e0 e1
              go_wp2_with fail
              go_at_call 39
              refine (rank_any (HG1.out.below HB4.out) (p1, p2, p3) (by dsimp only; omega)).mono ?_
              rintro e w5 ⟨rfl, hb5⟩
              have HB5 := Lib.hid (HB4.out.trans (hb5.mono HB4.out.size))
              clear hb5
              go_wp2_with fail
              first
                | (go_roundw
                   case rel =>
                     refine ⟨k + 1, by omega, by go_num, Lib.hid (fun d hd => ?_), HBE.out.trans (HB5.out.mono HBE.out.size)⟩
                     rcases Nat.lt_succ_iff_lt_or_eq.1 hd with h | h
                     · exact HALL.out d h
                     · rw [h, HQ.out]; unfold lessF; rw [hv1, decide_eq_true (by have := HL.out; omega)]; rfl
                   case measure => simp [intOf]; omega)
                | (go_ret
                   exact ⟨by rw [winF_no (n := n) (r := r) (F := F) (p := (p1, p2, p3)) (t := (t1, t2)) HC.out hlt HQ.out (by show lessF F t1 t2 (rankV F (p1, p2, p3)) k = false; unfold lessF; rw [hv1, decide_eq_false (by have := HL.out; omega)]; rfl)]; rfl, HBW.out.trans ((HBE.out.trans (HB5.out.mono HBE.out.size)).mono HS)⟩)
      · have hke : k = n := by omega
        subst hke
        have HF := Lib.hid (winF_yes (n := k) (r := r) (F := F) (p := (p1, p2, p3)) (t := (t1, t2)) HALL.out)
        go_wp2_with fail
        go_ret
        exact ⟨by rw [HF.out]; rfl, HBW.out.trans (HBE.out.mono HS)⟩
  · have HC := Lib.hid hC
    clear hC
    go_enter Try.func63, Try.ntmps63
    go_wp2_with fail
    rw [← HW.out]
    clear HW
    go_wp2_with fail
    go_at_call 66
    refine (at_any t1 t2 p3 _).mono ?_
    rintro e w1 ⟨rfl, hb1⟩
    have HB1 := Lib.hid hb1
    clear hb1
    go_wp2_with fail
    go_at_call 61
    refine (caught_any (t1, t2, p3) _).mono ?_
    rintro e w2 ⟨rfl, hb2⟩
    rw [HC.out]
    have HB2 := Lib.hid (HB1.out.trans (hb2.mono HB1.out.size))
    clear hb2
    go_wp2_with fail
    go_ret
    exact ⟨by unfold winF; rw [show ctchB ((t1, t2).fst, (t1, t2).snd, (p1, p2, p3).snd.snd) = true from HC.out]; rfl, HBW.out.trans (HB2.out.mono HS)⟩

end Go.Proofs.Ytmkcnpphdghbaaa
