/- The contract of the program's staysSafe. -/
import Derived.Test.YtmkcnpphdghbaaaC2n
namespace Go.Proofs.Ytmkcnpphdghbaaa
set_option linter.unusedSimpArgs false
set_option linter.unusedVariables false
open Go.RowKit Go.Maps
attribute [local go_sem] i64_bit toNat_eq_one toNat_ne_one toNat_eq_zero toNat_ne_zero i64_and i64_or i64_andNot i64_or_pow i64_andNot_pow

def stepS (n : Nat) (r : Nat → Nat) (S : Pl → Bool) (p : Pl) (t : Nat × Nat) : Bool := !canM r (p.1, p.2.1) t || (!ctchB (t.1, t.2, p.2.2) && reachB n S t (r p.2.2))
def stayB (n : Nat) (r : Nat → Nat) (C : List (Nat × Nat)) (S : Pl → Bool) (p : Pl) : Bool := C.all (stepS n r S p)

theorem calls_is {P : Program} {f : FuncId} {args : Array Value} {w : World} {v v' : Value} (hv : v = v') (h : Calls P f args w fun e w' => e = .returned v ∧ Below w.heap.size w w') : Calls P f args w fun e w' => e = .returned v' ∧ Below w.heap.size w w' := by
  subst hv; exact h

set_option maxRecDepth 20000 in
set_option maxHeartbeats 2000000 in
theorem staysSafe_any {w : World} {gp n b cb cc mb sb : Nat} {r : Nat → Nat} {C : List (Nat × Nat)} {F : Pl → Option Nat} {S : Pl → Bool} (G : GameAt w gp n b cb cc mb r C F) (M : SafeMap w sb S) (hS : ∀ p, S p = true → p.1 < 65536 ∧ p.2.1 < 65536 ∧ p.2.2 < 65536)
    (p : Pl) (h1 : p.1 < n) (h2 : p.2.1 < n) (h3 : p.2.2 < n) :
    Calls Try.prog 68 #[.pointer (some ⟨gp, 0, none⟩), encPl p, .map (some sb)] w fun e w' => e = .returned (.bool (stayB n r C S p)) ∧ Below w.heap.size w w' := by
  obtain ⟨p1, p2, p3⟩ := p
  dsimp only at h1 h2 h3
  obtain ⟨w0, hw0, R0, HB, hsz⟩ := new1 w 30 [.int .i64 p1, .int .i64 p2, .int .i64 p3]
  have hn := G.town.small
  have hfew := G.few
  have hrp := G.town.bd p3 h3
  have G0 := G.below HB
  obtain ⟨c0, c1, c2, c3, _, hgp, hb, _⟩ := G0.facts
  have HG := Lib.hid G0
  have HM := Lib.hid (SafeMap.below M HB (MapB.lt M))
  have HSS := Lib.hid hS
  have HW := Lib.hid hw0
  have HR0 := Lib.hid R0
  have HB0 := Lib.hid HB
  have HS0 : w.heap.size ≤ w0.heap.size := by omega
  have c2' := c2
  rw [hw0] at c2'
  clear hw0 R0 HB G0 hS M G
  show Calls Try.prog 68 #[.pointer (some ⟨gp, 0, none⟩), .agg #[.int .i64 p1, .int .i64 p2, .int .i64 p3], .map (some sb)] w _
  go_enter Try.func68, Try.ntmps68
  go_wp2_with fail
  rw [← HW.out]
  clear HW c2'
  go_loopw [14] (fun i wr => ∃ k : Nat, k ≤ C.length ∧ i = .int .i64 k ∧ Hid (∀ i t, i < k → C[i]? = some t → stepS n r S (p1, p2, p3) t = true) ∧ Below w0.heap.size w0 wr) (fun i _ => C.length - (intOf i).toNat)
  case atStart => exact ⟨0, Nat.zero_le _, rfl, Lib.hid (by omega), Below.refl _ _⟩
  case round =>
    clear c0 c1 c2 c3 hgp hb
    obtain ⟨k, hk, rfl, HALL, hbel⟩ := hrel
    have HBE := Lib.hid hbel
    have hbs := hbel.size
    have g1 := HG.out.below hbel
    have HG1 := Lib.hid g1
    have HM1 := Lib.hid (SafeMap.below HM.out hbel (MapB.lt HM.out))
    have r0 := HR0.out.below hbel HR0.out.lt
    have HR1 := Lib.hid r0
    have d0 := r0.cell (i := 0) rfl
    have d1 := r0.cell (i := 1) rfl
    have d2 := r0.cell (i := 2) rfl
    have hl0 := r0.lt
    clear hbel r0
    by_cases hlt : k < C.length
    · obtain ⟨⟨x, y⟩, hxy⟩ : ∃ t, C[k]? = some t := ⟨C[k], by simp [hlt]⟩
      obtain ⟨hx, hy⟩ := g1.inC _ (List.mem_of_getElem? hxy)
      obtain ⟨e0, e1⟩ := g1.ch k _ hxy
      dsimp only at hx hy e0 e1
      have HX := Lib.hid hxy
      have HSP : Hid (stepS n r S (p1, p2, p3) (x, y) = (!canM r (p1, p2) (x, y) || (!ctchB (x, y, p3) && reachB n S (x, y) (r p3)))) := Lib.hid rfl
      clear g1 hxy
      cases hM : canM r (p1, p2) (x, y)
      · have HMV := Lib.hid hM
        have HY : Hid (stepS n r S (p1, p2, p3) (x, y) = true) := Lib.hid (by rw [HSP.out, hM]; rfl)
        clear hM
        go_wp2_with fail
        go_at_call 62
        refine (canMove_any (HG1.out.below ((Below.refl _ _).alloc (Nat.le_refl _) _)) (p1, p2) (x, y) ⟨h1, h2⟩ ⟨hx, hy⟩).mono ?_
        rintro e w3 ⟨rfl, hb3⟩
        rw [HMV.out]
        have HB3 := Lib.hid (((Below.refl wr.heap.size wr).alloc (Nat.le_refl _) _).trans (hb3.mono (by simp)))
        clear hb3
        go_wp2_with fail
        go_roundw
        case rel =>
          refine ⟨k + 1, by omega, by go_num, Lib.hid (fun i t hi ht => ?_), HBE.out.trans (HB3.out.mono hbs)⟩
          rcases Nat.lt_succ_iff_lt_or_eq.1 hi with h | h
          · exact HALL.out i t h ht
          · subst h
            rw [HX.out] at ht
            cases ht
            exact HY.out
        case measure => simp [intOf]; omega
      · have HMV := Lib.hid hM
        clear hM
        cases hC : ctchB (x, y, p3) <;> cases hR : reachB n S (x, y) (r p3)
        all_goals
          have HC := Lib.hid hC
          have HRV := Lib.hid hR
          have HSV := Lib.hid HSP.out
          clear hC hR
          go_wp2_with fail
          go_at_call 62
          refine (canMove_any (HG1.out.below ((Below.refl _ _).alloc (Nat.le_refl _) _)) (p1, p2) (x, y) ⟨h1, h2⟩ ⟨hx, hy⟩).mono ?_
          rintro e w3 ⟨rfl, hb3⟩
          rw [HMV.out]
          have HB3 := Lib.hid (((Below.refl wr.heap.size wr).alloc (Nat.le_refl _) _).trans (hb3.mono (by simp)))
          have rr := (Row.new wr 32 [.int .i64 x, .int .i64 y]).below hb3 (by simp)
          have HRR := Lib.hid rr
          have HR3 := Lib.hid (HR1.out.below HB3.out HR1.out.lt)
          have HG3 := Lib.hid (HG1.out.below HB3.out)
          have HM3 := Lib.hid (SafeMap.below HM1.out HB3.out (MapB.lt HM1.out))
          clear d0 d1 d2 e0 e1 hb3 rr
          have b0 : ∀ u : BelowW w3.heap.size w3, u.w.cell? ⟨wr.heap.size, 0, none⟩ = some (.int .i64 x) := fun u => (HRR.out.below u.h HRR.out.lt).cell (i := 0) rfl
          have b1 : ∀ u : BelowW w3.heap.size w3, u.w.cell? ⟨wr.heap.size, 1, none⟩ = some (.int .i64 y) := fun u => (HRR.out.below u.h HRR.out.lt).cell (i := 1) rfl
          have d2 : ∀ u : BelowW w3.heap.size w3, u.w.cell? ⟨w.heap.size, 2, none⟩ = some (.int .i64 p3) := fun u => (HR3.out.below u.h HR3.out.lt).cell (i := 2) rfl
          have c1 : ∀ u : BelowW w3.heap.size w3, u.w.cell? ⟨gp, 1, none⟩ = some (.slice (some ⟨b, 0, none⟩) n n) := fun u => (HG3.out.below u.h).g1
          have x3 : ∀ u : BelowW w3.heap.size w3, u.w.cell? ⟨b, p3, none⟩ = some (.int .i64 (r p3)) := fun u => (HG3.out.below u.h).town.cell p3 h3
          go_wp2_with fail
          refine wp_region_below w3.heap.size w3 (Below.refl _ _) (by kernel_rfl) (by kernel_rfl) ?_
          repeat (go_big_quiet_step (first
            | (go_at_call 66; exact calls_below (Nat.le_refl _) (at_any x y p3 _))
            | (go_at_call 61; exact calls_below (Nat.le_refl _) (calls_is (congrArg Value.bool HC.out) (caught_any (x, y, p3) _)))
            | (go_at_call 69; exact calls_below (Nat.le_refl _) (calls_is (congrArg Value.bool HRV.out) (reachesSafe_any (HG3.out.below (BelowW.h _)) (SafeMap.below HM3.out (BelowW.h _) (MapB.lt HM3.out)) HSS.out (x, y) ⟨hx, hy⟩ (r p3) hrp)))))
          refine wpQuiet_nil ?_
          rintro _ ⟨uw, rfl⟩
          go_wp2_with fail
          first
            | (go_roundw
               case rel =>
                 refine ⟨k + 1, by omega, by go_num, Lib.hid (fun i t hi ht => ?_), HBE.out.trans ((HB3.out.trans (uw.h.mono HB3.out.size)).mono hbs)⟩
                 rcases Nat.lt_succ_iff_lt_or_eq.1 hi with h | h
                 · exact HALL.out i t h ht
                 · subst h
                   rw [HX.out] at ht
                   cases ht
                   rw [HSV.out, HMV.out, HC.out, HRV.out]
                   rfl
               case measure => simp [intOf]; omega)
            | (go_ret
               have hf : stepS n r S (p1, p2, p3) (x, y) = false := by rw [HSV.out, HMV.out, HC.out, HRV.out]; rfl
               exact ⟨by rw [show stayB n r C S (p1, p2, p3) = false from all_at HX.out hf]; rfl, HB0.out.trans ((HBE.out.trans ((HB3.out.trans (uw.h.mono HB3.out.size)).mono hbs)).mono HS0)⟩)
    · have hke : k = C.length := by omega
      subst hke
      have HY : Hid (stayB n r C S (p1, p2, p3) = true) := Lib.hid (all_upto HALL.out)
      go_wp2_with fail
      go_ret
      exact ⟨by rw [HY.out]; rfl, HB0.out.trans (HBE.out.mono HS0)⟩

end Go.Proofs.Ytmkcnpphdghbaaa
