/- The contracts of slices.Contains over pairs, and of the program's isPlace and Rank. -/
import Derived.Test.YtmkcnpphdghbaaaC2g
namespace Go.Proofs.Ytmkcnpphdghbaaa
set_option linter.unusedSimpArgs false
set_option linter.unusedVariables false
open Go.RowKit Go.Maps
attribute [local go_sem] i64_bit toNat_eq_one toNat_ne_one toNat_eq_zero toNat_ne_zero i64_and i64_or i64_andNot i64_or_pow i64_andNot_pow

/-- Whether a pair of whole numbers is one of a list. -/
def hasP (C : List (Nat × Nat)) (a b : Int) : Bool := C.any fun t => a == (t.1 : Int) && b == (t.2 : Int)
theorem hasP_yes {C : List (Nat × Nat)} {a b : Int} {i x y : Nat} (h : C[i]? = some (x, y)) (hq : (a == (x : Int) && b == (y : Int)) = true) : hasP C a b = true := List.any_eq_true.2 ⟨(x, y), List.mem_of_getElem? h, hq⟩
theorem hasP_no {C : List (Nat × Nat)} {a b : Int} (h : ∀ i x y, i < C.length → C[i]? = some (x, y) → (a == (x : Int) && b == (y : Int)) = false) : hasP C a b = false := by
  rw [Bool.eq_false_iff]
  intro ha
  obtain ⟨⟨x, y⟩, hx, hp⟩ := List.any_eq_true.1 ha
  obtain ⟨i, hi⟩ := List.mem_iff_getElem?.1 hx
  rw [h i x y (List.getElem?_eq_some_iff.1 hi).1 hi] at hp
  cases hp

/-- What slices.Index returns. -/
def IndexPost (C : List (Nat × Nat)) (a b : Int) (w : World) (e : Ending) (w' : World) : Prop :=
  Below w.heap.size w w' ∧ ∃ r : Int, e = .returned (.int .i64 r) ∧ decide (0 ≤ r) = hasP C a b

set_option maxRecDepth 20000 in
set_option maxHeartbeats 2000000 in
theorem IndexP_any {C : List (Nat × Nat)} {cb cc : Nat} {w : World} (hl : cb < w.heap.size) (hC : C.length ≤ 65536)
    (hc : ∀ i ab, C[i]? = some ab → w.cell? ⟨cb, i * 2, none⟩ = some (.int .i64 ab.1) ∧ w.cell? ⟨cb, i * 2 + 1, none⟩ = some (.int .i64 ab.2)) (a b : Int) :
    Calls Try.prog 58 #[.slice (some ⟨cb, 0, none⟩) C.length cc, .agg #[.int .i64 a, .int .i64 b]] w (IndexPost C a b w) := by
  obtain ⟨w0, hw0, R0, HB, hsz⟩ := new1 w 32 [.int .i64 a, .int .i64 b]
  have HW := Lib.hid hw0
  have HR0 := Lib.hid R0
  have HC := Lib.hid hc
  have HBW := Lib.hid HB
  have hE := fun (w : World) (a b c e : Int) => run_eql_pair w a b c e
  have HS : w.heap.size ≤ w0.heap.size := by omega
  clear hw0 R0 hc HB
  go_enter Try.func58, Try.ntmps58
  go_wp2_with fail
  rw [← HW.out]
  clear HW
  go_loopw [8] (fun i wr => ∃ k : Nat, k ≤ C.length ∧ i = .int .i64 k ∧ Hid (∀ i x y, i < k → C[i]? = some (x, y) → (a == (x : Int) && b == (y : Int)) = false) ∧ Below w0.heap.size w0 wr) (fun i _ => C.length - (intOf i).toNat)
  case atStart => exact ⟨0, Nat.zero_le _, rfl, Lib.hid (by omega), Below.refl _ _⟩
  case round =>
    obtain ⟨k, hk, rfl, HALL, hbel⟩ := hrel
    have HBE := Lib.hid hbel
    have r0 := HR0.out.below hbel HR0.out.lt
    have d0 := r0.cell (i := 0) rfl
    have d1 := r0.cell (i := 1) rfl
    have hwl := hbel.size
    by_cases hlt : k < C.length
    · obtain ⟨⟨x, y⟩, hxy⟩ : ∃ t, C[k]? = some t := ⟨C[k], by simp [hlt]⟩
      obtain ⟨e0, e1⟩ := HC.out k _ hxy
      dsimp only at e0 e1
      rw [← HBW.out.cell (p := ⟨cb, k * 2, none⟩) hl, ← hbel.cell (p := ⟨cb, k * 2, none⟩) (by show cb < w0.heap.size; omega)] at e0
      rw [← HBW.out.cell (p := ⟨cb, k * 2 + 1, none⟩) hl, ← hbel.cell (p := ⟨cb, k * 2 + 1, none⟩) (by show cb < w0.heap.size; omega)] at e1
      have HX := Lib.hid hxy
      clear hbel r0 hxy
      cases h1 : (a == (x : Int)) <;> cases h2 : (b == (y : Int))
      case true.true =>
        have HY := Lib.hid (hasP_yes (a := a) (b := b) HX.out (by rw [h1, h2]; rfl))
        go_wp2_with fail
        go_quiet (fail)
        go_wp2_with fail
        go_ret
        exact ⟨HBW.out.trans ((below_drewN HBE.out _).mono HS), _, rfl, by rw [HY.out]; exact decide_eq_true (by omega)⟩
      all_goals
        go_wp2_with fail
        go_quiet (fail)
        go_wp2_with fail
        go_roundw
        case rel =>
          refine ⟨k + 1, by omega, by go_num, Lib.hid (fun i x' y' hi hx' => ?_), below_drewN HBE.out _⟩
          rcases Nat.lt_succ_iff_lt_or_eq.1 hi with h | h
          · exact HALL.out i x' y' h hx'
          · subst h
            rw [HX.out] at hx'
            cases hx'
            rw [h1, h2]
            rfl
        case measure => simp [intOf]; omega
    · have hke : k = C.length := by omega
      subst hke
      have HN := Lib.hid (hasP_no HALL.out)
      go_wp2_with fail
      go_ret
      exact ⟨HBW.out.trans (HBE.out.mono HS), _, rfl, by rw [HN.out]; rfl⟩

set_option maxRecDepth 20000 in
set_option maxHeartbeats 1000000 in
theorem Contains_any {C : List (Nat × Nat)} {cb cc : Nat} {w : World} (hl : cb < w.heap.size) (hC : C.length ≤ 65536)
    (hc : ∀ i ab, C[i]? = some ab → w.cell? ⟨cb, i * 2, none⟩ = some (.int .i64 ab.1) ∧ w.cell? ⟨cb, i * 2 + 1, none⟩ = some (.int .i64 ab.2)) (a b : Int) :
    Calls Try.prog 36 #[.slice (some ⟨cb, 0, none⟩) C.length cc, .agg #[.int .i64 a, .int .i64 b]] w fun e w' => e = .returned (.bool (hasP C a b)) ∧ Below w.heap.size w w' := by
  have HC := Lib.hid hc
  have HB0 : Hid (Below w.heap.size w (w.alloc (.cells #[.int .i64 a, .int .i64 b] 32))) := Lib.hid ((Below.refl _ _).alloc (Nat.le_refl _) _)
  clear hc
  cases hP : hasP C a b
  all_goals
    have HP := Lib.hid hP
    clear hP
    go_enter Try.func36, Try.ntmps36
    go_wp2_with fail
    go_at_call 58
    refine (IndexP_any (by simp; omega) hC (fun i ab h => by rw [HB0.out.cell (p := ⟨cb, i * 2, none⟩) hl, HB0.out.cell (p := ⟨cb, i * 2 + 1, none⟩) hl]; exact HC.out i ab h) a b).mono ?_
    rintro e w1 ⟨hb1, r, rfl, hr⟩
    rw [HP.out] at hr
    have HB1 := Lib.hid (HB0.out.trans (hb1.mono (by simp)))
    clear hb1
    go_wp2_with fail
    go_ret
    exact ⟨rfl, HB1.out⟩

def isPlB (n : Nat) (C : List (Nat × Nat)) (a b c : Int) : Bool := inB c n && hasP C a b

set_option maxRecDepth 20000 in
set_option maxHeartbeats 1000000 in
theorem isPlace_any {w : World} {gp n b cb cc mb : Nat} {r : Nat → Nat} {C : List (Nat × Nat)} {F : Pl → Option Nat} (G : GameAt w gp n b cb cc mb r C F) (x y z : Int) :
    Calls Try.prog 38 #[.pointer (some ⟨gp, 0, none⟩), .agg #[.int .i64 x, .int .i64 y, .int .i64 z]] w fun e w' => e = .returned (.bool (isPlB n C x y z)) ∧ Below w.heap.size w w' := by
  obtain ⟨w0, hw0, R0, HB, hsz⟩ := new1 w 30 [.int .i64 x, .int .i64 y, .int .i64 z]
  have hn := G.town.small
  have HG := Lib.hid (G.below HB)
  have HW := Lib.hid hw0
  have HR0 := Lib.hid R0
  have HBW := Lib.hid HB
  have HS : w.heap.size ≤ w0.heap.size := by omega
  have c0 : ∀ u : BelowW w0.heap.size w0, u.w.cell? ⟨gp, 0, none⟩ = some (.int .i64 n) := fun u => (HG.out.below u.h).g0
  have c1 : ∀ u : BelowW w0.heap.size w0, u.w.cell? ⟨gp, 1, none⟩ = some (.slice (some ⟨b, 0, none⟩) n n) := fun u => (HG.out.below u.h).g1
  have c2 : ∀ u : BelowW w0.heap.size w0, u.w.cell? ⟨gp, 2, none⟩ = some (.slice (some ⟨cb, 0, none⟩) C.length cc) := fun u => (HG.out.below u.h).g2
  have d0 : ∀ u : BelowW w0.heap.size w0, u.w.cell? ⟨w.heap.size, 0, none⟩ = some (.int .i64 x) := fun u => (HR0.out.below u.h HR0.out.lt).cell (i := 0) rfl
  have d1 : ∀ u : BelowW w0.heap.size w0, u.w.cell? ⟨w.heap.size, 1, none⟩ = some (.int .i64 y) := fun u => (HR0.out.below u.h HR0.out.lt).cell (i := 1) rfl
  have d2 : ∀ u : BelowW w0.heap.size w0, u.w.cell? ⟨w.heap.size, 2, none⟩ = some (.int .i64 z) := fun u => (HR0.out.below u.h HR0.out.lt).cell (i := 2) rfl
  have hfew : C.length ≤ 65536 := Nat.le_of_lt G.few
  clear hw0 R0 HB G
  cases hi : inB z n
  all_goals
    have HI := Lib.hid hi
    clear hi
    go_enter Try.func38, Try.ntmps38
    go_wp2_with fail
    rw [← HW.out]
    clear HW
    refine wp_region_below w0.heap.size w0 (Below.refl _ _) (by kernel_rfl) (by kernel_rfl) ?_
    repeat (go_big_quiet_step (first | (go_at_call 60; exact calls_below (Nat.le_refl _) ((isNode_any n b n z _ hn).mono fun _ _ h => ⟨by rw [h.1, HI.out], h.2⟩)) | (go_at_call 36; exact calls_below (Nat.le_refl _) (Contains_any ((HG.out.below (BelowW.h _)).cl) hfew (HG.out.below (BelowW.h _)).ch x y))))
    refine wpQuiet_nil ?_
    rintro _ ⟨u, rfl⟩
    go_wp2_with fail
    go_ret
    exact ⟨by unfold isPlB; rw [HI.out]; rfl, HBW.out.trans (u.h.mono HS)⟩

end Go.Proofs.Ytmkcnpphdghbaaa
