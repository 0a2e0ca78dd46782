/- The contracts of package chase's game: at, caught, canMove, rank, lostCats, worst. -/
import Derived.Test.YtbkbliieappkdaaDoorChC1b
import Derived.Test.YtbkbliieappkdaaDoorChS1
import Derived.Test.YtbkbliieappkdaaDoorMap
namespace Go.Proofs.YtbkbliieappkdaaDoor.Ch
set_option linter.unusedSimpArgs false
set_option linter.unusedVariables false
open Go.RowKit Go.Maps
attribute [local go_sem] i64_bit toNat_eq_one toNat_ne_one toNat_eq_zero toNat_ne_zero i64_and i64_or i64_andNot i64_or_pow i64_andNot_pow

abbrev pairV (ab : Nat × Nat) : Value := .agg #[.int .i64 ab.1, .int .i64 ab.2]
def encPl (p : Pl) : Value := .agg #[.int .i64 p.1, .int .i64 p.2.1, .int .i64 p.2.2]
theorem encPl_inj (x y : Pl) (h : encPl x = encPl y) : x = y := by
  unfold encPl at h
  simp only [Value.agg.injEq, List.toArray_inj, List.cons.injEq, Value.int.injEq, Array.mk.injEq] at h
  obtain ⟨⟨_, h1⟩, ⟨_, h2⟩, ⟨_, h3⟩, _⟩ := h
  exact Prod.ext (by omega) (Prod.ext (by omega) (by omega))
theorem laidOut : laidOutB Tryd.prog = true := by kernel_rfl
theorem keyed_Pl : Keyed Tryd.prog 114 := Keyed.of_law (deep_law_laid laidOut (m := 3) (by omega) (of_decide_eq_true (by kernel_rfl)) (by kernel_rfl) (by kernel_rfl))

set_option maxHeartbeats 400000 in
theorem at_any (a b c : Nat) (w : World) :
    Calls Tryd.prog 108 #[pairV (a, b), .int .i64 c] w fun e w' => e = .returned (.agg #[.int .i64 a, .int .i64 b, .int .i64 c]) ∧ Below w.heap.size w w' := by
  go_enter Tryd.func108, Tryd.ntmps108
  go_wp2
  exact bodyPost_ret (v := .agg #[.int .i64 a, .int .i64 b, .int .i64 c]) (by simp [results, Tryd.results108, go_sem]) rfl ⟨rfl, ((Below.refl _ _).alloc (Nat.le_refl _) _).alloc (by simp) _⟩

set_option maxHeartbeats 400000 in
theorem caught_any (p : Pl) (w : World) :
    Calls Tryd.prog 119 #[encPl p] w fun e w' => e = .returned (.bool (ctchB p)) ∧ Below w.heap.size w w' := by
  obtain ⟨a, b, c⟩ := p
  show Calls Tryd.prog 119 #[.agg #[.int .i64 a, .int .i64 b, .int .i64 c]] w _
  by_cases h : c = a
  · subst h
    go_enter Tryd.func119, Tryd.ntmps119
    go_wp2
    go_ret
    exact ⟨by simp [ctchB], (Below.refl _ _).alloc (Nat.le_refl _) _⟩
  · have h1 : ((c : Int) == (a : Int)) = false := by rw [cast_beq]; simpa using h
    have H := Lib.hid h
    clear h
    go_enter Tryd.func119, Tryd.ntmps119
    go_wp2
    go_ret
    refine ⟨?_, (Below.refl _ _).alloc (Nat.le_refl _) _⟩
    show Ending.returned (.bool ((c : Int) == (b : Int))) = _
    unfold ctchB
    rw [cast_beq, show (c == a) = false from by simpa using H.out, Bool.false_or]

/-- A game in memory. -/
structure GameAt (w : World) (gp n b cb cc mb : Nat) (r : Nat → Nat) (C : List (Nat × Nat)) (F : Pl → Option Nat) : Prop where
  town : TownAt w n b r
  gl : gp < w.heap.size
  cl : cb < w.heap.size
  g0 : w.cell? ⟨gp, 0, none⟩ = some (.int .i64 n)
  g1 : w.cell? ⟨gp, 1, none⟩ = some (.slice (some ⟨b, 0, none⟩) n n)
  g2 : w.cell? ⟨gp, 2, none⟩ = some (.slice (some ⟨cb, 0, none⟩) C.length cc)
  g3 : w.cell? ⟨gp, 3, none⟩ = some (.map (some mb))
  ch : ∀ i ab, C[i]? = some ab → w.cell? ⟨cb, i * 2, none⟩ = some (.int .i64 ab.1) ∧ w.cell? ⟨cb, i * 2 + 1, none⟩ = some (.int .i64 ab.2)
  mp : MapIs Tryd.prog 114 encPl (fun v : Nat => .int .i64 v) w mb F
  inC : ∀ ab ∈ C, ab.1 < n ∧ ab.2 < n
  inF : ∀ p v, F p = some v → p.1 < n ∧ p.2.1 < n ∧ p.2.2 < n ∧ v < 65536
  few : C.length < 65536

theorem GameAt.below {w w' : World} {gp n b cb cc mb : Nat} {r : Nat → Nat} {C : List (Nat × Nat)} {F : Pl → Option Nat} (h : GameAt w gp n b cb cc mb r C F) (hb : Below w.heap.size w w') : GameAt w' gp n b cb cc mb r C F where
  town := h.town.below hb h.town.lt
  gl := Nat.lt_of_lt_of_le h.gl hb.size
  cl := Nat.lt_of_lt_of_le h.cl hb.size
  g0 := by rw [hb.cell (p := ⟨gp, 0, none⟩) h.gl]; exact h.g0
  g1 := by rw [hb.cell (p := ⟨gp, 1, none⟩) h.gl]; exact h.g1
  g2 := by rw [hb.cell (p := ⟨gp, 2, none⟩) h.gl]; exact h.g2
  g3 := by rw [hb.cell (p := ⟨gp, 3, none⟩) h.gl]; exact h.g3
  ch := fun i ab hi => by rw [hb.cell (p := ⟨cb, i * 2, none⟩) h.cl, hb.cell (p := ⟨cb, i * 2 + 1, none⟩) h.cl]; exact h.ch i ab hi
  mp := h.mp.below hb h.mp.lt
  inC := h.inC
  inF := h.inF
  few := h.few

theorem GameAt.facts {w : World} {gp n b cb cc mb : Nat} {r : Nat → Nat} {C : List (Nat × Nat)} {F : Pl → Option Nat} (h : GameAt w gp n b cb cc mb r C F) :
    w.cell? ⟨gp, 0, none⟩ = some (.int .i64 n) ∧ w.cell? ⟨gp, 1, none⟩ = some (.slice (some ⟨b, 0, none⟩) n n) ∧ w.cell? ⟨gp, 2, none⟩ = some (.slice (some ⟨cb, 0, none⟩) C.length cc) ∧ w.cell? ⟨gp, 3, none⟩ = some (.map (some mb)) ∧
    (∀ i, i < n → w.cell? ⟨b, i, none⟩ = some (.int .i64 (r i))) ∧ gp < w.heap.size ∧ b < w.heap.size ∧ n < 16 :=
  ⟨h.g0, h.g1, h.g2, h.g3, h.town.cell, h.gl, h.town.lt, h.town.small⟩

theorem key_Pl {p : Pl} (h : p.1 < 65536 ∧ p.2.1 < 65536 ∧ p.2.2 < 65536) : ∃ l, keyOf Tryd.prog 114 (encPl p) = some l := by
  refine keyOf_three (P := Tryd.prog) (kf := 3) (d := Tryd.prog.types.size - 1) Tryd.underlying114 (by kernel_rfl) (by kernel_rfl) (by kernel_rfl) (by kernel_rfl) (by kernel_rfl) Tryd.underlying3 (by kernel_rfl) _ _ _ ?_ ?_ ?_
  all_goals exact WalkArith.wf_i64 (by omega)

theorem zero_int (w : World) : (zeroValue 3).run Tryd.prog w = .ok (.int .i64 0) w := by kernel_rfl

theorem GameAt.look {w : World} {gp n b cb cc mb : Nat} {r : Nat → Nat} {C : List (Nat × Nat)} {F : Pl → Option Nat} (h : GameAt w gp n b cb cc mb r C F) {p : Pl} (hp : p.1 < 65536 ∧ p.2.1 < 65536 ∧ p.2.2 < 65536) :
    (Instr.lookup 95 (.map (some mb)) (encPl p) true).run Tryd.prog w = .ok (match F p with | some v => .tuple #[.int .i64 (v : Int), .bool true] | none => .tuple #[.int .i64 0, .bool false]) w :=
  (h.mp.look keyed_Pl encPl_inj (fun x v hx => key_Pl (by have := h.inF x v hx; have := h.town.small; omega)) Tryd.underlying95 (zero_int w) true p (key_Pl hp)).trans (by cases F p <;> rfl)

set_option maxHeartbeats 400000 in
theorem rank_any {w : World} {gp n b cb cc mb : Nat} {r : Nat → Nat} {C : List (Nat × Nat)} {F : Pl → Option Nat} (G : GameAt w gp n b cb cc mb r C F) (p : Pl) (hp : p.1 < 65536 ∧ p.2.1 < 65536 ∧ p.2.2 < 65536) :
    Calls Tryd.prog 110 #[.pointer (some ⟨gp, 0, none⟩), encPl p] w fun e w' => e = .returned (.int .i64 (rankV F p)) ∧ Below w.heap.size w w' := by
  have hlk0 := fun w' (hb : Below w.heap.size w w') => (G.below hb).look hp
  obtain ⟨a, b', c⟩ := p
  obtain ⟨w0, hw0, R0, HB, hsz⟩ := new1 w 114 [.int .i64 a, .int .i64 b', .int .i64 c]
  have hlk := fun m => hlk0 (w0.drewN m) (below_drewN HB m)
  clear hlk0
  obtain ⟨c0, c1, c2, c3, _, _, _, _⟩ := (G.below HB).facts
  have d0 := R0.cell (i := 0) rfl
  have d1 := R0.cell (i := 1) rfl
  have d2 := R0.cell (i := 2) rfl
  have HW := Lib.hid hw0
  clear hw0 R0
  show Calls Tryd.prog 110 #[.pointer (some ⟨gp, 0, none⟩), .agg #[.int .i64 a, .int .i64 b', .int .i64 c]] w _
  change ∀ m, (Instr.lookup _ _ (.agg #[.int .i64 a, .int .i64 b', .int .i64 c]) true).run _ _ = _ at hlk
  cases hF : F (a, b', c) with
  | none =>
    rw [hF] at hlk
    have HF := Lib.hid hF
    clear hF
    go_enter Tryd.func110, Tryd.ntmps110
    go_wp2_with fail
    rw [← HW.out]
    clear HW
    go_quiet (fail)
    go_wp2_with fail
    go_ret
    exact ⟨by unfold rankV; rw [HF.out]; rfl, below_drewN HB _⟩
  | some v =>
    rw [hF] at hlk
    have HF := Lib.hid hF
    clear hF
    go_enter Tryd.func110, Tryd.ntmps110
    go_wp2_with fail
    rw [← HW.out]
    clear HW
    go_quiet (fail)
    go_wp2_with fail
    go_ret
    exact ⟨by unfold rankV; rw [HF.out]; rfl, below_drewN HB _⟩

set_option maxHeartbeats 2000000 in
theorem canMove_any {w : World} {gp n b cb cc mb : Nat} {r : Nat → Nat} {C : List (Nat × Nat)} {F : Pl → Option Nat} (G : GameAt w gp n b cb cc mb r C F) (f t : Nat × Nat) (hf : f.1 < n ∧ f.2 < n) (ht : t.1 < n ∧ t.2 < n) :
    Calls Tryd.prog 115 #[.pointer (some ⟨gp, 0, none⟩), pairV f, pairV t] w fun e w' => e = .returned (.bool (canM r f t)) ∧ Below w.heap.size w w' := by
  obtain ⟨f1, f2⟩ := f
  obtain ⟨t1, t2⟩ := t
  obtain ⟨hf1, hf2⟩ := hf
  obtain ⟨ht1, ht2⟩ := ht
  dsimp only at hf1 hf2 ht1 ht2
  obtain ⟨w0, hw0, R0, R1, HB, hsz⟩ := new2 w 74 74 [.int .i64 f1, .int .i64 f2] [.int .i64 t1, .int .i64 t2]
  obtain ⟨c0, c1, c2, c3, cr, hgp, hb, hn⟩ := (G.below HB).facts
  have d0 := R0.cell (i := 0) rfl
  have d1 := R0.cell (i := 1) rfl
  have e0 := R1.cell (i := 0) rfl
  have e1 := R1.cell (i := 1) rfl
  have x1 := cr f1 hf1
  have x2 := cr f2 hf2
  have b1 := G.town.bd f1 hf1
  have b2 := G.town.bd f2 hf2
  have HW := Lib.hid hw0
  clear hw0 R0 R1 cr
  show Calls Tryd.prog 115 #[.pointer (some ⟨gp, 0, none⟩), .agg #[.int .i64 f1, .int .i64 f2], .agg #[.int .i64 t1, .int .i64 t2]] w _
  cases h1 : (r f1).testBit t1 <;> cases h2 : (r f2).testBit t2 <;> cases h3 : (r f1).testBit t2 <;> cases h4 : (r f2).testBit t1
  all_goals
    go_enter Tryd.func115, Tryd.ntmps115
    go_wp2_with fail
    rw [← HW.out]
    go_quiet (fail)
    go_wp2_with (go_at_call 90; refine (has_any _ _ _ (by assumption) (by omega)).mono ?_; rintro e w' ⟨rfl, rfl⟩)
    go_ret
    exact ⟨by simp [canM, h1, h2, h3, h4], below_drewN HB _⟩

end Go.Proofs.YtbkbliieappkdaaDoor.Ch
