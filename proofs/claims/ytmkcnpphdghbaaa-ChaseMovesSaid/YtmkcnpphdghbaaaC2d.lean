/- The contract of the reference's wins. -/
import Derived.Test.YtmkcnpphdghbaaaC2c
namespace Go.Proofs.Ytmkcnpphdghbaaa
set_option linter.unusedSimpArgs false
set_option linter.unusedVariables false
open Go.RowKit Go.Maps
attribute [local go_sem] i64_bit toNat_eq_one toNat_ne_one toNat_eq_zero toNat_ne_zero i64_and i64_or i64_andNot i64_or_pow i64_andNot_pow

theorem plCells_length (L : List Pl) : (plCells L).length = L.length * 3 := by
  induction L with
  | nil => rfl
  | cons x L ih => simp [plCells] at *; omega
theorem PlsOwn.read {w : World} {base : Nat} {L : List Pl} {a : Option Addr} {cap : Nat} (h : PlsOwn w base (.slice a L.length cap) L) {i : Nat} {p : Pl} (hi : L[i]? = some p) :
    ∃ b, a = some ⟨b, 0, none⟩ ∧ base ≤ b ∧ b < w.heap.size ∧ w.cell? ⟨b, i * 3, none⟩ = some (.int .i64 p.1) ∧ w.cell? ⟨b, i * 3 + 1, none⟩ = some (.int .i64 p.2.1) ∧ w.cell? ⟨b, i * 3 + 2, none⟩ = some (.int .i64 p.2.2) := by
  have hlt := (List.getElem?_eq_some_iff.1 hi).1
  obtain ⟨b, c, hv, hb, hl⟩ := own_form' h (by omega)
  simp only [Value.slice.injEq] at hv
  obtain ⟨rfl, -, rfl⟩ := hv
  obtain ⟨p1, p2, p3⟩ := plCells_get L i p hi
  refine ⟨b, rfl, hb, hl, ?_, ?_, ?_⟩
  · rw [World.ownsRow.cellAt h (i * 3) (by omega)]; exact p1
  · rw [World.ownsRow.cellAt h (i * 3 + 1) (by omega)]; exact p2
  · rw [World.ownsRow.cellAt h (i * 3 + 2) (by omega)]; exact p3

theorem flTo_mem {x a b n : Nat} {p : Pl} (h : p ∈ flTo x a b n) : p.1 = a ∧ p.2.1 = b ∧ p.2.2 < n ∧ x.testBit p.2.2 = true := by
  induction n with
  | zero => simp [flTo] at h
  | succ n ih =>
    unfold flTo at h
    by_cases hb : x.testBit n = true
    · rw [if_pos hb] at h
      rcases List.mem_append.1 h with h | h
      · have := ih h; exact ⟨this.1, this.2.1, by omega, this.2.2.2⟩
      · simp only [List.mem_singleton] at h
        subst h
        exact ⟨rfl, rfl, by dsimp only; omega, hb⟩
    · rw [if_neg hb] at h
      have := ih h; exact ⟨this.1, this.2.1, by omega, this.2.2.2⟩

/-- Whether all Places of a list have a rank from 0 on. -/
def allGe (T : Nat → Int) (L : List Pl) : Bool := L.all fun p => decide (0 ≤ T (rkIx p))
theorem allGe_no {T : Nat → Int} {L : List Pl} {i : Nat} {p : Pl} (h : L[i]? = some p) (hp : T (rkIx p) < 0) : allGe T L = false := by
  rw [Bool.eq_false_iff]
  intro ha
  unfold allGe at ha
  rw [List.all_eq_true] at ha
  have := of_decide_eq_true (ha p (List.mem_of_getElem? h))
  omega
theorem allGe_yes {T : Nat → Int} {L : List Pl} (h : ∀ i p, i < L.length → L[i]? = some p → 0 ≤ T (rkIx p)) : allGe T L = true := by
  unfold allGe
  rw [List.all_eq_true]
  intro p hp
  obtain ⟨i, hi⟩ := List.mem_iff_getElem?.1 hp
  exact decide_eq_true (h i p (List.getElem?_eq_some_iff.1 hi).1 hi)
/-- Whether a move of the sweeps to a Place wins. -/
def winT (n : Nat) (g : Nat → Nat) (T : Nat → Int) (q : Pl) : Bool := ctchB q || allGe T (flTo (rch g q.2.2) q.1 q.2.1 n)

theorem RkRow.below {w w' : World} {b : Nat} {T : Nat → Int} (h : RkRow w b T) (hb : Below w.heap.size w w') : RkRow w' b T := Row.below h hb (Row.lt h)

set_option maxRecDepth 20000 in
set_option maxHeartbeats 2000000 in
theorem wins_any {n : Nat} {g : Nat → Nat} {a : Option Addr} {w : World} {rb : Nat} {T : Nat → Int} (G : GrAt w a n g) (R : RkRow w rb T) (cap : Nat) (hn8 : n ≤ 8) (p : Pl) (h1 : p.1 < n) (h2 : p.2.1 < n) (h3 : p.2.2 < n) :
    Calls Try.prog 47 #[.slice a n cap, .pointer (some ⟨rb, 0, none⟩), encPl p] w fun e w' => e = .returned (.bool (winT n g T p)) ∧ Below w.heap.size w w' := by
  obtain ⟨p1, p2, p3⟩ := p
  dsimp only at h1 h2 h3
  obtain ⟨w0, hw0, R0, HB, hsz⟩ := new1 w 25 [.int .i64 p1, .int .i64 p2, .int .i64 p3]
  have HG := Lib.hid (G.below HB)
  have HR := Lib.hid (R.below HB)
  have HR0 := Lib.hid R0
  have HW := Lib.hid hw0
  have HS : w.heap.size ≤ w0.heap.size := by omega
  have d0 := R0.cell (i := 0) rfl
  have d1 := R0.cell (i := 1) rfl
  have d2 := R0.cell (i := 2) rfl
  have HWT : Hid (winT n g T (p1, p2, p3) = (ctchB (p1, p2, p3) || allGe T (flTo (rch g p3) p1 p2 n))) := Lib.hid rfl
  clear hw0 R0 G R
  show Calls Try.prog 47 #[.slice a n cap, .pointer (some ⟨rb, 0, none⟩), .agg #[.int .i64 p1, .int .i64 p2, .int .i64 p3]] w _
  cases hC : ctchB (p1, p2, p3)
  · have HC := Lib.hid hC
    clear hC
    go_enter Try.func47, Try.ntmps47
    go_wp2_with fail
    rw [← HW.out]
    clear HW
    go_wp2_with fail
    go_at_call 44
    refine (caughtR_any (p1, p2, p3) _).mono ?_
    rintro e w1 ⟨rfl, hb1⟩
    rw [HC.out]
    have r1 := HR0.out.below hb1 HR0.out.lt
    have q0 := r1.cell (i := 0) rfl
    have q1 := r1.cell (i := 1) rfl
    have q2 := r1.cell (i := 2) rfl
    have HB1 := Lib.hid hb1
    clear hb1 r1
    go_wp2_with fail
    go_at_call 45
    refine (flees_any (HG.out.below HB1.out) cap (p1, p2, p3) h3).mono ?_
    rintro e w2 ⟨⟨v, rfl, ho⟩, hb2⟩
    dsimp only at ho
    have HMEM := Lib.hid (fun p hp => flTo_mem (p := p) (x := rch g p3) (a := p1) (b := p2) (n := n) hp)
    have hll := flTo_len (rch g p3) p1 p2 n
    generalize flTo (rch g p3) p1 p2 n = L at *
    obtain ⟨av, cv, rfl⟩ := own_form ho
    have HO := Lib.hid ho
    have HB2 := Lib.hid (HB1.out.trans (hb2.mono HB1.out.size))
    clear hb2 ho
    go_wp2_with fail
    go_loopw [15] (fun i wr => ∃ k : Nat, k ≤ L.length ∧ i = .int .i64 k ∧ Hid (∀ i p, i < k → L[i]? = some p → 0 ≤ T (rkIx p)) ∧ Below w2.heap.size w2 wr) (fun i _ => L.length - (intOf i).toNat)
    case atStart => exact ⟨0, Nat.zero_le _, rfl, Lib.hid (fun i p h => absurd h (by omega)), Below.refl _ _⟩
    case round =>
      obtain ⟨k, hk, rfl, HALL, hbel⟩ := hrel
      have HBE := Lib.hid hbel
      by_cases hlt : k < L.length
      · obtain ⟨⟨x, y, z⟩, hxyz⟩ : ∃ p, L[k]? = some p := ⟨L[k], by simp [hlt]⟩
        have hm := HMEM.out _ (List.mem_of_getElem? hxyz)
        dsimp only at hm
        have m1 : x < 8 := by omega
        have m2 : y < 8 := by omega
        have m3 : z < 8 := by omega
        obtain ⟨gb, rfl, hgb1, hgb2, e0, e1, e2⟩ := PlsOwn.read HO.out hxyz
        rw [← hbel.cell (p := ⟨gb, k * 3, none⟩) hgb2] at e0
        rw [← hbel.cell (p := ⟨gb, k * 3 + 1, none⟩) hgb2] at e1
        rw [← hbel.cell (p := ⟨gb, k * 3 + 2, none⟩) hgb2] at e2
        dsimp only at e0 e1 e2
        have HX := Lib.hid hxyz
        have HRX := Lib.hid ((HR.out.below HB2.out).below hbel)
        clear hbel hm hxyz
        by_cases ht : T (rkIx (x, y, z)) < 0
        · have HF := Lib.hid (allGe_no HX.out ht)
          go_wp2_with (go_at_call 42; refine (of_any (HRX.out.below ((Below.refl _ _).alloc (Nat.le_refl _) _)) (x, y, z) m1 m2 m3).mono ?_; rintro e w3 ⟨rfl, hb3⟩; have HB3 := Lib.hid hb3; clear hb3)
          go_ret
          exact ⟨by rw [HWT.out, HF.out, HC.out]; rfl, HB.trans (((HB2.out.trans (HBE.out.mono HB2.out.size)).trans (((Below.refl _ _).alloc (Nat.le_refl _) _).trans (HB3.out.mono (by simp)) |>.mono (Nat.le_trans HB2.out.size HBE.out.size))).mono HS)⟩
        · have ht' : 0 ≤ T (rkIx (x, y, z)) := by omega
          go_wp2_with (go_at_call 42; refine (of_any (HRX.out.below ((Below.refl _ _).alloc (Nat.le_refl _) _)) (x, y, z) m1 m2 m3).mono ?_; rintro e w3 ⟨rfl, hb3⟩; have HB3 := Lib.hid hb3; clear hb3)
          go_roundw
          case rel =>
            refine ⟨k + 1, by omega, by go_num, Lib.hid (fun i p hi hp => ?_), HBE.out.trans (((Below.refl _ _).alloc (Nat.le_refl _) _).trans (HB3.out.mono (by simp)) |>.mono HBE.out.size)⟩
            rcases Nat.lt_succ_iff_lt_or_eq.1 hi with h | h
            · exact HALL.out i p h hp
            · subst h
              rw [HX.out] at hp
              cases hp
              exact ht'
          case measure => simp [intOf]; omega
      · have hke : k = L.length := by omega
        subst hke
        have HF := Lib.hid (allGe_yes HALL.out)
        go_wp2_with fail
        go_ret
        exact ⟨by rw [HWT.out, HF.out]; simp, HB.trans ((HB2.out.trans (hbel.mono HB2.out.size)).mono HS)⟩
  · have HC := Lib.hid hC
    clear hC
    go_enter Try.func47, Try.ntmps47
    go_wp2_with fail
    rw [← HW.out]
    clear HW
    go_wp2_with fail
    go_at_call 44
    refine (caughtR_any (p1, p2, p3) _).mono ?_
    rintro e w1 ⟨rfl, hb1⟩
    rw [HC.out]
    have HB1 := Lib.hid hb1
    clear hb1
    go_wp2_with fail
    go_ret
    exact ⟨by rw [HWT.out, HC.out]; rfl, HB.trans (HB1.out.mono HS)⟩

end Go.Proofs.Ytmkcnpphdghbaaa
