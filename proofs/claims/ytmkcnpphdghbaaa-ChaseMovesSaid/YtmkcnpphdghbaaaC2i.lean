/- The contracts of the program's bestMove, Rank and Move. -/
import Derived.Test.YtmkcnpphdghbaaaC2h
namespace Go.Proofs.Ytmkcnpphdghbaaa
set_option linter.unusedSimpArgs false
set_option linter.unusedVariables false
open Go.RowKit Go.Maps
attribute [local go_sem] i64_bit toNat_eq_one toNat_ne_one toNat_eq_zero toNat_ne_zero i64_and i64_or i64_andNot i64_or_pow i64_andNot_pow

def mvF (n : Nat) (r : Nat → Nat) (F : Pl → Option Nat) (p : Pl) (t : Nat × Nat) : Bool := canM r (p.1, p.2.1) t && winF n r F p t
/-- The first best move from a Place that is not caught. -/
def bestMv (n : Nat) (r : Nat → Nat) (F : Pl → Option Nat) (C : List (Nat × Nat)) (p : Pl) : Option (Nat × Nat) := if ctchB p then none else C.find? (mvF n r F p)

theorem find_no {α : Type} {p : α → Bool} {l : List α} (h : ∀ i x, i < l.length → l[i]? = some x → p x = false) : l.find? p = none := by
  rw [List.find?_eq_none]
  intro x hx hp
  obtain ⟨i, hi⟩ := List.mem_iff_getElem?.1 hx
  rw [h i x (List.getElem?_eq_some_iff.1 hi).1 hi] at hp
  cases hp
theorem find_at {α : Type} {p : α → Bool} : ∀ {l : List α} {k : Nat} {x : α}, l[k]? = some x → p x = true → (∀ i y, i < k → l[i]? = some y → p y = false) → l.find? p = some x
  | [], k, x, h, _, _ => by simp at h
  | a :: l, 0, x, h, hp, _ => by
    simp at h
    subst h
    rw [List.find?_cons_of_pos hp]
  | a :: l, k + 1, x, h, hp, hn => by
    rw [List.find?_cons_of_neg (by rw [hn 0 a (by omega) (by simp)]; simp)]
    exact find_at (by simpa using h) hp (fun i y hi hy => hn (i + 1) y (by omega) (by simpa using hy))

/-- What bestMove returns. -/
def BestPost (m : Option (Nat × Nat)) (w : World) (e : Ending) (w' : World) : Prop :=
  Below w.heap.size w w' ∧ (m = none → e = .returned (.tuple #[.agg #[.int .i64 0, .int .i64 0], .bool false])) ∧ (∀ t, m = some t → e = .returned (.tuple #[pairV t, .bool true]))

set_option maxRecDepth 20000 in
set_option maxHeartbeats 2000000 in
theorem bestMove_any {w : World} {gp n b cb cc mb : Nat} {r : Nat → Nat} {C : List (Nat × Nat)} {F : Pl → Option Nat} (G : GameAt w gp n b cb cc mb r C F) (p : Pl) (h1 : p.1 < n) (h2 : p.2.1 < n) (h3 : p.2.2 < n) :
    Calls Try.prog 40 #[.pointer (some ⟨gp, 0, none⟩), encPl p] w (BestPost (bestMv n r F C p) w) := by
  obtain ⟨p1, p2, p3⟩ := p
  dsimp only at h1 h2 h3
  obtain ⟨w0, hw0, R0, R1, HB, hsz⟩ := new2 w 30 32 [.int .i64 p1, .int .i64 p2, .int .i64 p3] [.int .i64 0, .int .i64 0]
  have hn := G.town.small
  have hfew := G.few
  have HG := Lib.hid (G.below HB)
  have HW := Lib.hid hw0
  have HR0 := Lib.hid R0
  have HR1 := Lib.hid R1
  have HS : w.heap.size ≤ w0.heap.size := by omega
  have HBW := Lib.hid HB
  have d0 := R0.cell (i := 0) rfl
  have d1 := R0.cell (i := 1) rfl
  have d2 := R0.cell (i := 2) rfl
  clear hw0 R0 R1 HB
  show Calls Try.prog 40 #[.pointer (some ⟨gp, 0, none⟩), .agg #[.int .i64 p1, .int .i64 p2, .int .i64 p3]] w _
  cases hC : ctchB (p1, p2, p3)
  · have HC := Lib.hid hC
    have HBM : Hid (bestMv n r F C (p1, p2, p3) = C.find? (mvF n r F (p1, p2, p3))) := Lib.hid (by unfold bestMv; rw [hC]; rfl)
    clear hC
    go_enter Try.func40, Try.ntmps40
    go_wp2_with fail
    rw [← HW.out]
    clear HW
    go_wp2_with fail
    go_at_call 61
    refine (caught_any (p1, p2, p3) _).mono ?_
    rintro e w1 ⟨rfl, hb1⟩
    rw [HC.out]
    have HB1 := Lib.hid hb1
    obtain ⟨c0, c1, c2, c3, _, hgp, hb, _⟩ := (HG.out.below hb1).facts
    clear hb1 d0 d1 d2
    go_wp2_with fail
    go_loopw [16] (fun i wr => ∃ k : Nat, k ≤ C.length ∧ i = .int .i64 k ∧ Hid (∀ i t, i < k → C[i]? = some t → mvF n r F (p1, p2, p3) t = false) ∧ Below w0.heap.size w0 wr) (fun i _ => C.length - (intOf i).toNat)
    case atStart => exact ⟨0, Nat.zero_le _, rfl, Lib.hid (by omega), HB1.out⟩
    case round =>
      clear c0 c1 c2 c3 hgp hb
      obtain ⟨k, hk, rfl, HALL, hbel⟩ := hrel
      have HBE := Lib.hid hbel
      have g1 := HG.out.below hbel
      have HG1 := Lib.hid g1
      have r0 := HR0.out.below hbel HR0.out.lt
      have r1 := HR1.out.below hbel HR1.out.lt
      have HR0x := Lib.hid r0
      have HR1x := Lib.hid r1
      have d0 := r0.cell (i := 0) rfl
      have d1 := r0.cell (i := 1) rfl
      have d2 := r0.cell (i := 2) rfl
      have f0 := r1.free 0
      have f1 := r1.free 1
      have q0 := r1.cell (i := 0) rfl
      have q1 := r1.cell (i := 1) rfl
      have hl1 := r1.lt
      have hl0 := r0.lt
      clear hbel r0 r1
      by_cases hlt : k < C.length
      · obtain ⟨⟨x, y⟩, hxy⟩ : ∃ t, C[k]? = some t := ⟨C[k], by simp [hlt]⟩
        obtain ⟨hx, hy⟩ := g1.inC _ (List.mem_of_getElem? hxy)
        obtain ⟨e0, e1⟩ := g1.ch k _ hxy
        dsimp only at hx hy e0 e1
        have HX := Lib.hid hxy
        have HMV : Hid (mvF n r F (p1, p2, p3) (x, y) = (canM r (p1, p2) (x, y) && winF n r F (p1, p2, p3) (x, y))) := Lib.hid rfl
        clear g1 hxy
        cases hM : canM r (p1, p2) (x, y)
        · have HM := Lib.hid hM
          have HF : Hid (mvF n r F (p1, p2, p3) (x, y) = false) := Lib.hid (by rw [HMV.out, hM]; rfl)
          clear hM
          go_wp2_with fail
          go_at_call 62
          refine (canMove_any (HG1.out.below ((Below.refl _ _).alloc (Nat.le_refl _) _)) (p1, p2) (x, y) ⟨h1, h2⟩ ⟨hx, hy⟩).mono ?_
          rintro e w3 ⟨rfl, hb3⟩
          rw [HM.out]
          have HB3 := Lib.hid (((Below.refl wr.heap.size wr).alloc (Nat.le_refl _) _).trans (hb3.mono (by simp)))
          clear hb3
          go_wp2_with fail
          go_roundw
          case rel =>
            refine ⟨k + 1, by omega, by go_num, Lib.hid (fun i t hi ht => ?_), HBE.out.trans (HB3.out.mono HBE.out.size)⟩
            rcases Nat.lt_succ_iff_lt_or_eq.1 hi with h | h
            · exact HALL.out i t h ht
            · subst h
              rw [HX.out] at ht
              cases ht
              exact HF.out
          case measure => simp [intOf]; omega
        · have HM := Lib.hid hM
          clear hM
          cases hN : winF n r F (p1, p2, p3) (x, y)
          all_goals
            have HN := Lib.hid hN
            have HF : Hid (mvF n r F (p1, p2, p3) (x, y) = winF n r F (p1, p2, p3) (x, y)) := Lib.hid (by rw [HMV.out, HM.out]; rfl)
            clear hN
            go_wp2_with fail
            go_at_call 62
            refine (canMove_any (HG1.out.below ((Below.refl _ _).alloc (Nat.le_refl _) _)) (p1, p2) (x, y) ⟨h1, h2⟩ ⟨hx, hy⟩).mono ?_
            rintro e w3 ⟨rfl, hb3⟩
            rw [HM.out]
            have HB3 := Lib.hid (((Below.refl wr.heap.size wr).alloc (Nat.le_refl _) _).trans (hb3.mono (by simp)))
            have rr := (Row.new wr 32 [.int .i64 x, .int .i64 y]).below hb3 (by simp)
            have HRR := Lib.hid rr
            have u0 := rr.cell (i := 0) rfl
            have u1 := rr.cell (i := 1) rfl
            have r0 := HR0x.out.below HB3.out HR0x.out.lt
            have HR03 := Lib.hid r0
            clear d0 d1 d2 hb3 rr
            have d0 := r0.cell (i := 0) rfl
            have d1 := r0.cell (i := 1) rfl
            have d2 := r0.cell (i := 2) rfl
            clear r0
            go_wp2_with fail
            go_at_call 63
            refine (winsP_any (HG1.out.below HB3.out) (p1, p2, p3) (x, y) h1 h2 h3 ⟨hx, hy⟩).mono ?_
            rintro e w4 ⟨rfl, hb4⟩
            rw [HN.out]
            have HB4 := Lib.hid (HB3.out.trans (hb4.mono HB3.out.size))
            have rr := HRR.out.below hb4 HRR.out.lt
            have r1 := HR1x.out.below HB4.out HR1x.out.lt
            clear u0 u1 d0 d1 d2 q0 q1 f0 f1 hb4
            have u0 := rr.cell (i := 0) rfl
            have u1 := rr.cell (i := 1) rfl
            have q0 := r1.cell (i := 0) rfl
            have q1 := r1.cell (i := 1) rfl
            have f0 := r1.free 0
            have f1 := r1.free 1
            have hl4 := r1.lt
            clear rr r1
            go_wp2_with fail
            first
              | (go_roundw
                 case rel =>
                   refine ⟨k + 1, by omega, by go_num, Lib.hid (fun i t hi ht => ?_), HBE.out.trans (HB4.out.mono HBE.out.size)⟩
                   rcases Nat.lt_succ_iff_lt_or_eq.1 hi with h | h
                   · exact HALL.out i t h ht
                   · subst h
                     rw [HX.out] at ht
                     cases ht
                     rw [HF.out, HN.out]
                 case measure => simp [intOf]; omega)
              | (refine bodyPost_ret (v := .tuple #[.agg #[.int .i64 x, .int .i64 y], .bool true]) (by simp [results, Try.results40, go_sem, hl4, q0, q1]) rfl ?_
                 have hfn : bestMv n r F C (p1, p2, p3) = some (x, y) := by rw [HBM.out]; exact find_at HX.out (by rw [HF.out, HN.out]) HALL.out
                 exact ⟨((HBW.out.trans ((HBE.out.trans (HB4.out.mono HBE.out.size)).mono HS)).setCell (by simp) _).setCell (by simp) _, fun h => by (rw [hfn] at h; cases h), fun t h => by (rw [hfn] at h; cases h; rfl)⟩)
      · have hke : k = C.length := by omega
        subst hke
        have HN : Hid (bestMv n r F C (p1, p2, p3) = none) := Lib.hid (by rw [HBM.out]; exact find_no HALL.out)
        clear g1
        go_wp2_with fail
        refine bodyPost_ret (v := .tuple #[.agg #[.int .i64 0, .int .i64 0], .bool false]) (by simp [results, Try.results40, go_sem, hl1, q0, q1]) rfl ?_
        exact ⟨((HBW.out.trans (HBE.out.mono HS)).setCell (by simp) _).setCell (by simp) _, fun _ => rfl, fun t h => by (rw [HN.out] at h; cases h)⟩
  · have HC := Lib.hid hC
    have HBM : Hid (bestMv n r F C (p1, p2, p3) = none) := Lib.hid (by unfold bestMv; rw [hC]; rfl)
    clear hC
    go_enter Try.func40, Try.ntmps40
    go_wp2_with fail
    rw [← HW.out]
    clear HW
    go_wp2_with fail
    go_at_call 61
    refine (caught_any (p1, p2, p3) _).mono ?_
    rintro e w1 ⟨rfl, hb1⟩
    rw [HC.out]
    have HB1 := Lib.hid hb1
    have r1 := HR1.out.below hb1 HR1.out.lt
    have f0 := r1.free 0
    have f1 := r1.free 1
    have q0 := r1.cell (i := 0) rfl
    have q1 := r1.cell (i := 1) rfl
    have hl1 := r1.lt
    clear hb1 d0 d1 d2 r1
    go_wp2_with fail
    refine bodyPost_ret (v := .tuple #[.agg #[.int .i64 0, .int .i64 0], .bool false]) (by simp [results, Try.results40, go_sem, hl1, q0, q1]) rfl ?_
    exact ⟨((HBW.out.trans (HB1.out.mono HS)).setCell (by simp) _).setCell (by simp) _, fun _ => rfl, fun t h => by (rw [HBM.out] at h; cases h)⟩

end Go.Proofs.Ytmkcnpphdghbaaa
