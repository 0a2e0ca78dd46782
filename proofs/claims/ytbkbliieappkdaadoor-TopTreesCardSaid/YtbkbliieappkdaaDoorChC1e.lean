/- The contracts of package chase's game: worst, best. -/
import Derived.Test.YtbkbliieappkdaaDoorChC1d
namespace Go.Proofs.YtbkbliieappkdaaDoor.Ch
set_option linter.unusedSimpArgs false
set_option linter.unusedVariables false
open Go.RowKit Go.Maps
attribute [local go_sem] i64_bit toNat_eq_one toNat_ne_one toNat_eq_zero toNat_ne_zero i64_and i64_or i64_andNot i64_or_pow i64_andNot_pow

theorem rankV_ge (F : Pl → Option Nat) (p : Pl) : -1 ≤ rankV F p := by
  unfold rankV
  cases F p with
  | none => simp
  | some v => simp only; omega
theorem rankV_lt (F : Pl → Option Nat) (p : Pl) (h : ∀ v, F p = some v → v < 65536) : rankV F p < 65536 := by
  unfold rankV
  cases hF : F p with
  | none => simp
  | some v => have := h v hF; simp; omega
theorem worstTo_ge (F : Pl → Option Nat) (ab : Nat × Nat) (c : Nat) : -1 ≤ worstTo F ab c := by
  induction c with
  | zero => simp [worstTo]
  | succ c ih => unfold worstTo; have := rankV_ge F (ab.1, ab.2, c); split <;> (try split) <;> omega
theorem worstTo_lt (F : Pl → Option Nat) (ab : Nat × Nat) (h : ∀ p v, F p = some v → v < 65536) (c : Nat) : worstTo F ab c < 65536 := by
  induction c with
  | zero => simp [worstTo]
  | succ c ih => unfold worstTo; have := rankV_lt F (ab.1, ab.2, c) (h _); split <;> (try split) <;> omega
theorem worstTo_stop (F : Pl → Option Nat) (ab : Nat × Nat) (c n : Nat) (hc : c < n) (h : rankV F (ab.1, ab.2, c) = -1) : worstTo F ab n = -1 := by
  induction n with
  | zero => omega
  | succ n ih =>
    unfold worstTo
    by_cases hcn : c = n
    · subst hcn; split
      · rfl
      · first | rfl | rw [if_pos h]
    · rw [if_pos (ih (by omega))]

set_option maxHeartbeats 2000000 in
theorem worst_any {w : World} {gp n b cb cc mb : Nat} {r : Nat → Nat} {C : List (Nat × Nat)} {F : Pl → Option Nat} (G : GameAt w gp n b cb cc mb r C F) (ab : Nat × Nat) (hab : ab.1 < n ∧ ab.2 < n) :
    Calls Tryd.prog 88 #[.pointer (some ⟨gp, 0, none⟩), pairV ab] w fun e w' => e = .returned (.int .i64 (worstTo F ab n)) ∧ Below w.heap.size w w' := by
  obtain ⟨a, b'⟩ := ab
  obtain ⟨ha, hb'⟩ := hab
  dsimp only at ha hb'
  obtain ⟨w0, hw0, R0, HB, hsz⟩ := new1 w 74 [.int .i64 a, .int .i64 b']
  have G0 := G.below HB
  obtain ⟨c0, c1, c2, c3, cr, hgp, hb, hn⟩ := G0.facts
  have d0 := R0.cell (i := 0) rfl
  have d1 := R0.cell (i := 1) rfl
  have HR0 := Lib.hid R0
  have HG := Lib.hid G0
  have c0' := c0
  rw [hw0] at c0'
  have HW := Lib.hid hw0
  clear hw0 R0 G0
  show Calls Tryd.prog 88 #[.pointer (some ⟨gp, 0, none⟩), .agg #[.int .i64 a, .int .i64 b']] w _
  go_enter Tryd.func88, Tryd.ntmps88
  go_wp2_with fail
  rw [← HW.out]
  clear HW c0'
  go_loopw [5, 13] (fun f i wr => ∃ k : Nat, k ≤ n ∧ i = .int .i64 k ∧ f = .int .i64 (worstTo F (a, b') k) ∧ 0 ≤ worstTo F (a, b') k ∧ Below w0.heap.size w0 wr) (fun _ i _ => n - (intOf i).toNat)
  case atStart => exact ⟨0, Nat.zero_le _, rfl, rfl, by simp [worstTo], Below.refl _ _⟩
  case round =>
    clear c0 c1 c2 c3 cr hgp hb d0 d1
    obtain ⟨k, hk, rfl, rfl, hge, hbel⟩ := hrel
    have hlw := worstTo_lt F (a, b') (fun p v h => (G.inF p v h).2.2.2) k
    have hst : worstTo F (a, b') (k + 1) = if worstTo F (a, b') k = -1 then -1 else if rankV F (a, b', k) = -1 then -1 else max (worstTo F (a, b') k) (rankV F (a, b', k)) := rfl
    have HST := Lib.hid hst
    clear hst
    have g1 := (HG.out.below hbel)
    have HG1 := Lib.hid g1
    obtain ⟨c0, c1, c2, c3, cr, hgp, hb, _⟩ := g1.facts
    have d0 := (HR0.out.below hbel HR0.out.lt).cell (i := 0) rfl
    have d1 := (HR0.out.below hbel HR0.out.lt).cell (i := 1) rfl
    have HBE := Lib.hid hbel
    clear hbel g1
    by_cases hlt : k < n
    · have hr1 := rankV_ge F (a, b', k)
      have hr2 := rankV_lt F (a, b', k) (fun v h => (G.inF _ v h).2.2.2)
      have hstop := worstTo_stop F (a, b') k n hlt
      have HSTOP := Lib.hid hstop
      clear hstop
      generalize hg : worstTo F (a, b') k = g at *
      have HGG := Lib.hid hg
      clear hg
      by_cases hq : rankV F (a, b', k) = -1
      · have hq1 : (rankV F (a, b', k) == -1) = true := by simp [hq]
        have HQ := Lib.hid hq
        clear hq
        go_wp2_with (first | (go_at_call 108; refine (at_any _ _ _ _).mono ?_; rintro e w1 ⟨rfl, hb1⟩; have HB1 := Lib.hid hb1; clear hb1) | (go_at_call 110; refine (rank_any (HG1.out.below HB1.out) (a, b', k) (by dsimp only; omega)).mono ?_; rintro e w2 ⟨rfl, hb2⟩; have HB2 := Lib.hid (HB1.out.trans (hb2.mono HB1.out.size)); clear hb2))
        go_ret
        exact ⟨by rw [HSTOP.out HQ.out]; rfl, HB.trans ((HBE.out.trans (HB2.out.mono HBE.out.size)).mono (by omega))⟩
      · have hq1 : (rankV F (a, b', k) == -1) = false := by simp [hq]
        have HQ := Lib.hid hq
        clear hq
        go_wp2_with (first | (go_at_call 108; refine (at_any _ _ _ _).mono ?_; rintro e w1 ⟨rfl, hb1⟩; have HB1 := Lib.hid hb1; clear hb1) | (go_at_call 110; refine (rank_any (HG1.out.below HB1.out) (a, b', k) (by dsimp only; omega)).mono ?_; rintro e w2 ⟨rfl, hb2⟩; have HB2 := Lib.hid (HB1.out.trans (hb2.mono HB1.out.size)); clear hb2))
        go_roundw
        case rel =>
          have hv : worstTo F (a, b') (k + 1) = max g (rankV F (a, b', k)) := by rw [HST.out, if_neg (by omega), if_neg HQ.out]
          refine ⟨k + 1, by omega, by go_num, ?_, by rw [hv]; omega, HBE.out.trans (HB2.out.mono HBE.out.size)⟩
          rw [hv]
          refine congrArg _ ?_
          split <;> omega
        case measure => simp [intOf]; omega
    · have : k = n := by omega
      subst this
      go_wp2_with fail
      go_ret
      exact ⟨rfl, HB.trans (HBE.out.mono (by omega))⟩

theorem bestTo_ge (n : Nat) (F : Pl → Option Nat) : ∀ (C : List (Nat × Nat)) (s : (Nat × Nat) × Int), -1 ≤ s.2 → -1 ≤ (bestTo n F C s).2
  | [], _, h => h
  | ab :: C, s, h => by
    unfold bestTo
    apply bestTo_ge n F C
    split
    · exact worstTo_ge F ab n
    · exact h

theorem bestTo_snoc (n : Nat) (F : Pl → Option Nat) (ab : Nat × Nat) : ∀ (C : List (Nat × Nat)) (s : (Nat × Nat) × Int),
    bestTo n F (C ++ [ab]) s = if worstTo F ab n ≠ -1 ∧ ((bestTo n F C s).2 = -1 ∨ worstTo F ab n < (bestTo n F C s).2) then (ab, worstTo F ab n) else bestTo n F C s
  | [], s => rfl
  | c :: C, s => by simp only [List.cons_append, bestTo]; exact bestTo_snoc n F ab C _
theorem bestTo_lt (n : Nat) (F : Pl → Option Nat) (h : ∀ p v, F p = some v → v < 65536) : ∀ (C : List (Nat × Nat)) (s : (Nat × Nat) × Int), s.2 < 65536 → (bestTo n F C s).2 < 65536
  | [], _, h => h
  | ab :: C, s, hs => by
    unfold bestTo
    apply bestTo_lt n F h C
    split
    · exact worstTo_lt F ab h n
    · exact hs

theorem take_snoc' {α : Type} (l : List α) (k : Nat) (x : α) (h : l[k]? = some x) : l.take (k + 1) = l.take k ++ [x] := by
  obtain ⟨h1, h2⟩ := List.getElem?_eq_some_iff.1 h
  rw [List.take_succ_eq_append_getElem h1, h2]

/-- What the loop of best leaves of a choice. -/
def BestEnd (n : Nat) (F : Pl → Option Nat) (C : List (Nat × Nat)) (w : World) (e : Ending) (w' : World) : Prop :=
  e = .returned (.tuple #[pairV (bestOf n F C).1, .int .i64 (bestOf n F C).2]) ∧ Below w.heap.size w w'

set_option maxHeartbeats 2000000 in
theorem best_any {w : World} {gp n b cb cc mb : Nat} {r : Nat → Nat} {C : List (Nat × Nat)} {F : Pl → Option Nat} (G : GameAt w gp n b cb cc mb r C F) :
    Calls Tryd.prog 58 #[.pointer (some ⟨gp, 0, none⟩)] w (BestEnd n F C w) := by
  obtain ⟨w0, hw0, R0, R1, HB, hsz⟩ := new2 w 74 74 [.int .i64 0, .int .i64 0] [.int .i64 0, .int .i64 0]
  have G0 := G.below HB
  obtain ⟨c0, c1, c2, c3, cr, hgp, hb, hn⟩ := G0.facts
  have hfew := G.few
  have HR0 := Lib.hid R0
  have HR1 := Lib.hid R1
  have HG := Lib.hid G0
  have c2' := c2
  rw [hw0] at c2'
  have HW := Lib.hid hw0
  clear hw0 R0 R1 G0
  go_enter Tryd.func58, Tryd.ntmps58
  go_wp2_with fail
  rw [← HW.out]
  clear HW c2'
  go_loopw [5, 15] (fun f i wr => ∃ k : Nat, k ≤ C.length ∧ i = .int .i64 k ∧ f = .int .i64 (bestTo n F (C.take k) ((0, 0), -1)).2 ∧ Below w.heap.size w wr ∧ w.heap.size + 1 < wr.heap.size ∧ Row wr w.heap.size 74 [.int .i64 0, .int .i64 0] ∧
      Row wr (w.heap.size + 1) 74 [.int .i64 (bestTo n F (C.take k) ((0, 0), -1)).1.1, .int .i64 (bestTo n F (C.take k) ((0, 0), -1)).1.2]) (fun _ i _ => C.length - (intOf i).toNat)
  case atStart => exact ⟨0, Nat.zero_le _, rfl, rfl, HB, hsz, HR0.out, HR1.out⟩
  case round =>
    clear c0 c1 c2 c3 cr hgp hb HR0 HR1 HG HB hsz w0
    obtain ⟨k, hk, rfl, rfl, hbel, hsz, r0, r1⟩ := hrel
    have HR0 := Lib.hid r0
    have HR1 := Lib.hid r1
    have HBE := Lib.hid hbel
    clear r0 r1 hbel
    have hge := bestTo_ge n F (C.take k) ((0, 0), -1) (by decide)
    have hlt2 := bestTo_lt n F (fun p v h => (G.inF p v h).2.2.2) (C.take k) ((0, 0), -1) (by decide)
    by_cases hlt : k < C.length
    · obtain ⟨ab, hab⟩ : ∃ ab, C[k]? = some ab := ⟨C[k], by simp [hlt]⟩
      obtain ⟨x, y⟩ := ab
      have hin := G.inC (x, y) (List.mem_of_getElem? hab)
      dsimp only at hin
      obtain ⟨hx, hy⟩ := hin
      have hcell := (G.below HBE.out).ch k (x, y) hab
      dsimp only at hcell
      obtain ⟨e0, e1⟩ := hcell
      have hst := bestTo_snoc n F (x, y) (C.take k) ((0, 0), -1)
      rw [← take_snoc' C k (x, y) hab] at hst
      have HST := Lib.hid hst
      clear hst hab
      have hw1 := worstTo_ge F (x, y) n
      have hw2 := worstTo_lt F (x, y) (fun p v h => (G.inF p v h).2.2.2) n
      generalize bestTo n F (C.take k) ((0, 0), -1) = s at *
      obtain ⟨⟨s1, s2⟩, sv⟩ := s
      dsimp only at hge hlt2
      by_cases q : worstTo F (x, y) n ≠ -1 ∧ (sv = -1 ∨ worstTo F (x, y) n < sv)
      · have p1 : (worstTo F (x, y) n != -1) = true := by simp [q.1]
        by_cases q2 : sv = -1
        · have p2 : (sv == -1) = true := by simp [q2]
          have HQ2 := Lib.hid q2
          clear q2
          have HQ := Lib.hid q
          clear q
          go_wp2_with (go_at_call 88; refine (worst_any (G.below (HBE.out.alloc (by omega) _)) (x, y) (by omega)).mono ?_; rintro e w2 ⟨rfl, hb2⟩; have HB2 := Lib.hid hb2; have t0 := ((Row.new wr 74 [.int .i64 x, .int .i64 y]).below hb2 (by simp)).cell (i := 0) rfl; have t1 := ((Row.new wr 74 [.int .i64 x, .int .i64 y]).below hb2 (by simp)).cell (i := 1) rfl; have r1 := (HR1.out.alloc _).below hb2 (HR1.out.alloc _).lt; have q0 := r1.cell (i := 0) rfl; have q1 := r1.cell (i := 1) rfl; have f0 := r1.free 0; have f1 := r1.free 1; clear hb2 r1)
          go_roundw
          case rel =>
            have B2 := (HBE.out.alloc (by omega) (.cells #[.int .i64 x, .int .i64 y] 74)).trans (HB2.out.mono (by simp; omega))
            have hsz2 := HB2.out.size
            simp at hsz2
            refine ⟨k + 1, by omega, by go_num, by rw [HST.out, if_pos HQ.out], (B2.setCell (by simp) _).setCell (by simp) _, by simp [World.setCell]; omega, ?_, ?_⟩
            · exact ((((HR0.out.alloc _).below HB2.out (HR0.out.alloc _).lt).other (by simp) _).other (by simp) _)
            · rw [HST.out, if_pos HQ.out]
              exact ((((HR1.out.alloc _).below HB2.out (HR1.out.alloc _).lt).set 0 _).set 1 _)
          case measure => simp [intOf]; omega
        · have p2 : (sv == -1) = false := by simp [q2]
          have p3 : worstTo F (x, y) n < sv := q.2.resolve_left q2
          have HQ2 := Lib.hid q2
          clear q2
          have HQ := Lib.hid q
          clear q
          go_wp2_with (go_at_call 88; refine (worst_any (G.below (HBE.out.alloc (by omega) _)) (x, y) (by omega)).mono ?_; rintro e w2 ⟨rfl, hb2⟩; have HB2 := Lib.hid hb2; have t0 := ((Row.new wr 74 [.int .i64 x, .int .i64 y]).below hb2 (by simp)).cell (i := 0) rfl; have t1 := ((Row.new wr 74 [.int .i64 x, .int .i64 y]).below hb2 (by simp)).cell (i := 1) rfl; have r1 := (HR1.out.alloc _).below hb2 (HR1.out.alloc _).lt; have q0 := r1.cell (i := 0) rfl; have q1 := r1.cell (i := 1) rfl; have f0 := r1.free 0; have f1 := r1.free 1; clear hb2 r1)
          go_roundw
          case rel =>
            have B2 := (HBE.out.alloc (by omega) (.cells #[.int .i64 x, .int .i64 y] 74)).trans (HB2.out.mono (by simp; omega))
            have hsz2 := HB2.out.size
            simp at hsz2
            refine ⟨k + 1, by omega, by go_num, by rw [HST.out, if_pos HQ.out], (B2.setCell (by simp) _).setCell (by simp) _, by simp [World.setCell]; omega, ?_, ?_⟩
            · exact ((((HR0.out.alloc _).below HB2.out (HR0.out.alloc _).lt).other (by simp) _).other (by simp) _)
            · rw [HST.out, if_pos HQ.out]
              exact ((((HR1.out.alloc _).below HB2.out (HR1.out.alloc _).lt).set 0 _).set 1 _)
          case measure => simp [intOf]; omega
      · by_cases q1 : worstTo F (x, y) n = -1
        · have p1 : (worstTo F (x, y) n != -1) = false := by simp [q1]
          have HQ1 := Lib.hid q1
          clear q1
          have HQ := Lib.hid q
          clear q
          go_wp2_with (go_at_call 88; refine (worst_any (G.below (HBE.out.alloc (by omega) _)) (x, y) (by omega)).mono ?_; rintro e w2 ⟨rfl, hb2⟩; have HB2 := Lib.hid hb2; have t0 := ((Row.new wr 74 [.int .i64 x, .int .i64 y]).below hb2 (by simp)).cell (i := 0) rfl; have t1 := ((Row.new wr 74 [.int .i64 x, .int .i64 y]).below hb2 (by simp)).cell (i := 1) rfl; have r1 := (HR1.out.alloc _).below hb2 (HR1.out.alloc _).lt; have q0 := r1.cell (i := 0) rfl; have q1 := r1.cell (i := 1) rfl; have f0 := r1.free 0; have f1 := r1.free 1; clear hb2 r1)
          go_roundw
          case rel =>
            have B2 := (HBE.out.alloc (by omega) (.cells #[.int .i64 x, .int .i64 y] 74)).trans (HB2.out.mono (by simp; omega))
            have hsz2 := HB2.out.size
            simp at hsz2
            refine ⟨k + 1, by omega, by go_num, by rw [HST.out, if_neg HQ.out], B2, by omega, (HR0.out.alloc _).below HB2.out (HR0.out.alloc _).lt, ?_⟩
            rw [HST.out, if_neg HQ.out]
            exact (HR1.out.alloc _).below HB2.out (HR1.out.alloc _).lt
          case measure => simp [intOf]; omega
        · have p1 : (worstTo F (x, y) n != -1) = true := by simp [q1]
          have q2 : ¬ sv = -1 := fun h => q ⟨q1, Or.inl h⟩
          have p2 : (sv == -1) = false := by simp [q2]
          have p3 : ¬ worstTo F (x, y) n < sv := fun h => q ⟨q1, Or.inr h⟩
          have HQ1 := Lib.hid q1
          have HQ2 := Lib.hid q2
          clear q1 q2
          have HQ := Lib.hid q
          clear q
          go_wp2_with (go_at_call 88; refine (worst_any (G.below (HBE.out.alloc (by omega) _)) (x, y) (by omega)).mono ?_; rintro e w2 ⟨rfl, hb2⟩; have HB2 := Lib.hid hb2; have t0 := ((Row.new wr 74 [.int .i64 x, .int .i64 y]).below hb2 (by simp)).cell (i := 0) rfl; have t1 := ((Row.new wr 74 [.int .i64 x, .int .i64 y]).below hb2 (by simp)).cell (i := 1) rfl; have r1 := (HR1.out.alloc _).below hb2 (HR1.out.alloc _).lt; have q0 := r1.cell (i := 0) rfl; have q1 := r1.cell (i := 1) rfl; have f0 := r1.free 0; have f1 := r1.free 1; clear hb2 r1)
          go_roundw
          case rel =>
            have B2 := (HBE.out.alloc (by omega) (.cells #[.int .i64 x, .int .i64 y] 74)).trans (HB2.out.mono (by simp; omega))
            have hsz2 := HB2.out.size
            simp at hsz2
            refine ⟨k + 1, by omega, by go_num, by rw [HST.out, if_neg HQ.out], B2, by omega, (HR0.out.alloc _).below HB2.out (HR0.out.alloc _).lt, ?_⟩
            rw [HST.out, if_neg HQ.out]
            exact (HR1.out.alloc _).below HB2.out (HR1.out.alloc _).lt
          case measure => simp [intOf]; omega
    · have : k = C.length := by omega
      subst this
      have q0 := HR0.out.cell (i := 0) rfl
      have q1 := HR0.out.cell (i := 1) rfl
      have f0 := HR0.out.free 0
      have f1 := HR0.out.free 1
      have t0 := HR1.out.cell (i := 0) rfl
      have t1 := HR1.out.cell (i := 1) rfl
      have hbo : bestOf n F C = bestTo n F (C.take C.length) ((0, 0), -1) := by rw [List.take_length]; rfl
      have HBO := Lib.hid hbo
      clear hbo
      generalize bestTo n F (C.take C.length) ((0, 0), -1) = s at *
      obtain ⟨⟨s1, s2⟩, sv⟩ := s
      dsimp only at t0 t1
      go_wp2_with fail
      refine bodyPost_ret (v := .tuple #[pairV (s1, s2), .int .i64 sv]) (by simp [results, Tryd.results58, go_sem, q0, q1]) rfl ?_
      refine ⟨by rw [HBO.out], (HBE.out.setCell (by simp) _).setCell (by simp) _⟩

end Go.Proofs.YtbkbliieappkdaaDoor.Ch
