/- The contracts of the reference's reach, moves, flees and places. -/
import Derived.Test.YtmkcnpphdghbaaaC2a
import Derived.Deep.CutRange
namespace Go.Proofs.Ytmkcnpphdghbaaa
set_option linter.unusedSimpArgs false
set_option linter.unusedVariables false
open Go.RowKit Go.Maps
attribute [local go_sem] i64_bit toNat_eq_one toNat_ne_one toNat_eq_zero toNat_ne_zero i64_and i64_or i64_andNot i64_or_pow i64_andNot_pow

theorem info_pl : (Try.prog.info? 25).map (fun i => (i.zero, i.size, i.bytes)) = some (some (.agg #[.int .i64 0, .int .i64 0, .int .i64 0]), 3, 24) := by kernel_rfl
def PlsOwn (w : World) (base : Nat) (v : Value) (L : List Pl) : Prop := w.ownsRow base 25 3 v L.length (plCells L)

theorem PlsOwn.snoc {w : World} {base : Nat} {v : Value} {L : List Pl} {a b c : Nat} (h : w.ownsRow base 25 3 v (L.length + 1) (plCells L ++ [.int .i64 a, .int .i64 b, .int .i64 c])) : PlsOwn w base v (L ++ [(a, b, c)]) := by
  unfold PlsOwn
  rw [plCells_snoc, List.length_append, List.length_singleton]
  exact h

/-- The reach of a node out of its neighbours. -/
def rch (g : Nat → Nat) (v : Nat) : Nat := g v ||| 2 ^ v
theorem rch_lt {g : Nat → Nat} {v : Nat} (h : g v < 65536) (hv : v < 16) : rch g v < 65536 := or_lt h (pow_lt16 hv)

set_option maxRecDepth 20000 in
set_option maxHeartbeats 1000000 in
theorem reach_q {n : Nat} {g : Nat → Nat} {a : Option Addr} {w : World} (G : GrAt w a n g) (cap v : Nat) (hv : v < n) :
    Calls Try.prog 64 #[.slice a n cap, .int .i64 v] w fun e w' => e = .returned (.int .i64 (rch g v)) ∧ ∃ m, w' = w.drewN m := by
  obtain ⟨hml, hI⟩ := G.ints
  obtain ⟨b, off, rfl, hlt, hc⟩ := hI G.pos
  have hn := G.small
  have hb := G.bd v hv
  have cv := hc v hv
  have hv16 : v < 16 := by omega
  have hpv := pow_bd v hv16
  have w1 : IntKind.i64.wrap ((2 : Int) ^ v) = 2 ^ v := IntWalk.i64_in _ (by omega)
  have w2 : wrap64 ((2 : Int) ^ v) = 2 ^ v := IntWalk.wrap64_in _ (by omega)
  clear hc hI
  unfold maxLen at hml
  go_enter Try.func64, Try.ntmps64
  go_wp2_with fail
  go_quiet (fail)
  go_wp2_with fail
  go_ret
  exact ⟨rfl, _, rfl⟩

theorem GrAt.drewN {w : World} {a : Option Addr} {n : Nat} {g : Nat → Nat} (h : GrAt w a n g) (m : Nat) : GrAt (w.drewN m) a n g := h.below (below_drewN (Below.refl _ _) m)

/-! ### moves -/

def mvT (r : Nat → Nat) (k : Nat) (f : Nat × Nat) (a i : Nat) : Bool := canM r f (a, a + i) && (k == 2 || i == 0)
def mvRow (r : Nat → Nat) (k : Nat) (f : Nat × Nat) (c a : Nat) : Nat → List Pl
  | 0 => []
  | i + 1 => if mvT r k f a i then mvRow r k f c a i ++ [(a, a + i, c)] else mvRow r k f c a i
def mvTo (r : Nat → Nat) (n k : Nat) (f : Nat × Nat) (c : Nat) : Nat → List Pl
  | 0 => []
  | a + 1 => mvTo r n k f c a ++ mvRow r k f c a (n - a)
theorem mvRow_len (r : Nat → Nat) (k : Nat) (f : Nat × Nat) (c a i : Nat) : (mvRow r k f c a i).length ≤ i := by
  induction i with
  | zero => simp [mvRow]
  | succ i ih => unfold mvRow; split <;> first | (simp; omega) | omega
theorem mvTo_len (r : Nat → Nat) (n k : Nat) (f : Nat × Nat) (c : Nat) (hn : n < 16) (a : Nat) : (mvTo r n k f c a).length ≤ a * 16 := by
  induction a with
  | zero => simp [mvTo]
  | succ a ih => have := mvRow_len r k f c a (n - a); simp [mvTo]; omega

set_option maxRecDepth 20000 in
set_option maxHeartbeats 1000000 in
theorem moves_any {n : Nat} {g : Nat → Nat} {a : Option Addr} {w : World} (G : GrAt w a n g) (cap k : Nat) (kI : Int) (hk : kI = 1 ∧ k = 1 ∨ kI = 2 ∧ k = 2) (p : Pl) (h1 : p.1 < n) (h2 : p.2.1 < n) (h3 : p.2.2 < n) :
    Calls Try.prog 43 #[.slice a n cap, .int .i64 kI, encPl p] w fun e w' => (∃ v, e = .returned v ∧ PlsOwn w' w.heap.size v (mvTo (rch g) n k (p.1, p.2.1) p.2.2 n)) ∧ Below w.heap.size w w' := by
  obtain ⟨i0, hi0, hz1, hz2, hz3⟩ := info_parts info_pl
  obtain ⟨p1, p2, p3⟩ := p
  dsimp only at h1 h2 h3 ⊢
  have hn := G.small
  have hml := G.ints.1
  unfold maxLen at hml
  have hx := rch_lt (G.bd p1 h1) (by omega)
  have hy := rch_lt (G.bd p2 h2) (by omega)
  obtain ⟨w0, hw0, R0, HB, hsz⟩ := new1 w 25 [.int .i64 p1, .int .i64 p2, .int .i64 p3]
  have HG := Lib.hid (G.below HB)
  have HR0 := Lib.hid R0
  have HW := Lib.hid hw0
  have HS : w.heap.size ≤ w0.heap.size := by omega
  clear hw0 R0
  show Calls Try.prog 43 #[.slice a n cap, .int .i64 kI, .agg #[.int .i64 p1, .int .i64 p2, .int .i64 p3]] w _
  go_enter Try.func43, Try.ntmps43
  go_wp2_with fail
  rw [← HW.out]
  clear HW
  go_loopw [7, 14] (fun v i wr => ∃ a : Nat, a ≤ n ∧ i = .int .i64 a ∧ PlsOwn wr w0.heap.size v (mvTo (rch g) n k (p1, p2) p3 a) ∧ Below w0.heap.size w0 wr) (fun _ i _ => n - (intOf i).toNat)
  case atStart => exact ⟨0, Nat.zero_le _, rfl, ⟨rfl, Or.inl ⟨rfl, rfl⟩⟩, Below.refl _ _⟩
  case round =>
    obtain ⟨a, ha, rfl, hown, hbel⟩ := hrel
    have HO := Lib.hid hown
    have HBE := Lib.hid hbel
    clear hown hbel
    by_cases hlt : a < n
    · have HST : Hid (mvTo (rch g) n k (p1, p2) p3 (a + 1) = mvTo (rch g) n k (p1, p2) p3 a ++ mvRow (rch g) k (p1, p2) p3 a (n - a)) := Lib.hid rfl
      have hll := mvTo_len (rch g) n k (p1, p2) p3 hn a
      generalize mvTo (rch g) n k (p1, p2) p3 a = L at *
      go_wp2_with fail
      go_loopw [7, 9] (fun v i wx => ∃ j b : Nat, a + j ≤ n ∧ Hid (b = a + j) ∧ b ≤ n ∧ i = .int .i64 b ∧ PlsOwn wx w0.heap.size v (L ++ mvRow (rch g) k (p1, p2) p3 a j) ∧ Below w0.heap.size w0 wx) (fun _ i _ => n - (intOf i).toNat)
      case atStart => exact ⟨0, a, by omega, Lib.hid rfl, ha, rfl, by simpa [mvRow] using HO.out, HBE.out⟩
      case round =>
        clear HO HBE
        obtain ⟨j, b, hj, hbj, hbn, rfl, hown, hbel⟩ := hrel
        have HO := Lib.hid hown
        have r1 := HR0.out.below hbel HR0.out.lt
        have d0 := r1.cell (i := 0) rfl
        have d1 := r1.cell (i := 1) rfl
        have d2 := r1.cell (i := 2) rfl
        have d3 := r1.lt
        have HBE := Lib.hid hbel
        have HGX := Lib.hid (HG.out.below hbel)
        have hsz := hbel.size
        have hrl := mvRow_len (rch g) k (p1, p2) p3 a j
        have HLN : Hid ((L ++ mvRow (rch g) k (p1, p2) p3 a j).length = L.length + (mvRow (rch g) k (p1, p2) p3 a j).length) := Lib.hid (by simp)
        have HRS : Hid (mvRow (rch g) k (p1, p2) p3 a (j + 1) = if mvT (rch g) k (p1, p2) a j then mvRow (rch g) k (p1, p2) p3 a j ++ [(a, a + j, p3)] else mvRow (rch g) k (p1, p2) p3 a j) := Lib.hid rfl
        have HT : Hid (mvT (rch g) k (p1, p2) a j = (((rch g p1).testBit a && (rch g p2).testBit b || (rch g p1).testBit b && (rch g p2).testBit a) && (k == 2 || j == 0))) := Lib.hid (by rw [hbj.out]; rfl)
        generalize hM : mvRow (rch g) k (p1, p2) p3 a j = M at *
        have HM := Lib.hid hM
        clear hown hbel r1 hM
        have hLM : (L ++ M).length ≤ 4096 := by rw [HLN.out]; omega
        by_cases hlb : b < n
        · have hb64 : b < 64 := by omega
          have ha64 : a < 64 := by omega
          go_wp2_with fail
          go_quiet ((go_at_call 64; exact Calls.quiet_of (reach_q (HGX.out.drewN _) cap _ (by assumption))))
          generalize hX : rch g p1 = x at *
          generalize hY : rch g p2 = y at *
          clear hX hY
          go_upto_region 9 with fail
          go_cut [66] from 18 to 74 (fun s wy => s = .bool (mvT (rch g) k (p1, p2) a j) ∧ wy = wr.drewN nq)
          case first =>
            rcases hk with ⟨rfl, rfl⟩ | ⟨rfl, rfl⟩
            · by_cases hj0 : j = 0
              all_goals
                have hab : ((a : Int) == (b : Int)) = decide (j = 0) := by rw [cast_beq, Bool.eq_iff_iff]; have := hbj.out; simp; omega
                have HJ := Lib.hid hj0
                simp only [hj0, decide_true, decide_false] at hab
                clear hj0
                cases q1 : x.testBit a <;> cases q2 : y.testBit b <;> cases q3 : x.testBit b <;> cases q4 : y.testBit a
                all_goals
                  go_wp2_with fail
                  go_meet
                  exact ⟨by rw [HT.out]; simp [q1, q2, q3, q4, HJ.out], rfl⟩
            · cases q1 : x.testBit a <;> cases q2 : y.testBit b <;> cases q3 : x.testBit b <;> cases q4 : y.testBit a
              all_goals
                go_wp2_with fail
                go_meet
                exact ⟨by rw [HT.out]; simp [q1, q2, q3, q4], rfl⟩
          case rest =>
            obtain ⟨rfl, rfl⟩ := hcut
            have HO2 := Lib.hid (show PlsOwn (wr.drewN nq) w0.heap.size _ (L ++ M) from HO.out)
            have HB2 : Hid (Below w0.heap.size w0 (wr.drewN nq)) := Lib.hid (below_drewN HBE.out nq)
            cases hT : mvT (rch g) k (p1, p2) a j
            · have HTT := Lib.hid hT
              clear hT
              go_wp2_with fail
              go_roundw
              case rel => exact ⟨j + 1, b + 1, by have := hbj.out; omega, Lib.hid (by have := hbj.out; omega), by omega, by go_num, by rw [HRS.out, HTT.out]; exact HO2.out, HB2.out⟩
              case measure => simp [intOf]; omega
            · have HTT := Lib.hid hT
              clear hT
              go_wp2_with (at_builtin; refine wpList_append_own _ rfl _ _ 51 rfl w0.heap.size 25 i0 (.agg #[.int .i64 0, .int .i64 0, .int .i64 0]) 3 24 Try.underlying51 hi0 hz1 hz2 hz3 rfl (by decide) _ _ _ rfl (HO2.out.alloc _) ⟨wr.heap.size, 0, none⟩ 1 1 [.int .i64 a, .int .i64 b, .int .i64 p3] rfl rfl ?c1 ?c2 ?c3 ?c4 ?c5 ?_)
              case c1 => exact cells_new _ _ _
              case c2 => intro u hu; simp at hu; rcases hu with rfl | rfl | rfl <;> rfl
              case c3 => unfold maxLen; omega
              case c4 => omega
              case c5 => simp; omega
              intro v' w1 hown1 hg1 _
              have HO1 := Lib.hid hown1
              have HG1 := Lib.hid hg1
              clear hown1 hg1
              go_wp2_with fail
              go_roundw
              case rel =>
                refine ⟨j + 1, b + 1, by have := hbj.out; omega, Lib.hid (by have := hbj.out; omega), by omega, by go_num, ?_, (HB2.out.alloc (by simp; omega) _).grown HG1.out (by simp; omega) (fun k hk => (World.ownsRow.lt HO2.out k hk).1)⟩
                have h3 := HO1.out
                have h4 := hbj.out
                unfold PlsOwn
                rw [HRS.out, HTT.out, if_pos rfl, ← List.append_assoc, plCells_snoc, ← h4, List.length_append (bs := [(a, b, p3)]), List.length_singleton, HLN.out]
                exact h3
              case measure => simp [intOf]; omega
        · have hje : a + j = n := by have := hbj.out; omega
          have hbe : b = n := by omega
          have hjn : j = n - a := by omega
          subst hbe
          go_wp2_with fail
          go_roundw
          case rel => exact ⟨a + 1, by omega, by go_num, by rw [HST.out, ← hjn, HM.out]; exact HO.out, HBE.out⟩
          case measure => simp [intOf]; omega
    · have hae : a = n := by omega
      subst hae
      go_wp2_with fail
      go_ret
      exact ⟨⟨_, rfl, ownsRow_base HO.out HS⟩, HB.trans (HBE.out.mono HS)⟩

end Go.Proofs.Ytmkcnpphdghbaaa
