/- The contract of package chase's rankAll, its walk. -/
import Derived.Test.YtbkbliieappkdaaDoorChC1h
namespace Go.Proofs.YtbkbliieappkdaaDoor.Ch
set_option linter.unusedSimpArgs false
set_option linter.unusedVariables false
open Go.RowKit Go.Maps
attribute [local go_sem] i64_bit toNat_eq_one toNat_ne_one toNat_eq_zero toNat_ne_zero i64_and i64_or i64_andNot i64_or_pow i64_andNot_pow

/-- What rankAll leaves. -/
def RankPost (gp n b cb cc mb : Nat) (r : Nat → Nat) (C : List (Nat × Nat)) (w : World) (e : Ending) (w' : World) : Prop :=
  e = .returned (.tuple #[]) ∧ GameAt w' gp n b cb cc mb r C (ranksF n r C) ∧ w.grownBy w' (some mb)

set_option maxRecDepth 20000 in
set_option maxHeartbeats 4000000 in
theorem rankAll_any {w : World} {gp n b cb cc mb : Nat} {r : Nat → Nat} {C : List (Nat × Nat)} (G : GameAt w gp n b cb cc mb r C (fun _ => none)) (hC : C.length ≤ 256) (m1 : mb ≠ gp) (m2 : mb ≠ b) (m3 : mb ≠ cb) :
    Calls Tryd.prog 87 #[.pointer (some ⟨gp, 0, none⟩)] w (RankPost gp n b cb cc mb r C w) := by
  obtain ⟨c0, c1, c2, c3, cr, hgp, hb, hn⟩ := G.facts
  have hmul : C.length * n ≤ 4096 := Nat.le_trans (Nat.mul_le_mul hC (Nat.le_of_lt hn)) (by decide)
  go_enter Tryd.func87, Tryd.ntmps87
  go_wp2_with fail
  go_loopw [13] (fun i wr => ∃ k : Nat, k ≤ C.length ∧ i = .int .i64 k ∧ GameAt wr gp n b cb cc mb r C (baseTo C k) ∧ w.grownBy wr (some mb)) (fun i _ => C.length - (intOf i).toNat)
  case atStart => exact ⟨0, Nat.zero_le _, rfl, by rw [baseTo_zero]; exact G, grownBy_of_below (Below.refl _ _) _⟩
  case round =>
    clear c0 c1 c2 c3 cr hgp hb
    obtain ⟨k, hk, rfl, g1, hgr⟩ := hrel
    obtain ⟨c0, c1, c2, c3, cr, hgp, hb, _⟩ := g1.facts
    have HG := Lib.hid g1
    have HGR := Lib.hid hgr
    clear g1 hgr
    by_cases hlt : k < C.length
    · obtain ⟨ab, hab⟩ : ∃ ab, C[k]? = some ab := ⟨C[k], by simp [hlt]⟩
      obtain ⟨x, y⟩ := ab
      have hin := G.inC (x, y) (List.mem_of_getElem? hab)
      dsimp only at hin
      obtain ⟨hx, hy⟩ := hin
      have hcell := HG.out.ch k (x, y) hab
      dsimp only at hcell
      obtain ⟨e0, e1⟩ := hcell
      have HBS := Lib.hid (baseTo_succ C k x y hab)
      clear hab
      obtain ⟨wb, hwb, R8, HB8, hsz8⟩ := new1 wr 74 [.int .i64 x, .int .i64 y]
      have HR8 := Lib.hid R8
      have HB8' := Lib.hid HB8
      have HW := Lib.hid hwb
      have gb := HG.out.below HB8
      obtain ⟨d0, d1, d2, d3, _, _, _, _⟩ := gb.facts
      have s0 := R8.cell (i := 0) rfl
      have s1 := R8.cell (i := 1) rfl
      have HGB := Lib.hid gb
      clear hwb R8 HB8 gb
      obtain ⟨wo, rfl⟩ : ∃ wo : World, wo = wr := ⟨_, rfl⟩
      go_wp2_with fail
      rw [← HW.out]
      clear HW c0 c1 c2 c3 cr e0 e1
      have hne8 : some wo.heap.size ≠ some mb := by intro e; have := HG.out.mp.lt; have := Option.some.inj e; omega
      go_region_held3 (fun w' => w'.cell? ⟨gp, 3, none⟩ = some (.map (some mb)) ∧ w'.cell? ⟨wo.heap.size, 0, none⟩ = some (.int .i64 x) ∧ w'.cell? ⟨wo.heap.size, 1, none⟩ = some (.int .i64 y)) (first | go_keep | (refine ⟨?_, ?_, ?_⟩ <;> assumption))
        (first | (go_at_call 108; refine (at_any x y x _).mono ?_; rintro e w1 ⟨rfl, hb1⟩; have g1 := (HGB.out).drew.below hb1; have r1 := ((HR8.out).drewN 1).below hb1 ((HR8.out).drewN 1).lt; have q3 := g1.g3; have q0 := r1.cell (i := 0) rfl; have q1 := r1.cell (i := 1) rfl; obtain ⟨w9, hrun, hg9, hgr9, hz9⟩ := GameAt.store g1 m1 m2 m3 (x, y, x) 0 (by dsimp only; omega) (by omega); have r9 := r1.grown hgr9 hne8; have p3 := hg9.g3; have p0 := r9.cell (i := 0) rfl; have p1 := r9.cell (i := 1) rfl; have hrun0 : (Instr.mapUpdate 95 (.map (some mb)) (.agg #[.int .i64 x, .int .i64 y, .int .i64 x]) (.int .i64 0)).run Tryd.prog w1 = .ok () w9 := hrun; have HB1 := Lib.hid hb1; have HG9 := Lib.hid hg9; have HGR9 := Lib.hid hgr9; have HR9 := Lib.hid r9; clear hrun hb1 hg9 hgr9 r9 g1 r1))
      clear hrun0 q3 q0 q1 p3 p0 p1 hz9 d0 d1 d2 d3 s0 s1
      have HBa := HB1
      have HGRa := HGR9
      have HGa := HG9
      have HRa := HR9
      clear HB1 HGR9 HG9 HR9
      have s3 := HGa.out.g3
      have s0 := HRa.out.cell (i := 0) rfl
      have s1 := HRa.out.cell (i := 1) rfl
      obtain ⟨wa, rfl⟩ : ∃ wa : World, wa = w9 := ⟨_, rfl⟩
      go_wp2_with fail
      go_region_held3 (fun w' => w'.cell? ⟨gp, 3, none⟩ = some (.map (some mb)) ∧ w'.cell? ⟨wo.heap.size, 0, none⟩ = some (.int .i64 x) ∧ w'.cell? ⟨wo.heap.size, 1, none⟩ = some (.int .i64 y)) (first | go_keep | (refine ⟨?_, ?_, ?_⟩ <;> assumption))
        (first | (go_at_call 108; refine (at_any x y y _).mono ?_; rintro e w1 ⟨rfl, hb1⟩; have g1 := (HGa.out).drew.below hb1; have r1 := ((HRa.out).drewN 1).below hb1 ((HRa.out).drewN 1).lt; have q3 := g1.g3; have q0 := r1.cell (i := 0) rfl; have q1 := r1.cell (i := 1) rfl; obtain ⟨w9, hrun, hg9, hgr9, hz9⟩ := GameAt.store g1 m1 m2 m3 (x, y, y) 0 (by dsimp only; omega) (by omega); have r9 := r1.grown hgr9 hne8; have p3 := hg9.g3; have p0 := r9.cell (i := 0) rfl; have p1 := r9.cell (i := 1) rfl; have hrun0 : (Instr.mapUpdate 95 (.map (some mb)) (.agg #[.int .i64 x, .int .i64 y, .int .i64 y]) (.int .i64 0)).run Tryd.prog w1 = .ok () w9 := hrun; have HB1 := Lib.hid hb1; have HG9 := Lib.hid hg9; have HGR9 := Lib.hid hgr9; have HR9 := Lib.hid r9; clear hrun hb1 hg9 hgr9 r9 g1 r1))
      all_goals
        clear hrun0 q3 q0 q1 p3 p0 p1 hz9 s3 s0 s1
        go_wp2_with fail
        go_roundw
        case rel =>
          refine ⟨k + 1, by omega, by go_num, by rw [← HBS.out]; exact HG9.out, ?_⟩
          have t1 := grownBy_trans HGR.out (grownBy_drew (grownBy_of_below HB8'.out (some mb)))
          have t2 := grownBy_trans (grownBy_trans t1 (grownBy_of_below HBa.out (some mb))) HGRa.out
          exact grownBy_trans (grownBy_trans (grownBy_drew t2) (grownBy_of_below HB1.out (some mb))) HGR9.out
        case measure => simp [intOf]; omega
    · have hke : k = C.length := by omega
      subst hke
      rw [baseTo_all] at HG
      go_wp2_with fail
      have hcnt := noRank_le n r C 0
      go_loopw [4] (fun v wx => ∃ i : Nat, v = .int .i64 ((i : Int) + 1) ∧ noRank n r C i + i ≤ 4096 ∧ GameAt wx gp n b cb cc mb r C (ranksG n r C i) ∧ w.grownBy wx (some mb)) (fun v _ => noRank n r C ((intOf v).toNat - 1))
      case atStart => exact ⟨0, rfl, by omega, HG.out, HGR.out⟩
      case round =>
        clear HG HGR c0 c1 c2 c3 cr hgp hb hk hlt hcnt
        obtain ⟨i, rfl, hcnt, g1, hgr⟩ := hrel
        obtain ⟨c0, c1, c2, c3, cr, hgp, hb, _⟩ := g1.facts
        have HG := Lib.hid g1
        have HGR := Lib.hid hgr
        clear g1 hgr
        by_cases hnil : nextL n r (ranksG n r C i) C = []
        · have HNIL := Lib.hid hnil
          clear hnil
          go_wp2_with (go_at_call 109; refine (nextPlaces_any HG.out hC).mono ?_; rintro e w1 ⟨⟨v, rfl, ho⟩, hb1⟩; rw [HNIL.out] at ho; obtain ⟨av, cv, rfl⟩ := own_form ho; have HB1 := Lib.hid hb1; clear ho hb1)
          refine bodyPost_ret (results_none rfl _ _ _) rfl ?_
          exact ⟨rfl, by rw [ranksF_eq HNIL.out (by omega)]; exact HG.out.below HB1.out, grownBy_trans HGR.out (grownBy_of_below HB1.out _)⟩
        · have HLT := Lib.hid (noRank_lt hnil)
          have hlen0 : nextL n r (ranksG n r C i) C ≠ [] := hnil
          have hin := fun p (hp : p ∈ nextL n r (ranksG n r C i) C) => mem_nextL hp
          have hll := nextL_len n r (ranksG n r C i) C C
          change (nextL n r (ranksG n r C i) C).length ≤ _ at hll
          have HIN := Lib.hid hin
          have HST : Hid (ranksG n r C (i + 1) = stepF (ranksG n r C i) (nextL n r (ranksG n r C i) C) (i + 1)) := Lib.hid rfl
          generalize hL : nextL n r (ranksG n r C i) C = L at *
          have hpos : L.length ≠ 0 := fun h => hlen0 (List.eq_nil_of_length_eq_zero h)
          have hpos2 : ((L.length : Int) == 0) = false := by simp only [beq_eq_false_iff_ne, ne_eq]; omega
          have HL := Lib.hid hL
          clear hnil hL hlen0 hin
          have hlm : L.length ≤ 4096 := by omega
          clear hll
          go_wp2_with (go_at_call 109; refine (nextPlaces_any HG.out hC).mono ?_; rintro e w1 ⟨⟨v, rfl, ho⟩, hb1⟩; rw [HL.out] at ho; obtain ⟨g, cv, rfl, hg1, hg2⟩ := own_form' ho hpos; have HB1 := Lib.hid hb1; have HO := Lib.hid ho; clear ho hb1)
          obtain ⟨wo, rfl⟩ : ∃ wo : World, wo = wr := ⟨_, rfl⟩
          have hmb := HG.out.mp.lt
          have hmg : mb ≠ g := by omega
          go_loopw [43] (fun v wy => ∃ j : Nat, j ≤ L.length ∧ v = .int .i64 j ∧ GameAt wy gp n b cb cc mb r C (stepF (ranksG n r C i) (L.take j) (i + 1)) ∧ PlacesOwn wy wo.heap.size (.slice (some ⟨g, 0, none⟩) L.length cv) L ∧ w.grownBy wy (some mb)) (fun v _ => L.length - (intOf v).toNat)
          case atStart => exact ⟨0, Nat.zero_le _, rfl, by rw [List.take_zero, stepF_nil]; exact HG.out.below HB1.out, HO.out, grownBy_trans HGR.out (grownBy_of_below HB1.out _)⟩
          case round =>
            clear HG HGR HB1 HO c0 c1 c2 c3 cr hgp hb hg1 hg2
            obtain ⟨j, hj, rfl, g1, ho, hgr⟩ := hrel
            obtain ⟨c0, c1, c2, c3, cr, hgp, hb, _⟩ := g1.facts
            have HG := Lib.hid g1
            have HGR := Lib.hid hgr
            have HO := Lib.hid ho
            clear g1 hgr
            by_cases hlj : j < L.length
            · obtain ⟨p, hp⟩ : ∃ p, L[j]? = some p := ⟨L[j], by simp [hlj]⟩
              have hpi := HIN.out p (List.mem_of_getElem? hp)
              have hpc := G.inC _ hpi.1
              have hs := stepTo_succ (ranksG n r C i) L j (i + 1) p hp
              have HS := Lib.hid hs
              obtain ⟨q0, q1, q2⟩ := plCells_get L j p hp
              have e0 := World.ownsRow.cellAt ho (j * 3) (by omega)
              have e1 := World.ownsRow.cellAt ho (j * 3 + 1) (by omega)
              have e2 := World.ownsRow.cellAt ho (j * 3 + 2) (by omega)
              rw [q0] at e0
              rw [q1] at e1
              rw [q2] at e2
              obtain ⟨x, y, c⟩ := p
              dsimp only at e0 e1 e2 hpi hpc
              obtain ⟨hx, hy⟩ := hpc
              have hc := hpi.2.1
              clear ho q0 q1 q2 hp hs hpi
              obtain ⟨wb, hwb, R8, HB8, hsz8⟩ := new1 wr 114 [.int .i64 x, .int .i64 y, .int .i64 c]
              have gb := (HG.out.below HB8).drew
              obtain ⟨w9, hrun, hg9, hgr9, hz9⟩ := GameAt.store gb m1 m2 m3 (x, y, c) (i + 1) (by dsimp only; omega) (by omega)
              have hrun0 : (Instr.mapUpdate 95 (.map (some mb)) (.agg #[.int .i64 x, .int .i64 y, .int .i64 c]) (.int .i64 ((i : Int) + 1))).run Tryd.prog wb.drew = .ok () w9 := hrun
              have HG9 := Lib.hid hg9
              have HGR9 := Lib.hid hgr9
              have HB8' := Lib.hid HB8
              have HW := Lib.hid hwb
              obtain ⟨d0, d1, d2, d3, _, _, _, _⟩ := (HG.out.below HB8).facts
              have s0 := R8.cell (i := 0) rfl
              have s1 := R8.cell (i := 1) rfl
              have s2 := R8.cell (i := 2) rfl
              have ho8 := World.ownsRow.kept (ownsRow_below HO.out (HB8.drew) (Nat.le_refl _)) hgr9 (Or.inr (by simp [Value.ownBlock]; omega))
              have HO8 := Lib.hid ho8
              clear hrun hg9 hgr9 HB8 hwb R8 gb ho8
              go_wp2_with fail
              rw [← HW.out]
              clear HW c0 c1 c2 c3 cr e0 e1 e2
              go_region
              all_goals
                clear hrun0 d0 d1 d2 d3 s0 s1 s2 hz9
                go_wp2_with fail
                go_roundw
                case rel =>
                  refine ⟨j + 1, by omega, by go_num, by rw [← HS.out]; exact HG9.out, HO8.out, ?_⟩
                  exact grownBy_trans (grownBy_drew (grownBy_trans HGR.out (grownBy_of_below HB8'.out (some mb)))) HGR9.out
                case measure => simp [intOf]; omega
            · have hje : j = L.length := by omega
              subst hje
              go_wp2_with fail
              go_roundw
              case rel =>
                refine ⟨i + 1, by go_num, by have := HLT.out; omega, ?_, HGR.out⟩
                have := HG.out
                rw [List.take_length, ← HST.out] at this
                exact this
              case measure =>
                show noRank n r C ((((i : Int) + 1) + 1).toNat - 1) < noRank n r C (((i : Int) + 1).toNat - 1)
                rw [show (((i : Int) + 1) + 1).toNat - 1 = i + 1 by omega, show ((i : Int) + 1).toNat - 1 = i by omega]
                exact HLT.out

end Go.Proofs.YtbkbliieappkdaaDoor.Ch
