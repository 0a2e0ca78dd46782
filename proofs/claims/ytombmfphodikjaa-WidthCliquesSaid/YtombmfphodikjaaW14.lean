/- The contract of the reference's rest: the table of the least widths. -/
import Derived.Test.YtombmfphodikjaaW13
import Derived.Test.YtombmfphodikjaaW3
import Derived.Deep.DeepCutAuto
import Derived.Deep.RegionLaw
namespace Go.Proofs.Ytombmfphodikjaa
set_option linter.unusedSimpArgs false
set_option linter.unusedVariables false
open Go.RowKit Go.Maps
attribute [local go_sem] i64_bit toNat_eq_one toNat_ne_one toNat_eq_zero toNat_ne_zero i64_and i64_or i64_andNot i64_or_pow i64_andNot_pow

def tabL (N : Nat) (G : Nat → Nat) : List Value := (List.range N).map fun g => Value.int .i64 (G g : Nat)
theorem tabL_get {N : Nat} {G : Nat → Nat} {g : Nat} (h : g < N) : (tabL N G)[g]? = some (.int .i64 (G g : Nat)) := map_range_get _ h
theorem tabL_set {N : Nat} {G : Nat → Nat} {g x : Nat} : (tabL N G).set g (.int .i64 (x : Nat)) = tabL N (fun i => if i = g then x else G i) := by
  unfold tabL
  rw [map_range_set]
  congr 1
  funext i
  by_cases h : i = g <;> simp [h]

theorem tabL_zero (N : Nat) : (tabL N (fun _ => 0)).toArray = madeCells #[.int .i64 0] N := by
  have h : tabL N (fun _ => 0) = (madeCells #[.int .i64 0] N).toList := by
    unfold tabL madeCells
    simp [Nat.mod_one]
  rw [h]

def RestPost (w : World) (n : Nat) (r : Nat → Nat) (e : Ending) (w' : World) : Prop :=
  ∃ tb, e = .returned (.slice (some ⟨tb, 0, none⟩) (2 ^ n) (2 ^ n)) ∧ Row w' tb 3 (tabL (2 ^ n) (rst n (tn n r))) ∧ w.heap.size ≤ tb ∧ Below w.heap.size w w'

set_option maxRecDepth 20000 in
set_option maxHeartbeats 4000000 in
theorem rest_any {n : Nat} {r : Nat → Nat} {a : Option Addr} {w : World} (G : Gr w a n r) (cap : Nat) :
    Calls Try.prog 48 #[.slice a n cap] w (RestPost w n r) := by
  have hle := G.le
  have hn16 : n < 16 := by omega
  have hpos := G.at_.pos
  have hpn := pow_bd n hn16
  have h2 : 2 ≤ 2 ^ n := by
    have : 2 ^ 1 ≤ 2 ^ n := Nat.pow_le_pow_right (by omega) hpos
    simpa using this
  have h9 := pow_le9 hle
  obtain ⟨N, hN⟩ : ∃ N : Nat, N = 2 ^ n := ⟨_, rfl⟩
  have hcast : (2 : Int) ^ n = (N : Int) := by rw [hN]; exact pow_cast n
  have hmk : ∀ w : World, (Instr.makeSlice 22 (.int .i64 (N : Int)) (.int .i64 (N : Int))).run Try.prog w = .ok (.slice (some ⟨w.heap.size, 0, none⟩) N N) (w.alloc (.cells (tabL N (fun _ => 0)).toArray 3)) := by
    have h := run_make_row' (P := Try.prog) 22 3 (.int .i64 0) 8 Try.underlying22 info_int rfl .i64 .i64 N (by omega) (by omega)
    rw [tabL_zero]; exact h
  rw [← hcast] at hmk
  have HG := Lib.hid G
  have HN := Lib.hid hN
  have HC := Lib.hid hcast
  have hN2 : 2 ≤ N := by omega
  have hN9 : N ≤ 512 := by omega
  obtain ⟨w0, hw0, R0, HB0, hsz0⟩ := new1 w 3 (tabL N (fun _ => 0))
  have HW0 := Lib.hid hw0
  have HR0 := Lib.hid R0
  have HB0' := Lib.hid HB0
  clear G hN hcast h2 h9 hw0 R0 HB0
  go_enter Try.func48, Try.ntmps48
  go_wp2_with fail
  rw [← HW0.out, HC.out]
  go_loopw [5] (fun i wr => ∃ (x : Int) (k : Nat) (F : Nat → Nat), i = .int .i64 x ∧ x = (k : Int) - 1 ∧ k ≤ N - 1 ∧ Row wr w.heap.size 3 (tabL N F) ∧ (∀ g, k ≤ g → g < N → F g = rst n (tn n r) g) ∧ Below w.heap.size w wr) (fun i _ => (intOf i + 1).toNat)
  case atStart => exact ⟨_, N - 1, fun _ => 0, rfl, by omega, Nat.le_refl _, HR0.out, fun g h1 h2 => by
    have : g = 2 ^ n - 1 := by have := HN.out; omega
    rw [this, rst_all], HB0'.out⟩
  case round =>
    obtain ⟨x, k, F, rfl, hx, hk, hR, hF, hB⟩ := hrel
    have HR := Lib.hid hR
    have HF := Lib.hid hF
    have HB := Lib.hid hB
    clear HR0 HB0' hR hF hB
    by_cases hk0 : k = 0
    · subst hk0
      have hxl : x < 0 := by omega
      clear hx
      go_wp2_with fail
      go_ret
      refine ⟨w.heap.size, by rw [← HN.out]; rfl, ?_, Nat.le_refl _, HB.out⟩
      have hRR := HR.out
      rw [← HN.out]
      have : tabL N F = tabL N (rst n (tn n r)) := by
        unfold tabL
        apply List.map_congr_left
        intro g hg
        rw [HF.out g (Nat.zero_le _) (List.mem_range.1 hg)]
      rw [← this]; exact hRR
    · obtain ⟨g, rfl⟩ : ∃ g, k = g + 1 := ⟨k - 1, by omega⟩
      obtain rfl : x = (g : Int) := by omega
      clear hx hk0
      have hgN : g < N := by omega
      have c0 := HR.out.cell (tabL_get (G := F) hgN)
      have f0 := HR.out.free g
      have hl0 := HR.out.lt
      go_wp2_with fail
      generalize hwq : wr.setCell ⟨w.heap.size, g, none⟩ (.int .i64 n) = wq
      have HRq : Hid (Row wq w.heap.size 3 (tabL N (fun i => if i = g then n else F i))) := Lib.hid (by
        rw [← hwq, ← tabL_set]; exact HR.out.set g _)
      have HBq : Hid (Below w.heap.size w wq) := Lib.hid (by rw [← hwq]; exact HB.out.setCell (Nat.le_refl _) _)
      have hgb := rst_best (t := tn n r) (gone := g) (by rw [← HN.out]; omega) (by have := HN.out; omega)
      have HGB := Lib.hid hgb
      have HGN : Hid (g < 2 ^ n) := Lib.hid (by rw [← HN.out]; exact hgN)
      clear hwq c0 f0 hl0 hgb HR HB
      go_loopw [25] (fun i wx => ∃ (j : Nat) (F' : Nat → Nat), j ≤ n ∧ i = .int .i64 j ∧ Row wx w.heap.size 3 (tabL N F') ∧ F' g = bestW n (tn n r) g j ∧ (∀ x, g < x → x < N → F' x = rst n (tn n r) x) ∧ Below w.heap.size w wx) (fun i _ => n - (intOf i).toNat)
      case atStart => exact ⟨0, _, Nat.zero_le _, rfl, HRq.out, by simp; rfl, fun x h1 h2 => by rw [if_neg (by omega)]; exact HF.out x (by omega) h2, HBq.out⟩
      case round =>
        obtain ⟨j, F', hj, rfl, hR, hFg, hF', hB⟩ := hrel
        have HR := Lib.hid hR
        have HFG := Lib.hid hFg
        have HF' := Lib.hid hF'
        have HB := Lib.hid hB
        clear HRq HBq hR hFg hF' hB
        by_cases hlj : j < n
        · have hj16 : j < 16 := by omega
          have hpj := pow_bd j hj16
          have hg16 : g < 65536 := by omega
          cases hq : g.testBit j
          · have hgt := or_pow_gt hq
            have hg2N : g ||| 2 ^ j < 2 ^ n := Nat.or_lt_two_pow HGN.out (pow_lt_pow hlj)
            have hg2 : g ||| 2 ^ j < N := by rw [HN.out]; exact hg2N
            have hr2 : F' (g ||| 2 ^ j) = rst n (tn n r) (g ||| 2 ^ j) := HF'.out _ hgt hg2
            have hr9 : F' (g ||| 2 ^ j) ≤ 9 := by rw [hr2]; exact Nat.le_trans (rst_le hg2N) hle
            have hb9 : F' g ≤ 9 := by rw [HFG.out]; exact Nat.le_trans (bestW_le j) hle
            have ht9 : tn n r g j ≤ 9 := Nat.le_trans (tn_le _ _ _ _) hle
            have HST : Hid (bestW n (tn n r) g (j + 1) = min (F' g) (max (F' (g ||| 2 ^ j)) (tn n r g j))) := Lib.hid (by rw [bestW_yes hq, HFG.out, hr2])
            have HGR := Lib.hid (HG.out.below HB.out)
            have HG2 := Lib.hid hgt
            obtain ⟨g2, hg2e⟩ : ∃ g2, g2 = g ||| 2 ^ j := ⟨_, rfl⟩
            have hor : bits .or .i64 (g : Int) ((2 : Int) ^ j) = (g2 : Int) := by rw [hg2e]; exact i64_or_pow g j hg16 hj16
            rw [← hg2e] at hg2 hr2 hr9 HST
            have hgor : g ||| 2 ^ j = g2 := hg2e.symm
            have HCE : Hid (∀ w', Row w' w.heap.size 3 (tabL N F') → w'.cell? ⟨w.heap.size, g, none⟩ = some (.int .i64 (F' g : Nat)) ∧ w'.cell? ⟨w.heap.size, g2, none⟩ = some (.int .i64 (F' g2 : Nat)) ∧ w'.frozen? ⟨w.heap.size, g, none⟩ = false ∧ w.heap.size < w'.heap.size) :=
              Lib.hid fun w' R => ⟨R.cell (tabL_get hgN), R.cell (tabL_get hg2), R.free g, R.lt⟩
            generalize F' g2 = rj at *
            generalize hbj : F' g = bj at *
            generalize htj : tn n r g j = tj at *
            have HTJ := Lib.hid htj
            clear htj hbj hr2 hgt hg2N hg2e
            have wp1 : IntKind.i64.wrap ((2 : Int) ^ j) = 2 ^ j := IntWalk.i64_in _ (by omega)
            have wp2 : wrap64 ((2 : Int) ^ j) = 2 ^ j := IntWalk.wrap64_in _ (by omega)
            go_upto_region 11 with fail
            · skip
              obtain ⟨c0, c1, f0, hl0⟩ := HCE.out wr HR.out
              have B0 : Below wr.heap.size wr wr.drew := (Below.refl _ _).drew
              go_region_law (first
                | (go_simp; go_at_call 49; refine (turn_any (HGR.out.below (by first | exact Below.refl _ _ | exact (Below.refl _ _).drew | exact below_drewN (Below.refl _ _) _)) cap g j hlj HGN.out).mono ?_; rintro e w1 ⟨rfl, hb1⟩; rw [HTJ.out]; have hb2 : Below wr.heap.size wr w1 := (by first | exact hb1 | exact B0.trans (hb1.mono B0.size)); obtain ⟨c0, c1, f0, hl0⟩ := HCE.out _ (HR.out.below hb2 HR.out.lt); clear hb1))
              all_goals
                go_wp2_with fail
                have hval : (if (if tj < rj then (rj : Int) else (tj : Int)) < (bj : Int) then (if tj < rj then (rj : Int) else (tj : Int)) else (bj : Int)) = ((min bj (max rj tj) : Nat) : Int) := by
                  repeat' split
                  all_goals omega
                have hRw := (HR.out.below hb2 HR.out.lt).set g (.int .i64 ((min bj (max rj tj) : Nat) : Int))
                rw [tabL_set] at hRw
                have hBw : Below w.heap.size w (w1.setCell ⟨w.heap.size, g, none⟩ (.int .i64 ((min bj (max rj tj) : Nat) : Int))) := (HB.out.trans (hb2.mono HB.out.size)).setCell (Nat.le_refl _) _
                rw [← hval] at hRw hBw
                refine ⟨⟨j + 1, _, by omega, by go_num, hRw, ?_, ?_, hBw⟩, ?_⟩
                · rw [HST.out]; simp
                · intro x h1 h2
                  rw [if_neg (by omega)]
                  exact HF'.out x h1 h2
                · simp [intOf]; omega
          · go_wp2_with fail
            go_roundw
            case rel => exact ⟨j + 1, F', by omega, by go_num, HR.out, by rw [HFG.out, bestW_no hq], HF'.out, HB.out⟩
            case measure => simp [intOf]; omega
        · have hje : j = n := by omega
          subst hje
          go_wp2_with fail
          go_roundw
          case rel => exact ⟨(g : Int) - 1, g, F', by go_num, rfl, by omega, HR.out, fun x h1 h2 => by
            rcases Nat.lt_or_eq_of_le h1 with h | h
            · exact HF'.out x h h2
            · subst h; rw [HFG.out, HGB.out], HB.out⟩
          case measure => simp [intOf]

end Go.Proofs.Ytombmfphodikjaa
