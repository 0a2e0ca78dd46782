/- The contracts of the reference's IsPlace, Of and Move. -/
import Derived.Test.YtmkcnpphdghbaaaC2f
import Derived.Test.YtmkcnpphdghbaaaC2j
namespace Go.Proofs.Ytmkcnpphdghbaaa
set_option linter.unusedSimpArgs false
set_option linter.unusedVariables false
open Go.RowKit Go.Maps
attribute [local go_sem] i64_bit toNat_eq_one toNat_ne_one toNat_eq_zero toNat_ne_zero i64_and i64_or i64_andNot i64_or_pow i64_andNot_pow

def isPlR (n : Nat) (kI a b c : Int) : Bool := decide (0 ≤ a ∧ a ≤ b ∧ b < n ∧ 0 ≤ c ∧ c < n ∧ (kI = 2 ∨ a = b))

set_option maxRecDepth 20000 in
set_option maxHeartbeats 2000000 in
theorem IsPlaceR_any (n : Nat) (kI x y d : Int) (a : Option Addr) (cap : Nat) (w : World) :
    Calls Try.prog 41 #[.slice a n cap, .int .i64 kI, .agg #[.int .i64 x, .int .i64 y, .int .i64 d]] w fun e w' => e = .returned (.bool (isPlR n kI x y d)) ∧ Below w.heap.size w w' := by
  have HV : Hid (isPlR n kI x y d = decide (0 ≤ x ∧ x ≤ y ∧ y < n ∧ 0 ≤ d ∧ d < n ∧ (kI = 2 ∨ x = y))) := Lib.hid rfl
  have HB : Hid (Below w.heap.size w (w.alloc (.cells #[.int .i64 x, .int .i64 y, .int .i64 d] 25))) := Lib.hid ((Below.refl _ _).alloc (Nat.le_refl _) _)
  by_cases h1 : 0 ≤ x
  · by_cases h2 : x ≤ y
    · by_cases h3 : y < n
      · by_cases h4 : 0 ≤ d
        · by_cases h5 : d < n
          · by_cases h6 : kI = 2
            · have HE : Hid (decide (0 ≤ x ∧ x ≤ y ∧ y < (n : Int) ∧ 0 ≤ d ∧ d < (n : Int) ∧ (kI = 2 ∨ x = y)) = true) := Lib.hid (decide_eq_true ⟨h1, h2, h3, h4, h5, Or.inl h6⟩)
              have g6 : (kI == 2) = true := beq_iff_eq.2 h6
              clear h6
              go_enter Try.func41, Try.ntmps41
              go_wp2_with fail
              go_ret
              exact ⟨by rw [HV.out, HE.out]; rfl, HB.out⟩
            · have g6 : (kI == 2) = false := beq_eq_false_iff_ne.2 h6
              have HE : Hid (decide (0 ≤ x ∧ x ≤ y ∧ y < (n : Int) ∧ 0 ≤ d ∧ d < (n : Int) ∧ (kI = 2 ∨ x = y)) = (x == y)) := Lib.hid (by rw [Bool.eq_iff_iff, decide_eq_true_iff, beq_iff_eq]; omega)
              clear h6
              go_enter Try.func41, Try.ntmps41
              go_wp2_with fail
              go_ret
              exact ⟨by rw [HV.out, HE.out]; rfl, HB.out⟩
          · have HE : Hid (decide (0 ≤ x ∧ x ≤ y ∧ y < (n : Int) ∧ 0 ≤ d ∧ d < (n : Int) ∧ (kI = 2 ∨ x = y)) = false) := Lib.hid (decide_eq_false (by omega))
            go_enter Try.func41, Try.ntmps41
            go_wp2_with fail
            go_ret
            exact ⟨by rw [HV.out, HE.out]; rfl, HB.out⟩
        · have HE : Hid (decide (0 ≤ x ∧ x ≤ y ∧ y < (n : Int) ∧ 0 ≤ d ∧ d < (n : Int) ∧ (kI = 2 ∨ x = y)) = false) := Lib.hid (decide_eq_false (by omega))
          go_enter Try.func41, Try.ntmps41
          go_wp2_with fail
          go_ret
          exact ⟨by rw [HV.out, HE.out]; rfl, HB.out⟩
      · have HE : Hid (decide (0 ≤ x ∧ x ≤ y ∧ y < (n : Int) ∧ 0 ≤ d ∧ d < (n : Int) ∧ (kI = 2 ∨ x = y)) = false) := Lib.hid (decide_eq_false (by omega))
        go_enter Try.func41, Try.ntmps41
        go_wp2_with fail
        go_ret
        exact ⟨by rw [HV.out, HE.out]; rfl, HB.out⟩
    · have HE : Hid (decide (0 ≤ x ∧ x ≤ y ∧ y < (n : Int) ∧ 0 ≤ d ∧ d < (n : Int) ∧ (kI = 2 ∨ x = y)) = false) := Lib.hid (decide_eq_false (by omega))
      go_enter Try.func41, Try.ntmps41
      go_wp2_with fail
      go_ret
      exact ⟨by rw [HV.out, HE.out]; rfl, HB.out⟩
  · have HE : Hid (decide (0 ≤ x ∧ x ≤ y ∧ y < (n : Int) ∧ 0 ≤ d ∧ d < (n : Int) ∧ (kI = 2 ∨ x = y)) = false) := Lib.hid (decide_eq_false (by omega))
    go_enter Try.func41, Try.ntmps41
    go_wp2_with fail
    go_ret
    exact ⟨by rw [HV.out, HE.out]; rfl, HB.out⟩

theorem of3_any {w : World} {rb : Nat} {G : Nat → Int} (R : RkRow w rb G) (a b c : Nat) (h1 : a < 8) (h2 : b < 8) (h3 : c < 8) :
    Calls Try.prog 42 #[.pointer (some ⟨rb, 0, none⟩), .agg #[.int .i64 a, .int .i64 b, .int .i64 c]] w fun e w' => e = .returned (.int .i64 (G (rkIx (a, b, c)))) ∧ Below w.heap.size w w' := of_any R (a, b, c) h1 h2 h3

set_option maxHeartbeats 1000000 in
theorem Of_any {w : World} {rb : Nat} {G : Nat → Int} (R : RkRow w rb G) (a b c : Nat) (h1 : a < 8) (h2 : b < 8) (h3 : c < 8) :
    Calls Try.prog 20 #[.pointer (some ⟨rb, 0, none⟩), .agg #[.int .i64 a, .int .i64 b, .int .i64 c]] w fun e w' => e = .returned (.int .i64 (G (rkIx (a, b, c)))) ∧ Below w.heap.size w w' := by
  have HB : Hid (Below w.heap.size w (w.alloc (.cells #[.int .i64 a, .int .i64 b, .int .i64 c] 25))) := Lib.hid ((Below.refl _ _).alloc (Nat.le_refl _) _)
  have HR := Lib.hid (R.below HB.out)
  clear R
  go_enter Try.func20, Try.ntmps20
  go_wp2_with fail
  go_at_call 42
  refine (of3_any HR.out a b c h1 h2 h3).mono ?_
  rintro e w1 ⟨rfl, hb1⟩
  have HB1 := Lib.hid (HB.out.trans (hb1.mono (by simp)))
  clear hb1
  go_wp2_with fail
  go_ret
  exact ⟨rfl, HB1.out⟩

/-! ### the reference's Move -/

def lessR (F : Pl → Option Nat) (v : Int) (x : Pl) : Bool := decide (0 ≤ rankV F x) && decide (rankV F x < v)
def goodR (n : Nat) (g : Nat → Nat) (F : Pl → Option Nat) (p q : Pl) : Bool := ctchB q || (flTo (rch g q.2.2) q.1 q.2.1 n).all (lessR F (rankV F p))
def mvRef (n k : Nat) (g : Nat → Nat) (F : Pl → Option Nat) (p : Pl) : Option Pl := if rankV F p < 1 then none else (mvTo (rch g) n k (p.1, p.2.1) p.2.2 n).find? (goodR n g F p)

/-- What the reference's Move returns. -/
def MoveRPost (m : Option Pl) (w : World) (e : Ending) (w' : World) : Prop :=
  Below w.heap.size w w' ∧ (m = none → e = .returned (.tuple #[.agg #[.int .i64 0, .int .i64 0], .int .i64 4])) ∧ (∀ q, m = some q → e = .returned (.tuple #[.agg #[.int .i64 q.1, .int .i64 q.2.1], .int .i64 0]))

theorem all_take_succ {α : Type} (p : α → Bool) (l : List α) (k : Nat) (x : α) (h : l[k]? = some x) : (l.take (k + 1)).all p = ((l.take k).all p && p x) := by
  rw [take_snoc' l k x h, List.all_append]
  simp

set_option maxRecDepth 20000 in
set_option maxHeartbeats 4000000 in
theorem MoveR_any {n : Nat} {g : Nat → Nat} {a : Option Addr} {w : World} (G : GrAt w a n g) (cap k : Nat) (kI : Int) (hk : kI = 1 ∧ k = 1 ∨ kI = 2 ∧ k = 2) (hn8 : n ≤ 8) (hg : ∀ v, v < n → g v < 2 ^ n) (p : Pl) (hp : p ∈ allPl n (chs n k)) :
    Calls Try.prog 18 #[.slice a n cap, .int .i64 kI, encPl p] w (MoveRPost (mvRef n k g (ranksF n (rch g) (chs n k)) p) w) := by
  have hn := G.small
  have hk12 : k = 1 ∨ k = 2 := by omega
  obtain ⟨p1, p2, p3⟩ := p
  obtain ⟨hpc, h3⟩ := mem_allPl.1 hp
  obtain ⟨h1, h2, -⟩ := chs_lt n k _ hpc
  dsimp only at h1 h2 h3
  have x1 : p1 < 8 := by omega
  have x2 : p2 < 8 := by omega
  have x3 : p3 < 8 := by omega
  obtain ⟨w0, hw0, R0, RZ, HB, hsz⟩ := new2 w 25 32 [.int .i64 p1, .int .i64 p2, .int .i64 p3] [.int .i64 0, .int .i64 0]
  have HW := Lib.hid hw0
  have HR0 := Lib.hid R0
  have HRZ := Lib.hid RZ
  have HBW := Lib.hid HB
  have HS : w.heap.size ≤ w0.heap.size := by omega
  have HPA := Lib.hid hp
  clear hw0 R0 RZ hpc hp
  show Calls Try.prog 18 #[.slice a n cap, .int .i64 kI, .agg #[.int .i64 p1, .int .i64 p2, .int .i64 p3]] w _
  go_enter Try.func18, Try.ntmps18
  go_wp2_with fail
  rw [← HW.out]
  clear HW
  go_at_call 19
  refine (RankR_any (G.below HB) cap k kI hk hn8 hg).mono ?_
  rintro e w1 ⟨rb, T, rfl, hrk, hT, hb1⟩
  rw [places_chs hk12] at hT
  generalize ranksF n (rch g) (chs n k) = F at *
  have HTA := Lib.hid hT
  have HTP : Hid (T (rkIx (p1, p2, p3)) = rankV F (p1, p2, p3)) := Lib.hid (hT _ HPA.out)
  have HRK := Lib.hid hrk
  have HB1 := Lib.hid hb1
  have r0 := HR0.out.below hb1 HR0.out.lt
  have HR1 := Lib.hid r0
  have d0 := r0.cell (i := 0) rfl
  have d1 := r0.cell (i := 1) rfl
  have d2 := r0.cell (i := 2) rfl
  clear hT hrk hb1 HB r0
  go_wp2_with fail
  go_at_call 42
  refine (of3_any HRK.out p1 p2 p3 x1 x2 x3).mono ?_
  rintro e w2 ⟨rfl, hb2⟩
  rw [HTP.out]
  have HRK2 := Lib.hid (HRK.out.below hb2)
  have r0 := HR1.out.below hb2 HR1.out.lt
  have HR2 := Lib.hid r0
  have HB2 := Lib.hid (HB1.out.trans (hb2.mono HB1.out.size))
  clear hb2
  clear d0 d1 d2
  have d0 := r0.cell (i := 0) rfl
  have d1 := r0.cell (i := 1) rfl
  have d2 := r0.cell (i := 2) rfl
  have rz := HRZ.out.below HB2.out HRZ.out.lt
  have HRZ2 := Lib.hid rz
  have z0 := rz.cell (i := 0) rfl
  have z1 := rz.cell (i := 1) rfl
  have f0 := rz.free 0
  have f1 := rz.free 1
  have l2 := rz.lt
  clear r0 rz
  by_cases hv : rankV F (p1, p2, p3) < 1
  · have HM : Hid (mvRef n k g F (p1, p2, p3) = none) := Lib.hid (by unfold mvRef; rw [if_pos hv])
    go_wp2_with fail
    refine bodyPost_ret (v := .tuple #[.agg #[.int .i64 0, .int .i64 0], .int .i64 4]) (by simp [results, Try.results18, go_sem, z0, z1, l2]) rfl ?_
    exact ⟨((HBW.out.trans (HB2.out.mono HS)).setCell (by simp) _).setCell (by simp) _, fun _ => rfl, fun q h => by (rw [HM.out] at h; cases h)⟩
  · have HM : Hid (mvRef n k g F (p1, p2, p3) = (mvTo (rch g) n k (p1, p2) p3 n).find? (goodR n g F (p1, p2, p3))) := Lib.hid (by unfold mvRef; rw [if_neg hv])
    go_wp2_with fail
    go_at_call 43
    have HBW2 : Hid (Below w.heap.size w w2) := Lib.hid (HBW.out.trans (HB2.out.mono HS))
    refine (moves_any (G.below HBW2.out) cap k kI hk (p1, p2, p3) h1 h2 h3).mono ?_
    rintro e w3 ⟨⟨v3, rfl, ho3⟩, hb3⟩
    dsimp only at ho3
    have HMM : Hid (∀ q ∈ mvTo (rch g) n k (p1, p2) p3 n, (q.1, q.2.1) ∈ chs n k ∧ q.2.2 = p3) := Lib.hid (fun q hq => by
      rw [moves_chs hk12] at hq
      unfold mvOf at hq
      simp only [List.mem_map, List.mem_filter] at hq
      obtain ⟨ab, ⟨hab, -⟩, rfl⟩ := hq
      exact ⟨hab, rfl⟩)
    have hml := mvTo_len (rch g) n k (p1, p2) p3 hn n
    generalize mvTo (rch g) n k (p1, p2) p3 n = M at *
    obtain ⟨av3, cv3, rfl⟩ := own_form ho3
    have HO3 := Lib.hid ho3
    have HRK3 := Lib.hid (HRK2.out.below hb3)
    have r0 := HR2.out.below hb3 HR2.out.lt
    have HR3 := Lib.hid r0
    have rz := HRZ2.out.below hb3 HRZ2.out.lt
    have HRZ3 := Lib.hid rz
    have hl0 : w.heap.size < w3.heap.size := r0.lt
    have hlz : w.heap.size + 1 < w3.heap.size := rz.lt
    have HBW3 : Hid (Below w.heap.size w w3) := Lib.hid (HBW2.out.trans (hb3.mono HBW2.out.size))
    clear d0 d1 d2 z0 z1 f0 f1 r0 rz hb3 ho3
    go_wp2_with fail
    go_loopw [27] (fun c wr => ∃ m : Nat, m ≤ M.length ∧ c = .int .i64 m ∧ Hid (∀ l q, l < m → M[l]? = some q → goodR n g F (p1, p2, p3) q = false) ∧ Below w3.heap.size w3 wr) (fun c _ => M.length - (intOf c).toNat)
    case atStart => exact ⟨0, Nat.zero_le _, rfl, Lib.hid (by omega), Below.refl _ _⟩
    case round =>
      obtain ⟨m, hm, rfl, HNO, hbel⟩ := hrel
      obtain ⟨wp, rfl⟩ : ∃ wp : World, wp = wr := ⟨_, rfl⟩
      have HBP := Lib.hid hbel
      have hps := hbel.size
      have rz := HRZ3.out.below hbel hlz
      have HRZP := Lib.hid rz
      have z0 := rz.cell (i := 0) rfl
      have z1 := rz.cell (i := 1) rfl
      have f0 := rz.free 0
      have f1 := rz.free 1
      have hlzp := rz.lt
      have HBWP : Hid (Below w.heap.size w wp) := Lib.hid (HBW3.out.trans (hbel.mono (by omega)))
      have HRKP := Lib.hid (HRK3.out.below hbel)
      have HRP0 := Lib.hid (HR3.out.below hbel hl0)
      clear hbel rz
      by_cases hlt : m < M.length
      · obtain ⟨⟨u, v, t⟩, huv⟩ : ∃ q, M[m]? = some q := ⟨M[m], by simp [hlt]⟩
        obtain ⟨hc, ht⟩ := HMM.out _ (List.mem_of_getElem? huv)
        obtain ⟨hu, hv2, -⟩ := chs_lt n k _ hc
        dsimp only at hc ht hu hv2
        subst ht
        have u8 : u < 8 := by omega
        have v8 : v < 8 := by omega
        obtain ⟨gm, rfl, hgm1, hgm2, e0, e1, e2⟩ := PlsOwn.read HO3.out huv
        rw [← HBP.out.cell (p := ⟨gm, m * 3, none⟩) hgm2] at e0
        rw [← HBP.out.cell (p := ⟨gm, m * 3 + 1, none⟩) hgm2] at e1
        rw [← HBP.out.cell (p := ⟨gm, m * 3 + 2, none⟩) hgm2] at e2
        dsimp only at e0 e1 e2
        have HX := Lib.hid huv
        have HCC := Lib.hid hc
        have HGD : Hid (goodR n g F (p1, p2, t) (u, v, t) = (ctchB (u, v, t) || (flTo (rch g t) u v n).all (lessR F (rankV F (p1, p2, t))))) := Lib.hid rfl
        clear huv hc
        cases hC : ctchB (u, v, t)
        · have HC := Lib.hid hC
          have HGD2 : Hid (goodR n g F (p1, p2, t) (u, v, t) = (flTo (rch g t) u v n).all (lessR F (rankV F (p1, p2, t)))) := Lib.hid (by rw [HGD.out, hC, Bool.false_or])
          clear hC
          go_wp2_with fail
          go_at_call 44
          refine (caughtR_any (u, v, t) _).mono ?_
          rintro e w4 ⟨rfl, hb4⟩
          rw [HC.out]
          have rb4 := (Row.new wp 25 [.int .i64 u, .int .i64 v, .int .i64 t]).below hb4 (by simp)
          have HRB4 := Lib.hid rb4
          have b0 := rb4.cell (i := 0) rfl
          have b1 := rb4.cell (i := 1) rfl
          have b2 := rb4.cell (i := 2) rfl
          have HB4 := Lib.hid (((Below.refl wp.heap.size wp).alloc (Nat.le_refl _) _).trans (hb4.mono (by simp)))
          have HBW4 : Hid (Below w.heap.size w w4) := Lib.hid (HBWP.out.trans (HB4.out.mono HBWP.out.size))
          clear hb4 rb4 e0 e1 e2 z0 z1 f0 f1
          go_wp2_with fail
          go_at_call 45
          refine (flees_any (G.below HBW4.out) cap (u, v, t) h3).mono ?_
          rintro e w5 ⟨⟨v5, rfl, ho5⟩, hb5⟩
          dsimp only at ho5
          have HFM := Lib.hid (fun p (hp : p ∈ flTo (rch g t) u v n) => flTo_mem hp)
          have hfl := flTo_len (rch g t) u v n
          generalize flTo (rch g t) u v n = L at *
          obtain ⟨av5, cv5, rfl⟩ := own_form ho5
          have HO5 := Lib.hid ho5
          have rb5 := HRB4.out.below hb5 HRB4.out.lt
          have HRB5 := Lib.hid rb5
          have HB5 := Lib.hid (HB4.out.trans (hb5.mono HB4.out.size))
          have h5s := HB5.out.size
          have hlb5 : wp.heap.size < w5.heap.size := rb5.lt
          have hl05 : w.heap.size < w5.heap.size := by omega
          have hlz5 : w.heap.size + 1 < w5.heap.size := by omega
          have HRK5 := Lib.hid (HRKP.out.below HB5.out)
          have HR05 := Lib.hid (HRP0.out.below HB5.out HRP0.out.lt)
          have HRZ5 := Lib.hid (HRZP.out.below HB5.out HRZP.out.lt)
          have HBW5 : Hid (Below w.heap.size w w5) := Lib.hid (HBWP.out.trans (HB5.out.mono HBWP.out.size))
          clear b0 b1 b2 rb5 hb5 ho5
          go_wp2_with fail
          go_loopw [11, 39] (fun gd c wz => ∃ j : Nat, j ≤ L.length ∧ c = .int .i64 j ∧ gd = .bool ((L.take j).all (lessR F (rankV F (p1, p2, t)))) ∧ Below w5.heap.size w5 wz) (fun _ c _ => L.length - (intOf c).toNat)
          case atStart => exact ⟨0, Nat.zero_le _, rfl, rfl, Below.refl _ _⟩
          case round =>
            obtain ⟨j, hj, rfl, rfl, hbel⟩ := hrel
            obtain ⟨wz, rfl⟩ : ∃ wz : World, wz = wr := ⟨_, rfl⟩
            have HBZ := Lib.hid hbel
            have hzs := hbel.size
            by_cases hlj : j < L.length
            · obtain ⟨⟨x, y, d⟩, hxy⟩ : ∃ q, L[j]? = some q := ⟨L[j], by simp [hlj]⟩
              obtain ⟨q1, q2, q3, -⟩ := HFM.out _ (List.mem_of_getElem? hxy)
              dsimp only at q1 q2 q3
              subst q1
              subst q2
              have d8 : d < 8 := by omega
              have HTQ : Hid (T (rkIx (x, y, d)) = rankV F (x, y, d)) := Lib.hid (HTA.out _ (mem_allPl.2 ⟨HCC.out, q3⟩))
              obtain ⟨gl, rfl, hgl1, hgl2, e0, e1, e2⟩ := PlsOwn.read HO5.out hxy
              rw [← hbel.cell (p := ⟨gl, j * 3, none⟩) hgl2] at e0
              rw [← hbel.cell (p := ⟨gl, j * 3 + 1, none⟩) hgl2] at e1
              rw [← hbel.cell (p := ⟨gl, j * 3 + 2, none⟩) hgl2] at e2
              dsimp only at e0 e1 e2
              have HAS := Lib.hid (all_take_succ (lessR F (rankV F (p1, p2, t))) L j (x, y, d) hxy)
              have HLS : Hid (lessR F (rankV F (p1, p2, t)) (x, y, d) = (decide (0 ≤ T (rkIx (x, y, d))) && decide (T (rkIx (x, y, d)) < T (rkIx (p1, p2, t))))) := Lib.hid (by rw [HTQ.out, HTP.out]; rfl)
              obtain ⟨wb, hwb, RB, HBb, hszb⟩ := new1 wz 25 [.int .i64 x, .int .i64 y, .int .i64 d]
              have HWB := Lib.hid hwb
              have HRBB := Lib.hid RB
              have HBB := Lib.hid HBb
              have hbs : wz.heap.size ≤ wb.heap.size := by omega
              have HRKB := Lib.hid ((HRK5.out.below hbel).below HBb)
              have HR0B := Lib.hid ((HR05.out.below hbel hl05).below HBb (by omega))
              have b0 : ∀ u : BelowW wb.heap.size wb, u.w.cell? ⟨wz.heap.size, 0, none⟩ = some (.int .i64 x) := fun u => (HRBB.out.below u.h HRBB.out.lt).cell (i := 0) rfl
              have b1 : ∀ u : BelowW wb.heap.size wb, u.w.cell? ⟨wz.heap.size, 1, none⟩ = some (.int .i64 y) := fun u => (HRBB.out.below u.h HRBB.out.lt).cell (i := 1) rfl
              have b2 : ∀ u : BelowW wb.heap.size wb, u.w.cell? ⟨wz.heap.size, 2, none⟩ = some (.int .i64 d) := fun u => (HRBB.out.below u.h HRBB.out.lt).cell (i := 2) rfl
              have d0 : ∀ u : BelowW wb.heap.size wb, u.w.cell? ⟨w.heap.size, 0, none⟩ = some (.int .i64 p1) := fun u => (HR0B.out.below u.h HR0B.out.lt).cell (i := 0) rfl
              have d1 : ∀ u : BelowW wb.heap.size wb, u.w.cell? ⟨w.heap.size, 1, none⟩ = some (.int .i64 p2) := fun u => (HR0B.out.below u.h HR0B.out.lt).cell (i := 1) rfl
              have d2 : ∀ u : BelowW wb.heap.size wb, u.w.cell? ⟨w.heap.size, 2, none⟩ = some (.int .i64 t) := fun u => (HR0B.out.below u.h HR0B.out.lt).cell (i := 2) rfl
              clear hbel hwb RB HBb hxy
              cases hgd : (L.take j).all (lessR F (rankV F (p1, p2, t)))
              · have HGV := Lib.hid hgd
                clear hgd
                go_wp2_with fail
                rw [← HWB.out]
                clear e0 e1 e2
                refine wp_region_below wb.heap.size wb (Below.refl _ _) (by kernel_rfl) (by kernel_rfl) ?_
                repeat (go_big_quiet_step (fail))
                refine wpQuiet_nil ?_
                rintro _ ⟨uw, rfl⟩
                go_wp2_with fail
                go_roundw
                case rel => exact ⟨j + 1, by omega, by go_num, by rw [HAS.out, HGV.out]; rfl, HBZ.out.trans ((HBB.out.trans (uw.h.mono hbs)).mono hzs)⟩
                case measure => simp [intOf]; omega
              · have HGV := Lib.hid hgd
                clear hgd
                by_cases g0 : 0 ≤ T (rkIx (x, y, d))
                · by_cases g1 : T (rkIx (x, y, d)) < T (rkIx (p1, p2, t))
                  all_goals
                    have HG1 := Lib.hid g1
                    have HLV := Lib.hid HLS.out
                    rw [decide_eq_true g0, Bool.true_and] at HLV
                    go_wp2_with fail
                    rw [← HWB.out]
                    clear e0 e1 e2
                    refine wp_region_below wb.heap.size wb (Below.refl _ _) (by kernel_rfl) (by kernel_rfl) ?_
                    repeat (go_big_quiet_step ((go_at_call 42; exact calls_below (Nat.le_refl _) (of3_any (HRKB.out.below (BelowW.h _)) _ _ _ (by assumption) (by assumption) (by assumption)))))
                    refine wpQuiet_nil ?_
                    rintro _ ⟨uw, rfl⟩
                    go_wp2_with fail
                    go_roundw
                    case rel => exact ⟨j + 1, by omega, by go_num, by rw [HAS.out, HGV.out, HLV.out]; simp [g1], HBZ.out.trans ((HBB.out.trans (uw.h.mono hbs)).mono hzs)⟩
                    case measure => simp [intOf]; omega
                · have HLV : Hid (lessR F (rankV F (p1, p2, t)) (x, y, d) = false) := Lib.hid (by rw [HLS.out, decide_eq_false g0, Bool.false_and])
                  have gf : decide (0 ≤ T (rkIx (x, y, d))) = false := decide_eq_false g0
                  go_wp2_with fail
                  rw [← HWB.out]
                  clear e0 e1 e2
                  refine wp_region_below wb.heap.size wb (Below.refl _ _) (by kernel_rfl) (by kernel_rfl) ?_
                  repeat (go_big_quiet_step ((go_at_call 42; exact calls_below (Nat.le_refl _) (of3_any (HRKB.out.below (BelowW.h _)) _ _ _ (by assumption) (by assumption) (by assumption)))))
                  refine wpQuiet_nil ?_
                  rintro _ ⟨uw, rfl⟩
                  go_wp2_with fail
                  go_roundw
                  case rel => exact ⟨j + 1, by omega, by go_num, by rw [HAS.out, HGV.out, HLV.out]; rfl, HBZ.out.trans ((HBB.out.trans (uw.h.mono hbs)).mono hzs)⟩
                  case measure => simp [intOf]; omega
            · have hje : j = L.length := by omega
              subst hje
              have rb := HRB5.out.below hbel hlb5
              have b0 := rb.cell (i := 0) rfl
              have b1 := rb.cell (i := 1) rfl
              have rz := HRZ5.out.below hbel hlz5
              have z0 := rz.cell (i := 0) rfl
              have z1 := rz.cell (i := 1) rfl
              have f0 := rz.free 0
              have f1 := rz.free 1
              have lz := rz.lt
              have lb := rb.lt
              have HTL : Hid ((L.take L.length).all (lessR F (rankV F (p1, p2, t))) = goodR n g F (p1, p2, t) (u, v, t)) := Lib.hid (by rw [List.take_length, HGD2.out])
              clear hbel rb rz
              cases hgd : (L.take L.length).all (lessR F (rankV F (p1, p2, t)))
              · have HGN : Hid (goodR n g F (p1, p2, t) (u, v, t) = false) := Lib.hid (by rw [← HTL.out, hgd])
                clear hgd
                go_wp2_with fail
                go_roundw
                case rel =>
                  refine ⟨m + 1, by omega, by go_num, Lib.hid (fun l q hl hq => ?_), HBP.out.trans ((HB5.out.trans (HBZ.out.mono h5s)).mono hps)⟩
                  rcases Nat.lt_succ_iff_lt_or_eq.1 hl with h | h
                  · exact HNO.out l q h hq
                  · subst h
                    rw [HX.out] at hq
                    cases hq
                    exact HGN.out
                case measure => simp [intOf]; omega
              · have HGY : Hid (goodR n g F (p1, p2, t) (u, v, t) = true) := Lib.hid (by rw [← HTL.out, hgd])
                clear hgd
                go_wp2_with fail
                refine bodyPost_ret (v := .tuple #[.agg #[.int .i64 u, .int .i64 v], .int .i64 0]) (by simp [results, Try.results18, go_sem, z0, z1, lz]) rfl ?_
                have hfn : mvRef n k g F (p1, p2, t) = some (u, v, t) := by rw [HM.out]; exact find_at HX.out HGY.out HNO.out
                exact ⟨((HBW5.out.trans (HBZ.out.mono HBW5.out.size)).setCell (by simp) _).setCell (by simp) _, fun h => by (rw [hfn] at h; cases h), fun q h => by (rw [hfn] at h; cases h; rfl)⟩
        · have HC := Lib.hid hC
          have HGY : Hid (goodR n g F (p1, p2, t) (u, v, t) = true) := Lib.hid (by rw [HGD.out, hC, Bool.true_or])
          clear hC
          go_wp2_with fail
          go_at_call 44
          refine (caughtR_any (u, v, t) _).mono ?_
          rintro e w4 ⟨rfl, hb4⟩
          rw [HC.out]
          have rb4 := (Row.new wp 25 [.int .i64 u, .int .i64 v, .int .i64 t]).below hb4 (by simp)
          have b0 := rb4.cell (i := 0) rfl
          have b1 := rb4.cell (i := 1) rfl
          have HB4 := Lib.hid (((Below.refl wp.heap.size wp).alloc (Nat.le_refl _) _).trans (hb4.mono (by simp)))
          have HBW4 : Hid (Below w.heap.size w w4) := Lib.hid (HBWP.out.trans (HB4.out.mono HBWP.out.size))
          have rz := HRZP.out.below HB4.out HRZP.out.lt
          clear hb4 rb4 e0 e1 e2 z0 z1 f0 f1
          have z0 := rz.cell (i := 0) rfl
          have z1 := rz.cell (i := 1) rfl
          have f0 := rz.free 0
          have f1 := rz.free 1
          have lz := rz.lt
          clear rz
          go_wp2_with fail
          refine bodyPost_ret (v := .tuple #[.agg #[.int .i64 u, .int .i64 v], .int .i64 0]) (by simp [results, Try.results18, go_sem, z0, z1, lz]) rfl ?_
          have hfn : mvRef n k g F (p1, p2, t) = some (u, v, t) := by rw [HM.out]; exact find_at HX.out HGY.out HNO.out
          exact ⟨(HBW4.out.setCell (by simp) _).setCell (by simp) _, fun h => by (rw [hfn] at h; cases h), fun q h => by (rw [hfn] at h; cases h; rfl)⟩
      · have hme : m = M.length := by omega
        subst hme
        have HMN : Hid (mvRef n k g F (p1, p2, p3) = none) := Lib.hid (by rw [HM.out]; exact find_no HNO.out)
        go_wp2_with fail
        refine bodyPost_ret (v := .tuple #[.agg #[.int .i64 0, .int .i64 0], .int .i64 4]) (by simp [results, Try.results18, go_sem, z0, z1, hlzp]) rfl ?_
        exact ⟨(HBWP.out.setCell (by simp) _).setCell (by simp) _, fun _ => rfl, fun q h => by (rw [HMN.out] at h; cases h)⟩

end Go.Proofs.Ytmkcnpphdghbaaa
