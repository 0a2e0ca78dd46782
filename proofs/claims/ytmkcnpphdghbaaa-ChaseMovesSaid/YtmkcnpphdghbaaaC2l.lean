/- The contract of the reference's IsSafe. -/
import Derived.Test.YtmkcnpphdghbaaaS3
namespace Go.Proofs.Ytmkcnpphdghbaaa
set_option linter.unusedSimpArgs false
set_option linter.unusedVariables false
open Go.RowKit Go.Maps
attribute [local go_sem] i64_bit toNat_eq_one toNat_ne_one toNat_eq_zero toNat_ne_zero i64_and i64_or i64_andNot i64_or_pow i64_andNot_pow

/-- A Place as it comes in: any three whole numbers. -/
abbrev PI := Int × Int × Int
def castP (q : Pl) : PI := ((q.1 : Int), (q.2.1 : Int), (q.2.2 : Int))
def toN (p : PI) : Pl := (p.1.toNat, p.2.1.toNat, p.2.2.toNat)
theorem castP_inj {p q : Pl} (h : castP p = castP q) : p = q := by
  unfold castP at h
  simp only [Prod.mk.injEq] at h
  exact Prod.ext (by omega) (Prod.ext (by omega) (by omega))
theorem toN_cast (q : Pl) : toN (castP q) = q := by unfold toN castP; simp

/-- A slice of Places in memory. -/
def PlsAt (w : World) (a : Option Addr) (P : List PI) : Prop :=
  P.length ≤ 1000000 ∧ (P ≠ [] → ∃ b off, a = some ⟨b, off, none⟩ ∧ b < w.heap.size ∧ ∀ i p, P[i]? = some p → w.cell? ⟨b, off + i * 3, none⟩ = some (.int .i64 p.1) ∧ w.cell? ⟨b, off + i * 3 + 1, none⟩ = some (.int .i64 p.2.1) ∧ w.cell? ⟨b, off + i * 3 + 2, none⟩ = some (.int .i64 p.2.2))
theorem PlsAt.below {w w' : World} {a : Option Addr} {P : List PI} (h : PlsAt w a P) (hb : Below w.heap.size w w') : PlsAt w' a P := by
  refine ⟨h.1, fun hne => ?_⟩
  obtain ⟨b, off, ha, hl, hc⟩ := h.2 hne
  refine ⟨b, off, ha, Nat.lt_of_lt_of_le hl hb.size, fun i p hi => ?_⟩
  rw [hb.cell (p := ⟨b, off + i * 3, none⟩) hl, hb.cell (p := ⟨b, off + i * 3 + 1, none⟩) hl, hb.cell (p := ⟨b, off + i * 3 + 2, none⟩) hl]
  exact hc i p hi
theorem PlsAt.get {w : World} {a : Option Addr} {P : List PI} (h : PlsAt w a P) {i : Nat} {p : PI} (hi : P[i]? = some p) : ∃ b off, a = some ⟨b, off, none⟩ ∧ b < w.heap.size ∧ w.cell? ⟨b, off + i * 3, none⟩ = some (.int .i64 p.1) ∧ w.cell? ⟨b, off + i * 3 + 1, none⟩ = some (.int .i64 p.2.1) ∧ w.cell? ⟨b, off + i * 3 + 2, none⟩ = some (.int .i64 p.2.2) := by
  obtain ⟨b, off, ha, hl, hc⟩ := h.2 (fun e => by rw [e] at hi; simp at hi)
  obtain ⟨h1, h2, h3⟩ := hc i p hi
  exact ⟨b, off, ha, hl, h1, h2, h3⟩

/-- A table of truths in a block of one's own. -/
def BRow (w : World) (b : Nat) (B : Nat → Bool) : Prop := Row w b 88 ((List.range 512).map fun i => .bool (B i))
theorem BRow.cell {w : World} {b : Nat} {B : Nat → Bool} (h : BRow w b B) {i : Nat} (hi : i < 512) : w.cell? ⟨b, i, none⟩ = some (.bool (B i)) := Row.cell h (map_range_get _ hi)
theorem BRow.below {w w' : World} {b : Nat} {B : Nat → Bool} (h : BRow w b B) (hb : Below w.heap.size w w') : BRow w' b B := Row.below h hb (Row.lt h)
theorem BRow.set {w : World} {b : Nat} {B : Nat → Bool} (h : BRow w b B) (i : Nat) (v : Bool) : BRow (w.setCell ⟨b, i, none⟩ (.bool v)) b (fun j => if j = i then v else B j) := by
  have := Row.set h i (.bool v)
  rw [map_range_set] at this
  unfold BRow
  have e : ((List.range 512).map fun j => Value.bool (if j = i then v else B j)) = (List.range 512).map fun j => if j = i then Value.bool v else .bool (B j) := by
    apply List.map_congr_left
    intro j _
    split <;> rfl
  rw [e]
  exact this

/-! ### safe places, in plain words -/

def okE (n : Nat) (kI : Int) (p : PI) : Bool := isPlR n kI p.1 p.2.1 p.2.2 && !ctchB (toN p)
def freeQ (n : Nat) (g : Nat → Nat) (P : List PI) (q : Pl) : Bool := !ctchB q && (flTo (rch g q.2.2) q.1 q.2.1 n).any fun x => decide (castP x ∈ P)
def stayE (n k : Nat) (g : Nat → Nat) (P : List PI) (p : PI) : Bool := (mvTo (rch g) n k ((toN p).1, (toN p).2.1) (toN p).2.2 n).all (freeQ n g P)
def coverE (n : Nat) (P : List PI) (ab : Nat × Nat) : Bool := (List.range n).any fun c => decide (castP (ab.1, ab.2, c) ∈ P)
def safeB (n k : Nat) (kI : Int) (g : Nat → Nat) (P : List PI) : Bool := P.all (okE n kI) && P.all (stayE n k g P) && (chs n k).all (coverE n P) && decide (0 < P.length)

theorem all_at {α : Type} {p : α → Bool} {l : List α} {i : Nat} {x : α} (h : l[i]? = some x) (hp : p x = false) : l.all p = false := by
  rw [Bool.eq_false_iff]
  intro ha
  rw [List.all_eq_true] at ha
  have := ha x (List.mem_of_getElem? h)
  rw [hp] at this
  cases this
theorem all_upto {α : Type} {p : α → Bool} {l : List α} (h : ∀ i x, i < l.length → l[i]? = some x → p x = true) : l.all p = true := by
  rw [List.all_eq_true]
  intro x hx
  obtain ⟨i, hi⟩ := List.mem_iff_getElem?.1 hx
  exact h i x (List.getElem?_eq_some_iff.1 hi).1 hi
theorem any_take_succ {α : Type} (p : α → Bool) (l : List α) (k : Nat) (x : α) (h : l[k]? = some x) : (l.take (k + 1)).any p = ((l.take k).any p || p x) := by
  rw [take_snoc' l k x h, List.any_append]
  simp
theorem safe_no1 {n k : Nat} {kI : Int} {g : Nat → Nat} {P : List PI} (h : P.all (okE n kI) = false) : safeB n k kI g P = false := by unfold safeB; rw [h]; rfl
theorem safe_no2 {n k : Nat} {kI : Int} {g : Nat → Nat} {P : List PI} (h : P.all (stayE n k g P) = false) : safeB n k kI g P = false := by unfold safeB; rw [h]; simp
theorem safe_no3 {n k : Nat} {kI : Int} {g : Nat → Nat} {P : List PI} (h : (chs n k).all (coverE n P) = false) : safeB n k kI g P = false := by unfold safeB; rw [h]; simp

/-- What the table says behind so many Places. -/
def TabIn (P : List PI) (j : Nat) (B : Nat → Bool) : Prop := ∀ q : Pl, q.1 < 8 → q.2.1 < 8 → q.2.2 < 8 → B (rkIx q) = decide (castP q ∈ P.take j)
theorem TabIn.zero (P : List PI) : TabIn P 0 fun _ => false := fun q _ _ _ => by simp
theorem TabIn.step {P : List PI} {j : Nat} {B : Nat → Bool} {q : Pl} (h : TabIn P j B) (hq : P[j]? = some (castP q)) (h1 : q.1 < 8) (h2 : q.2.1 < 8) (h3 : q.2.2 < 8) : TabIn P (j + 1) (fun i => if i = rkIx q then true else B i) := by
  intro x x1 x2 x3
  rw [take_snoc' P j _ hq]
  dsimp only
  by_cases he : rkIx x = rkIx q
  · have hx := rkIx_inj ⟨x1, x2, x3⟩ ⟨h1, h2, h3⟩ he
    subst hx
    simp
  · rw [if_neg he, h x x1 x2 x3]
    have hne : castP x ≠ castP q := fun e => he (by rw [castP_inj e])
    simp [hne]

set_option maxRecDepth 20000 in
set_option maxHeartbeats 4000000 in
theorem IsSafe_any {n : Nat} {g : Nat → Nat} {a pa : Option Addr} {w : World} {P : List PI} (G : GrAt w a n g) (hP : PlsAt w pa P) (cap pc k : Nat) (kI : Int) (hk : kI = 1 ∧ k = 1 ∨ kI = 2 ∧ k = 2) (hn8 : n ≤ 8) :
    Calls Try.prog 26 #[.slice a n cap, .int .i64 kI, .slice pa P.length pc] w fun e w' => e = .returned (.bool (safeB n k kI g P)) ∧ Below w.heap.size w w' := by
  have hn := G.small
  have hk12 : k = 1 ∨ k = 2 := by omega
  have hml := G.ints.1
  unfold maxLen at hml
  have hpl := hP.1
  have HKT : Hid (kI.toNat = k) := Lib.hid (by omega)
  obtain ⟨w0, hw0⟩ : ∃ w0, w0 = w.alloc (.cells Try.zeroCells88 88) := ⟨_, rfl⟩
  have hzc : Try.zeroCells88 = ((List.range 512).map fun i => Value.bool ((fun _ => false) i)).toArray := by kernel_rfl
  have R0 : BRow w0 w.heap.size (fun _ => false) := by rw [hw0, hzc]; exact Row.new _ _ _
  have HB : Below w.heap.size w w0 := by rw [hw0]; exact (Below.refl _ _).alloc (Nat.le_refl _) _
  have hsz := Row.lt R0
  have HW := Lib.hid hw0
  have HR0 := Lib.hid R0
  have HB0 := Lib.hid HB
  have HPW := Lib.hid hP
  have HBG : Hid (∀ wx, w0.grownBy wx (some w.heap.size) → Below w.heap.size w wx) := Lib.hid (fun wx hg => HB0.out.grown hg HB0.out.size (fun k hk => by cases hk; exact Nat.le_refl _))
  clear R0 hw0 hzc HB hP
  go_enter Try.func26, Try.ntmps26
  go_wp2_with fail
  rw [← HW.out]
  clear HW
  go_loopw [23] (fun i wr => ∃ (j : Nat) (B : Nat → Bool), j ≤ P.length ∧ i = .int .i64 j ∧ BRow wr w.heap.size B ∧ Hid (TabIn P j B) ∧ Hid (∀ i p, i < j → P[i]? = some p → okE n kI p = true) ∧ w0.grownBy wr (some w.heap.size)) (fun i _ => P.length - (intOf i).toNat)
  case atStart => exact ⟨0, _, Nat.zero_le _, rfl, HR0.out, Lib.hid (TabIn.zero P), Lib.hid (by omega), grownBy_of_below (Below.refl _ _) _⟩
  case round =>
    obtain ⟨j, B, hj, rfl, hr, HTI, HOK, hgr⟩ := hrel
    have HR := Lib.hid hr
    have HGR := Lib.hid hgr
    have hbw := HBG.out wr hgr
    have HBW := Lib.hid hbw
    have hrl := Row.lt hr
    by_cases hlt : j < P.length
    · obtain ⟨⟨p1, p2, p3⟩, hp⟩ : ∃ p, P[j]? = some p := ⟨P[j], by simp [hlt]⟩
      obtain ⟨pb, off, rfl, hpb, e0, e1, e2⟩ := (HPW.out.below hbw).get hp
      dsimp only at e0 e1 e2
      have HX := Lib.hid hp
      clear hr hgr hbw hp
      cases hok : isPlR n kI p1 p2 p3
      · have HN := Lib.hid hok
        have HSN := Lib.hid (safe_no1 (k := k) (g := g) (all_at HX.out (show okE n kI (p1, p2, p3) = false by unfold okE; rw [hok]; rfl)))
        clear hok
        go_wp2_with fail
        go_at_call 41
        refine (IsPlaceR_any n kI p1 p2 p3 _ _ _).mono ?_
        rintro e w3 ⟨rfl, hb3⟩
        rw [HN.out]
        have HB3 := Lib.hid (((Below.refl wr.heap.size wr).alloc (Nat.le_refl _) _).trans (hb3.mono (by simp)))
        clear hb3
        go_wp2_with fail
        go_ret
        exact ⟨by rw [HSN.out]; rfl, HBW.out.trans (HB3.out.mono HBW.out.size)⟩
      · have HN := Lib.hid hok
        have hok2 := hok
        unfold isPlR at hok2
        have hok3 := of_decide_eq_true hok2
        obtain ⟨x, rfl⟩ : ∃ x : Nat, p1 = x := ⟨p1.toNat, by omega⟩
        obtain ⟨y, rfl⟩ : ∃ y : Nat, p2 = y := ⟨p2.toNat, by omega⟩
        obtain ⟨z, rfl⟩ : ∃ z : Nat, p3 = z := ⟨p3.toNat, by omega⟩
        have x8 : x < 8 := by omega
        have y8 : y < 8 := by omega
        have z8 : z < 8 := by omega
        clear hok hok2 hok3
        have HXP : Hid (P[j]? = some (castP (x, y, z))) := Lib.hid HX.out
        have HOE : Hid (okE n kI ((x : Int), (y : Int), (z : Int)) = !ctchB (x, y, z)) := Lib.hid (by unfold okE; rw [show isPlR n kI ((x : Int), (y : Int), (z : Int)).1 ((x : Int), (y : Int), (z : Int)).2.1 ((x : Int), (y : Int), (z : Int)).2.2 = true from HN.out]; rfl)
        cases hC : ctchB (x, y, z)
        all_goals
          have HC := Lib.hid hC
          clear hC
          go_wp2_with fail
          go_at_call 41
          refine (IsPlaceR_any n kI x y z _ _ _).mono ?_
          rintro e w3 ⟨rfl, hb3⟩
          rw [HN.out]
          have HB3 := Lib.hid (((Below.refl wr.heap.size wr).alloc (Nat.le_refl _) _).trans (hb3.mono (by simp)))
          have r3 := (Row.new wr 25 [.int .i64 x, .int .i64 y, .int .i64 z]).below hb3 (by simp)
          have HR3 := Lib.hid r3
          have d0 := r3.cell (i := 0) rfl
          have d1 := r3.cell (i := 1) rfl
          have d2 := r3.cell (i := 2) rfl
          clear hb3 r3 e0 e1 e2
          go_wp2_with fail
          go_at_call 44
          refine (caughtR_any (x, y, z) _).mono ?_
          rintro e w4 ⟨rfl, hb4⟩
          rw [HC.out]
          have r4 := HR3.out.below hb4 HR3.out.lt
          have HB4 := Lib.hid (HB3.out.trans (hb4.mono HB3.out.size))
          have HRT := Lib.hid (HR.out.below HB4.out)
          clear hb4 d0 d1 d2
          have d0 := r4.cell (i := 0) rfl
          have d1 := r4.cell (i := 1) rfl
          have d2 := r4.cell (i := 2) rfl
          have hc := (HRT.out).cell (i := x * 64 + y * 8 + z) (by omega)
          have hf := Row.free HRT.out (x * 64 + y * 8 + z)
          clear r4
          go_wp2_with fail
          first
            | (go_ret
               exact ⟨by rw [safe_no1 (k := k) (g := g) (all_at HX.out (by rw [HOE.out, HC.out]; rfl))]; rfl, HBW.out.trans (HB4.out.mono HBW.out.size)⟩)
            | (go_region
               clear d0 d1 d2 hc hf
               go_wp2_with fail
               go_roundw
               case rel =>
                 refine ⟨j + 1, fun i => if i = rkIx (x, y, z) then true else B i, by omega, by go_num, Row.drewN (HRT.out.set (rkIx (x, y, z)) true) 1, Lib.hid (HTI.out.step HXP.out x8 y8 z8), Lib.hid (fun i p hi hp => ?_), grownBy_trans (grownBy_trans HGR.out (grownBy_of_below HB4.out _)) (grownBy_drew (grownBy_set _ _ _))⟩
                 rcases Nat.lt_succ_iff_lt_or_eq.1 hi with h | h
                 · exact HOK.out i p h hp
                 · subst h
                   rw [HX.out] at hp
                   cases hp
                   rw [HOE.out, HC.out]
                   rfl
               case measure => simp [intOf]; omega)
    · have hje : j = P.length := by omega
      subst hje
      have HBV : Hid (∀ q : Pl, q.1 < 8 → q.2.1 < 8 → q.2.2 < 8 → B (rkIx q) = decide (castP q ∈ P)) := Lib.hid (fun q h1 h2 h3 => by rw [HTI.out q h1 h2 h3, List.take_length])
      have HEL : Hid (∀ i p, P[i]? = some p → ∃ x y z : Nat, p = ((x : Int), (y : Int), (z : Int)) ∧ (x, y) ∈ chs n k ∧ z < n) := Lib.hid (fun i p hi => by
        have h := HOK.out i p (List.getElem?_eq_some_iff.1 hi).1 hi
        obtain ⟨p1, p2, p3⟩ := p
        unfold okE isPlR at h
        rw [Bool.and_eq_true] at h
        have h2 := of_decide_eq_true h.1
        dsimp only at h2
        refine ⟨p1.toNat, p2.toNat, p3.toNat, Prod.ext (by dsimp only; omega) (Prod.ext (by dsimp only; omega) (by dsimp only; omega)), (chs_mem hk12).2 ⟨by omega, by omega, by omega⟩, by omega⟩)
      have HALL1 : Hid (P.all (okE n kI) = true) := Lib.hid (all_upto HOK.out)
      have HRA := HR
      have HBA := HBW
      obtain ⟨wA, rfl⟩ : ∃ wA : World, wA = wr := ⟨_, rfl⟩
      clear hr hgr hbw hj hlt HR HBW HTI HOK HGR
      go_wp2_with fail
      go_loopw [48] (fun i wr => ∃ j : Nat, j ≤ P.length ∧ i = .int .i64 j ∧ Hid (∀ i p, i < j → P[i]? = some p → stayE n k g P p = true) ∧ Below wA.heap.size wA wr) (fun i _ => P.length - (intOf i).toNat)
      case atStart => exact ⟨0, Nat.zero_le _, rfl, Lib.hid (by omega), Below.refl _ _⟩
      case round =>
        obtain ⟨j, hj, rfl, HST, hbel⟩ := hrel
        obtain ⟨wp, rfl⟩ : ∃ wp : World, wp = wr := ⟨_, rfl⟩
        have HBP := Lib.hid hbel
        have hps := hbel.size
        have HBWP : Hid (Below w.heap.size w wp) := Lib.hid (HBA.out.trans (hbel.mono HBA.out.size))
        have HRP := Lib.hid (HRA.out.below hbel)
        clear hbel
        by_cases hlt : j < P.length
        · obtain ⟨p, hp⟩ : ∃ p, P[j]? = some p := ⟨P[j], by simp [hlt]⟩
          obtain ⟨x, y, z, rfl, hxy, hz⟩ := HEL.out j p hp
          obtain ⟨pb, off, rfl, hpb, e0, e1, e2⟩ := (HPW.out.below HBWP.out).get hp
          obtain ⟨hx, hy, -⟩ := chs_lt n k _ hxy
          dsimp only at e0 e1 e2 hx hy
          have HX := Lib.hid hp
          have HSE : Hid (stayE n k g P ((x : Int), (y : Int), (z : Int)) = (mvTo (rch g) n k (x, y) z n).all (freeQ n g P)) := Lib.hid (by
            have : toN ((x : Int), (y : Int), (z : Int)) = (x, y, z) := toN_cast (x, y, z)
            unfold stayE
            rw [this])
          clear hp hxy
          go_wp2_with fail
          go_at_call 43
          refine (moves_any (G.below (HBWP.out.trans (((Below.refl wp.heap.size wp).alloc (Nat.le_refl _) (.cells #[.int .i64 x, .int .i64 y, .int .i64 z] 25)).mono HBWP.out.size))) cap k kI hk (x, y, z) hx hy hz).mono ?_
          rintro e w4 ⟨⟨v4, rfl, ho4⟩, hb4⟩
          dsimp only at ho4
          have HMM := Lib.hid (fun p (hp : p ∈ mvTo (rch g) n k (x, y) z n) => mvTo_mem hk12 G.pos hp)
          have hml4 := mvTo_len (rch g) n k (x, y) z hn n
          generalize mvTo (rch g) n k (x, y) z n = M at *
          obtain ⟨av4, cv4, rfl⟩ := own_form ho4
          have HO4 := Lib.hid ho4
          have HB4 := Lib.hid (((Below.refl wp.heap.size wp).alloc (Nat.le_refl _) _).trans (hb4.mono (by simp)))
          have h4s := HB4.out.size
          have HR4 := Lib.hid (HRP.out.below HB4.out)
          have HBW4 : Hid (Below w.heap.size w w4) := Lib.hid (HBWP.out.trans (HB4.out.mono HBWP.out.size))
          clear e0 e1 e2 hb4 ho4
          go_wp2_with fail
          go_loopw [57] (fun c wz => ∃ m : Nat, m ≤ M.length ∧ c = .int .i64 m ∧ Hid (∀ l q, l < m → M[l]? = some q → freeQ n g P q = true) ∧ Below w4.heap.size w4 wz) (fun c _ => M.length - (intOf c).toNat)
          case atStart => exact ⟨0, Nat.zero_le _, rfl, Lib.hid (by omega), Below.refl _ _⟩
          case round =>
            obtain ⟨m, hm, rfl, HFR, hbel⟩ := hrel
            obtain ⟨wq, rfl⟩ : ∃ wq : World, wq = wr := ⟨_, rfl⟩
            have HBQ := Lib.hid hbel
            have hqs := hbel.size
            have HRQ := Lib.hid (HR4.out.below hbel)
            have HBWQ : Hid (Below w.heap.size w wq) := Lib.hid (HBW4.out.trans (hbel.mono HBW4.out.size))
            clear hbel
            by_cases hlm : m < M.length
            · obtain ⟨⟨u, v, t⟩, huv⟩ : ∃ q, M[m]? = some q := ⟨M[m], by simp [hlm]⟩
              obtain ⟨hu, hv, ht⟩ := HMM.out _ (List.mem_of_getElem? huv)
              dsimp only at hu hv ht
              subst ht
              obtain ⟨gm, rfl, hgm1, hgm2, e0, e1, e2⟩ := PlsOwn.read HO4.out huv
              rw [← HBQ.out.cell (p := ⟨gm, m * 3, none⟩) hgm2] at e0
              rw [← HBQ.out.cell (p := ⟨gm, m * 3 + 1, none⟩) hgm2] at e1
              rw [← HBQ.out.cell (p := ⟨gm, m * 3 + 2, none⟩) hgm2] at e2
              dsimp only at e0 e1 e2
              have HXM := Lib.hid huv
              have HFQ : Hid (freeQ n g P (u, v, t) = (!ctchB (u, v, t) && (flTo (rch g t) u v n).any fun x => decide (castP x ∈ P))) := Lib.hid rfl
              clear huv
              go_wp2_with fail
              go_at_call 45
              refine (flees_any (G.below (HBWQ.out.trans (((Below.refl wq.heap.size wq).alloc (Nat.le_refl _) (.cells #[.int .i64 u, .int .i64 v, .int .i64 t] 25)).mono HBWQ.out.size))) cap (u, v, t) hz).mono ?_
              rintro e w5 ⟨⟨v5, rfl, ho5⟩, hb5⟩
              dsimp only at ho5
              have HFM := Lib.hid (fun p (hp : p ∈ flTo (rch g t) u v n) => flTo_mem hp)
              have hfl := flTo_len (rch g t) u v n
              generalize flTo (rch g t) u v n = L at *
              obtain ⟨av5, cv5, rfl⟩ := own_form ho5
              have HO5 := Lib.hid ho5
              have rb5 := (Row.new wq 25 [.int .i64 u, .int .i64 v, .int .i64 t]).below hb5 (by simp)
              have HRB5 := Lib.hid rb5
              have HB5 := Lib.hid (((Below.refl wq.heap.size wq).alloc (Nat.le_refl _) _).trans (hb5.mono (by simp)))
              have h5s := HB5.out.size
              have hlb5 : wq.heap.size < w5.heap.size := rb5.lt
              have HR5 := Lib.hid (HRQ.out.below HB5.out)
              have HBW5 : Hid (Below w.heap.size w w5) := Lib.hid (HBWQ.out.trans (HB5.out.mono HBWQ.out.size))
              clear e0 e1 e2 rb5 hb5 ho5
              go_wp2_with fail
              go_loopw [14, 65] (fun fr c wz => ∃ i : Nat, i ≤ L.length ∧ c = .int .i64 i ∧ fr = .bool ((L.take i).any fun x => decide (castP x ∈ P)) ∧ Below w5.heap.size w5 wz) (fun _ c _ => L.length - (intOf c).toNat)
              case atStart => exact ⟨0, Nat.zero_le _, rfl, rfl, Below.refl _ _⟩
              case round =>
                obtain ⟨i, hi, rfl, rfl, hbel⟩ := hrel
                obtain ⟨wz, rfl⟩ : ∃ wz : World, wz = wr := ⟨_, rfl⟩
                have HBZ := Lib.hid hbel
                have hzs := hbel.size
                by_cases hli : i < L.length
                · obtain ⟨⟨x', y', d⟩, hxd⟩ : ∃ q, L[i]? = some q := ⟨L[i], by simp [hli]⟩
                  obtain ⟨q1, q2, q3, -⟩ := HFM.out _ (List.mem_of_getElem? hxd)
                  dsimp only at q1 q2 q3
                  subst q1
                  subst q2
                  have u8 : x' < 8 := by omega
                  have v8 : y' < 8 := by omega
                  have d8 : d < 8 := by omega
                  obtain ⟨gl, rfl, hgl1, hgl2, e0, e1, e2⟩ := PlsOwn.read HO5.out hxd
                  rw [← hbel.cell (p := ⟨gl, i * 3, none⟩) hgl2] at e0
                  rw [← hbel.cell (p := ⟨gl, i * 3 + 1, none⟩) hgl2] at e1
                  rw [← hbel.cell (p := ⟨gl, i * 3 + 2, none⟩) hgl2] at e2
                  dsimp only at e0 e1 e2
                  have HAS := Lib.hid (any_take_succ (fun x => decide (castP x ∈ P)) L i (x', y', d) hxd)
                  have HBQV := Lib.hid (HBV.out (x', y', d) u8 v8 d8)
                  obtain ⟨wb, hwb, RB, HBb, hszb⟩ := new1 wz 25 [.int .i64 x', .int .i64 y', .int .i64 d]
                  have HWB := Lib.hid hwb
                  have HBB := Lib.hid HBb
                  have b0 := RB.cell (i := 0) rfl
                  have b1 := RB.cell (i := 1) rfl
                  have b2 := RB.cell (i := 2) rfl
                  have hbs : wz.heap.size ≤ wb.heap.size := by omega
                  have hrt := (HR5.out.below hbel).below HBb
                  have hc := hrt.cell (i := x' * 64 + y' * 8 + d) (by omega)
                  rw [show B (x' * 64 + y' * 8 + d) = decide (castP (x', y', d) ∈ P) from HBQV.out] at hc
                  clear hbel hwb RB HBb hxd hrt
                  cases hfr : (L.take i).any fun x => decide (castP x ∈ P)
                  all_goals
                    have HFV := Lib.hid hfr
                    clear hfr
                    go_wp2_with fail
                    rw [← HWB.out]
                    clear e0 e1 e2
                    go_quiet (fail)
                    go_wp2_with fail
                    go_roundw
                    case rel => exact ⟨i + 1, by omega, by go_num, by rw [HAS.out, HFV.out]; simp, HBZ.out.trans ((below_drewN HBB.out _).mono hzs)⟩
                    case measure => simp [intOf]; omega
                · have hie : i = L.length := by omega
                  subst hie
                  have rb := HRB5.out.below hbel hlb5
                  have HRBZ := Lib.hid rb
                  have b0 := rb.cell (i := 0) rfl
                  have b1 := rb.cell (i := 1) rfl
                  have b2 := rb.cell (i := 2) rfl
                  have HTL : Hid ((L.take L.length).any (fun x => decide (castP x ∈ P)) = L.any fun x => decide (castP x ∈ P)) := Lib.hid (by rw [List.take_length])
                  have HBWZ : Hid (Below w.heap.size w wz) := Lib.hid (HBW5.out.trans (HBZ.out.mono HBW5.out.size))
                  clear hbel rb
                  cases hC : ctchB (u, v, t) <;> cases hfr : (L.take L.length).any fun x => decide (castP x ∈ P)
                  all_goals
                    have HC := Lib.hid hC
                    have HFV := Lib.hid hfr
                    clear hC hfr
                    go_wp2_with fail
                    go_at_call 44
                    refine (caughtR_any (u, v, t) _).mono ?_
                    rintro e w6 ⟨rfl, hb6⟩
                    rw [HC.out]
                    have HB6 := Lib.hid hb6
                    clear hb6
                    go_wp2_with fail
                    first
                      | (go_ret
                         have hfn : freeQ n g P (u, v, t) = false := by rw [HFQ.out, HC.out, ← HTL.out, HFV.out]; rfl
                         exact ⟨by rw [safe_no2 (all_at HX.out (by rw [HSE.out]; exact all_at HXM.out hfn))]; rfl, HBWZ.out.trans (HB6.out.mono HBWZ.out.size)⟩)
                      | (go_roundw
                         case rel =>
                           refine ⟨m + 1, by omega, by go_num, Lib.hid (fun l q hl hq => ?_), HBQ.out.trans ((HB5.out.trans ((HBZ.out.trans (HB6.out.mono hzs)).mono h5s)).mono hqs)⟩
                           rcases Nat.lt_succ_iff_lt_or_eq.1 hl with h | h
                           · exact HFR.out l q h hq
                           · subst h
                             rw [HXM.out] at hq
                             cases hq
                             rw [HFQ.out, HC.out, ← HTL.out, HFV.out]
                             rfl
                         case measure => simp [intOf]; omega)
            · have hme : m = M.length := by omega
              subst hme
              have HSY : Hid (stayE n k g P ((x : Int), (y : Int), (z : Int)) = true) := Lib.hid (by rw [HSE.out]; exact all_upto HFR.out)
              go_wp2_with fail
              go_roundw
              case rel =>
                refine ⟨j + 1, by omega, by go_num, Lib.hid (fun i p hi hp => ?_), HBP.out.trans ((HB4.out.trans (HBQ.out.mono h4s)).mono hps)⟩
                rcases Nat.lt_succ_iff_lt_or_eq.1 hi with h | h
                · exact HST.out i p h hp
                · subst h
                  rw [HX.out] at hp
                  cases hp
                  exact HSY.out
              case measure => simp [intOf]; omega
        · have hje : j = P.length := by omega
          subst hje
          have HALL2 : Hid (P.all (stayE n k g P) = true) := Lib.hid (all_upto HST.out)
          clear hlt hj
          go_wp2_with fail
          go_loopw [93] (fun i wr => ∃ a : Nat, a ≤ n ∧ i = .int .i64 a ∧ Hid (∀ x y, x < a → (x, y) ∈ chs n k → coverE n P (x, y) = true) ∧ Below wp.heap.size wp wr) (fun i _ => n - (intOf i).toNat)
          case atStart => exact ⟨0, Nat.zero_le _, rfl, Lib.hid (fun x y h => absurd h (by omega)), Below.refl _ _⟩
          case round =>
            obtain ⟨a, ha, rfl, HCA, hbel⟩ := hrel
            have HBE := Lib.hid hbel
            clear hbel
            by_cases hla : a < n
            · go_wp2_with fail
              go_loopw [18] (fun i wx => ∃ b : Nat, a ≤ b ∧ b ≤ n ∧ i = .int .i64 b ∧ Hid (∀ y, y < b → (a, y) ∈ chs n k → coverE n P (a, y) = true) ∧ Below wp.heap.size wp wx) (fun i _ => n - (intOf i).toNat)
              case atStart => exact ⟨a, Nat.le_refl _, ha, rfl, Lib.hid (fun y h hc => by have := (chs_mem hk12).1 hc; omega), HBE.out⟩
              case round =>
                clear HBE
                obtain ⟨b, hab, hbn, rfl, HCB, hbel⟩ := hrel
                have HBE := Lib.hid hbel
                clear hbel
                by_cases hlb : b < n
                · have a8 : a < 8 := by omega
                  have b8 : b < 8 := by omega
                  go_upto_region 31 with fail
                  go_cut [19] from 97 to 127 (fun t wy => t = .bool (!decide ((a, b) ∈ chs n k)) ∧ wr = wy)
                  case first =>
                    rcases hk with ⟨rfl, rfl⟩ | ⟨rfl, rfl⟩
                    · by_cases he : a = b
                      all_goals
                        have hab2 : ((a : Int) != (b : Int)) = !decide (a = b) := by unfold bne; rw [cast_beq]; rfl
                        have HE : Hid (decide ((a, b) ∈ chs n 1) = decide (a = b)) := Lib.hid (by rw [Bool.eq_iff_iff, decide_eq_true_iff, decide_eq_true_iff, chs_mem (Or.inl rfl)]; omega)
                        simp only [he, decide_true, decide_false, Bool.not_true, Bool.not_false] at hab2
                        have HE2 := Lib.hid he
                        clear he
                        go_wp2_with fail
                        go_meet
                        exact ⟨by rw [HE.out]; simp [HE2.out], rfl⟩
                    · have HE : Hid (decide ((a, b) ∈ chs n 2) = true) := Lib.hid (decide_eq_true ((chs_mem (Or.inr rfl)).2 ⟨hab, hlb, Or.inl rfl⟩))
                      go_wp2_with fail
                      go_meet
                      exact ⟨by rw [HE.out]; rfl, rfl⟩
                  case rest =>
                    obtain ⟨rfl, rfl⟩ := hcut
                    have HCV : Hid (coverE n P (a, b) = (List.range n).any fun c => decide (castP (a, b, c) ∈ P)) := Lib.hid rfl
                    generalize hS : (!decide ((a, b) ∈ chs n k)) = S0 at *
                    have HS0 := Lib.hid hS
                    clear hS
                    go_wp2_with fail
                    go_loopw [19, 112] (fun sm i wx => ∃ c : Nat, c ≤ n ∧ i = .int .i64 c ∧ sm = .bool (S0 || (List.range c).any fun c => decide (castP (a, b, c) ∈ P)) ∧ Below wp.heap.size wp wx) (fun _ i _ => n - (intOf i).toNat)
                    case atStart => exact ⟨0, Nat.zero_le _, rfl, by simp, HBE.out⟩
                    case round =>
                      clear HBE
                      obtain ⟨c, hc, rfl, rfl, hbel⟩ := hrel
                      have HBE := Lib.hid hbel
                      by_cases hlc : c < n
                      · have c8 : c < 8 := by omega
                        have hcell := (HRP.out.below hbel).cell (i := a * 64 + b * 8 + c) (by omega)
                        rw [show B (a * 64 + b * 8 + c) = decide (castP (a, b, c) ∈ P) from HBV.out (a, b, c) a8 b8 c8] at hcell
                        have HRS : Hid (((List.range (c + 1)).any fun c => decide (castP (a, b, c) ∈ P)) = (((List.range c).any fun c => decide (castP (a, b, c) ∈ P)) || decide (castP (a, b, c) ∈ P))) := Lib.hid (by rw [List.range_succ, List.any_append]; simp)
                        clear hbel
                        cases hV : (S0 || (List.range c).any fun c => decide (castP (a, b, c) ∈ P))
                        all_goals
                          have HV := Lib.hid hV
                          clear hV
                          go_wp2_with fail
                          (try (go_quiet (fail); go_wp2_with fail))
                          go_roundw
                          case rel => exact ⟨c + 1, by omega, by go_num, by rw [HRS.out, ← Bool.or_assoc, HV.out] <;> simp, by first | exact HBE.out | exact below_drewN HBE.out _⟩
                          case measure => simp [intOf]; omega
                      · have hce : c = n := by omega
                        subst hce
                        clear hbel
                        cases hV : (S0 || (List.range c).any fun c => decide (castP (a, b, c) ∈ P))
                        · have HV := Lib.hid hV
                          clear hV
                          have hv2 := Bool.or_eq_false_iff.1 HV.out
                          have HIN : Hid ((a, b) ∈ chs c k) := Lib.hid (by have := HS0.out; rw [hv2.1] at this; simpa using this)
                          have HCF : Hid (coverE c P (a, b) = false) := Lib.hid (by rw [HCV.out]; exact hv2.2)
                          clear hv2
                          go_wp2_with fail
                          go_ret
                          have hall : (chs c k).all (coverE c P) = false := by
                            rw [Bool.eq_false_iff]
                            intro h
                            rw [List.all_eq_true] at h
                            have := h (a, b) HIN.out
                            rw [HCF.out] at this
                            cases this
                          exact ⟨by rw [safe_no3 hall]; rfl, HBWP.out.trans (HBE.out.mono HBWP.out.size)⟩
                        · have HV := Lib.hid hV
                          clear hV
                          go_wp2_with fail
                          go_roundw
                          case rel =>
                            refine ⟨b + 1, by omega, by omega, by go_num, Lib.hid (fun y hy hc => ?_), HBE.out⟩
                            rcases Nat.lt_succ_iff_lt_or_eq.1 hy with h | h
                            · exact HCB.out y h hc
                            · subst h
                              rw [HCV.out]
                              have h1 := HV.out
                              have h2 := HS0.out
                              rw [decide_eq_true hc] at h2
                              rw [← h2] at h1
                              exact h1
                          case measure => simp [intOf]; omega
                · have hbe : b = n := by omega
                  subst hbe
                  go_wp2_with fail
                  go_roundw
                  case rel =>
                    refine ⟨a + 1, by omega, by go_num, Lib.hid (fun x y hx hc => ?_), HBE.out⟩
                    rcases Nat.lt_succ_iff_lt_or_eq.1 hx with h | h
                    · exact HCA.out x y h hc
                    · subst h
                      exact HCB.out y ((chs_mem hk12).1 hc).2.1 hc
                  case measure => simp [intOf]; omega
            · have hae : a = n := by omega
              subst hae
              have HALL3 : Hid ((chs a k).all (coverE a P) = true) := Lib.hid (by
                rw [List.all_eq_true]
                rintro ⟨x, y⟩ hc
                exact HCA.out x y (chs_lt a k _ hc).1 hc)
              go_wp2_with fail
              go_ret
              exact ⟨by unfold safeB; rw [HALL1.out, HALL2.out, HALL3.out]; simp, HBWP.out.trans (HBE.out.mono HBWP.out.size)⟩

end Go.Proofs.Ytmkcnpphdghbaaa
