/- The contract of the reference's Play along a plan that never goes back. -/
import Derived.Test.YthbhhfeiianmcaaDoorQt6
import Derived.Test.YthbhhfeiianmcaaDoorQw
import Derived.Deep.DeepCutAuto
import Derived.Deep.RegionLaw
import Derived.BigRegion
namespace Go.Proofs.YthbhhfeiianmcaaDoor
set_option linter.unusedSimpArgs false
set_option linter.unusedVariables false
open Go.RowKit Go.Maps
attribute [local go_sem] i64_bit toNat_eq_one toNat_ne_one toNat_eq_zero toNat_ne_zero i64_and i64_or i64_andNot i64_or_pow i64_andNot_pow

/-- The cells of what is clear. -/
def clrL (F : Nat → Bool) : List Value := (List.range 64).map fun i => Value.bool (F i)
theorem clrL_get {F : Nat → Bool} {i : Nat} (h : i < 64) : (clrL F)[i]? = some (.bool (F i)) := map_range_get _ h
theorem clrL_set {F : Nat → Bool} {i : Nat} {b : Bool} : (clrL F).set i (.bool b) = clrL (fun j => if j = i then b else F j) := by
  unfold clrL
  rw [map_range_set]
  congr 1
  funext j
  by_cases h : j = i <;> simp [h]
def smkTo (r : Nat → Nat) (C : Nat → Nat → Bool) (x : Nat) (k : Nat) : Bool := (List.range k).any fun u => (r x).testBit u && !C x u

set_option maxRecDepth 20000 in
set_option maxHeartbeats 2000000 in
theorem smoky_any {n : Nat} {r : Nat → Nat} {C : Nat → Nat → Bool} {F : Nat → Bool} {a : Option Addr} {w : World} {cb G x : Nat} (Gr0 : GrAt w a n r) (hn7 : n ≤ 7) (hr : ∀ i, i < n → r i < 2 ^ n) (cap : Nat) (hrow : Row w cb 94 (clrL F)) (hF : ∀ u, u < n → F (x * 8 + u) = C x u) (hG : G < 2 ^ n) (hx : x < n) :
    Calls Tryd.prog 64 #[.slice a n cap, .pointer (some ⟨cb, 0, none⟩), .int .i64 G, .int .i64 x] w fun e w' => e = .returned (.bool (smkTo r C x n && !G.testBit x)) ∧ w = w' := by
  have h7 := pow_le7 hn7
  obtain ⟨hml2, hI2⟩ := Gr0.ints
  obtain ⟨b, off, rfl, hlt2, hc2⟩ := hI2 Gr0.pos
  have cx := hc2 x hx
  have hrx := hr x hx
  have HF := Lib.hid hF
  have HR := Lib.hid hrow
  have HC := Lib.hid hc2
  clear hI2 Gr0 hr hF hrow hc2
  go_enter Tryd.func64, Tryd.ntmps64
  go_wp2_with fail
  go_loopw [12] (fun i wr => ∃ k : Nat, k ≤ n ∧ i = .int .i64 k ∧ smkTo r C x k = false ∧ w = wr) (fun i _ => n - (intOf i).toNat)
  case atStart => exact ⟨0, Nat.zero_le _, rfl, rfl, rfl⟩
  case round =>
    obtain ⟨k, hk, rfl, hno, rfl⟩ := hrel
    have HS : Hid (smkTo r C x (k + 1) = (smkTo r C x k || ((r x).testBit k && !C x k))) := Lib.hid (by unfold smkTo; rw [List.range_succ, List.any_append]; simp)
    rw [hno] at HS
    by_cases hltk : k < n
    · have hk64 : k < 64 := by omega
      have hx64 : x < 64 := by omega
      have hrx16 : r x < 65536 := by omega
      have hG16 : G < 65536 := by omega
      have h64 : x * 8 + k < 64 := by omega
      have cc := HR.out.cell (i := x * 8 + k) (clrL_get h64)
      rw [HF.out k hltk] at cc
      clear hno
      cases hb : (r x).testBit k
      · have HS2 : Hid (smkTo r C x (k + 1) = false) := Lib.hid (by rw [HS.out, hb]; rfl)
        go_wp2_with fail
        go_roundw
        case rel => exact ⟨k + 1, by omega, by go_num, HS2.out, by first | trivial | rfl⟩
        case measure => simp [intOf]; omega
      · cases hcx : C x k
        · have HT : Hid (smkTo r C x n = true) := Lib.hid (by
            unfold smkTo
            rw [List.any_eq_true]
            exact ⟨k, List.mem_range.2 hltk, by rw [hb, hcx]; rfl⟩)
          cases hg : G.testBit x
          · go_wp2_with fail
            go_ret
            exact ⟨by rw [HT.out, hg]; rfl, rfl⟩
          · go_wp2_with fail
            go_ret
            exact ⟨by rw [HT.out, hg]; rfl, rfl⟩
        · have HS2 : Hid (smkTo r C x (k + 1) = false) := Lib.hid (by rw [HS.out, hb, hcx]; rfl)
          go_wp2_with fail
          go_roundw
          case rel => exact ⟨k + 1, by omega, by go_num, HS2.out, by first | trivial | rfl⟩
          case measure => simp [intOf]; omega
    · have hke : n = k := by omega
      subst hke
      go_wp2_with fail
      go_ret
      exact ⟨by rw [hno]; rfl, rfl⟩

theorem okRun_at {n : Nat} {r : Nat → Nat} : ∀ {L : Acts} {s : Sit}, okRun n r L s → ∀ t (h : t < L.length), goodAct n r L[t] (run n r (L.take t) s) ∧ run n r (L.take (t + 1)) s = step n r L[t] (run n r (L.take t) s)
  | a :: l, s, h, 0, _ => ⟨h.1, rfl⟩
  | a :: l, s, h, t + 1, ht => okRun_at (L := l) h.2 t (by simpa using ht)
structure SitOk (n : Nat) (s : Sit) : Prop where
  g : s.G < 2 ^ n
  had : s.had < 2 ^ n
  most : s.most ≤ n
theorem sit_ok {n : Nat} {r : Nat → Nat} {L : Acts} (h : okRun n r L sit0) : ∀ t, t ≤ L.length → SitOk n (run n r (L.take t) sit0) := by
  intro t
  induction t with
  | zero => intro _; exact ⟨Nat.two_pow_pos n, Nat.two_pow_pos n, Nat.zero_le _⟩
  | succ t ih =>
    intro ht
    obtain ⟨h1, h2⟩ := okRun_at h t (by omega)
    have i := ih (by omega)
    rw [h2]
    have hg : (run n r (L.take t) sit0).G ^^^ 2 ^ (L[t]'(by omega)).2 < 2 ^ n := Nat.xor_lt_two_pow i.g (pow_lt_pow h1.1)
    exact ⟨hg, Nat.or_lt_two_pow i.had hg, Nat.max_le.2 ⟨i.most, szS_le _ _⟩⟩

/-- What a plan leaves behind. -/
def allClear (n : Nat) (r : Nat → Nat) (C : Nat → Nat → Bool) : Prop := ∀ x y, x < n → y < n → (r x).testBit y = true → C x y = true

set_option maxRecDepth 20000 in
set_option maxHeartbeats 4000000 in
theorem PlayR_any {n : Nat} {r : Nat → Nat} {a : Option Addr} {w : World} {L : Acts} {base : Nat} {v : Value} (Gr0 : GrAt w a n r) (hn7 : n ≤ 7) (hr : ∀ i, i < n → r i < 2 ^ n) (cap : Nat) (hL : ActsOwn 52 w base v L) (hlen : L.length ≤ 100) (hok : okRun n r L sit0) (hhad : (run n r L sit0).had = 2 ^ n - 1) (hall : allClear n r (run n r L sit0).C) :
    Calls Tryd.prog 37 #[.slice a n cap, v] w fun e w' => e = .returned (.tuple #[.int .i64 ((run n r L sit0).most : Nat), .bool false, .bool true]) ∧ Below w.heap.size w w' := by
  have h7 := pow_le7 hn7
  obtain ⟨pa, pc, rfl⟩ := own_form hL
  have HCL := Lib.hid hL.cells
  have HGR := Lib.hid Gr0
  have HR := Lib.hid hr
  obtain ⟨hml2, hI2⟩ := Gr0.ints
  obtain ⟨b, off, rfl, hlt2, hc2⟩ := hI2 Gr0.pos
  have hbc : ∀ wx, Below w.heap.size w wx → ∀ i, i < n → wx.cell? ⟨b, off + i, none⟩ = some (.int .i64 (r i : Nat)) := fun wx hb i hi => by rw [hb.cell (p := ⟨b, off + i, none⟩) hlt2]; exact hc2 i hi
  have HC := Lib.hid hbc
  have HOK := Lib.hid hok
  have HHAD := Lib.hid hhad
  have HALL := Lib.hid hall
  have d1 : decide (100 < (L.length : Int)) = false := decide_eq_false (by omega)
  clear hL Gr0 hr hI2 hc2 hbc hok hhad hall
  go_enter Tryd.func37, Tryd.ntmps37
  go_wp2_with fail
  generalize hw0 : w.alloc _ = w0
  have r0 : Row w0 w.heap.size 94 (clrL fun _ => false) := by rw [← hw0]; exact Row.new w 94 (clrL fun _ => false)
  have hb0 : Below w.heap.size w w0 := by rw [← hw0]; exact (Below.refl _ _).alloc (Nat.le_refl _) _
  clear hw0
  go_loopw [8, 9, 10, 11, 25] (fun gu mo ha ba i wr => ∃ (t : Nat) (F : Nat → Bool), t ≤ L.length ∧ i = .int .i64 t ∧ gu = .int .i64 ((run n r (L.take t) sit0).G : Nat) ∧ mo = .int .i64 ((run n r (L.take t) sit0).most : Nat) ∧ ha = .int .i64 ((run n r (L.take t) sit0).had : Nat) ∧ ba = .bool false ∧ Row wr w.heap.size 94 (clrL F) ∧ (∀ x y, x < n → y < n → F (x * 8 + y) = (run n r (L.take t) sit0).C x y) ∧ Below w.heap.size w wr) (fun _ _ _ _ i _ => L.length - (intOf i).toNat)
  case atStart => exact ⟨0, fun _ => false, Nat.zero_le _, rfl, rfl, rfl, rfl, rfl, r0, fun _ _ _ _ => rfl, hb0⟩
  case round =>
    obtain ⟨t, F, ht, rfl, rfl, rfl, rfl, rfl, hrow, hF, hbel⟩ := hrel
    have HRW := Lib.hid hrow
    have HF := Lib.hid hF
    have HB := Lib.hid hbel
    clear hrow hF hbel r0 hb0
    by_cases hlt : t < L.length
    · obtain ⟨hgood, hnext⟩ := okRun_at HOK.out t hlt
      have hsit := sit_ok HOK.out t ht
      obtain ⟨q, hq⟩ : ∃ q, L[t]? = some q := ⟨L[t], by simp [hlt]⟩
      have hq2 : L[t] = q := by
        rw [List.getElem?_eq_getElem hlt] at hq
        exact Option.some.inj hq
      rw [hq2] at hgood hnext
      obtain ⟨pg, rfl, x1, x2⟩ := HCL.out wr HB.out t q hq
      obtain ⟨p, v⟩ := q
      obtain ⟨hv, hgv, hnb⟩ := hgood
      dsimp only at x1 x2 hv hgv
      have HNX := Lib.hid hnext
      have HNB := Lib.hid hnb
      obtain ⟨S, hS⟩ : ∃ S, S = run n r (L.take t) sit0 := ⟨_, rfl⟩
      rw [← hS] at HF HNX HNB hgv hsit
      have HSS := Lib.hid hS
      obtain ⟨G, C, had, most⟩ := S
      dsimp only at HF hgv hsit
      rw [← hS]
      dsimp only
      obtain ⟨hg, hhd, hmo⟩ := hsit
      dsimp only at hg hhd hmo
      have hv64 : v < 64 := by omega
      have hv16 : v < 16 := by omega
      have hg16 : G < 65536 := by omega
      have hh16 : had < 65536 := by omega
      have hpv := pow_bd v hv16
      have hpl := pow_lt_pow hv
      have hx : bits .xor .i64 (G : Int) ((2 : Int) ^ v) = ((G ^^^ 2 ^ v : Nat) : Int) := by
        rw [pow_cast]; exact i64_xor G (2 ^ v) hg16 (by omega)
      have hgl : G ^^^ 2 ^ v < 2 ^ n := Nat.xor_lt_two_pow hg hpl
      have hgl16 : G ^^^ 2 ^ v < 65536 := by omega
      have e1 : decide ((v : Int) < 0) = false := decide_eq_false (by omega)
      have e2 : decide ((v : Int) ≥ (n : Int)) = false := decide_eq_false (by omega)
      clear hq hq2 hnext hnb hS
      go_upto_region 8 with fail
      obtain ⟨w1, hw1, ra, hb1, hs1⟩ := new1 wr 52 [.bool p, .int .i64 v]
      rw [← hw1]
      have HR1 := Lib.hid (HRW.out.below hb1 HRW.out.lt)
      have HRA := Lib.hid ra
      have HB1 := Lib.hid (HB.out.trans (hb1.mono HB.out.size))
      clear hw1 ra hb1 hs1 x1 x2 HRW HB
      go_cut [49] (fun s1 wx => s1 = .bool false ∧ Row wx w.heap.size 94 (clrL F) ∧ Row wx wr.heap.size 52 [.bool p, .int .i64 v] ∧ Below w.heap.size w wx)
      case first =>
        have c1 := HRA.out.cell (i := 0) rfl
        have c2 := HRA.out.cell (i := 1) rfl
        cases p
        all_goals
          go_wp2_with fail
          go_quiet (fail)
          go_wp2_with fail
          go_meet
          exact ⟨by first | rfl | (simp; omega), HR1.out, HRA.out, below_drewN HB1.out _⟩
      case rest =>
        obtain ⟨rfl, hx1, hx2, hx3⟩ := hcut
        obtain ⟨w2, rfl⟩ : ∃ w2 : World, w2 = wc := ⟨_, rfl⟩
        have HR2 := Lib.hid hx1
        have HB2 := Lib.hid hx3
        have c1 := hx2.cell (i := 0) rfl
        have c2 := hx2.cell (i := 1) rfl
        clear hx1 hx2 hx3 HR1 HRA HB1
        have HSZ := Lib.hid (fun w' => Size_any (n := n) (by omega) (G ^^^ 2 ^ v) hgl w')
        have hsl := szS_le n (G ^^^ 2 ^ v)
        obtain ⟨sz, hsz⟩ : ∃ sz, sz = szS n (G ^^^ 2 ^ v) := ⟨_, rfl⟩
        have HSE := Lib.hid hsz
        rw [← hsz] at HSZ hsl
        clear hsz
        go_upto_region 12 with fail
        go_cut [9] (fun s1 wx => s1 = .int .i64 (max most sz : Nat) ∧ w2 = wx)
        case first =>
          go_wp2_with (go_at_call 56; refine (HSZ.out _).mono ?_; rintro e w3 ⟨rfl, rfl⟩)
          all_goals
            go_meet
            exact ⟨by refine congrArg (Value.int .i64) ?_; first | omega | (split <;> omega), rfl⟩
        case rest =>
          obtain ⟨rfl, rfl⟩ := hcut
          obtain ⟨C1, hC1⟩ : ∃ C1 : Nat → Nat → Bool, C1 = fun x y => C x y || ((r x).testBit y && (G ^^^ 2 ^ v).testBit x && (G ^^^ 2 ^ v).testBit y) := ⟨_, rfl⟩
          have HC1 : Hid (∀ x y, C1 x y = (C x y || ((r x).testBit y && (G ^^^ 2 ^ v).testBit x && (G ^^^ 2 ^ v).testBit y))) := Lib.hid (fun x y => by rw [hC1])
          have HST : Hid (step n r (p, v) ⟨G, C, had, most⟩ = ⟨G ^^^ 2 ^ v, C1, had ||| (G ^^^ 2 ^ v), max most sz⟩) := Lib.hid (by rw [hC1, HSE.out]; rfl)
          rw [HST.out] at HNX HNB
          obtain ⟨H, hH⟩ : ∃ H, H = G ^^^ 2 ^ v := ⟨_, rfl⟩
          rw [← hH] at hgl hgl16 HC1 HNX HNB
          obtain ⟨D, hD⟩ : ∃ D, D = had ||| H := ⟨_, rfl⟩
          have hdl : D < 2 ^ n := by rw [hD]; exact Nat.or_lt_two_pow hhd hgl
          rw [← hD] at HNX HNB
          have hml : max most sz ≤ n := by omega
          rw [← hH, ← hD]
          obtain ⟨M, hM⟩ : ∃ M, M = max most sz := ⟨_, rfl⟩
          rw [← hM] at hml HNX HNB ⊢
          clear hC1 hH hD hM HST HSE HSZ c1 c2 hx hsl hmo hhd hgv e1 e2 hpv hpl HSS
          go_wp2_with fail
          go_loopw [64] (fun i wy => ∃ (x : Nat) (F1 : Nat → Bool), x ≤ n ∧ i = .int .i64 x ∧ Row wy w.heap.size 94 (clrL F1) ∧ (∀ x' y', x' < n → y' < n → F1 (x' * 8 + y') = if x' < x then C1 x' y' else C x' y') ∧ Below w.heap.size w wy) (fun i _ => n - (intOf i).toNat)
          case atStart => exact ⟨0, F, Nat.zero_le _, rfl, HR2.out, fun x' y' h1 h2 => by rw [HF.out x' y' h1 h2, if_neg (by omega)], HB2.out⟩
          case round =>
            obtain ⟨x, F1, hx, rfl, hrow, hF1, hbel⟩ := hrel
            have HR3 := Lib.hid hrow
            have HF1 := Lib.hid hF1
            have HB3 := Lib.hid hbel
            clear hrow hF1 hbel HR2 HB2
            by_cases hxn : x < n
            · have hx64 : x < 64 := by omega
              have hrx := HR.out x hxn
              have hrx16 : r x < 65536 := by omega
              go_wp2_with fail
              go_loopw [69] (fun i wy => ∃ (y : Nat) (F2 : Nat → Bool), y ≤ n ∧ i = .int .i64 y ∧ Row wy w.heap.size 94 (clrL F2) ∧ (∀ x' y', x' < n → y' < n → F2 (x' * 8 + y') = if x' < x ∨ x' = x ∧ y' < y then C1 x' y' else C x' y') ∧ Below w.heap.size w wy) (fun i _ => n - (intOf i).toNat)
              case atStart => exact ⟨0, F1, Nat.zero_le _, rfl, HR3.out, fun x' y' h1 h2 => by rw [HF1.out x' y' h1 h2]; by_cases e : x' < x; rw [if_pos e, if_pos (Or.inl e)]; rw [if_neg e, if_neg (by omega)], HB3.out⟩
              case round =>
                -- STUB
                obtain ⟨y, F2, hy, rfl, hrow, hF2, hbel⟩ := hrel
                have HR4 := Lib.hid hrow
                have HF2 := Lib.hid hF2
                have HB4 := Lib.hid hbel
                by_cases hyn : y < n
                · have hy64 : y < 64 := by omega
                  have cx := HC.out _ hbel x hxn
                  have h64 : x * 8 + y < 64 := by omega
                  have c4 := hrow.cell (i := x * 8 + y) (clrL_get h64)
                  have f4 := hrow.free (x * 8 + y)
                  have l4 := hrow.lt
                  have hC1xy := HC1.out x y
                  have keep : C1 x y = C x y → ∀ x' y', x' < n → y' < n → F2 (x' * 8 + y') = if x' < x ∨ x' = x ∧ y' < y + 1 then C1 x' y' else C x' y' := by
                    intro he x' y' h1 h2
                    rw [HF2.out x' y' h1 h2]
                    by_cases e1 : x' < x ∨ x' = x ∧ y' < y
                    · rw [if_pos e1, if_pos (by omega)]
                    · rw [if_neg e1]
                      by_cases e2 : x' = x ∧ y' = y
                      · obtain ⟨rfl, rfl⟩ := e2
                        rw [if_pos (by omega), he]
                      · rw [if_neg (by omega)]
                  have HKE := Lib.hid keep
                  have HCX := Lib.hid hC1xy
                  clear hrow hF2 hbel keep hC1xy
                  cases ha : (r x).testBit y
                  · have HE : Hid (C1 x y = C x y) := Lib.hid (by rw [HCX.out, ha]; simp)
                    go_wp2_with fail
                    go_roundw
                    case rel => exact ⟨y + 1, F2, by omega, by go_num, HR4.out, HKE.out HE.out, HB4.out⟩
                    case measure => simp [intOf]; omega
                  · cases hgx : H.testBit x
                    · have HE : Hid (C1 x y = C x y) := Lib.hid (by rw [HCX.out, hgx]; simp)
                      go_wp2_with fail
                      go_roundw
                      case rel => exact ⟨y + 1, F2, by omega, by go_num, HR4.out, HKE.out HE.out, HB4.out⟩
                      case measure => simp [intOf]; omega
                    · cases hgy : H.testBit y
                      · have HE : Hid (C1 x y = C x y) := Lib.hid (by rw [HCX.out, hgy]; simp)
                        go_wp2_with fail
                        go_roundw
                        case rel => exact ⟨y + 1, F2, by omega, by go_num, HR4.out, HKE.out HE.out, HB4.out⟩
                        case measure => simp [intOf]; omega
                      · have HE : Hid (C1 x y = true) := Lib.hid (by rw [HCX.out, ha, hgx, hgy]; simp)
                        go_wp2_with fail
                        go_roundw
                        case rel =>
                          refine ⟨y + 1, fun j => if j = x * 8 + y then true else F2 j, by omega, by go_num, by rw [← clrL_set]; exact HR4.out.set _ _, fun x' y' h1 h2 => ?_, HB4.out.setCell (p := ⟨w.heap.size, x * 8 + y, none⟩) (Nat.le_refl _) _⟩
                          show (if x' * 8 + y' = x * 8 + y then true else F2 (x' * 8 + y')) = _
                          by_cases e2 : x' = x ∧ y' = y
                          · obtain ⟨rfl, rfl⟩ := e2
                            rw [if_pos rfl, if_pos (by omega), HE.out]
                          · rw [if_neg (by omega), HF2.out x' y' h1 h2]
                            by_cases e1 : x' < x ∨ x' = x ∧ y' < y
                            · rw [if_pos e1, if_pos (by omega)]
                            · rw [if_neg e1, if_neg (by omega)]
                        case measure => simp [intOf]; omega
                · have hye : n = y := by omega
                  subst hye
                  go_wp2_with fail
                  go_roundw
                  case rel => exact ⟨x + 1, F2, by omega, by go_num, hrow, fun x' y' h1 h2 => by rw [hF2 x' y' h1 h2]; by_cases e : x' < x + 1; rw [if_pos e, if_pos (by omega)]; rw [if_neg e, if_neg (by omega)], hbel⟩
                  case measure => simp [intOf]; omega
            · have hxe : n = x := by omega
              subst hxe
              have HF5 : Hid (∀ x' y', x' < n → y' < n → F1 (x' * 8 + y') = C1 x' y') := Lib.hid (fun x' y' h1 h2 => by rw [HF1.out x' y' h1 h2, if_pos h1])
              go_wp2_with fail
              go_loopw [11, 101] (fun ba i wy => ∃ k : Nat, k ≤ 64 ∧ i = .int .i64 k ∧ ba = .bool false ∧ Row wy w.heap.size 94 (clrL F1) ∧ Below w.heap.size w wy) (fun _ i _ => 64 - (intOf i).toNat)
              case atStart => exact ⟨0, by omega, rfl, rfl, HR3.out, HB3.out⟩
              case round =>
                obtain ⟨k, hk, rfl, rfl, hrow, hbel⟩ := hrel
                have HR4 := Lib.hid hrow
                have HB4 := Lib.hid hbel
                clear hrow hbel HR3 HB3
                by_cases hk64 : k < 64
                · have dk : decide ((k : Int) < 64) = true := decide_eq_true (by omega)
                  go_wp2_with fail
                  go_loopw [11, 105] (fun ba i wy => ∃ x : Nat, x ≤ n ∧ i = .int .i64 x ∧ ba = .bool false ∧ Row wy w.heap.size 94 (clrL F1) ∧ Below w.heap.size w wy) (fun _ i _ => n - (intOf i).toNat)
                  case atStart => exact ⟨0, Nat.zero_le _, rfl, rfl, HR4.out, HB4.out⟩
                  case round =>
                    obtain ⟨x, hx, rfl, rfl, hrow, hbel⟩ := hrel
                    have HR5 := Lib.hid hrow
                    have HB5 := Lib.hid hbel
                    clear hrow hbel HR4 HB4
                    by_cases hxn : x < n
                    · have hx64 : x < 64 := by omega
                      have hrx := HR.out x hxn
                      have hrx16 : r x < 65536 := by omega
                      go_wp2_with fail
                      go_loopw [11, 110] (fun ba i wy => ∃ y : Nat, y ≤ n ∧ i = .int .i64 y ∧ ba = .bool false ∧ Row wy w.heap.size 94 (clrL F1) ∧ Below w.heap.size w wy) (fun _ i _ => n - (intOf i).toNat)
                      case atStart => exact ⟨0, Nat.zero_le _, rfl, rfl, HR5.out, HB5.out⟩
                      case round =>
                        obtain ⟨y, hy, rfl, rfl, hrow, hbel⟩ := hrel
                        have HR6 := Lib.hid hrow
                        have HB6 := Lib.hid hbel
                        clear HR5 HB5
                        by_cases hyn : y < n
                        · have hy64 : y < 64 := by omega
                          have cx := HC.out _ hbel x hxn
                          have h64 : x * 8 + y < 64 := by omega
                          have c4 := hrow.cell (i := x * 8 + y) (clrL_get h64)
                          rw [HF5.out x y hxn hyn] at c4
                          clear hrow hbel
                          cases ha : (r x).testBit y
                          · go_wp2_with fail
                            go_roundw
                            case rel => exact ⟨y + 1, by omega, by go_num, rfl, HR6.out, HB6.out⟩
                            case measure => simp [intOf]; omega
                          · cases hc : C1 x y
                            · rw [hc] at c4
                              go_wp2_with fail
                              go_roundw
                              case rel => exact ⟨y + 1, by omega, by go_num, rfl, HR6.out, HB6.out⟩
                              case measure => simp [intOf]; omega
                            · rw [hc] at c4
                              have hsm : ∀ u : Nat, (u = x ∨ u = y) → Calls Tryd.prog 64 #[.slice (some ⟨b, off, none⟩) n cap, .pointer (some ⟨w.heap.size, 0, none⟩), .int .i64 H, .int .i64 u] wr fun e w' => e = .returned (.bool false) ∧ wr = w' := by
                                intro u hu
                                have hun : u < n := by rcases hu with h | h <;> omega
                                have hs : (smkTo r C1 u n && !H.testBit u) = false := by
                                  rcases hu with rfl | rfl
                                  · exact (HNB.out u y hxn hyn hc).1
                                  · exact (HNB.out x u hxn hyn hc).2
                                have h := smoky_any (C := C1) (F := F1) (G := H) (x := u) (HGR.out.below HB6.out) hn7 HR.out cap HR6.out (fun t ht => HF5.out u t hun ht) hgl hun
                                rw [hs] at h
                                exact h
                              have HSM := Lib.hid hsm
                              clear hsm
                              go_wp2_with fail
                              go_at_call 64
                              refine (HSM.out x (Or.inl rfl)).mono ?_
                              rintro e w7 ⟨rfl, rfl⟩
                              go_wp2_with fail
                              go_at_call 64
                              refine (HSM.out y (Or.inr rfl)).mono ?_
                              rintro e w8 ⟨rfl, rfl⟩
                              go_wp2_with fail
                              go_roundw
                              case rel => exact ⟨y + 1, by omega, by go_num, rfl, HR6.out, HB6.out⟩
                              case measure => simp [intOf]; omega
                        · have hye : n = y := by omega
                          subst hye
                          go_wp2_with fail
                          go_roundw
                          case rel => exact ⟨x + 1, by omega, by go_num, rfl, HR6.out, HB6.out⟩
                          case measure => simp [intOf]; omega
                    · have hxe : n = x := by omega
                      subst hxe
                      go_wp2_with fail
                      go_roundw
                      case rel => exact ⟨k + 1, by omega, by go_num, rfl, HR5.out, HB5.out⟩
                      case measure => simp [intOf]; omega
                · have hke : k = 64 := by omega
                  subst hke
                  go_wp2_with fail
                  go_roundw
                  case rel =>
                    refine ⟨t + 1, F1, by omega, by go_num, ?_, ?_, ?_, rfl, HR4.out, ?_, HB4.out⟩
                    · rw [HNX.out]
                    · rw [HNX.out]
                    · rw [HNX.out]
                    · rw [HNX.out]; exact HF5.out
                  case measure => simp [intOf]; omega
    · have hte : t = L.length := by omega
      subst hte
      have hsit := sit_ok HOK.out L.length (Nat.le_refl _)
      rw [List.take_length] at hsit
      have hF2 : ∀ x y, x < n → y < n → F (x * 8 + y) = (run n r L sit0).C x y := fun x y h1 h2 => by rw [HF.out x y h1 h2, List.take_length]
      have HF2 := Lib.hid hF2
      rw [List.take_length, HHAD.out]
      obtain ⟨M, hM⟩ : ∃ M, M = (run n r L sit0).most := ⟨_, rfl⟩
      have hml : M ≤ n := by rw [hM]; exact hsit.most
      have HM := Lib.hid hM
      rw [← hM]
      obtain ⟨G, hG⟩ : ∃ G, G = (run n r L sit0).G := ⟨_, rfl⟩
      rw [← hG]
      clear hM hG hsit hF2 HF
      have hpn := pow_bd n (by omega)
      have HCA : Hid ((2 : Int) ^ n - 1 = ((2 ^ n - 1 : Nat) : Int)) := Lib.hid (by rw [pow_cast]; have := Nat.two_pow_pos n; omega)
      go_wp2_with fail
      go_loopw [157] (fun i wy => ∃ x : Nat, x ≤ n ∧ i = .int .i64 x ∧ wr = wy) (fun i _ => n - (intOf i).toNat)
      case atStart => exact ⟨0, Nat.zero_le _, rfl, rfl⟩
      case round =>
        obtain ⟨x, hx, rfl, rfl⟩ := hrel
        by_cases hxn : x < n
        · have hx64 : x < 64 := by omega
          have hrx := HR.out x hxn
          have hrx16 : r x < 65536 := by omega
          have cx := HC.out _ HB.out x hxn
          go_wp2_with fail
          go_loopw [162] (fun i wy => ∃ y : Nat, y ≤ n ∧ i = .int .i64 y ∧ wr = wy) (fun i _ => n - (intOf i).toNat)
          case atStart => exact ⟨0, Nat.zero_le _, rfl, rfl⟩
          case round =>
            obtain ⟨y, hy, rfl, rfl⟩ := hrel
            by_cases hyn : y < n
            · have hy64 : y < 64 := by omega
              have h64 : x * 8 + y < 64 := by omega
              have c4 := HRW.out.cell (i := x * 8 + y) (clrL_get h64)
              rw [HF2.out x y hxn hyn] at c4
              cases ha : (r x).testBit y
              · go_wp2_with fail
                go_roundw
                case rel => exact ⟨y + 1, by omega, by go_num, by first | trivial | rfl⟩
                case measure => simp [intOf]; omega
              · rw [HALL.out x y hxn hyn ha] at c4
                go_wp2_with fail
                go_roundw
                case rel => exact ⟨y + 1, by omega, by go_num, by first | trivial | rfl⟩
                case measure => simp [intOf]; omega
            · have hye : n = y := by omega
              subst hye
              go_wp2_with fail
              go_roundw
              case rel => exact ⟨x + 1, by omega, by go_num, by first | trivial | rfl⟩
              case measure => simp [intOf]; omega
        · have hxe : n = x := by omega
          subst hxe
          have hq : (((2 ^ n - 1 : Nat) : Int) != (2 : Int) ^ n - 1) = false := by rw [HCA.out]; simp
          go_wp2_with fail
          go_ret3
          exact ⟨by rw [HM.out]; rfl, HB.out⟩

end Go.Proofs.YthbhhfeiianmcaaDoor
