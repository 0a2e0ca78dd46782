/- The contract of the function that widths returns: the least width of an order of the nodes that are left. -/
import Derived.Test.YtfmppncefbjicaaDoorWdW6
import Derived.StillTailTactics
namespace Go.Proofs.YtfmppncefbjicaaDoor.Wd
set_option linter.unusedSimpArgs false
set_option linter.unusedVariables false
open Go.RowKit Go.Maps
attribute [local go_sem] i64_bit toNat_eq_one toNat_ne_one toNat_eq_zero toNat_ne_zero i64_and i64_or i64_andNot i64_or_pow i64_andNot_pow

/-- The number of neighbours of a node at its turn. -/
def tn (n : Nat) (r : Nat → Nat) (gone v : Nat) : Nat := szS n (leftS n r gone v)
theorem tn_le (n : Nat) (r : Nat → Nat) (gone v : Nat) : tn n r gone v ≤ n := szS_le _ _
abbrev ptrV (b : Nat) : Value := .pointer (some ⟨b, 0, none⟩)
abbrev leastV (kb tb lb : Nat) : Value := .func (.func 111) #[] #[ptrV kb, ptrV tb, ptrV lb]

theorem keyed_int : Keyed Tryd.prog 3 := int_keyed Tryd.underlying3
theorem key_nat {x : Nat} (h : x < 65536) : keyOf Tryd.prog 3 (.int .i64 x) = some (.int .i64 x) := keyOf_int_mk Tryd.underlying3 (WalkArith.wf_i64 (by omega))
theorem zero_int (w : World) : (zeroValue 3).run Tryd.prog w = .ok (.int .i64 0) w := by kernel_rfl
theorem nat_inj (x y : Nat) (h : (Value.int .i64 (x : Nat)) = .int .i64 (y : Nat)) : x = y := by
  simp only [Value.int.injEq] at h; omega
abbrev NatMap (w : World) (mb : Nat) (F : Nat → Option Nat) : Prop := MapIs Tryd.prog 3 (fun x : Nat => Value.int .i64 x) (fun v : Nat => Value.int .i64 v) w mb F

/-- What the function and its variables are in memory. -/
structure LeastAt (w : World) (kb tb lb mb : Nat) (a : Option Addr) (n cap : Nat) (r : Nat → Nat) (F : Nat → Option Nat) : Prop where
  gr : Gr w a n r
  ga : ∀ x, a = some x → x.block ≠ mb
  kl : kb < w.heap.size
  tl : tb < w.heap.size
  ll : lb < w.heap.size
  nk : kb ≠ mb
  nt : tb ≠ mb
  nl : lb ≠ mb
  kc : w.cell? ⟨kb, 0, none⟩ = some (.map (some mb))
  tc : w.cell? ⟨tb, 0, none⟩ = some (.slice a n cap)
  lc : w.cell? ⟨lb, 0, none⟩ = some (leastV kb tb lb)
  mp : NatMap w mb F
  good : ∀ g x, F g = some x → g < 2 ^ n ∧ x = rst n (tn n r) g
  top : ∃ x, F (2 ^ n - 1) = some x

theorem _root_.Go.Proofs.YtfmppncefbjicaaDoor.GrAt.grown {w w' : World} {a : Option Addr} {n : Nat} {r : Nat → Nat} {row : Option Nat} (h : GrAt w a n r) (hg : w.grownBy w' row) (ha : ∀ x, a = some x → some x.block ≠ row) : GrAt w' a n r := by
  refine ⟨⟨h.ints.1, fun hn => ?_⟩, h.pos, h.small, h.bd⟩
  obtain ⟨b, off, he, hlt, hc⟩ := h.ints.2 hn
  exact ⟨b, off, he, Nat.lt_of_lt_of_le hlt hg.size, fun i hi => by rw [World.cell?_of_block (a := ⟨b, off + i, none⟩) (hg.block b hlt (ha _ he))]; exact hc i hi⟩
theorem Gr.grown {w w' : World} {a : Option Addr} {n : Nat} {r : Nat → Nat} {row : Option Nat} (h : Gr w a n r) (hg : w.grownBy w' row) (ha : ∀ x, a = some x → some x.block ≠ row) : Gr w' a n r :=
  ⟨h.at_.grown hg ha, h.le, h.bd⟩

theorem LeastAt.grown {w w' : World} {kb tb lb mb : Nat} {a : Option Addr} {n cap : Nat} {r : Nat → Nat} {F F' : Nat → Option Nat} (h : LeastAt w kb tb lb mb a n cap r F) (hg : w.grownBy w' (some mb)) (hm : NatMap w' mb F')
    (hgood : ∀ g x, F' g = some x → g < 2 ^ n ∧ x = rst n (tn n r) g) (htop : ∃ x, F' (2 ^ n - 1) = some x) : LeastAt w' kb tb lb mb a n cap r F' where
  gr := h.gr.grown hg (fun x hx e => h.ga x hx (by simpa using e))
  ga := h.ga
  kl := Nat.lt_of_lt_of_le h.kl hg.size
  tl := Nat.lt_of_lt_of_le h.tl hg.size
  ll := Nat.lt_of_lt_of_le h.ll hg.size
  nk := h.nk
  nt := h.nt
  nl := h.nl
  kc := by rw [World.cell?_of_block (a := ⟨kb, 0, none⟩) (hg.block kb h.kl (by simpa using h.nk))]; exact h.kc
  tc := by rw [World.cell?_of_block (a := ⟨tb, 0, none⟩) (hg.block tb h.tl (by simpa using h.nt))]; exact h.tc
  lc := by rw [World.cell?_of_block (a := ⟨lb, 0, none⟩) (hg.block lb h.ll (by simpa using h.nl))]; exact h.lc
  mp := hm
  good := hgood
  top := htop
theorem grown_below {w w' : World} {B : Nat} (hb : Below B w w') (hB : w.heap.size ≤ B) (row : Option Nat) : w.grownBy w' row :=
  ⟨hb.os, hb.tape, hb.output, hb.size, fun i hi _ => hb.block i (by omega)⟩
theorem LeastAt.below {w w' : World} {kb tb lb mb : Nat} {a : Option Addr} {n cap : Nat} {r : Nat → Nat} {F : Nat → Option Nat} (h : LeastAt w kb tb lb mb a n cap r F) (hb : Below w.heap.size w w') : LeastAt w' kb tb lb mb a n cap r F :=
  h.grown (grown_below hb (Nat.le_refl _) _) (h.mp.below hb h.mp.lt) h.good h.top
theorem LeastAt.look {w : World} {kb tb lb mb : Nat} {a : Option Addr} {n cap : Nat} {r : Nat → Nat} {F : Nat → Option Nat} (h : LeastAt w kb tb lb mb a n cap r F) (g : Nat) (hg : g < 65536) :
    (Instr.lookup 121 (.map (some mb)) (.int .i64 g) true).run Tryd.prog w = .ok (match F g with | some v => .tuple #[.int .i64 (v : Int), .bool true] | none => .tuple #[.int .i64 0, .bool false]) w :=
  (h.mp.look keyed_int nat_inj (fun x v hx => ⟨_, key_nat (lt16 h.gr.le (h.good x v hx).1)⟩) Tryd.underlying121 (zero_int w) true g ⟨_, key_nat hg⟩).trans (by cases F g <;> rfl)
theorem LeastAt.store {w : World} {kb tb lb mb : Nat} {a : Option Addr} {n cap : Nat} {r : Nat → Nat} {F : Nat → Option Nat} (h : LeastAt w kb tb lb mb a n cap r F) (g : Nat) (hg : g < 2 ^ n) :
    ∃ w', (Instr.mapUpdate 121 (.map (some mb)) (.int .i64 g) (.int .i64 (rst n (tn n r) g : Nat))).run Tryd.prog w = .ok () w' ∧ LeastAt w' kb tb lb mb a n cap r (fun y => if y = g then some (rst n (tn n r) g) else F y) ∧ w.grownBy w' (some mb) := by
  obtain ⟨w', hrun, hM, hgr, hz⟩ := h.mp.store keyed_int nat_inj (fun x v hx => ⟨_, key_nat (lt16 h.gr.le (h.good x v hx).1)⟩) Tryd.underlying121 g (rst n (tn n r) g) ⟨_, key_nat (lt16 h.gr.le hg)⟩
  refine ⟨w', hrun, h.grown hgr hM (fun y x hx => ?_) ?_, hgr⟩
  · by_cases hy : y = g
    · simp only [hy, if_true] at hx
      cases hx
      exact ⟨by rw [hy]; exact hg, by rw [hy]⟩
    · simp only [hy, if_false] at hx
      exact h.good y x hx
  · by_cases hy : 2 ^ n - 1 = g
    · exact ⟨_, by simp [hy]; rfl⟩
    · obtain ⟨x, hx⟩ := h.top
      exact ⟨x, by simp [hy, hx]⟩

theorem bestW_no {n : Nat} {t : Nat → Nat → Nat} {gone j : Nat} (h : gone.testBit j = true) : bestW n t gone (j + 1) = bestW n t gone j := by
  rw [bestW_succ, if_pos h]
theorem bestW_yes {n : Nat} {t : Nat → Nat → Nat} {gone j : Nat} (h : gone.testBit j = false) : bestW n t gone (j + 1) = min (bestW n t gone j) (max (rst n t (gone ||| 2 ^ j)) (t gone j)) := by
  rw [bestW_succ, if_neg (by simp [h])]
theorem grown_drewN (w : World) (k : Nat) (row : Option Nat) : w.grownBy (w.drewN k) row := ⟨rfl, rfl, rfl, Nat.le_refl _, fun _ _ _ => rfl⟩

def LeastPost (w : World) (kb tb lb mb : Nat) (a : Option Addr) (n cap : Nat) (r : Nat → Nat) (gone : Nat) (e : Ending) (w' : World) : Prop :=
  e = .returned (.int .i64 (rst n (tn n r) gone : Nat)) ∧ ∃ F', LeastAt w' kb tb lb mb a n cap r F' ∧ w.grownBy w' (some mb)

set_option maxRecDepth 20000 in
set_option maxHeartbeats 4000000 in
theorem least_rec (kb tb lb mb : Nat) (a : Option Addr) (n cap : Nat) (r : Nat → Nat) : ∀ k gone, gone < 2 ^ n → 2 ^ n - gone ≤ k → ∀ (w : World) (F : Nat → Option Nat), LeastAt w kb tb lb mb a n cap r F →
    Calls Tryd.prog 111 #[.int .i64 (gone : Nat), ptrV kb, ptrV tb, ptrV lb] w (LeastPost w kb tb lb mb a n cap r gone) := by
  intro k
  induction k with
  | zero => intro gone h1 h2; omega
  | succ k ih =>
    intro gone hgone hk w F L
    have hle := L.gr.le
    have hg16 := lt16 hle hgone
    have hlk := fun m => (L.below (below_drewN (Below.refl _ _) m)).look gone hg16
    have hlk0 := hlk 0
    have IH : Hid (∀ gone, gone < 2 ^ n → 2 ^ n - gone ≤ k → ∀ (w : World) (F : Nat → Option Nat), LeastAt w kb tb lb mb a n cap r F → Calls Tryd.prog 111 #[.int .i64 (gone : Nat), ptrV kb, ptrV tb, ptrV lb] w (LeastPost w kb tb lb mb a n cap r gone)) := Lib.hid ih
    clear ih
    have kc := L.kc
    have tc := L.tc
    have lc := L.lc
    have kl := L.kl
    have tl := L.tl
    have ll := L.ll
    have HL := Lib.hid L
    have hlk1 : (Instr.lookup 121 (.map (some mb)) (.int .i64 gone) true).run Tryd.prog w = .ok (match F gone with | some v => .tuple #[.int .i64 (v : Int), .bool true] | none => .tuple #[.int .i64 0, .bool false]) w := L.look gone hg16
    clear L hlk hlk0
    cases hF : F gone with
    | some x =>
      rw [hF] at hlk1
      have HX := Lib.hid (HL.out.good gone x hF).2
      clear hF
      go_enter Tryd.func111, Tryd.ntmps111
      go_wp2_with fail
      go_ret
      exact ⟨by rw [← HX.out]; rfl, F, HL.out, World.grownBy.refl _ _⟩
    | none =>
      rw [hF] at hlk1
      have hne : gone ≠ 2 ^ n - 1 := fun e => by
        obtain ⟨x, hx⟩ := HL.out.top
        rw [← e, hF] at hx; cases hx
      have HB := Lib.hid (rst_best (t := tn n r) hgone hne)
      have HGO := Lib.hid hgone
      have HK := Lib.hid hk
      clear hF hne hgone hk
      go_enter Tryd.func111, Tryd.ntmps111
      go_wp2_with fail
      go_loopw [8, 23] (fun b i wr => ∃ j F', j ≤ n ∧ i = .int .i64 (j : Nat) ∧ b = .int .i64 (bestW n (tn n r) gone j : Nat) ∧ LeastAt wr kb tb lb mb a n cap r F' ∧ w.grownBy wr (some mb)) (fun _ i _ => n - (intOf i).toNat)
      case atStart => exact ⟨0, F, Nat.zero_le _, rfl, rfl, HL.out, World.grownBy.refl _ _⟩
      case round =>
        obtain ⟨j, F', hj, rfl, rfl, L', hgr⟩ := hrel
        clear kc tc lc kl tl ll hlk1
        have kc := L'.kc
        have tc := L'.tc
        have lc := L'.lc
        have kl := L'.kl
        have tl := L'.tl
        have ll := L'.ll
        have HL' := Lib.hid L'
        have HGR := Lib.hid hgr
        have hbw : bestW n (tn n r) gone j ≤ 9 := Nat.le_trans (bestW_le j) hle
        clear L' hgr
        by_cases hlj : j < n
        · have hj64 : j < 64 := by omega
          have hj16 : j < 16 := by omega
          have hpj := pow_bd j hj16
          have hor16 : gone ||| 2 ^ j < 65536 := or_lt hg16 (pow_lt16 hj16)
          cases hq : gone.testBit j
          · have HST := Lib.hid (bestW_yes (n := n) (t := tn n r) hq)
            have hgt := or_pow_gt hq
            have hlt2 : gone ||| 2 ^ j < 2 ^ n := Nat.or_lt_two_pow HGO.out (pow_lt_pow hlj)
            have hk2 : 2 ^ n - (gone ||| 2 ^ j) ≤ k := by have := HK.out; omega
            have HLT2 := Lib.hid hlt2
            have HK2 := Lib.hid hk2
            have hrle : rst n (tn n r) (gone ||| 2 ^ j) ≤ 9 := Nat.le_trans (rst_le hlt2) hle
            have htle : tn n r gone j ≤ 9 := Nat.le_trans (tn_le _ _ _ _) hle
            have htn : szS n (leftS n r gone j) = tn n r gone j := rfl
            have HTN := Lib.hid htn
            have HLF : Hid (leftS n r gone j < 2 ^ n) := Lib.hid (arnd_lt _ HL'.out.gr.bd)
            clear hgt hlt2 hk2 htn
            generalize bestW n (tn n r) gone j = bj at *
            generalize hrj : rst n (tn n r) (gone ||| 2 ^ j) = rj at *
            generalize htj : tn n r gone j = tj at *
            have HRJ := Lib.hid hrj
            clear hrj htj
            go_wp2_with (go_at_call 103; refine (has_any _ _ _ hg16 hj64).mono ?_; rintro e w1 ⟨rfl, rfl⟩; rw [hq])
            go_still_tail 5, (by kernel_rfl)
            change wpList _ _ _ _ _ wr.drew
            obtain ⟨wd, hwd⟩ : ∃ wd, wd = wr.drew := ⟨_, rfl⟩
            rw [← hwd]
            have HLd : Hid (LeastAt wd kb tb lb mb a n cap r F') := Lib.hid (by rw [hwd]; exact HL'.out.below (below_drewN (Below.refl _ _) 1))
            have HGd : Hid (w.grownBy wd (some mb)) := Lib.hid (by rw [hwd]; exact HGR.out.trans (grown_drewN _ 1 _))
            clear hwd kc tc lc kl tl ll
            go_wp2_with (first
              | (go_at_call 111; rw [i64_or_pow gone j hg16 hj16]; refine (IH.out (gone ||| 2 ^ j) HLT2.out HK2.out wd F' HLd.out).mono ?_; rintro e w2 ⟨rfl, F2, L2, hg2⟩; rw [HRJ.out]; have tc2 := L2.tc; have tl2 := L2.tl; have HL2 := Lib.hid L2; have HG2 := Lib.hid (HGd.out.trans hg2); clear L2 hg2)
              | (go_at_call 113; refine (left_any HL2.out.gr cap j gone hlj HGO.out).mono ?_; rintro e w3 ⟨rfl, rfl⟩)
              | (go_at_call 112; refine (count_any hle (leftS n r gone j) HLF.out _).mono ?_; rintro e w4 ⟨rfl, rfl⟩; rw [HTN.out]))
            go_roundw
            case rel => exact ⟨j + 1, F2, by omega, by go_num, by rw [HST.out]; first | rfl | (congr 1; omega), HL2.out, HG2.out⟩
            case measure => simp [intOf]; omega
          · have HST := Lib.hid (bestW_no (n := n) (t := tn n r) hq)
            generalize bestW n (tn n r) gone j = bj at *
            go_wp2_with (go_at_call 103; refine (has_any _ _ _ hg16 hj64).mono ?_; rintro e w1 ⟨rfl, rfl⟩; rw [hq])
            go_roundw
            case rel => exact ⟨j + 1, F', by omega, by go_num, by rw [HST.out], HL'.out, HGR.out⟩
            case measure => simp [intOf]; omega
        · have hje : j = n := by omega
          subst hje
          obtain ⟨w9, hrun, L9, hg9⟩ := HL'.out.store gone HGO.out
          rw [HB.out] at hrun
          have HL9 := Lib.hid L9
          have HG9 := Lib.hid hg9
          clear L9 hg9
          go_wp2_with fail
          go_ret
          exact ⟨by rw [HB.out]; rfl, _, HL9.out, HGR.out.trans HG9.out⟩

end Go.Proofs.YtfmppncefbjicaaDoor.Wd
