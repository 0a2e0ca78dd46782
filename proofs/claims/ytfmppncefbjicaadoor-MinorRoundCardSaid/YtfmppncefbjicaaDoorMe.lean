/- Package minor: the search for a model (modelOf's closure), modelOf. -/
import Derived.Test.YtfmppncefbjicaaDoorMd
import Derived.BigRegion
import Derived.StillTailTactics
namespace Go.Proofs.YtfmppncefbjicaaDoor
set_option linter.unusedSimpArgs false
set_option linter.unusedVariables false
open Go.RowKit Go.Maps
attribute [local go_sem] i64_bit toNat_eq_one toNat_ne_one toNat_eq_zero toNat_ne_zero i64_and i64_or i64_andNot i64_or_pow i64_andNot_pow

/-- Whether a set may be the next one of a model: within the free nodes, connected, not too large, and with the neighbours that the pattern asks for. -/
def okE (n : Nat) (r pr : Nat → Nat) (B : List Nat) (free room s : Nat) : Bool := diff s free == 0 && (conB n r s && (decide (szS n s ≤ room) && rchB r s (pr B.length) B))
/-- The first model that begins with some sets, and has k more, within the free nodes, of at most so many. -/
def extL (n : Nat) (r pr : Nat → Nat) : Nat → List Nat → Nat → Nat → Option (List Nat)
  | 0, B, _, _ => some B
  | k + 1, B, free, left => (List.range (free + 1)).findSome? fun s => if okE n r pr B free (left - k) s then extL n r pr k (B ++ [s]) (diff free s) (left - szS n s) else none
def stpL (n : Nat) (r pr : Nat → Nat) (k : Nat) (B : List Nat) (free left s : Nat) : Option (List Nat) := if okE n r pr B free (left - k) s then extL n r pr k (B ++ [s]) (diff free s) (left - szS n s) else none
theorem find_none {α : Type} {f : Nat → Option α} : ∀ m, (∀ s, s < m → f s = none) → (List.range m).findSome? f = none := by
  intro m h
  rw [List.findSome?_eq_none_iff]
  intro s hs
  exact h s (List.mem_range.1 hs)
theorem find_at {α : Type} {f : Nat → Option α} {j : Nat} {y : α} (hb : ∀ s, s < j → f s = none) (hj : f j = some y) : ∀ m, j < m → (List.range m).findSome? f = some y := by
  intro m
  induction m with
  | zero => intro h; omega
  | succ m ih =>
    intro h
    rw [List.range_succ, List.findSome?_append]
    by_cases e : j = m
    · subst e
      rw [find_none j hb]
      simp [hj]
    · rw [ih (by omega)]; rfl
theorem extL_none {n : Nat} {r pr : Nat → Nat} {k : Nat} {B : List Nat} {free left : Nat} (h : ∀ s, s < free + 1 → stpL n r pr k B free left s = none) : extL n r pr (k + 1) B free left = none := find_none _ h
theorem extL_some {n : Nat} {r pr : Nat → Nat} {k : Nat} {B B' : List Nat} {free left j : Nat} (hb : ∀ s, s < j → stpL n r pr k B free left s = none) (hj : stpL n r pr k B free left j = some B') (hl : j < free + 1) : extL n r pr (k + 1) B free left = some B' := find_at hb hj _ hl

/-- What the search reads: the boxes of the pattern, of the connected sets, of the town. -/
structure ExtW (w : World) (pb cb tb gc : Nat) (ap at_ : Option Addr) (cp ct n q : Nat) (r pr : Nat → Nat) : Prop where
  rp : Row w pb 74 [.slice ap q cp]
  rc : Row w cb 103 [.slice (some ⟨gc, 0, none⟩) (2 ^ n) (2 ^ n)]
  rt : Row w tb 74 [.slice at_ n ct]
  lc : gc < w.heap.size
  cc : ∀ s, s < 2 ^ n → w.cell? ⟨gc, s, none⟩ = some (.bool (conB n r s))
  T : Tn w at_ n r
  P : Tn w ap q pr
  tab : Tab w
theorem ExtW.below {w w' : World} {pb cb tb gc : Nat} {ap at_ : Option Addr} {cp ct n q : Nat} {r pr : Nat → Nat} (h : ExtW w pb cb tb gc ap at_ cp ct n q r pr) (hb : Below w.heap.size w w') : ExtW w' pb cb tb gc ap at_ cp ct n q r pr :=
  ⟨h.rp.below hb h.rp.lt, h.rc.below hb h.rc.lt, h.rt.below hb h.rt.lt, Nat.lt_of_lt_of_le h.lc hb.size, fun s hs => by rw [hb.cell (p := ⟨gc, s, none⟩) h.lc]; exact h.cc s hs, h.T.below hb, h.P.below hb, h.tab.below hb⟩

abbrev ptrV (b : Nat) : Value := .pointer (some ⟨b, 0, none⟩)
abbrev extF (mb pb cb tb eb : Nat) : Value := .func (.func 107) #[] #[ptrV mb, ptrV pb, ptrV cb, ptrV tb, ptrV eb]
/-- What the search leaves. -/
def ExtPost (wB : World) (mb eb : Nat) (F : Value) (res : Option (List Nat)) (B : List Nat) (e : Ending) (w' : World) : Prop :=
  ∃ v', e = .returned (.bool res.isSome) ∧ Row w' mb 22 [v'] ∧ IntsOwn w' wB.heap.size v' (castL (res.getD B)) ∧ Row w' eb 98 [F] ∧ Below wB.heap.size wB w'

set_option maxRecDepth 20000 in
set_option maxHeartbeats 8000000 in
theorem ext_rec {wB : World} {mb pb cb tb eb gc : Nat} {ap at_ : Option Addr} {cp ct n q : Nat} {r pr : Nat → Nat} (X : ExtW wB pb cb tb gc ap at_ cp ct n q r pr) (hmb : wB.heap.size ≤ mb) (heb : wB.heap.size ≤ eb) (hme : mb ≠ eb) :
    ∀ (k : Nat) (B : List Nat) (free left : Nat), k + B.length = q → free < 2 ^ n → k ≤ left → left ≤ 60 → (∀ x ∈ B, x < 2 ^ n) → ∀ (w : World) (v : Value), Row w mb 22 [v] → IntsOwn w wB.heap.size v (castL B) → Row w eb 98 [extF mb pb cb tb eb] → Below wB.heap.size wB w →
      Calls Tryd.prog 107 #[.int .i64 free, .int .i64 left, ptrV mb, ptrV pb, ptrV cb, ptrV tb, ptrV eb] w (ExtPost wB mb eb (extF mb pb cb tb eb) (extL n r pr k B free left) B) := by
  intro k
  induction k with
  | zero =>
    intro B free left hq hfree hkl hl hB w v hm hown he hb
    obtain ⟨av, cv, hv⟩ := own_form hown
    subst hv
    have hqB : B.length = q := by omega
    have cm := hm.cell (i := 0) rfl
    have cpx := (X.below hb).rp.cell (i := 0) rfl
    have HR : Hid (ExtPost wB mb eb (extF mb pb cb tb eb) (extL n r pr 0 B free left) B (.returned (.bool true)) w) := Lib.hid ⟨_, rfl, hm, hown, he, hb⟩
    have hlen : (castL B).length = B.length := castL_len B
    rw [hlen, hqB] at cm
    have hqq : ((q : Int) == (q : Int)) = true := by simp
    clear hm hown he hb hlen hqB hq
    go_enter Tryd.func107, Tryd.ntmps107
    go_wp2_with fail
    go_ret
    exact HR.out
  | succ k ih =>
    intro B free left hq hfree hkl hl hB w v hm hown he hb
    have IH := Lib.hid ih
    clear ih
    have hn8 := X.T.le
    have h8 := pow_le8 hn8
    have hq8 := X.P.le
    have HX := Lib.hid X
    have HBB := Lib.hid hB
    have HFR := Lib.hid hfree
    obtain ⟨N, hN⟩ : ∃ N, N = B.length := ⟨_, rfl⟩
    have HN := Lib.hid hN
    rw [← hN] at hq
    have hBq : N < q := by omega
    obtain ⟨av, cv, hv⟩ := own_form hown
    subst hv
    have hlen : (castL B).length = N := by rw [castL_len, hN]
    rw [hlen] at hown hm
    have cm := hm.cell (i := 0) rfl
    have cpx := (X.below hb).rp.cell (i := 0) rfl
    have hnq : ((N : Int) == (q : Int)) = false := by rw [beq_eq_false_iff_ne]; omega
    have hroom : (left : Int) - ((q : Int) - (N : Int) - 1) = ((left - k : Nat) : Int) := by omega
    have HROOM := Lib.hid hroom
    have HQ := Lib.hid hq
    have HM := Lib.hid hm
    have HO := Lib.hid hown
    have HE := Lib.hid he
    have HB := Lib.hid hb
    have hf16 : free < 65536 := by omega
    clear X hm hown he hb hB hlen hN hroom hq
    go_enter Tryd.func107, Tryd.ntmps107
    go_wp2_with fail
    rw [HROOM.out]
    obtain ⟨R, hR⟩ : ∃ R, R = left - k := ⟨_, rfl⟩
    have HRR := Lib.hid hR
    have hR60 : R ≤ 60 := by omega
    rw [← hR]
    clear hR HROOM cm cpx
    go_loopw [28] (fun i wr => ∃ j : Nat, j ≤ free + 1 ∧ i = .int .i64 j ∧ (∀ s, s < j → stpL n r pr k B free left s = none) ∧ (∃ a c, Row wr mb 22 [.slice a N c] ∧ IntsOwn wr wB.heap.size (.slice a N c) (castL B)) ∧ Row wr eb 98 [extF mb pb cb tb eb] ∧ Below wB.heap.size wB wr) (fun i _ => free + 1 - (intOf i).toNat)
    case atStart => exact ⟨0, Nat.zero_le _, rfl, by omega, ⟨_, _, HM.out, HO.out⟩, HE.out, HB.out⟩
    case round =>
      clear HM HO HE HB
      obtain ⟨j, hj, rfl, hd, ⟨a, c, hm, hown⟩, he, hb⟩ := hrel
      have HD := Lib.hid hd
      have HM := Lib.hid hm
      have HO := Lib.hid hown
      have HE := Lib.hid he
      have HB := Lib.hid hb
      have hlm := hm.lt
      have hle := he.lt
      clear hd
      by_cases hlt : j < free + 1
      · have hj2 : j < 2 ^ n := by have := HFR.out; omega
        have hj16 : j < 65536 := by omega
        have HJ2 := Lib.hid hj2
        have HXU : Hid (∀ u : BelowW wr.heap.size wr, ExtW u.w pb cb tb gc ap at_ cp ct n q r pr) := Lib.hid fun u => HX.out.below (HB.out.trans (u.h.mono HB.out.size))
        have cM : ∀ u : BelowW wr.heap.size wr, u.w.cell? ⟨mb, 0, none⟩ = some (.slice a N c) := fun u => (hm.below u.h hlm).cell (i := 0) rfl
        have cP : ∀ u : BelowW wr.heap.size wr, u.w.cell? ⟨pb, 0, none⟩ = some (.slice ap q cp) := fun u => (HXU.out u).rp.cell (i := 0) rfl
        have cC : ∀ u : BelowW wr.heap.size wr, u.w.cell? ⟨cb, 0, none⟩ = some (.slice (some ⟨gc, 0, none⟩) (2 ^ n) (2 ^ n)) := fun u => (HXU.out u).rc.cell (i := 0) rfl
        have cT : ∀ u : BelowW wr.heap.size wr, u.w.cell? ⟨tb, 0, none⟩ = some (.slice at_ n ct) := fun u => (HXU.out u).rt.cell (i := 0) rfl
        have cK : ∀ u : BelowW wr.heap.size wr, u.w.cell? ⟨gc, j, none⟩ = some (.bool (conB n r j)) := fun u => (HXU.out u).cc j HJ2.out
        obtain ⟨bp, op, rfl, hbp, hcp⟩ := HX.out.P.at_.ints.2 HX.out.P.at_.pos
        have cN : ∀ u : BelowW wr.heap.size wr, u.w.cell? ⟨bp, op + N, none⟩ = some (.int .i64 (pr N : Nat)) := fun u => by
          rw [(HB.out.trans (u.h.mono HB.out.size)).cell (p := ⟨bp, op + N, none⟩) hbp]; exact hcp N hBq
        have hpr : pr N < 65536 := lt16m hq8 (HX.out.P.bd N hBq)
        have HCO : Hid (∀ u : BelowW wr.heap.size wr, Calls Tryd.prog 108 #[.int .i64 j] u.w fun e w' => e = .returned (.int .i64 (szS n j : Nat)) ∧ Below u.w.heap.size u.w w') := Lib.hid fun u => (count_any (show n ≤ 9 by omega) j hj2 u.w).mono fun e w' ⟨h1, h2⟩ => ⟨h1, by subst h2; exact Below.refl _ _⟩
        have HRE : Hid (∀ u : BelowW wr.heap.size wr, Calls Tryd.prog 88 #[.slice at_ n ct, .int .i64 j, .int .i64 (pr N : Nat), .slice a N c] u.w fun e w' => e = .returned (.bool (rchB r j (pr N) B)) ∧ Below u.w.heap.size u.w w') := Lib.hid fun u => by
          obtain ⟨a', c', hv, hI⟩ := (IntsOwn.below (HO.out : IntsOwn wr wB.heap.size (.slice a N c) (castL B)) u.h).at_ (by rw [← HN.out]; omega)
          simp only [Value.slice.injEq] at hv
          obtain ⟨rfl, hv2, rfl⟩ := hv
          have := reaches_any (HXU.out u).T ct j (pr N) HJ2.out hpr (HXU.out u).tab c hI HBB.out (by rw [← HN.out]; omega)
          rw [← HN.out] at this
          exact this
        have hszb := szS_le n j
        have hOK : okE n r pr B free (left - k) j = (diff j free == 0 && (conB n r j && (decide (szS n j ≤ R) && rchB r j (pr N) B))) := by unfold okE; rw [← HRR.out, ← HN.out]
        have HSK : Hid (okE n r pr B free (left - k) j = false → ∀ s, s < j + 1 → stpL n r pr k B free left s = none) := Lib.hid fun h s hs => by
          rcases Nat.lt_succ_iff_lt_or_eq.1 hs with h1 | h1
          · exact HD.out s h1
          · rw [h1]; unfold stpL; rw [h]; rfl
        have HRC : Hid (∀ u : BelowW wr.heap.size wr, (∃ a c, Row u.w mb 22 [.slice a N c] ∧ IntsOwn u.w wB.heap.size (.slice a N c) (castL B)) ∧ Row u.w eb 98 [extF mb pb cb tb eb] ∧ Below wB.heap.size wB u.w) := Lib.hid fun u => ⟨⟨a, c, HM.out.below u.h hlm, IntsOwn.below HO.out u.h⟩, HE.out.below u.h hle, HB.out.trans (u.h.mono HB.out.size)⟩
        have hd0 := cast_beq0 (diff j free)
        clear hm hown he hb hcp hj2
        obtain ⟨S, hS⟩ : ∃ S, S = szS n j := ⟨_, rfl⟩
        obtain ⟨D, hDf⟩ : ∃ D, D = diff j free := ⟨_, rfl⟩
        have hD16 : D < 65536 := by rw [hDf]; exact diff_lt hj16
        have HBN : Hid (bits .andNot .i64 (j : Int) (free : Int) = (D : Nat)) := Lib.hid (by rw [i64_andNot _ _ hj16 hf16, hDf])
        have hbn := HBN.out
        have HS := Lib.hid hS
        rw [← hS] at hOK HCO hszb
        rw [← hDf] at hOK hd0
        have HDF := Lib.hid hDf
        clear hS hDf
        generalize rchB r j (pr N) B = q4 at *
        generalize conB n r j = q2 at *
        by_cases h1 : D = 0
        · have hz1 : ((D : Int) != 0) = false := by rw [h1]; rfl
          rw [h1, beq_self_eq_true, Bool.true_and] at hOK
          cases q2
          · rw [Bool.false_and] at hOK
            have HNX := Lib.hid (HSK.out hOK)
            clear hOK hd0
            go_wp2_with fail
            refine wp_region_below wr.heap.size wr (Below.refl _ _) (by kernel_rfl) (by kernel_rfl) ?_
            repeat (go_big_quiet_step (first | (go_at_call 108; exact calls_below (Nat.le_refl _) (HCO.out _)) | (go_at_call 88; exact calls_below (Nat.le_refl _) (HRE.out _))))
            refine wpQuiet_nil ?_
            rintro _ ⟨u, rfl⟩
            have HU := Lib.hid (HRC.out u)
            go_wp2_with fail
            go_roundw
            case rel => exact ⟨j + 1, by omega, by go_num, HNX.out, HU.out.1, HU.out.2.1, HU.out.2.2⟩
            case measure => simp [intOf]; omega
          · rw [Bool.true_and] at hOK
            by_cases h3 : S ≤ R
            · have h3i : decide ((S : Int) > (R : Int)) = false := decide_eq_false (by omega)
              have h3j : decide ((R : Int) < (S : Int)) = false := decide_eq_false (by omega)
              have h3n : decide (R < S) = false := decide_eq_false (by omega)
              have h3m : decide (S > R) = false := decide_eq_false (by omega)
              rw [decide_eq_true h3, Bool.true_and] at hOK
              cases q4
              · have HNX := Lib.hid (HSK.out hOK)
                clear hOK hd0
                go_wp2_with fail
                refine wp_region_below wr.heap.size wr (Below.refl _ _) (by kernel_rfl) (by kernel_rfl) ?_
                repeat (go_big_quiet_step (first | (go_at_call 108; exact calls_below (Nat.le_refl _) (HCO.out _)) | (go_at_call 88; exact calls_below (Nat.le_refl _) (HRE.out _))))
                refine wpQuiet_nil ?_
                rintro _ ⟨u, rfl⟩
                have HU := Lib.hid (HRC.out u)
                go_wp2_with fail
                go_roundw
                case rel => exact ⟨j + 1, by omega, by go_num, HNX.out, HU.out.1, HU.out.2.1, HU.out.2.2⟩
                case measure => simp [intOf]; omega
              · have HYE := Lib.hid hOK
                clear hOK hd0
                go_wp2_with fail
                refine wp_region_below wr.heap.size wr (Below.refl _ _) (by kernel_rfl) (by kernel_rfl) ?_
                repeat (go_big_quiet_step (first | (go_at_call 108; exact calls_below (Nat.le_refl _) (HCO.out _)) | (go_at_call 88; exact calls_below (Nat.le_refl _) (HRE.out _))))
                refine wpQuiet_nil ?_
                rintro _ ⟨u, rfl⟩
                obtain ⟨w2, hw2⟩ : ∃ x, x = u.w := ⟨_, rfl⟩
                have HM2 : Hid (Row w2 mb 22 [.slice a N c]) := Lib.hid (by rw [hw2]; exact HM.out.below u.h hlm)
                have HE2 : Hid (Row w2 eb 98 [extF mb pb cb tb eb]) := Lib.hid (by rw [hw2]; exact HE.out.below u.h hle)
                have HO2 : Hid (IntsOwn w2 wB.heap.size (.slice a N c) (castL B)) := Lib.hid (by rw [hw2]; exact IntsOwn.below HO.out u.h)
                have HB2 : Hid (Below wB.heap.size wB w2) := Lib.hid (by rw [hw2]; exact HB.out.trans (u.h.mono HB.out.size))
                rw [← hw2]
                clear hw2 cM cP cC cT cK cN HXU HCO HRE HRC HSK u
                have cm2 := HM2.out.cell (i := 0) rfl
                have hl2 : (castL B).length ≤ 65536 := by rw [castL_len, ← HN.out]; omega
                have hbz2 := HB2.out.size
                go_wp2_with (at_builtin; refine wpList_app_int wB.heap.size _ _ _ rfl _ _ rfl rfl HO2.out rfl ?c1 ?c2 ?_)
                try (case c1 => exact hl2)
                try (case c2 => exact hbz2)
                intro v3 w3 ho3 hb3 hg3
                have HM3 := Lib.hid (HM2.out.grown hg3 (not_own_type HO2.out HM2.out (by decide)))
                have HE3 := Lib.hid (HE2.out.grown hg3 (not_own_type HO2.out HE2.out (by decide)))
                have HB3 := Lib.hid (HB2.out.trans hb3)
                have ho3 : IntsOwn w3 wB.heap.size v3 (castL (B ++ [j])) := by rw [castL_app]; exact ho3
                have hln3 : (castL (B ++ [j])).length = N + 1 := by rw [castL_len, List.length_append, ← HN.out]; rfl
                obtain ⟨g3, c3, hv3, hg3b, hg3l⟩ := own_form' ho3 (by rw [hln3]; omega)
                rw [hln3] at hv3
                subst hv3
                obtain ⟨v3, hv3⟩ : ∃ x : Value, x = .slice (some ⟨g3, 0, none⟩) (N + 1) c3 := ⟨_, rfl⟩
                have HV3 := Lib.hid hv3
                rw [← hv3] at ho3
                have HO3 := Lib.hid ho3
                have cm3 := HM3.out.cell (i := 0) rfl
                have fm3 := HM3.out.free 0
                have lm3 := HM3.out.lt
                have le3 := HE3.out.lt
                have HM4 := Lib.hid (HM3.out.set 0 v3)
                have HE4 := Lib.hid (HE3.out.other (a := ⟨mb, 0, none⟩) (by simpa using hme.symm) v3)
                have HO4 : Hid (IntsOwn (w3.setCell ⟨mb, 0, none⟩ v3) wB.heap.size v3 (castL (B ++ [j]))) := Lib.hid (World.ownsRow.kept HO3.out (grownBy_setCell' w3 mb v3) (.inr (fun e => not_own_type HO3.out HM3.out (by decide) e.symm)))
                have HB4 := Lib.hid (HB3.out.setCell (p := ⟨mb, 0, none⟩) hmb v3)
                rw [hv3] at HM4 HE4 HO4 HB4
                clear ho3 hb3 hg3 cm2 hv3 hln3
                go_wp2_with fail
                obtain ⟨w4, hw4⟩ : ∃ x, x = w3.setCell ⟨mb, 0, none⟩ (.slice (some ⟨g3, 0, none⟩) (N + 1) c3) := ⟨_, rfl⟩
                rw [← hw4] at HM4 HE4 HO4 HB4
                rw [← hw4]
                clear hw4 cm3 fm3
                have hdl : diff free j < 2 ^ n := Nat.lt_of_le_of_lt (diff_le _ _) HFR.out
                have hSR : S ≤ left := by have := HRR.out; omega
                have hls : (left : Int) - (S : Int) = ((left - S : Nat) : Int) := by omega
                have hBj : ∀ x ∈ B ++ [j], x < 2 ^ n := fun x hx => by
                  rcases List.mem_append.1 hx with h | h
                  · exact HBB.out x h
                  · rw [List.mem_singleton.1 h]; exact HJ2.out
                have hkS : k ≤ left - S := by have := HRR.out; omega
                have hqk : k + (B ++ [j]).length = q := by have h1 := HQ.out; have h2 := HN.out; simp; omega
                have HCO2 := Lib.hid (fun w => count_any (show n ≤ 9 by omega) j HJ2.out w)
                rw [← HS.out] at HCO2
                have hln4 := HM4.out.lt
                have hle4 := HE4.out.lt
                have HIH : Hid (∀ wx, Below w4.heap.size w4 wx → Calls Tryd.prog 107 #[.int .i64 (diff free j : Nat), .int .i64 (left - S : Nat), ptrV mb, ptrV pb, ptrV cb, ptrV tb, ptrV eb] wx (ExtPost wB mb eb (extF mb pb cb tb eb) (extL n r pr k (B ++ [j]) (diff free j) (left - S)) (B ++ [j]))) := Lib.hid fun wx hx =>
                  IH.out (B ++ [j]) (diff free j) (left - S) hqk hdl hkS (by omega) hBj wx _ (HM4.out.below hx hln4) (IntsOwn.below HO4.out hx) (HE4.out.below hx hle4) (HB4.out.trans (hx.mono HB4.out.size))
                have hst : stpL n r pr k B free left j = extL n r pr k (B ++ [j]) (diff free j) (left - S) := by
                  unfold stpL
                  rw [if_pos HYE.out, ← HS.out]
                have ce4 := HE4.out.cell (i := 0) rfl
                have hdf : bits .andNot .i64 (free : Int) (j : Int) = (diff free j : Nat) := i64_andNot _ _ hf16 hj16
                have hdl16 : diff free j < 65536 := by omega
                generalize diff free j = D2 at *
                obtain ⟨LS, hLS⟩ : ∃ x, x = left - S := ⟨_, rfl⟩
                rw [← hLS] at hls HIH hst
                clear hLS hkS hqk hBj
                cases hres : extL n r pr k (B ++ [j]) D2 LS
                · rw [hres] at HIH hst
                  have HST := Lib.hid hst
                  clear hres hst
                  go_wp2_with fail
                  refine wp_region_still_tail 8 (by kernel_rfl) (by kernel_rfl) ?_
                  simp only [List.take_succ_cons, List.take_zero, List.drop_succ_cons, List.drop_zero]
                  repeat still_step
                  still_call ((HCO2.out _).mono fun _ _ ⟨h1, h2⟩ => ⟨h1, h2.symm⟩)
                  repeat still_step
                  refine wpStill_nil ?_
                  change wpList _ _ _ _ _ w4.drew
                  have HIH2 := Lib.hid (HIH.out w4.drew (below_drewN (Below.refl _ _) 1))
                  go_wp2_with fail
                  go_at_call 107
                  refine HIH2.out.mono ?_
                  rintro e w6 ⟨v6, rfl, hm6, ho6, he6, hb6⟩
                  have HM6 := Lib.hid hm6
                  have HO6 := Lib.hid ho6
                  have HE6 := Lib.hid he6
                  have HB6 := Lib.hid hb6
                  clear hm6 ho6 he6 hb6
                  have hst6 : Hid (∀ s, s < j + 1 → stpL n r pr k B free left s = none) := Lib.hid fun s hs => by
                    rcases Nat.lt_succ_iff_lt_or_eq.1 hs with h1 | h1
                    · exact HD.out s h1
                    · rw [h1]; exact HST.out
                  have ho6 := HO6.out
                  have hln6 : (castL (Option.getD none (B ++ [j]))).length = N + 1 := by
                    show (castL (B ++ [j])).length = N + 1
                    rw [castL_len, List.length_append, ← HN.out]; rfl
                  obtain ⟨g6, c6, hv6, hg6b, hg6l⟩ := own_form' ho6 (by rw [hln6]; omega)
                  rw [hln6] at hv6
                  have hcap : N + 1 ≤ c6 := by
                    rcases ho6.2 with h | ⟨g', c', cur, hv', _, _, h5, _⟩
                    · rw [h.1] at hv6; cases hv6
                    · rw [hv6] at hv'
                      simp only [Value.slice.injEq] at hv'
                      rw [hln6] at h5; omega
                  subst hv6
                  have HCUT : Hid (IntsOwn w6 wB.heap.size (.slice (some ⟨g6, 0, none⟩) N c6) (castL B)) := Lib.hid (by
                    have h : IntsOwn w6 wB.heap.size (.slice (some ⟨g6, 0, none⟩) (castL B ++ [(j : Int)]).length c6) (castL B ++ [(j : Int)]) := by
                      have h7 := ho6
                      rw [show Option.getD none (B ++ [j]) = B ++ [j] from rfl, castL_app] at h7
                      rwa [List.length_append, castL_len, ← HN.out, show [(j : Int)].length = 1 from rfl]
                    have h8 := IntsOwn.cut h
                    rwa [castL_len, ← HN.out] at h8)
                  have cm6 := HM6.out.cell (i := 0) rfl
                  have fm6 := HM6.out.free 0
                  have lm6 := HM6.out.lt
                  have HM7 := Lib.hid (HM6.out.set 0 (.slice (some ⟨g6, 0, none⟩) N c6))
                  have HE7 := Lib.hid (HE6.out.other (a := ⟨mb, 0, none⟩) (by simpa using hme.symm) (.slice (some ⟨g6, 0, none⟩) N c6))
                  have HO7 : Hid (IntsOwn (w6.setCell ⟨mb, 0, none⟩ (.slice (some ⟨g6, 0, none⟩) N c6)) wB.heap.size (.slice (some ⟨g6, 0, none⟩) N c6) (castL B)) := Lib.hid (World.ownsRow.kept HCUT.out (grownBy_setCell' w6 mb _) (.inr (fun e => not_own_type HCUT.out HM6.out (by decide) e.symm)))
                  have HB7 := Lib.hid (HB6.out.setCell (p := ⟨mb, 0, none⟩) hmb (.slice (some ⟨g6, 0, none⟩) N c6))
                  clear ho6 hln6
                  go_wp2_with fail
                  go_roundw
                  case rel => exact ⟨j + 1, by omega, by go_num, hst6.out, ⟨_, _, HM7.out, HO7.out⟩, HE7.out, HB7.out⟩
                  case measure => simp [intOf]; omega
                · rename_i B2
                  rw [hres] at HIH hst
                  have HST := Lib.hid (extL_some HD.out hst hlt)
                  clear hres hst
                  go_wp2_with fail
                  refine wp_region_still_tail 8 (by kernel_rfl) (by kernel_rfl) ?_
                  simp only [List.take_succ_cons, List.take_zero, List.drop_succ_cons, List.drop_zero]
                  repeat still_step
                  still_call ((HCO2.out _).mono fun _ _ ⟨h1, h2⟩ => ⟨h1, h2.symm⟩)
                  repeat still_step
                  refine wpStill_nil ?_
                  change wpList _ _ _ _ _ w4.drew
                  have HIH2 := Lib.hid (HIH.out w4.drew (below_drewN (Below.refl _ _) 1))
                  go_wp2_with fail
                  go_at_call 107
                  refine HIH2.out.mono ?_
                  rintro e w6 ⟨v6, rfl, hm6, ho6, he6, hb6⟩
                  have HM6 := Lib.hid hm6
                  have HO6 := Lib.hid ho6
                  have HE6 := Lib.hid he6
                  have HB6 := Lib.hid hb6
                  clear hm6 ho6 he6 hb6
                  go_wp2_with fail
                  go_ret
                  exact ⟨_, by rw [HST.out]; rfl, HM6.out, by rw [HST.out]; exact HO6.out, HE6.out, HB6.out⟩
            · have h3i : decide ((S : Int) > (R : Int)) = true := decide_eq_true (by omega)
              have h3j : decide ((R : Int) < (S : Int)) = true := decide_eq_true (by omega)
              have h3n : decide (R < S) = true := decide_eq_true (by omega)
              have h3m : decide (S > R) = true := decide_eq_true (by omega)
              rw [decide_eq_false h3, Bool.false_and] at hOK
              have HNX := Lib.hid (HSK.out hOK)
              clear hOK hd0
              go_wp2_with fail
              refine wp_region_below wr.heap.size wr (Below.refl _ _) (by kernel_rfl) (by kernel_rfl) ?_
              repeat (go_big_quiet_step (first | (go_at_call 108; exact calls_below (Nat.le_refl _) (HCO.out _)) | (go_at_call 88; exact calls_below (Nat.le_refl _) (HRE.out _))))
              refine wpQuiet_nil ?_
              rintro _ ⟨u, rfl⟩
              have HU := Lib.hid (HRC.out u)
              go_wp2_with fail
              go_roundw
              case rel => exact ⟨j + 1, by omega, by go_num, HNX.out, HU.out.1, HU.out.2.1, HU.out.2.2⟩
              case measure => simp [intOf]; omega
        · have hz1 : ((D : Int) != 0) = true := by rw [bne_iff_ne]; omega
          rw [beq_eq_false_iff_ne.2 h1, Bool.false_and] at hOK
          have HNX := Lib.hid (HSK.out hOK)
          clear hOK hd0
          go_wp2_with fail
          refine wp_region_below wr.heap.size wr (Below.refl _ _) (by kernel_rfl) (by kernel_rfl) ?_
          repeat (go_big_quiet_step (first | (go_at_call 108; exact calls_below (Nat.le_refl _) (HCO.out _)) | (go_at_call 88; exact calls_below (Nat.le_refl _) (HRE.out _))))
          refine wpQuiet_nil ?_
          rintro _ ⟨u, rfl⟩
          have HU := Lib.hid (HRC.out u)
          go_wp2_with fail
          go_roundw
          case rel => exact ⟨j + 1, by omega, by go_num, HNX.out, HU.out.1, HU.out.2.1, HU.out.2.2⟩
          case measure => simp [intOf]; omega
      · have hje : j = free + 1 := by omega
        have HNO := Lib.hid (extL_none (n := n) (r := r) (pr := pr) (k := k) (B := B) (free := free) (left := left) fun s hs => HD.out s (by omega))
        clear hje
        go_wp2_with fail
        go_ret
        exact ⟨_, by rw [HNO.out]; rfl, HM.out, by rw [HNO.out]; exact HO.out, HE.out, HB.out⟩

end Go.Proofs.YtfmppncefbjicaaDoor
