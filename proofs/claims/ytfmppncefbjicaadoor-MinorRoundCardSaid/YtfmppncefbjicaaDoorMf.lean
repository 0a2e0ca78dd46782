/- Package minor: the contracts of modelOf and of model. -/
import Derived.Test.YtfmppncefbjicaaDoorMe
namespace Go.Proofs.YtfmppncefbjicaaDoor
set_option linter.unusedSimpArgs false
set_option linter.unusedVariables false
open Go.RowKit Go.Maps
attribute [local go_sem] i64_bit toNat_eq_one toNat_ne_one toNat_eq_zero toNat_ne_zero i64_and i64_or i64_andNot i64_or_pow i64_andNot_pow

@[local go_sem] theorem run_store_funcM (w : World) (a : Addr) (fn : Fn) (x y : Array Value) (m : Mode) : (store a (.func fn x y) m).run Tryd.prog w = stored Tryd.prog w a (.func fn x y) m := run_store Tryd.prog w a _ m rfl
/-- The first model of at most so many nodes. -/
def modOf (n q : Nat) (r pr : Nat → Nat) (size : Nat) : Option (List Nat) := extL n r pr q [] (2 ^ n - 1) size
set_option maxRecDepth 20000 in
set_option maxHeartbeats 4000000 in
theorem modelOf_any {n q size gc : Nat} {r pr : Nat → Nat} {a b : Option Addr} {w : World} (T : Tn w a n r) (P : Tn w b q pr) (ct cp : Nat) (hT : Tab w) (hqs : q ≤ size) (hsz : size ≤ 60) (hgc : gc < w.heap.size) (hcc : ∀ s, s < 2 ^ n → w.cell? ⟨gc, s, none⟩ = some (.bool (conB n r s))) :
    Calls Tryd.prog 87 #[.slice a n ct, .slice b q cp, .int .i64 size, .slice (some ⟨gc, 0, none⟩) (2 ^ n) (2 ^ n)] w fun e w' => ∃ v, e = .returned v ∧ IntsOwn w' w.heap.size v (castL ((modOf n q r pr size).getD [])) ∧ Below w.heap.size w w' := by
  have hn8 := T.le
  have hn16 : n < 16 := by omega
  have h8 := pow_le8 hn8
  obtain ⟨wB, hwB, rT, rP, rC, hbB, hsB⟩ := new3 w 74 74 103 [.slice a n ct] [.slice b q cp] [.slice (some ⟨gc, 0, none⟩) (2 ^ n) (2 ^ n)]
  have eB : wB.heap.size = w.heap.size + 1 + 1 + 1 := by rw [hwB]; simp
  have HX : Hid (ExtW wB (w.heap.size + 1) (w.heap.size + 1 + 1) w.heap.size gc b a cp ct n q r pr) := Lib.hid
    ⟨rP, rC, rT, Nat.lt_of_lt_of_le hgc hbB.size, fun s hs => by rw [hbB.cell (p := ⟨gc, s, none⟩) hgc]; exact hcc s hs, T.below hbB, P.below hbB, hT.below hbB⟩
  have hmf : ∀ (fn : Fn) (first cap : Array Value) (w : World), (Instr.makeFunc fn first cap).run Tryd.prog w = .ok (.func fn first cap) w := fun _ _ _ _ => rfl
  obtain ⟨w1, hw1, rM, rE, hb1, hs1⟩ := new2 wB 22 98 [.slice none 0 0] [extF (w.heap.size + 1 + 1 + 1) (w.heap.size + 1) (w.heap.size + 1 + 1) w.heap.size (w.heap.size + 1 + 1 + 1 + 1)]
  have HBB := Lib.hid (hb1.mono (Nat.le_refl _))
  have HB1 := Lib.hid (hbB.trans (hb1.mono hbB.size))
  rw [eB] at rM rE hs1
  have HM := Lib.hid rM
  have HE := Lib.hid rE
  have HAL := Lib.hid (fun w => all_any a n ct w hn16)
  have hall : 2 ^ n - 1 < 2 ^ n := Nat.sub_lt (Nat.two_pow_pos n) (by omega)
  have HIH : Hid (∀ wx, Below w1.heap.size w1 wx → Calls Tryd.prog 107 #[.int .i64 (2 ^ n - 1 : Nat), .int .i64 (size : Nat), ptrV (w.heap.size + 1 + 1 + 1), ptrV (w.heap.size + 1), ptrV (w.heap.size + 1 + 1), ptrV w.heap.size, ptrV (w.heap.size + 1 + 1 + 1 + 1)] wx (ExtPost wB (w.heap.size + 1 + 1 + 1) (w.heap.size + 1 + 1 + 1 + 1) (extF (w.heap.size + 1 + 1 + 1) (w.heap.size + 1) (w.heap.size + 1 + 1) w.heap.size (w.heap.size + 1 + 1 + 1 + 1)) (modOf n q r pr size) [])) := Lib.hid fun wx hx =>
    ext_rec HX.out (by omega) (by omega) (by omega) q [] (2 ^ n - 1) size (by simp) hall hqs hsz (by simp) wx _ (HM.out.below hx (by omega)) (IntsOwn.nil _ _) (HE.out.below hx (by omega)) (HBB.out.trans (hx.mono HBB.out.size))
  have cT := ((HX.out.rt.below hb1 (by omega))).cell (i := 0) rfl
  have cE := rE.cell (i := 0) rfl
  have HBW := Lib.hid hbB
  clear T P hT hcc rT rP rC hbB hb1 rM rE HX HBB
  obtain ⟨A, hA⟩ : ∃ A, A = 2 ^ n - 1 := ⟨_, rfl⟩
  rw [← hA] at HAL HIH
  clear hA hall
  go_enter Tryd.func87, Tryd.ntmps87
  go_wp2_with fail
  rw [← hwB, ← hw1]
  clear hwB hw1 hmf
  refine wp_region_still_tail 4 (by kernel_rfl) (by kernel_rfl) ?_
  simp only [List.take_succ_cons, List.take_zero, List.drop_succ_cons, List.drop_zero]
  repeat still_step
  still_call ((HAL.out _).mono fun _ _ ⟨h1, h2⟩ => ⟨h1, h2.symm⟩)
  repeat still_step
  refine wpStill_nil ?_
  change wpList _ _ _ _ _ w1.drew
  have HIH2 := Lib.hid (HIH.out w1.drew (below_drewN (Below.refl _ _) 1))
  cases hres : modOf n q r pr size
  · rw [hres] at HIH2
    have HRES := Lib.hid hres
    clear hres
    go_wp2_with fail
    go_at_call 107
    refine HIH2.out.mono ?_
    rintro e w6 ⟨v6, rfl, hm6, ho6, he6, hb6⟩
    have HB6 := Lib.hid hb6
    clear hm6 ho6 he6 hb6
    go_wp2_with fail
    go_ret
    refine ⟨_, rfl, ?_, HBW.out.trans (HB6.out.mono HBW.out.size)⟩
    rw [HRES.out]
    exact IntsOwn.nil _ _
  · rename_i B2
    rw [hres] at HIH2
    have HRES := Lib.hid hres
    clear hres
    go_wp2_with fail
    go_at_call 107
    refine HIH2.out.mono ?_
    rintro e w6 ⟨v6, rfl, hm6, ho6, he6, hb6⟩
    have HB6 := Lib.hid hb6
    have HO6 := Lib.hid ho6
    have cm6 := hm6.cell (i := 0) rfl
    clear hm6 ho6 he6 hb6
    go_wp2_with fail
    go_ret
    refine ⟨_, rfl, ?_, HBW.out.trans (HB6.out.mono HBW.out.size)⟩
    rw [HRES.out]
    exact ownsRow_base HO6.out (by rw [eB]; omega)

/-- The cells of the table of connected sets, when the first k of them are filled. -/
def conC (n : Nat) (r : Nat → Nat) (k : Nat) : List Value := (List.range (2 ^ n)).map fun s => .bool (if s < k then conB n r s else false)
theorem conC_zero (n : Nat) (r : Nat → Nat) : conC n r 0 = (madeCells #[.bool false] (2 ^ n)).toList := by
  unfold conC madeCells
  simp [Nat.mod_one]
theorem conC_set {n : Nat} {r : Nat → Nat} {k : Nat} : (conC n r k).set k (.bool (conB n r k)) = conC n r (k + 1) := by
  unfold conC
  rw [map_range_set]
  apply List.map_congr_left
  intro x _
  by_cases h : x = k
  · subst h; rw [if_pos rfl, if_pos (Nat.lt_succ_self x)]
  · rw [if_neg h]
    by_cases h2 : x < k
    · rw [if_pos h2, if_pos (by omega)]
    · rw [if_neg h2, if_neg (by omega)]
theorem conC_at {n : Nat} {r : Nat → Nat} {s : Nat} (h : s < 2 ^ n) : (conC n r (2 ^ n))[s]? = some (.bool (conB n r s)) := by
  unfold conC
  rw [map_range_get _ h, if_pos h]
theorem conC_some {n : Nat} {r : Nat → Nat} {k s : Nat} (h : s < 2 ^ n) : ∃ q, (conC n r k)[s]? = some (.bool q) := ⟨_, by unfold conC; rw [map_range_get _ h]⟩
theorem info_bool : (Tryd.prog.info? 4).map (fun i => (i.zero, i.size, i.bytes)) = some (some (.bool false), 1, 1) := by kernel_rfl

theorem extL_len {n : Nat} {r pr : Nat → Nat} : ∀ (k : Nat) (B : List Nat) (free left : Nat) (B' : List Nat), extL n r pr k B free left = some B' → B'.length = k + B.length := by
  intro k
  induction k with
  | zero => intro B free left B' h; cases h; simp
  | succ k ih =>
    intro B free left B' h
    unfold extL at h
    obtain ⟨s, _, hs⟩ := List.exists_of_findSome?_eq_some h
    split at hs
    · have := ih _ _ _ _ hs
      rw [List.length_append, List.length_singleton] at this
      omega
    · cases hs
/-- The first model with as few nodes as possible, where the pattern is not too large and not farther from a tree than the graph. -/
def modL (n q : Nat) (r pr : Nat → Nat) (wt wp : Nat) : Option (List Nat) := if n < q ∨ wt < wp then none else (List.range (n + 1 - q)).findSome? fun i => modOf n q r pr (q + i)

set_option maxRecDepth 20000 in
set_option maxHeartbeats 4000000 in
theorem model_any {n q wt wp : Nat} {r pr : Nat → Nat} {a b : Option Addr} {w : World} (T : Tn w a n r) (P : Tn w b q pr) (ct cp : Nat) (hT : Tab w) (hq1 : 1 ≤ q)
    (hwt : ∀ w', Below w.heap.size w w' → Calls Tryd.prog 84 #[.slice a n ct] w' fun e w'' => e = .returned (.int .i64 (wt : Nat)) ∧ Below w'.heap.size w' w'')
    (hwp : ∀ w', Below w.heap.size w w' → Calls Tryd.prog 84 #[.slice b q cp] w' fun e w'' => e = .returned (.int .i64 (wp : Nat)) ∧ Below w'.heap.size w' w'') :
    Calls Tryd.prog 59 #[.slice a n ct, .slice b q cp] w fun e w' => ∃ v, e = .returned (.tuple #[v, .bool (modL n q r pr wt wp).isSome]) ∧ IntsOwn w' w.heap.size v (castL ((modL n q r pr wt wp).getD [])) ∧ Below w.heap.size w w' := by
  have hn8 := T.le
  have hq8 := P.le
  have hn16 : n < 16 := by omega
  have h8 := pow_le8 hn8
  have HTN := Lib.hid T
  have HPN := Lib.hid P
  have HTB := Lib.hid hT
  have HWT := Lib.hid hwt
  have HWP := Lib.hid hwp
  have hm1 := T.at_.ints.1
  have hm2 := P.at_.ints.1
  unfold maxLen at hm1 hm2
  clear T P hT hwt hwp
  by_cases hqn : n < q
  · have hc1 : decide ((q : Int) > (n : Int)) = true := decide_eq_true (by omega)
    have hc2 : decide ((n : Int) < (q : Int)) = true := decide_eq_true (by omega)
    have hnnqt : decide (n < q) = true := decide_eq_true (by omega)
    have HX : Hid (modL n q r pr wt wp = none) := Lib.hid (by unfold modL; rw [if_pos (.inl hqn)])
    go_enter Tryd.func59, Tryd.ntmps59
    go_wp2_with fail
    go_ret2
    exact ⟨_, by rw [HX.out]; rfl, by rw [HX.out]; exact IntsOwn.nil _ _, Below.refl _ _⟩
  · have hc1 : decide ((q : Int) > (n : Int)) = false := decide_eq_false (by omega)
    have hc2 : decide ((n : Int) < (q : Int)) = false := decide_eq_false (by omega)
    have hnnqf : decide (n < q) = false := decide_eq_false (by omega)
    by_cases hww : wt < wp
    · have hd1 : decide ((wp : Int) > (wt : Int)) = true := decide_eq_true (by omega)
      have hd2 : decide ((wt : Int) < (wp : Int)) = true := decide_eq_true (by omega)
      have hnwtwpt : decide (wt < wp) = true := decide_eq_true (by omega)
      have HX : Hid (modL n q r pr wt wp = none) := Lib.hid (by unfold modL; rw [if_pos (.inr hww)])
      go_enter Tryd.func59, Tryd.ntmps59
      go_wp2_with fail
      go_at_call 84
      refine (HWP.out _ (Below.refl _ _)).mono ?_
      rintro e w1 ⟨rfl, hb1⟩
      have HB1 := Lib.hid hb1
      clear hb1
      go_wp2_with fail
      go_at_call 84
      refine (HWT.out _ HB1.out).mono ?_
      rintro e w2 ⟨rfl, hb2⟩
      have HB2 := Lib.hid (HB1.out.trans (hb2.mono HB1.out.size))
      clear hb2
      go_wp2_with fail
      go_ret2
      exact ⟨_, by rw [HX.out]; rfl, by rw [HX.out]; exact IntsOwn.nil _ _, HB2.out⟩
    · have hd1 : decide ((wp : Int) > (wt : Int)) = false := decide_eq_false (by omega)
      have hd2 : decide ((wt : Int) < (wp : Int)) = false := decide_eq_false (by omega)
      have hnwtwpf : decide (wt < wp) = false := decide_eq_false (by omega)
      have HX : Hid (modL n q r pr wt wp = (List.range (n + 1 - q)).findSome? fun i => modOf n q r pr (q + i)) := Lib.hid (by unfold modL; rw [if_neg (by omega)])
      obtain ⟨A, hA⟩ : ∃ A, A = 2 ^ n - 1 := ⟨_, rfl⟩
      have hA2 : A + 1 = 2 ^ n := by have := Nat.two_pow_pos n; omega
      have HA2 := Lib.hid hA2
      have HAL := Lib.hid (fun w => all_any a n ct w hn16)
      rw [← hA] at HAL
      have hmk : ∀ w : World, (Instr.makeSlice 103 (.int .i64 ((A : Int) + 1)) (.int .i64 ((A : Int) + 1))).run Tryd.prog w = .ok (.slice (some ⟨w.heap.size, 0, none⟩) (A + 1) (A + 1)) (w.alloc (.cells (conC n r 0).toArray 4)) := by
        have h := run_make_row' (P := Tryd.prog) 103 4 (.bool false) 1 Tryd.underlying103 info_bool rfl .i64 .i64 (A + 1) (by omega) (by omega)
        rw [conC_zero, ← hA2]
        exact h
      have hA8 : A ≤ 255 := by omega
      have HQN : Hid (q ≤ n) := Lib.hid (by omega)
      clear hA hA2 hww hqn
      go_enter Tryd.func59, Tryd.ntmps59
      go_wp2_with fail
      go_at_call 84
      refine (HWP.out _ (Below.refl _ _)).mono ?_
      rintro e w1 ⟨rfl, hb1⟩
      have HB1 := Lib.hid hb1
      clear hb1
      go_wp2_with fail
      go_at_call 84
      refine (HWT.out _ HB1.out).mono ?_
      rintro e w2 ⟨rfl, hb2⟩
      have HB2 := Lib.hid (HB1.out.trans (hb2.mono HB1.out.size))
      clear hb2
      obtain ⟨w3, hw3, R3, hb3, hs3⟩ := new1 w2 4 (conC n r 0)
      have HR3 := Lib.hid R3
      have HB3 := Lib.hid (HB2.out.trans (hb3.mono HB2.out.size))
      have HBX := Lib.hid hb3
      clear R3 hb3
      go_wp2_with (go_at_call 85; refine (HAL.out _).mono ?_; rintro e w9 ⟨rfl, rfl⟩)
      rw [← hw3]
      clear hw3 hmk
      obtain ⟨g, hg⟩ : ∃ g, g = w2.heap.size := ⟨_, rfl⟩
      rw [← hg] at HR3 hs3 HBX
      rw [← hg]
      have hgB : w.heap.size ≤ g := by rw [hg]; exact HB2.out.size
      clear hg HBX
      go_wp2_with fail
      go_loopw [28] (fun i wr => ∃ k : Nat, k ≤ A + 1 ∧ i = .int .i64 k ∧ Row wr g 4 (conC n r k) ∧ Below w.heap.size w wr) (fun i _ => A + 1 - (intOf i).toNat)
      case atStart => exact ⟨0, Nat.zero_le _, rfl, HR3.out, HB3.out⟩
      case round =>
        clear HR3 HB3 HB2 HB1
        obtain ⟨k, hk, rfl, hr, hbr⟩ := hrel
        have HR := Lib.hid hr
        have HB := Lib.hid hbr
        have hlg := hr.lt
        clear hr hbr
        by_cases hlt : k < A + 1
        · have hk2 : k < 2 ^ n := by have := HA2.out; omega
          have HIC := Lib.hid (isConnected_any (HTN.out.below HB.out) ct k hk2 (HTB.out.below HB.out))
          obtain ⟨q0, hq0⟩ := conC_some (n := n) (r := r) (k := k) hk2
          have HQ0 := Lib.hid hq0
          have HST := Lib.hid (conC_set (n := n) (r := r) (k := k))
          clear hk2 hq0
          generalize conB n r k = cb at *
          go_wp2_with fail
          go_at_call 86
          refine HIC.out.mono ?_
          rintro e w5 ⟨rfl, hb5⟩
          have HR5 := Lib.hid (HR.out.below hb5 hlg)
          have HB5 := Lib.hid (HB.out.trans (hb5.mono HB.out.size))
          have c5 := HR5.out.cell HQ0.out
          have f5 := HR5.out.free k
          clear hb5
          go_wp2_with fail
          go_roundw
          case rel => exact ⟨k + 1, by omega, by go_num, by rw [← HST.out]; exact HR5.out.set _ _, HB5.out.setCell (p := ⟨g, k, none⟩) hgB _⟩
          case measure => simp [intOf]; omega
        · have hke : k = A + 1 := by omega
          have HRT : Hid (Row wr g 4 (conC n r (2 ^ n))) := Lib.hid (by rw [← HA2.out, ← hke]; exact HR.out)
          clear hke
          obtain ⟨w6, rfl⟩ : ∃ x, x = wr := ⟨_, rfl⟩
          have HMO : Hid (∀ wx, Below w6.heap.size w6 wx → ∀ m, q ≤ m → m ≤ n → Calls Tryd.prog 87 #[.slice a n ct, .slice b q cp, .int .i64 m, .slice (some ⟨g, 0, none⟩) (A + 1) (A + 1)] wx fun e w' => ∃ v, e = .returned v ∧ IntsOwn w' wx.heap.size v (castL ((modOf n q r pr m).getD [])) ∧ Below wx.heap.size wx w') := Lib.hid fun wx hx m h1 h2 => by
            rw [HA2.out]
            have hbw := HB.out.trans (hx.mono HB.out.size)
            have hr := HRT.out.below hx HRT.out.lt
            exact modelOf_any (HTN.out.below hbw) (HPN.out.below hbw) ct cp (HTB.out.below hbw) h1 (by omega) hr.lt fun s hs => hr.cell (conC_at hs)
          clear HR
          go_wp2_with fail
          go_loopw [8] (fun x wr => ∃ m : Nat, q ≤ m ∧ m ≤ n + 1 ∧ x = .int .i64 m ∧ (∀ i, i < m - q → modOf n q r pr (q + i) = none) ∧ Below w6.heap.size w6 wr) (fun x _ => n + 1 - (intOf x).toNat)
          case atStart => exact ⟨q, Nat.le_refl _, by have := HQN.out; omega, rfl, by omega, Below.refl _ _⟩
          case round =>
            obtain ⟨m, hqm, hmn, rfl, hd, hbr⟩ := hrel
            have HD := Lib.hid hd
            have HBR := Lib.hid hbr
            clear hd hbr
            by_cases hlt2 : m ≤ n
            · have HCA := Lib.hid (HMO.out wr HBR.out m hqm hlt2)
              have HBT := Lib.hid (HB.out.trans (HBR.out.mono HB.out.size))
              cases hres : modOf n q r pr m with
              | none =>
                rw [hres] at HCA
                have HNX : Hid (∀ i, i < m + 1 - q → modOf n q r pr (q + i) = none) := Lib.hid fun i hi => by
                  by_cases h : i < m - q
                  · exact HD.out i h
                  · have : q + i = m := by omega
                    rw [this]; exact hres
                clear hres
                go_wp2_with fail
                go_at_call 87
                refine HCA.out.mono ?_
                rintro e w7 ⟨v7, rfl, ho7, hb7⟩
                obtain ⟨a7, c7, rfl⟩ := own_form ho7
                have HB7 := Lib.hid (HBR.out.trans (hb7.mono HBR.out.size))
                have hl7 : (castL ((none : Option (List Nat)).getD [])).length = 0 := rfl
                rw [hl7]
                clear ho7 hb7 hl7
                go_wp2_with fail
                go_roundw
                case rel => exact ⟨m + 1, by omega, by omega, by go_num, HNX.out, HB7.out⟩
                case measure => simp [intOf]; omega
              | some B2 =>
                rw [hres] at HCA
                have hBl : B2.length = q := by
                  have := extL_len q [] (2 ^ n - 1) m B2 hres
                  simpa using this
                have HY : Hid (modL n q r pr wt wp = some B2) := Lib.hid (by
                  rw [HX.out]
                  exact find_at (j := m - q) (fun s hs => HD.out s hs) (by rw [show q + (m - q) = m by omega]; exact hres) _ (by omega))
                clear hres
                go_wp2_with fail
                go_at_call 87
                refine HCA.out.mono ?_
                rintro e w7 ⟨v7, rfl, ho7, hb7⟩
                obtain ⟨a7, c7, rfl⟩ := own_form ho7
                have HB7 := Lib.hid (HBT.out.trans (hb7.mono HBT.out.size))
                have HO7 := Lib.hid ho7
                have hl7 : (castL ((some B2).getD [])).length = q := by
                  show (castL B2).length = q
                  rw [castL_len, hBl]
                rw [hl7]
                have hqp : decide (0 < q) = true := decide_eq_true (by omega)
                have hbs := HBT.out.size
                clear ho7 hb7 hBl
                go_wp2_with fail
                go_ret2
                exact ⟨_, by rw [HY.out]; rfl, by rw [HY.out]; have h := HO7.out; rw [hl7] at h; exact ownsRow_base h hbs, HB7.out⟩
            · have HNO : Hid (modL n q r pr wt wp = none) := Lib.hid (by
                rw [HX.out]
                exact find_none _ fun s hs => HD.out s (by omega))
              have HBT := Lib.hid (HB.out.trans (HBR.out.mono HB.out.size))
              go_wp2_with fail
              go_ret2
              exact ⟨_, by rw [HNO.out]; rfl, by rw [HNO.out]; exact IntsOwn.nil _ _, HBT.out⟩

end Go.Proofs.YtfmppncefbjicaaDoor
