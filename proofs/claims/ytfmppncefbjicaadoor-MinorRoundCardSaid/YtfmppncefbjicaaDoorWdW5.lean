/- The contracts of package width's towns: has, count, all, isSet, isNode, around, part, left, newTown. -/
import Derived.Test.YtfmppncefbjicaaDoorW2
namespace Go.Proofs.YtfmppncefbjicaaDoor.Wd
set_option linter.unusedSimpArgs false
set_option linter.unusedVariables false
open Go.RowKit Go.Maps
attribute [local go_sem] i64_bit toNat_eq_one toNat_ne_one toNat_eq_zero toNat_ne_zero i64_and i64_or i64_andNot i64_or_pow i64_andNot_pow

set_option maxHeartbeats 400000 in
theorem has_any (s v : Nat) (w : World) (hs : s < 65536) (hv : v < 64) :
    Calls Tryd.prog 103 #[.int .i64 s, .int .i64 v] w fun e w' => e = .returned (.bool (s.testBit v)) ∧ w = w' := by
  go_enter Tryd.func103, Tryd.ntmps103
  go_wp2
  go_ret
  exact ⟨rfl, rfl⟩
theorem has_quiet (s v : Nat) (w : World) (hs : s < 65536) (hv : v < 64) :
    Calls Tryd.prog 103 #[.int .i64 s, .int .i64 v] w fun e w' => e = .returned (.bool (s.testBit v)) ∧ w' = w :=
  (has_any s v w hs hv).mono fun _ _ ⟨a, b⟩ => ⟨a, b.symm⟩

set_option maxRecDepth 20000 in
set_option maxHeartbeats 4000000 in
theorem ones64_any (x : Nat) (hx : x < 512) (w : World) :
    Calls Tryd.prog 121 #[.int .u64 x] w fun e w' => e = .returned (.int .i64 (szS 9 x : Nat)) ∧ w = w' := by
  go_enter Tryd.func121, Tryd.ntmps121
  go_wp2
  go_ret
  refine ⟨?_, rfl⟩
  refine congrArg (fun t => Ending.returned (Value.int IntKind.i64 t)) ?_
  revert x
  decide +kernel
set_option maxRecDepth 20000 in
set_option maxHeartbeats 4000000 in
theorem ones_any (x : Nat) (hx : x < 512) (w : World) :
    Calls Tryd.prog 115 #[.int .u64 x] w fun e w' => e = .returned (.int .i64 (szS 9 x : Nat)) ∧ w = w' := by
  go_enter Tryd.func115, Tryd.ntmps115
  go_wp2_with (go_at_call 121; refine (ones64_any x hx _).mono ?_; rintro e w1 ⟨rfl, rfl⟩)
  go_ret
  exact ⟨rfl, rfl⟩

theorem szS_more {n T : Nat} (hT : T < 2 ^ n) : ∀ k, szS (n + k) T = szS n T
  | 0 => rfl
  | k + 1 => by
    have ih := szS_more hT k
    have h0 : T.testBit (n + k) = false := Nat.testBit_lt_two_pow (Nat.lt_of_lt_of_le hT (Nat.pow_le_pow_right (by omega) (by omega)))
    show szS (n + k + 1) T = _
    rw [← ih]
    unfold szS
    rw [List.range_succ, List.countP_append]
    simp [h0]
theorem szS_nine {n T : Nat} (hn : n ≤ 9) (hT : T < 2 ^ n) : szS 9 T = szS n T := by
  have := szS_more hT (9 - n)
  rwa [show n + (9 - n) = 9 by omega] at this
theorem pow_le9 {n : Nat} (h : n ≤ 9) : 2 ^ n ≤ 512 := by
  have : 2 ^ n ≤ 2 ^ 9 := Nat.pow_le_pow_right (by omega) h
  simpa using this

set_option maxRecDepth 20000 in
set_option maxHeartbeats 1000000 in
theorem count_any {n : Nat} (hn : n ≤ 9) (x : Nat) (hx : x < 2 ^ n) (w : World) :
    Calls Tryd.prog 112 #[.int .i64 x] w fun e w' => e = .returned (.int .i64 (szS n x : Nat)) ∧ w = w' := by
  have h9 := pow_le9 hn
  have hx9 : x < 512 := by omega
  have HS := Lib.hid (szS_nine hn hx)
  clear hx h9
  go_enter Tryd.func112, Tryd.ntmps112
  go_wp2_with (go_at_call 115; refine (ones_any x hx9 _).mono ?_; rintro e w1 ⟨rfl, rfl⟩)
  go_ret
  exact ⟨by rw [HS.out]; rfl, rfl⟩

set_option maxHeartbeats 400000 in
theorem all_any (a : Option Addr) (n cap : Nat) (w : World) (hn : n < 16) :
    Calls Tryd.prog 110 #[.slice a n cap] w fun e w' => e = .returned (.int .i64 (2^n - 1)) ∧ w = w' := by
  obtain ⟨h1, h2⟩ := pow_bd n hn
  go_enter Tryd.func110, Tryd.ntmps110
  go_wp2
  go_ret
  exact ⟨rfl, rfl⟩

set_option maxHeartbeats 400000 in
theorem isSet_any (a : Option Addr) (n cap : Nat) (v : Int) (w : World) (hn : n < 16) :
    Calls Tryd.prog 102 #[.slice a n cap, .int .i64 v] w fun e w' => e = .returned (.bool (inB v (2^n))) ∧ w = w' := by
  obtain ⟨h1, h2⟩ := pow_bd n hn
  by_cases h0 : 0 ≤ v
  · go_enter Tryd.func102, Tryd.ntmps102
    go_wp2_with (go_at_call 110; refine (all_any _ _ _ _ hn).mono ?_; rintro e w' ⟨rfl, rfl⟩)
    go_ret
    refine ⟨?_, rfl⟩
    show Ending.returned (Value.bool (decide (v ≤ 2 ^ n - 1))) = _
    unfold inB; congr 2; apply decide_eq_decide.2; omega
  · go_enter Tryd.func102, Tryd.ntmps102
    go_wp2
    go_ret
    refine ⟨?_, rfl⟩
    show Ending.returned (Value.bool false) = _
    rw [inB_false (by omega)]


set_option maxRecDepth 20000 in
set_option maxHeartbeats 2000000 in
theorem around_any {n : Nat} {r : Nat → Nat} {a : Option Addr} {w : World} (G : GrAt w a n r) (cap s : Nat) (hs : s < 65536) :
    Calls Tryd.prog 116 #[.slice a n cap, .int .i64 s] w fun e w' => e = .returned (.int .i64 (arnd n r s : Nat)) ∧ w = w' := by
  obtain ⟨hml, hI⟩ := G.ints
  obtain ⟨b, off, rfl, hlt, hc⟩ := hI G.pos
  have hn := G.small
  have hbd := G.bd
  unfold maxLen at hml
  clear hI
  go_enter Tryd.func116, Tryd.ntmps116
  go_wp2_with fail
  go_loopw [5, 9] (fun f i wr => ∃ j : Nat, j ≤ n ∧ i = .int .i64 j ∧ f = .int .i64 (nbTo r s j : Nat) ∧ wr = w) (fun _ i _ => n - (intOf i).toNat)
  case atStart => exact ⟨0, Nat.zero_le _, rfl, rfl, rfl⟩
  case round =>
    obtain ⟨j, hj, rfl, rfl, rfl⟩ := hrel
    have hfj : nbTo r s j < 65536 := nbTo_lt (m := 16) s hbd j hj
    by_cases hlj : j < n
    · have hrj := hbd j hlj
      have cj := hc j hlj
      have HST : Hid (nbTo r s (j + 1) = if s.testBit j then nbTo r s j ||| r j else nbTo r s j) := Lib.hid rfl
      have hj64 : j < 64 := by omega
      generalize nbTo r s j = f at *
      cases hq : s.testBit j
      all_goals
        go_wp2_with (go_at_call 103; refine (has_any _ _ _ hs hj64).mono ?_; rintro e w1 ⟨rfl, rfl⟩)
        go_roundw
        case rel => exact ⟨j + 1, by omega, by go_num, by rw [HST.out, hq]; rfl, by trivial⟩
        case measure => simp [intOf]; omega
    · have : j = n := by omega
      subst this
      go_wp2_with fail
      go_ret
      exact ⟨rfl, rfl⟩

/-- What the program's walks over a valid graph ask of it. -/
structure Gr (w : World) (a : Option Addr) (n : Nat) (r : Nat → Nat) : Prop where
  at_ : GrAt w a n r
  le : n ≤ 9
  bd : ∀ i, i < n → r i < 2 ^ n
theorem Gr.below {w w' : World} {a : Option Addr} {n : Nat} {r : Nat → Nat} (h : Gr w a n r) (hb : Below w.heap.size w w') : Gr w' a n r := ⟨h.at_.below hb, h.le, h.bd⟩
theorem lt16 {n x : Nat} (hn : n ≤ 9) (hx : x < 2 ^ n) : x < 65536 := by have := pow_le9 hn; omega

set_option maxRecDepth 20000 in
set_option maxHeartbeats 2000000 in
theorem part_any {n : Nat} {r : Nat → Nat} {a : Option Addr} {w : World} (G : Gr w a n r) (cap v set : Nat) (hv : v < n) (hset : set < 2 ^ n) :
    Calls Tryd.prog 117 #[.slice a n cap, .int .i64 v, .int .i64 set] w fun e w' => e = .returned (.int .i64 (partS n r set v : Nat)) ∧ w = w' := by
  have hle := G.le
  have hv16 : v < 16 := by omega
  have hpv := pow_bd v hv16
  obtain ⟨pv, hpe⟩ : ∃ p : Nat, p = 2 ^ v := ⟨_, rfl⟩
  have hpc : (2 : Int) ^ v = (pv : Nat) := by rw [hpe]; exact pow_cast v
  have HPE := Lib.hid hpe
  have hs16 := lt16 hle hset
  have HPC := Lib.hid hpc
  have HG := Lib.hid G
  clear hpc hpe hset
  go_enter Tryd.func117, Tryd.ntmps117
  go_wp2_with fail
  rw [HPC.out]
  go_loopw [7] (fun f wr => ∃ x : Nat, f = .int .i64 x ∧ x.testBit v = true ∧ (∀ i, x.testBit i = true → (partS n r set v).testBit i = true) ∧ wr = w) (fun f _ => 2 ^ n - (intOf f).toNat)
  case atStart => exact ⟨pv, rfl, by rw [HPE.out]; exact bit_pow v, fun i h => metIn_sub n i (by rw [← HPE.out]; exact h), rfl⟩
  case round =>
    obtain ⟨x, rfl, hself, hsub, rfl⟩ := hrel
    have hxP := sub_le hsub
    have hP := partS_lt (set := set) hv HG.out.bd
    have hx2 : x < 2 ^ n := by omega
    have hx := lt16 hle hx2
    have hA : arnd n r x < 65536 := lt16 hle (arnd_lt x HG.out.bd)
    have HS := Lib.hid hself
    have HSU := Lib.hid hsub
    have HX2 := Lib.hid hx2
    have hand : arnd n r x &&& set < 65536 := and_lt hA
    clear hself hsub hxP hP hx2 hpv
    by_cases h0 : arnd n r x &&& set = 0
    · have hb0 : (((arnd n r x &&& set : Nat) : Int) == 0) = true := by rw [h0]; rfl
      have H0 := Lib.hid h0
      clear h0
      go_wp2_with (go_at_call 116; refine (around_any HG.out.at_ cap x hx).mono ?_; rintro e w1 ⟨rfl, rfl⟩)
      go_ret
      refine ⟨?_, rfl⟩
      have : x = partS n r set v := partS_is hv HG.out.bd HS.out HSU.out (fun u hu h1 y h2 h3 => by
        apply Classical.byContradiction
        intro h4
        have h5 : (arnd n r x).testBit y = true := (testBit_arnd n r x y).2 ⟨⟨u, hu, h1, h2⟩, by simpa using h4⟩
        have h6 : (arnd n r x &&& set).testBit y = true := by rw [Nat.testBit_and, h5, h3]; rfl
        rw [H0.out] at h6; simp at h6)
      exact congrArg (fun t : Nat => Ending.returned (Value.int IntKind.i64 (t : Int))) this
    · have hb0 : (((arnd n r x &&& set : Nat) : Int) == 0) = false := by
        rw [cast_beq0]; simpa using h0
      have H0 := Lib.hid h0
      clear h0
      go_wp2_with (go_at_call 116; refine (around_any HG.out.at_ cap x hx).mono ?_; rintro e w1 ⟨rfl, rfl⟩)
      go_roundw
      case rel =>
        refine ⟨x ||| (arnd n r x &&& set), rfl, by rw [Nat.testBit_or, HS.out]; rfl, fun i hi => ?_, by trivial⟩
        rw [Nat.testBit_or, Bool.or_eq_true, Nat.testBit_and, Bool.and_eq_true] at hi
        rcases hi with hi | ⟨h1, h2⟩
        · exact HSU.out i hi
        · obtain ⟨⟨j, hj, h3, h4⟩, _⟩ := (testBit_arnd n r x i).1 h1
          exact partS_closed hv HG.out.bd j hj (HSU.out j h3) i h4 h2
      case measure =>
        have hor : x < x ||| (arnd n r x &&& set) := by
          rcases Nat.lt_or_eq_of_le (Nat.left_le_or (n := x) (m := arnd n r x &&& set)) with h | h
          · exact h
          · exfalso
            apply H0.out
            apply Nat.eq_of_testBit_eq
            intro i
            rw [Nat.zero_testBit]
            cases hi : (arnd n r x &&& set).testBit i
            · rfl
            · rw [Nat.testBit_and, Bool.and_eq_true] at hi
              have h5 := ((testBit_arnd n r x i).1 hi.1).2
              rw [h, Nat.testBit_or, Nat.testBit_and, hi.1, hi.2] at h5
              simp at h5
        have := HX2.out
        simp only [intOf, Array.getD_eq_getD_getElem?]
        simp
        omega

set_option maxRecDepth 20000 in
set_option maxHeartbeats 2000000 in
theorem left_any {n : Nat} {r : Nat → Nat} {a : Option Addr} {w : World} (G : Gr w a n r) (cap v gone : Nat) (hv : v < n) (hg : gone < 2 ^ n) :
    Calls Tryd.prog 113 #[.slice a n cap, .int .i64 v, .int .i64 gone] w fun e w' => e = .returned (.int .i64 (leftS n r gone v : Nat)) ∧ w = w' := by
  have hle := G.le
  have hv16 : v < 16 := by omega
  have hpv := pow_bd v hv16
  have hg16 := lt16 hle hg
  have hor : gone ||| 2 ^ v < 2 ^ n := Nat.or_lt_two_pow hg (pow_lt_pow hv)
  have hP : partS n r (gone ||| 2 ^ v) v < 65536 := lt16 hle (partS_lt hv G.bd)
  go_enter Tryd.func113, Tryd.ntmps113
  go_wp2_with (first | (go_at_call 117; refine (part_any G cap v (gone ||| 2 ^ v) hv hor).mono ?_; rintro e w1 ⟨rfl, rfl⟩) | (go_at_call 116; refine (around_any G.at_ cap _ hP).mono ?_; rintro e w1 ⟨rfl, rfl⟩))
  go_ret
  exact ⟨rfl, rfl⟩

end Go.Proofs.YtfmppncefbjicaaDoor.Wd
