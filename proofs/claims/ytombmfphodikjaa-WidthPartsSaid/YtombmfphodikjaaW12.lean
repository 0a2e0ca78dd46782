/- The contracts of package width's Width, Order, Along; of the law's awake; of slices.Compare for numbers. -/
import Derived.Test.YtombmfphodikjaaW10
import Derived.Test.YtombmfphodikjaaW11
namespace Go.Proofs.Ytombmfphodikjaa
set_option linter.unusedSimpArgs false
set_option linter.unusedVariables false
open Go.RowKit Go.Maps

/-- The graph in natural numbers. -/
abbrev natG (z : Nat → Int) (i : Nat) : Nat := (z i).toNat
def InI64 (z : Nat → Int) : Prop := ∀ i, -9223372036854775808 ≤ z i ∧ z i ≤ 9223372036854775807
/-- The width of a graph. -/
def widthG (n : Nat) (z : Nat → Int) : Nat := rst n (tn n (natG z)) 0
/-- Its first order of that width. -/
def orderG (n : Nat) (z : Nat → Int) : List Nat := ordW n (tn n (natG z)) (widthG n z) n 0

theorem newTown_yes {n : Nat} {z : Nat → Int} {a : Option Addr} (cap : Nat) {w : World} (hI : IntsAt w a n z) (hz : InI64 z) (hg : graphB n 9 z = true) :
    Calls Try.prog 40 #[.slice a n cap] w fun e w' => e = .returned (.tuple #[.slice a n cap, .bool true]) ∧ Below w.heap.size w w' ∧ Gr w' a n (natG z) :=
  (newTown_any n z a cap w hI hz).mono fun e w' ⟨he, hb⟩ => ⟨by rw [he, hg]; rfl, hb, Gr.of_graph (hI.below hb) hg⟩
theorem newTown_no {n : Nat} {z : Nat → Int} {a : Option Addr} (cap : Nat) {w : World} (hI : IntsAt w a n z) (hz : InI64 z) (hg : graphB n 9 z = false) :
    Calls Try.prog 40 #[.slice a n cap] w fun e w' => e = .returned (.tuple #[.slice none 0 0, .bool false]) ∧ Below w.heap.size w w' :=
  (newTown_any n z a cap w hI hz).mono fun e w' ⟨he, hb⟩ => ⟨by rw [he, hg]; rfl, hb⟩

set_option maxRecDepth 20000 in
set_option maxHeartbeats 1000000 in
theorem Width_yes {n : Nat} {z : Nat → Int} {a : Option Addr} (cap : Nat) {w : World} (hI : IntsAt w a n z) (hz : InI64 z) (hg : graphB n 9 z = true) :
    Calls Try.prog 12 #[.slice a n cap] w fun e w' => e = .returned (.tuple #[.int .i64 (widthG n z : Nat), .int .i64 0]) ∧ Below w.heap.size w w' := by
  have HI := Lib.hid hI
  have HZ := Lib.hid hz
  clear hI hz
  go_enter Try.func12, Try.ntmps12
  go_wp2_with (first
    | (go_at_call 40; refine (newTown_yes cap HI.out HZ.out hg).mono ?_; rintro e w1 ⟨rfl, hb1, hG⟩; have HB1 := Lib.hid hb1; have HG := Lib.hid hG; clear hb1 hG)
    | (go_at_call 41; refine (width_any HG.out cap).mono ?_; rintro e w2 ⟨rfl, hb2⟩; have HB2 := Lib.hid (HB1.out.trans (hb2.mono HB1.out.size)); clear hb2))
  go_ret2
  exact ⟨rfl, HB2.out⟩
set_option maxRecDepth 20000 in
set_option maxHeartbeats 1000000 in
theorem Width_no {n : Nat} {z : Nat → Int} {a : Option Addr} (cap : Nat) {w : World} (hI : IntsAt w a n z) (hz : InI64 z) (hg : graphB n 9 z = false) :
    Calls Try.prog 12 #[.slice a n cap] w fun e w' => e = .returned (.tuple #[.int .i64 0, .int .i64 2]) ∧ Below w.heap.size w w' := by
  have HI := Lib.hid hI
  have HZ := Lib.hid hz
  clear hI hz
  go_enter Try.func12, Try.ntmps12
  go_wp2_with (go_at_call 40; refine (newTown_no cap HI.out HZ.out hg).mono ?_; rintro e w1 ⟨rfl, hb1⟩; have HB1 := Lib.hid hb1; clear hb1)
  go_ret2
  exact ⟨rfl, HB1.out⟩

set_option maxRecDepth 20000 in
set_option maxHeartbeats 1000000 in
theorem Order_yes {n : Nat} {z : Nat → Int} {a : Option Addr} (cap : Nat) {w : World} (hI : IntsAt w a n z) (hz : InI64 z) (hg : graphB n 9 z = true) :
    Calls Try.prog 14 #[.slice a n cap] w fun e w' => ∃ v, e = .returned (.tuple #[v, .int .i64 0]) ∧ NatsOwn w' w.heap.size v (orderG n z) ∧ Below w.heap.size w w' := by
  have HI := Lib.hid hI
  have HZ := Lib.hid hz
  clear hI hz
  go_enter Try.func14, Try.ntmps14
  go_wp2_with (first
    | (go_at_call 40; refine (newTown_yes cap HI.out HZ.out hg).mono ?_; rintro e w1 ⟨rfl, hb1, hG⟩; have HB1 := Lib.hid hb1; have HG := Lib.hid hG; clear hb1 hG)
    | (go_at_call 43; refine (firstOrder_any HG.out cap).mono ?_; rintro e w2 ⟨v, rfl, ho, hb2⟩; have HO := Lib.hid ho; have HB2 := Lib.hid (HB1.out.trans (hb2.mono HB1.out.size)); clear hb2 ho))
  go_ret2
  exact ⟨v, rfl, ownsRow_base HO.out HB1.out.size, HB2.out⟩
set_option maxRecDepth 20000 in
set_option maxHeartbeats 1000000 in
theorem Order_no {n : Nat} {z : Nat → Int} {a : Option Addr} (cap : Nat) {w : World} (hI : IntsAt w a n z) (hz : InI64 z) (hg : graphB n 9 z = false) :
    Calls Try.prog 14 #[.slice a n cap] w fun e w' => e = .returned (.tuple #[.slice none 0 0, .int .i64 2]) ∧ Below w.heap.size w w' := by
  have HI := Lib.hid hI
  have HZ := Lib.hid hz
  clear hI hz
  go_enter Try.func14, Try.ntmps14
  go_wp2_with (go_at_call 40; refine (newTown_no cap HI.out HZ.out hg).mono ?_; rintro e w1 ⟨rfl, hb1⟩; have HB1 := Lib.hid hb1; clear hb1)
  go_ret2
  exact ⟨rfl, HB1.out⟩

set_option maxRecDepth 20000 in
set_option maxHeartbeats 1000000 in
theorem Along_yes {n m : Nat} {z y : Nat → Int} {a o : Option Addr} (cap co : Nat) {w : World} (hI : IntsAt w a n z) (hz : InI64 z) (hg : graphB n 9 z = true) (hO : IntsAt w o m y) (ho : ordB n m y = true) :
    Calls Try.prog 15 #[.slice a n cap, .slice o m co] w fun e w' => e = .returned (.tuple #[.int .i64 (alo (tn n (natG z)) y n : Nat), .int .i64 0]) ∧ Below w.heap.size w w' := by
  obtain ⟨rfl, hok⟩ := ordB_iff ho
  have HI := Lib.hid hI
  have HZ := Lib.hid hz
  have HO := Lib.hid hO
  have HOK := Lib.hid hok
  have hle := (graphB_le hg).2.1
  clear hI hz hO hok
  go_enter Try.func15, Try.ntmps15
  go_wp2_with (first
    | (go_at_call 40; refine (newTown_yes cap HI.out HZ.out hg).mono ?_; rintro e w1 ⟨rfl, hb1, hG⟩; have HB1 := Lib.hid hb1; have HG := Lib.hid hG; have HO1 := Lib.hid (HO.out.below hb1); clear hb1 hG)
    | (go_at_call 44; refine (isOrder_any a cap hle co HO1.out).mono ?_; rintro e w2 ⟨rfl, rfl⟩; rw [ho])
    | (go_at_call 45; refine (along_any HG.out cap co HO1.out HOK.out).mono ?_; rintro e w3 ⟨rfl, rfl⟩))
  go_ret2
  exact ⟨rfl, HB1.out⟩
set_option maxRecDepth 20000 in
set_option maxHeartbeats 1000000 in
theorem Along_no {n m : Nat} {z y : Nat → Int} {a o : Option Addr} (cap co : Nat) {w : World} (hI : IntsAt w a n z) (hz : InI64 z) (hO : IntsAt w o m y) (hno : (graphB n 9 z && ordB n m y) = false) :
    Calls Try.prog 15 #[.slice a n cap, .slice o m co] w fun e w' => e = .returned (.tuple #[.int .i64 0, .int .i64 2]) ∧ Below w.heap.size w w' := by
  have HI := Lib.hid hI
  have HZ := Lib.hid hz
  have HO := Lib.hid hO
  clear hI hz hO
  cases hg : graphB n 9 z
  · clear hno
    go_enter Try.func15, Try.ntmps15
    go_wp2_with (go_at_call 40; refine (newTown_no cap HI.out HZ.out hg).mono ?_; rintro e w1 ⟨rfl, hb1⟩; have HB1 := Lib.hid hb1; clear hb1)
    go_ret2
    exact ⟨rfl, HB1.out⟩
  · rw [hg, Bool.true_and] at hno
    have hle := (graphB_le hg).2.1
    go_enter Try.func15, Try.ntmps15
    go_wp2_with (first
      | (go_at_call 40; refine (newTown_yes cap HI.out HZ.out hg).mono ?_; rintro e w1 ⟨rfl, hb1, hG⟩; have HB1 := Lib.hid hb1; have HO1 := Lib.hid (HO.out.below hb1); clear hb1 hG)
      | (go_at_call 44; refine (isOrder_any a cap hle co HO1.out).mono ?_; rintro e w2 ⟨rfl, rfl⟩; rw [hno]))
    go_ret2
    exact ⟨rfl, HB1.out⟩

def zTwo (i : Nat) : Int := if i = 0 then 2 else 1
theorem two_graph : graphB 2 9 zTwo = true := by decide
theorem two_width : widthG 2 zTwo = 1 := by decide
theorem two_in : InI64 zTwo := fun i => by unfold zTwo; split <;> omega

set_option maxRecDepth 20000 in
set_option maxHeartbeats 1000000 in
theorem awake_any (w : World) : Calls Try.prog 18 #[] w fun e w' => e = .returned (.bool true) ∧ Below w.heap.size w w' := by
  have hI : IntsAt (w.alloc (.cells #[.int .i64 2, .int .i64 1] 3)) (some ⟨w.heap.size, 0, none⟩) 2 zTwo := by
    refine ⟨by decide, fun _ => ⟨_, _, rfl, by simp, fun i hi => ?_⟩⟩
    rcases Nat.lt_succ_iff_lt_or_eq.1 hi with h | h
    · obtain rfl : i = 0 := by omega
      exact (Row.new w 3 [.int .i64 2, .int .i64 1]).cell rfl
    · subst h
      exact (Row.new w 3 [.int .i64 2, .int .i64 1]).cell rfl
  have HI := Lib.hid hI
  clear hI
  go_enter Try.func18, Try.ntmps18
  go_wp2_with (go_at_call 12; refine (Width_yes 2 HI.out two_in two_graph).mono ?_; rintro e w1 ⟨rfl, hb1⟩; rw [two_width]; have HB1 := Lib.hid hb1; clear hb1)
  go_ret
  exact ⟨rfl, ((Below.refl _ _).alloc (Nat.le_refl _) _).trans (HB1.out.mono (by simp))⟩

theorem NatsOwn.ints {w : World} {base : Nat} {v : Value} {L : List Nat} (h : NatsOwn w base v L) (hl : L.length ≤ 65536) : ∃ a cap, v = .slice a L.length cap ∧ IntsAt w a L.length (listZ L) := by
  by_cases h0 : L.length = 0
  · obtain ⟨a, cap, hv⟩ := own_form h
    exact ⟨a, cap, hv, ⟨by rw [h0]; decide, fun hn => absurd hn (by omega)⟩⟩
  · obtain ⟨g, cap, hv, hg1, hg2⟩ := own_form' h h0
    subst hv
    refine ⟨_, cap, rfl, ⟨by unfold maxLen; omega, fun _ => ⟨g, 0, rfl, hg2, fun i hi => ?_⟩⟩⟩
    rw [Nat.zero_add, World.ownsRow.cellAt h i (by omega), List.getElem?_map, List.getElem?_eq_getElem hi]
    unfold listZ
    rw [List.getD_eq_getElem?_getD, List.getElem?_eq_getElem hi]
    rfl

def cmpZ (x y : Int) : Int := if x < y then -1 else if y < x then 1 else 0
set_option maxRecDepth 20000 in
set_option maxHeartbeats 1000000 in
theorem isNaN_any (x : Int) (w : World) : Calls Try.prog 80 #[.int .i64 x] w fun e w' => e = .returned (.bool false) ∧ w = w' := by
  have hq : (x != x) = false := by simp
  go_enter Try.func80, Try.ntmps80
  go_wp2_with fail
  go_ret
  exact ⟨by first | rfl | simp, rfl⟩
set_option maxRecDepth 20000 in
set_option maxHeartbeats 1000000 in
theorem cmp_any (x y : Int) (w : World) : Calls Try.prog 57 #[.int .i64 x, .int .i64 y] w fun e w' => e = .returned (.int .i64 (cmpZ x y)) ∧ w = w' := by
  by_cases h1 : x < y
  · have HC := Lib.hid (show cmpZ x y = -1 by unfold cmpZ; rw [if_pos h1])
    go_enter Try.func57, Try.ntmps57
    go_wp2_with (go_at_call 80; refine (isNaN_any _ _).mono ?_; rintro e w1 ⟨rfl, rfl⟩)
    go_ret
    exact ⟨by rw [HC.out]; rfl, rfl⟩
  · by_cases h2 : y < x
    · have HC := Lib.hid (show cmpZ x y = 1 by unfold cmpZ; rw [if_neg h1, if_pos h2])
      go_enter Try.func57, Try.ntmps57
      go_wp2_with (go_at_call 80; refine (isNaN_any _ _).mono ?_; rintro e w1 ⟨rfl, rfl⟩)
      go_ret
      exact ⟨by rw [HC.out]; rfl, rfl⟩
    · have HC := Lib.hid (show cmpZ x y = 0 by unfold cmpZ; rw [if_neg h1, if_neg h2])
      have he : x = y := by omega
      subst he
      clear h1 h2
      have h1 : ¬ x < x := by omega
      go_enter Try.func57, Try.ntmps57
      go_wp2_with (go_at_call 80; refine (isNaN_any _ _).mono ?_; rintro e w1 ⟨rfl, rfl⟩)
      go_ret
      exact ⟨by rw [HC.out]; rfl, rfl⟩

set_option maxRecDepth 20000 in
set_option maxHeartbeats 2000000 in
theorem Compare_any {m : Nat} {x y : Nat → Int} {a b : Option Addr} (ca cb : Nat) {w : World} (hA : IntsAt w a m x) (hB : IntsAt w b m y) :
    Calls Try.prog 35 #[.slice a m ca, .slice b m cb] w fun e w' => ∃ c : Int, e = .returned (.int .i64 c) ∧ ((∀ k, k < m → (∀ i, i < k → x i = y i) → x k ≤ y k) → c ≤ 0) ∧ w = w' := by
  have hml := hA.1
  unfold maxLen at hml
  have HA := Lib.hid hA
  have HB := Lib.hid hB
  clear hA hB
  go_enter Try.func35, Try.ntmps35
  go_wp2_with fail
  go_loopw [11] (fun i wr => ∃ k : Nat, k ≤ m ∧ i = .int .i64 k ∧ (∀ i, i < k → x i = y i) ∧ w = wr) (fun i _ => m - (intOf i).toNat)
  case atStart => exact ⟨0, Nat.zero_le _, rfl, by omega, rfl⟩
  case round =>
    obtain ⟨k, hk, rfl, hsame, rfl⟩ := hrel
    have HS := Lib.hid hsame
    clear hsame
    by_cases hlt : k < m
    · obtain ⟨b1, o1, rfl, h1, c1⟩ := HA.out.2 (by omega)
      obtain ⟨b2, o2, rfl, h2, c2⟩ := HB.out.2 (by omega)
      have d1 := c1 k hlt
      have d2 := c2 k hlt
      clear c1 c2
      by_cases heq : x k = y k
      · have HC := Lib.hid (show cmpZ (x k) (y k) = 0 by unfold cmpZ; rw [if_neg (by omega), if_neg (by omega)])
        have HE := Lib.hid heq
        clear heq
        generalize hxk : x k = xk at d1 HC
        generalize hyk : y k = yk at d2 HC
        clear hxk hyk
        go_wp2_with (go_at_call 57; refine (cmp_any _ _ _).mono ?_; rintro e w1 ⟨rfl, rfl⟩; rw [HC.out])
        go_roundw
        case rel => exact ⟨k + 1, by omega, by go_num, fun i hi => by rcases Nat.lt_succ_iff_lt_or_eq.1 hi with h | h; exact HS.out i h; rw [h]; exact HE.out, by trivial⟩
        case measure => simp [intOf]; omega
      · have hc0 : cmpZ (x k) (y k) = -1 ∨ cmpZ (x k) (y k) = 1 ∧ y k < x k := by
          unfold cmpZ
          by_cases h : x k < y k
          · rw [if_pos h]; exact Or.inl rfl
          · rw [if_neg h, if_pos (by omega)]; exact Or.inr ⟨rfl, by omega⟩
        have HX : Hid ((∀ k, k < m → (∀ i, i < k → x i = y i) → x k ≤ y k) → x k ≤ y k) := Lib.hid fun h => h k hlt HS.out
        rcases hc0 with hc0 | ⟨hc0, hlt2⟩
        · have HC := Lib.hid hc0
          clear hc0 heq
          go_wp2_with (go_at_call 57; refine (cmp_any _ _ _).mono ?_; rintro e w1 ⟨rfl, rfl⟩; rw [HC.out])
          go_ret
          exact ⟨-1, rfl, fun _ => by omega, rfl⟩
        · have HC := Lib.hid hc0
          have HLT := Lib.hid hlt2
          clear hc0 heq hlt2
          go_wp2_with (go_at_call 57; refine (cmp_any _ _ _).mono ?_; rintro e w1 ⟨rfl, rfl⟩; rw [HC.out])
          go_ret
          exact ⟨1, rfl, fun h => by have := HX.out h; have := HLT.out; omega, rfl⟩
    · have hke : k = m := by omega
      subst hke
      go_wp2_with fail
      go_ret
      exact ⟨0, rfl, fun _ => by omega, rfl⟩

end Go.Proofs.Ytombmfphodikjaa
