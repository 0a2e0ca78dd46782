/- Package minor: the law's steps and own (reductions from one type into the other). Package minor: the walk of MinorReduces (its reductions stand anywhere). Package minor: the walk of MinorReduces (its reductions stand anywhere). -/
import Derived.Test.YtfmppncefbjicaaDoorOn
import Derived.Test.YtfmppncefbjicaaDoorMx
namespace Go.Proofs.YtfmppncefbjicaaDoor
set_option linter.unusedSimpArgs false
set_option linter.unusedVariables false
open Go.RowKit Go.Maps
attribute [local go_sem] i64_bit toNat_eq_one toNat_ne_one toNat_eq_zero toNat_ne_zero i64_and i64_or i64_andNot i64_or_pow i64_andNot_pow

theorem StepsOwn.stands {T : TypeId} {w : World} {base : Nat} {a : Option Addr} {c : Nat} {L : List StZ} (h : StepsOwn T w base (.slice a L.length c) L) : StepsAt w a L := fun hL => by
  obtain ⟨g, rfl, _, h2, h3⟩ := h.cells hL
  exact ⟨g, 0, rfl, h2, fun i x hx j u hu => by rw [Nat.zero_add]; exact h3 i x hx j u hu⟩
theorem StepsAt.below {w w' : World} {a : Option Addr} {L : List StZ} (h : StepsAt w a L) (hb : Below w.heap.size w w') : StepsAt w' a L := fun hL => by
  obtain ⟨g, off, rfl, h2, h3⟩ := h hL
  exact ⟨g, off, rfl, Nat.lt_of_lt_of_le h2 hb.size, fun i x hx j u hu => (hb.cell (p := ⟨g, off + i * 4 + j, none⟩) h2).trans (h3 i x hx j u hu)⟩
theorem take_next {L : List StZ} {k : Nat} {x : StZ} (h : L[k]? = some x) : L.take (k + 1) = L.take k ++ [x] := by
  have hk := (List.getElem?_eq_some_iff.1 h).1
  rw [List.take_add_one, h]; rfl

set_option maxRecDepth 100000 in
set_option maxHeartbeats 4000000 in
theorem own_any {w : World} {a : Option Addr} {c : Nat} {L : List StZ} (hL : StepsAt w a L) (hlen : L.length ≤ 1000) :
    Calls Tryd.prog 37 #[.slice a L.length c] w fun e w' => ∃ v, e = .returned v ∧ StepsOwn 51 w' w.heap.size v L ∧ Below w.heap.size w w' := by
  obtain ⟨i1, hi1, hy1, hy2, hy3⟩ := info_parts info_stepR
  have HL := Lib.hid hL
  clear hL
  go_enter Tryd.func37, Tryd.ntmps37
  go_wp2_with fail
  go_loopw [3, 8] (fun u i wr => ∃ k : Nat, k ≤ L.length ∧ i = .int .i64 k ∧ StepsOwn 51 wr w.heap.size u (L.take k) ∧ Below w.heap.size w wr) (fun _ i _ => L.length - (intOf i).toNat)
  case atStart => exact ⟨0, Nat.zero_le _, rfl, StepsOwn.nil _ _ _, Below.refl _ _⟩
  case round =>
    obtain ⟨k, hk, rfl, hs, hb⟩ := hrel
    have HS := Lib.hid hs
    have HB := Lib.hid hb
    have hsz := hb.size
    clear hs hb
    by_cases hlt : k < L.length
    · obtain ⟨x, hx⟩ : ∃ x, L[k]? = some x := ⟨L[k], by simp [hlt]⟩
      obtain ⟨gl, ol, rfl, hgl, hce⟩ := HL.out (by rintro rfl; simp at hlt)
      have HTK := Lib.hid (take_next hx)
      obtain ⟨x1, x2, x3, x4⟩ := x
      have y0 : wr.cell? ⟨gl, ol + k * 4, none⟩ = some (.int .i64 x1) := (HB.out.cell (p := ⟨gl, ol + k * 4, none⟩) hgl).trans (hce k _ hx 0 _ rfl)
      have y1 : wr.cell? ⟨gl, ol + k * 4 + 1, none⟩ = some (.int .i64 x2) := (HB.out.cell (p := ⟨gl, ol + k * 4 + 1, none⟩) hgl).trans (hce k _ hx 1 _ rfl)
      have y2 : wr.cell? ⟨gl, ol + k * 4 + 2, none⟩ = some (.int .i64 x3) := (HB.out.cell (p := ⟨gl, ol + k * 4 + 2, none⟩) hgl).trans (hce k _ hx 2 _ rfl)
      have y3 : wr.cell? ⟨gl, ol + k * 4 + 3, none⟩ = some (.int .i64 x4) := (HB.out.cell (p := ⟨gl, ol + k * 4 + 3, none⟩) hgl).trans (hce k _ hx 3 _ rfl)
      have hml : (L.take k).length ≤ 1000 := by rw [List.length_take]; omega
      clear hce hx
      obtain ⟨w2, hw2, r2, hb2, hs2⟩ := new1 wr 88 [.int .i64 x1, .int .i64 x2, .int .i64 x3, .int .i64 x4]
      have hW2 := hw2.symm
      have m0 := r2.cell (i := 0) rfl
      have m1 := r2.cell (i := 1) rfl
      have m2 := r2.cell (i := 2) rfl
      have m3 := r2.cell (i := 3) rfl
      have HS2 := Lib.hid (HS.out.below hb2)
      have HB2 := Lib.hid (HB.out.trans (hb2.mono hsz))
      have hsz2 := hb2.size
      clear hw2 r2 hb2
      generalize L.take k = M at *
      go_wp2_with (at_builtin; refine wpList_append_own _ rfl _ _ 41 rfl w.heap.size 51 i1 (.agg #[.int .i64 0, .int .i64 0, .int .i64 0, .int .i64 0]) 4 32 Tryd.underlying41 hi1 hy1 hy2 hy3 rfl (by decide) _ _ _ rfl (World.ownsRow.alloc (show World.ownsRow _ w.heap.size 51 4 _ M.length (stL M) from HS2.out) _) ⟨_, 0, none⟩ 1 1 [.int .i64 x1, .int .i64 x2, .int .i64 x3, .int .i64 x4] rfl rfl ?c1 ?c2 ?c3 ?c4 ?c5 ?_)
      case c1 => exact cells_new _ _ _
      case c2 => intro u hu; simp at hu; rcases hu with rfl | rfl | rfl | rfl <;> rfl
      case c3 => unfold maxLen; omega
      case c4 => omega
      case c5 => simp; omega
      intro v6 w7 hown6 hg6 _
      have HO7 := Lib.hid (StepsOwn.snoc (x := (x1, x2, x3, x4)) hown6)
      have HB7 := Lib.hid ((HB2.out.alloc HB2.out.size _).grown hg6 (by simp; omega) (fun bb hbb => (World.ownsRow.lt (show World.ownsRow _ _ _ _ _ _ _ from HS2.out) bb hbb).1))
      clear hown6 hg6
      go_wp2_with fail
      go_roundw
      case rel => exact ⟨k + 1, by omega, by go_num, by rw [HTK.out]; exact HO7.out, HB7.out⟩
      case measure => simp [intOf]; omega
    · have hke : k = L.length := by omega
      subst hke
      rw [List.take_length] at HS
      go_wp2_with fail
      go_ret
      exact ⟨_, rfl, HS.out, HB.out⟩

set_option maxRecDepth 100000 in
set_option maxHeartbeats 4000000 in
theorem steps_any {w : World} {a : Option Addr} {c : Nat} {L : List StZ} (hL : StepsAt w a L) (hlen : L.length ≤ maxLen) :
    Calls Tryd.prog 34 #[.slice a L.length c] w fun e w' => ∃ v, e = .returned v ∧ StepsOwn 88 w' w.heap.size v (L.take 12) ∧ Below w.heap.size w w' := by
  obtain ⟨i1, hi1, hy1, hy2, hy3⟩ := info_parts info_step
  have HL := Lib.hid hL
  unfold maxLen at hlen
  clear hL
  go_enter Tryd.func34, Tryd.ntmps34
  go_wp2_with fail
  go_loopw [3, 8] (fun u i wr => ∃ k : Nat, k ≤ L.length ∧ i = .int .i64 k ∧ StepsOwn 88 wr w.heap.size u (L.take (min k 12)) ∧ Below w.heap.size w wr) (fun _ i _ => L.length - (intOf i).toNat)
  case atStart => exact ⟨0, Nat.zero_le _, rfl, StepsOwn.nil _ _ _, Below.refl _ _⟩
  case round =>
    obtain ⟨k, hk, rfl, hs, hb⟩ := hrel
    have HS := Lib.hid hs
    have HB := Lib.hid hb
    have hsz := hb.size
    clear hs hb
    by_cases hlt : k < L.length
    · obtain ⟨x, hx⟩ : ∃ x, L[k]? = some x := ⟨L[k], by simp [hlt]⟩
      obtain ⟨gl, ol, rfl, hgl, hce⟩ := HL.out (by rintro rfl; simp at hlt)
      obtain ⟨x1, x2, x3, x4⟩ := x
      have y0 : wr.cell? ⟨gl, ol + k * 4, none⟩ = some (.int .i64 x1) := (HB.out.cell (p := ⟨gl, ol + k * 4, none⟩) hgl).trans (hce k _ hx 0 _ rfl)
      have y1 : wr.cell? ⟨gl, ol + k * 4 + 1, none⟩ = some (.int .i64 x2) := (HB.out.cell (p := ⟨gl, ol + k * 4 + 1, none⟩) hgl).trans (hce k _ hx 1 _ rfl)
      have y2 : wr.cell? ⟨gl, ol + k * 4 + 2, none⟩ = some (.int .i64 x3) := (HB.out.cell (p := ⟨gl, ol + k * 4 + 2, none⟩) hgl).trans (hce k _ hx 2 _ rfl)
      have y3 : wr.cell? ⟨gl, ol + k * 4 + 3, none⟩ = some (.int .i64 x4) := (HB.out.cell (p := ⟨gl, ol + k * 4 + 3, none⟩) hgl).trans (hce k _ hx 3 _ rfl)
      obtain ⟨w2, hw2, r2, hb2, hs2⟩ := new1 wr 51 [.int .i64 x1, .int .i64 x2, .int .i64 x3, .int .i64 x4]
      have hW2 := hw2.symm
      have HW2 := Lib.hid hw2.symm
      have m0 := r2.cell (i := 0) rfl
      have m1 := r2.cell (i := 1) rfl
      have m2 := r2.cell (i := 2) rfl
      have m3 := r2.cell (i := 3) rfl
      have HS2 := Lib.hid (HS.out.below hb2)
      have HB2 := Lib.hid (HB.out.trans (hb2.mono hsz))
      have hsz2 := hb2.size
      clear hw2 r2 hb2
      by_cases h12 : k < 12
      · have HTK : Hid (L.take (min (k + 1) 12) = L.take (min k 12) ++ [(x1, x2, x3, x4)]) := Lib.hid (by rw [Nat.min_eq_left (by omega), Nat.min_eq_left (by omega)]; exact take_next hx)
        have hml : (L.take (min k 12)).length ≤ 1000 := by rw [List.length_take]; omega
        have d1 : decide ((k : Int) < 12) = true := decide_eq_true (by omega)
        have d2 : decide (k < 12) = true := decide_eq_true h12
        clear hce hx
        generalize L.take (min k 12) = M at *
        go_wp2_with (at_builtin; refine wpList_append_own _ rfl _ _ 42 rfl w.heap.size 88 i1 (.agg #[.int .i64 0, .int .i64 0, .int .i64 0, .int .i64 0]) 4 32 Tryd.underlying42 hi1 hy1 hy2 hy3 rfl (by decide) _ _ _ rfl (World.ownsRow.alloc (show World.ownsRow _ w.heap.size 88 4 _ M.length (stL M) from HS2.out) _) ⟨_, 0, none⟩ 1 1 [.int .i64 x1, .int .i64 x2, .int .i64 x3, .int .i64 x4] rfl rfl ?c1 ?c2 ?c3 ?c4 ?c5 ?_)
        case c1 => exact cells_new _ _ _
        case c2 => intro u hu; simp at hu; rcases hu with rfl | rfl | rfl | rfl <;> rfl
        case c3 => unfold maxLen; omega
        case c4 => omega
        case c5 => simp; omega
        intro v6 w7 hown6 hg6 _
        have HO7 := Lib.hid (StepsOwn.snoc (x := (x1, x2, x3, x4)) hown6)
        have HB7 := Lib.hid ((HB2.out.alloc HB2.out.size _).grown hg6 (by simp; omega) (fun bb hbb => (World.ownsRow.lt (show World.ownsRow _ _ _ _ _ _ _ from HS2.out) bb hbb).1))
        clear hown6 hg6
        go_wp2_with fail
        go_roundw
        case rel => exact ⟨k + 1, by omega, by go_num, by rw [HTK.out]; exact HO7.out, HB7.out⟩
        case measure => simp [intOf]; omega
      · have HTK : Hid (L.take (min (k + 1) 12) = L.take (min k 12)) := Lib.hid (by rw [Nat.min_eq_right (by omega), Nat.min_eq_right (by omega)])
        have d1 : decide ((k : Int) < 12) = false := decide_eq_false (by omega)
        have d2 : decide (k < 12) = false := decide_eq_false h12
        clear hce hx
        go_wp2_with fail
        go_roundw
        case rel => exact ⟨k + 1, by omega, by go_num, by rw [HTK.out]; exact HS2.out, HB2.out⟩
        case measure => simp [intOf]; omega
    · have hke : k = L.length := by omega
      subst hke
      rw [show L.take (min L.length 12) = L.take 12 by { by_cases h : L.length ≤ 12; { rw [Nat.min_eq_left h, List.take_length, List.take_of_length_le h] }; { rw [Nat.min_eq_right (by omega)] } }] at HS
      go_wp2_with fail
      go_ret
      exact ⟨_, rfl, HS.out, HB.out⟩

end Go.Proofs.YtfmppncefbjicaaDoor

namespace Go.Proofs.YtfmppncefbjicaaDoor
open Go.RowKit Go.Maps
attribute [local go_sem] i64_bit toNat_eq_one toNat_ne_one toNat_eq_zero toNat_ne_zero i64_and i64_or i64_andNot i64_or_pow i64_andNot_pow

theorem are_len {n : Nat} {r : Nat → Nat} (G : Gq n r) (hn8 : n ≤ 8) : ∀ (L : List StZ) (f : Nat → Nat) (left : Nat), Red n r f left → areT n f left L = true → L.length = szS n left := by
  intro L
  induction L with
  | nil =>
    intro f left _ h
    have h0 : left = 0 := by
      have : (left == 0) = true := h
      simpa using this
    subst h0
    have h9 : szS n 0 = 0 := by unfold szS; rw [List.countP_eq_zero]; simp
    rw [h9]; rfl
  | cons x L ih =>
    intro f left R h
    have h1 : (stpB n f left x.2.1 && (decide (stZ n f x.2.1.toNat = x) && areT n (doF n f x.2.1.toNat) (diff left (2 ^ x.2.1.toNat)) L)) = true := h
    rw [Bool.and_eq_true, Bool.and_eq_true] at h1
    obtain ⟨h2, _, h3⟩ := h1
    have hin : inB x.2.1 n = true := by
      unfold stpB at h2
      rw [Bool.and_eq_true] at h2
      exact h2.1
    obtain ⟨k0, k1⟩ := inB_iff.1 hin
    obtain ⟨v, hv⟩ : ∃ v : Nat, x.2.1 = v := ⟨x.2.1.toNat, by omega⟩
    rw [hv, Int.toNat_natCast] at h3
    rw [hv] at h2
    obtain ⟨hx, hl, hk⟩ := stp_yes h2
    have h4 := ih _ _ (red_step G hn8 R hx hl hk) h3
    have h5 := szS_add1 (S := diff left (2 ^ v)) hx diff_not
    rw [diff_or hl] at h5
    rw [List.length_cons, h4]; omega
/-- What CheckReduce accepts of the first twelve is what the reference accepts of all. -/
theorem are_twelve {n : Nat} {r : Nat → Nat} (G : Gq n r) (hn8 : n ≤ 8) (L : List StZ) : areT n r (2 ^ n - 1) (L.take 12) = refA n r (2 ^ n - 1) L := by
  rw [← are_ref G hn8 L r r _ (red_start G) (rel_start G) G.bd]
  by_cases h : L.length ≤ 12
  · rw [List.take_of_length_le h]
  · have h1 : ∀ M : List StZ, 12 ≤ M.length → areT n r (2 ^ n - 1) M = false := fun M hM => by
      cases hb : areT n r (2 ^ n - 1) M
      · rfl
      · have := are_len G hn8 M r _ (red_start G) hb
        have := szS_le n (2 ^ n - 1)
        omega
    rw [h1 L (by omega), h1 (L.take 12) (by rw [List.length_take]; omega)]

set_option maxRecDepth 20000 in
set_option maxHeartbeats 2000000 in
theorem EqualSteps_true {L : List StZ} {b1 b2 : Nat} {v1 v2 : Value} {w : World} (h1 : StepsOwn 51 w b1 v1 L) (h2 : StepsOwn 51 w b2 v2 L) (hL : L.length ≤ 1000) :
    Calls Tryd.prog 36 #[v1, v2] w fun e w' => e = .returned (.bool true) ∧ Below w.heap.size w w' := by
  obtain ⟨a1, c1, rfl⟩ := own_form h1
  obtain ⟨a2, c2, rfl⟩ := own_form h2
  have hl1 : ((L.length : Int) != (L.length : Int)) = false := by simp
  have HC1 := Lib.hid h1.stands
  have HC2 := Lib.hid h2.stands
  clear h1 h2
  go_enter Tryd.func36, Tryd.ntmps36
  go_wp2_with fail
  go_loopw [13] (fun i wr => ∃ k : Nat, k ≤ L.length ∧ i = .int .i64 k ∧ Below w.heap.size w wr) (fun i _ => L.length - (intOf i).toNat)
  case atStart => exact ⟨0, Nat.zero_le _, rfl, Below.refl _ _⟩
  case round =>
    obtain ⟨k, hk, rfl, hbel⟩ := hrel
    have HB := Lib.hid hbel
    clear hbel
    by_cases hlt : k < L.length
    · obtain ⟨x, hx⟩ : ∃ x, L[k]? = some x := ⟨L[k], by simp [hlt]⟩
      obtain ⟨g1, o1, rfl, hg1, hc1⟩ := HC1.out (by rintro rfl; simp at hlt)
      obtain ⟨g2, o2, rfl, hg2, hc2⟩ := HC2.out (by rintro rfl; simp at hlt)
      obtain ⟨x1, x2, x3, x4⟩ := x
      have y0 : wr.cell? ⟨g1, o1 + k * 4, none⟩ = some (.int .i64 x1) := (HB.out.cell (p := ⟨g1, o1 + k * 4, none⟩) hg1).trans (hc1 k _ hx 0 _ rfl)
      have y1 : wr.cell? ⟨g1, o1 + k * 4 + 1, none⟩ = some (.int .i64 x2) := (HB.out.cell (p := ⟨g1, o1 + k * 4 + 1, none⟩) hg1).trans (hc1 k _ hx 1 _ rfl)
      have y2 : wr.cell? ⟨g1, o1 + k * 4 + 2, none⟩ = some (.int .i64 x3) := (HB.out.cell (p := ⟨g1, o1 + k * 4 + 2, none⟩) hg1).trans (hc1 k _ hx 2 _ rfl)
      have y3 : wr.cell? ⟨g1, o1 + k * 4 + 3, none⟩ = some (.int .i64 x4) := (HB.out.cell (p := ⟨g1, o1 + k * 4 + 3, none⟩) hg1).trans (hc1 k _ hx 3 _ rfl)
      have z0 : wr.cell? ⟨g2, o2 + k * 4, none⟩ = some (.int .i64 x1) := (HB.out.cell (p := ⟨g2, o2 + k * 4, none⟩) hg2).trans (hc2 k _ hx 0 _ rfl)
      have z1 : wr.cell? ⟨g2, o2 + k * 4 + 1, none⟩ = some (.int .i64 x2) := (HB.out.cell (p := ⟨g2, o2 + k * 4 + 1, none⟩) hg2).trans (hc2 k _ hx 1 _ rfl)
      have z2 : wr.cell? ⟨g2, o2 + k * 4 + 2, none⟩ = some (.int .i64 x3) := (HB.out.cell (p := ⟨g2, o2 + k * 4 + 2, none⟩) hg2).trans (hc2 k _ hx 2 _ rfl)
      have z3 : wr.cell? ⟨g2, o2 + k * 4 + 3, none⟩ = some (.int .i64 x4) := (HB.out.cell (p := ⟨g2, o2 + k * 4 + 3, none⟩) hg2).trans (hc2 k _ hx 3 _ rfl)
      have hneq : ∀ W : World, (binOp .neq 51 (.agg #[.int .i64 x1, .int .i64 x2, .int .i64 x3, .int .i64 x4]) (.agg #[.int .i64 x1, .int .i64 x2, .int .i64 x3, .int .i64 x4])).run Tryd.prog W = .ok (.bool false) W := fun W => by
        have h := run_neq_stepR W (x1, x2, x3, x4) (x1, x2, x3, x4)
        rw [decide_eq_true rfl] at h
        exact h
      clear hx hc1 hc2
      go_wp2_with fail
      go_quiet (fail)
      go_wp2_with fail
      go_roundw
      case rel => exact ⟨k + 1, by omega, by go_num, below_drewN HB.out _⟩
      case measure => simp [intOf]; omega
    · have hke : k = L.length := by omega
      subst hke
      go_wp2_with fail
      go_ret
      exact ⟨rfl, HB.out⟩

end Go.Proofs.YtfmppncefbjicaaDoor

namespace Go.Proofs.YtfmppncefbjicaaDoor
open Go.RowKit Go.Maps
attribute [local go_sem] i64_bit toNat_eq_one toNat_ne_one toNat_eq_zero toNat_ne_zero i64_and i64_or i64_andNot i64_or_pow i64_andNot_pow

set_option maxRecDepth 200000 in
set_option maxHeartbeats 4000000 in
theorem MinorReduces_walk (n : Nat) (z : Nat → Int) (v : Value) (al : Option Addr) (cl : Nat) (L : List StZ) (w : World) (hA : SliceArg w v n z) (hz : InI64 z) (hL : StepsAt w al L) (hlen : L.length ≤ maxLen) (hTab : HasTab w) :
    Calls Tryd.prog 5 #[v, .slice al L.length cl] w (LawTrue w) := by
  obtain ⟨a, cap, rfl, hI⟩ := hA.ints
  have HA := Lib.hid hA
  have HI0 := Lib.hid hI
  have HZ := Lib.hid hz
  have HL := Lib.hid hL
  have HLN := Lib.hid hlen
  have HT := Lib.hid (Tab.of hTab)
  have HTK : Hid ((L.take 12).length ≤ 1000) := Lib.hid (by rw [List.length_take]; omega)
  clear hA hI hz hL hlen hTab
  cases hg : graphB n 8 z
  · have HGM : Hid (graphB (min n 12) 8 z = false) := Lib.hid (by rw [graphB_few]; exact hg)
    have HG := Lib.hid hg
    clear hg
    go_enter Tryd.func5, Tryd.ntmps5
    go_wp2_with fail
    go_at_call 16
    refine (Few_any n z _ _ HA.out).mono ?_
    rintro e w1 ⟨a1, c1, rfl, hi1, hb1⟩
    have HI1 := Lib.hid hi1
    have HB1 := Lib.hid hb1
    clear hi1 hb1
    go_wp2_with fail
    go_at_call 32
    refine (Reduce_no _ HI1.out HZ.out (HT.out.below HB1.out) HGM.out).mono ?_
    rintro e w2 ⟨rfl, hb2⟩
    have HB2 := Lib.hid (HB1.out.trans (hb2.mono HB1.out.size))
    clear hb2
    go_wp2_with fail
    go_at_call 16
    refine (Few_any n z _ _ (HA.out.below HB2.out)).mono ?_
    rintro e w3 ⟨a3, c3, rfl, hi3, hb3⟩
    have HI3 := Lib.hid hi3
    clear hi3
    have HB3 := Lib.hid (HB2.out.trans (hb3.mono HB2.out.size))
    clear hb3
    go_wp2_with fail
    go_at_call 34
    refine (steps_any (c := cl) (HL.out.below HB3.out) HLN.out).mono ?_
    rintro e w4 ⟨vs, rfl, hs4, hb4⟩
    have HS4 := Lib.hid hs4
    have HC4 := Lib.hid (HI3.out.below hb4)
    clear hs4
    have HB4 := Lib.hid (HB3.out.trans (hb4.mono HB3.out.size))
    clear hb4
    go_wp2_with fail
    go_at_call 33
    refine (CheckReduce_no _ HC4.out HZ.out (HT.out.below HB4.out) HGM.out).mono ?_
    rintro e w5 ⟨rfl, hb5⟩
    have HB5 := Lib.hid (HB4.out.trans (hb5.mono HB4.out.size))
    clear hb5
    go_wp2_with fail
    go_at_call 19
    refine (ValidR_any n z _ _ _ (HI0.out.below HB5.out) HZ.out).mono ?_
    rintro e w6 ⟨rfl, hb6⟩
    rw [HG.out]
    have HB6 := Lib.hid (HB5.out.trans (hb6.mono HB5.out.size))
    clear hb6
    go_wp2_with fail
    go_at_call 21
    refine (awake_any _ (HT.out.below HB6.out)).mono ?_
    rintro e w7 ⟨rfl, hb7⟩
    have HB7 := Lib.hid (HB6.out.trans (hb7.mono HB6.out.size))
    clear hb7
    go_wp2_with fail
    go_ret
    exact ⟨rfl, HB7.out⟩
  · have hn8 := graphB_le hg
    have HMN : Hid (min n 12 = n) := Lib.hid (by omega)
    have HG := Lib.hid hg
    have G := gq_of hg
    have HTN := Lib.hid (Tn.of_graph HI0.out hg)
    obtain ⟨M, hM⟩ : ∃ M, M = (redG n (natG z)).getD [] := ⟨_, rfl⟩
    obtain ⟨cd, hcd⟩ : ∃ cd, cd = codS (redG n (natG z)) := ⟨_, rfl⟩
    have HML : Hid (M.length ≤ 1000) := Lib.hid (by
      rw [hM]
      cases hr : redG n (natG z) with
      | none => simp
      | some L' =>
        have := (red_yes G hn8.2.1 hr).2.1
        show L'.length ≤ 1000
        omega)
    have HRD : Hid (∀ a1 c1 w', IntsAt w' a1 n z → Tab w' → Calls Tryd.prog 32 #[.slice a1 n c1] w' fun e w2 => ∃ av cv, e = .returned (.tuple #[.slice av M.length cv, .int .i64 cd]) ∧ StepsOwn 88 w2 w'.heap.size (.slice av M.length cv) M ∧ Below w'.heap.size w' w2) := Lib.hid fun a1 c1 w' h1 h2 => by
      refine (Reduce_yes c1 h1 HZ.out h2 hg).mono fun e w2 ⟨v, k1, k2, k3⟩ => ?_
      rw [← hM] at k2
      rw [← hcd] at k1
      obtain ⟨av, cv, e⟩ := own_form k2
      subst e
      exact ⟨av, cv, k1, k2, k3⟩
    have HRR : Hid (∀ w', Below w.heap.size w w' → Calls Tryd.prog 35 #[.slice a n cap] w' fun e w2 => ∃ v2, e = .returned (.tuple #[v2, .int .i64 cd]) ∧ StepsOwn 51 w2 w'.heap.size v2 M ∧ Below w'.heap.size w' w2) := Lib.hid fun w' hw => by
      refine (ReduceR_any (HTN.out.below hw) cap).mono fun e w2 ⟨h, hb⟩ => ?_
      rcases h with ⟨k, q, L', v2, h1, h2, h3⟩ | ⟨k, q, left, L', h1, h2, h3, h4⟩
      · have hr := ref_yes G hn8.2.1 h1
        rw [hr] at hM hcd
        subst hM hcd
        exact ⟨v2, h2, h3, hb⟩
      · have hr := ref_no G hn8.2.1 h1 h2 h3
        rw [hr] at hM hcd
        subst hM hcd
        exact ⟨_, h4, StepsOwn.nil _ _ _, hb⟩
    obtain ⟨ok, hok⟩ : ∃ ok, ok = refA n (natG z) (2 ^ n - 1) L := ⟨_, rfl⟩
    have HOK := Lib.hid hok
    have HAR : Hid (areT n (natG z) (2 ^ n - 1) (L.take 12) = ok) := Lib.hid (by rw [hok]; exact are_twelve G hn8.2.1 L)
    have hee : (cd == cd) = true := by simp
    have hbb : (ok == ok) = true := by simp
    clear hg hM hcd hok G
    go_enter Tryd.func5, Tryd.ntmps5
    go_wp2_with fail
    go_at_call 16
    refine (Few_any n z _ _ HA.out).mono ?_
    rintro e w1 ⟨a1, c1, rfl, hi1, hb1⟩
    rw [HMN.out] at hi1
    rw [HMN.out]
    have HI1 := Lib.hid hi1
    have HB1 := Lib.hid hb1
    clear hi1 hb1
    go_wp2_with fail
    go_at_call 32
    refine (HRD.out _ _ _ HI1.out (HT.out.below HB1.out)).mono ?_
    rintro e w2 ⟨av, cv, rfl, hst, hb2⟩
    have HST := Lib.hid hst
    clear hst
    have HB2 := Lib.hid (HB1.out.trans (hb2.mono HB1.out.size))
    clear hb2
    go_wp2_with fail
    go_at_call 16
    refine (Few_any n z _ _ (HA.out.below HB2.out)).mono ?_
    rintro e w3 ⟨a3, c3, rfl, hi3, hb3⟩
    rw [HMN.out] at hi3
    rw [HMN.out]
    have HI3 := Lib.hid hi3
    have HC3 := Lib.hid hb3
    clear hi3
    have HB3 := Lib.hid (HB2.out.trans (hb3.mono HB2.out.size))
    clear hb3
    go_wp2_with fail
    go_at_call 34
    refine (steps_any (c := cl) (HL.out.below HB3.out) HLN.out).mono ?_
    rintro e w4 ⟨vs, rfl, hs4, hb4⟩
    have HS4 := Lib.hid hs4
    have HI4 := Lib.hid (HI3.out.below hb4)
    have HC4 := Lib.hid (HC3.out.trans (hb4.mono HC3.out.size))
    clear hs4
    have HB4 := Lib.hid (HB3.out.trans (hb4.mono HB3.out.size))
    clear hb4
    go_wp2_with fail
    go_at_call 33
    refine (CheckReduce_yes _ HI4.out HZ.out (HT.out.below HB4.out) HG.out HS4.out HTK.out).mono ?_
    rintro e w5 ⟨rfl, hb5⟩
    rw [HAR.out]
    have HC5 := Lib.hid (HC4.out.trans (hb5.mono HC4.out.size))
    have HB5 := Lib.hid (HB4.out.trans (hb5.mono HB4.out.size))
    clear hb5
    go_wp2_with fail
    go_at_call 19
    refine (ValidR_any n z _ _ _ (HI0.out.below HB5.out) HZ.out).mono ?_
    rintro e w6 ⟨rfl, hb6⟩
    rw [HG.out]
    have HC6 := Lib.hid (HC5.out.trans (hb6.mono HC5.out.size))
    have HB6 := Lib.hid (HB5.out.trans (hb6.mono HB5.out.size))
    clear hb6
    go_wp2_with fail
    go_at_call 35
    refine (HRR.out _ HB6.out).mono ?_
    rintro e w7 ⟨v2, rfl, hs7, hb7⟩
    have HS7 := Lib.hid hs7
    have HC7 := Lib.hid (HC6.out.trans (hb7.mono HC6.out.size))
    clear hs7
    have HB7 := Lib.hid (HB6.out.trans (hb7.mono HB6.out.size))
    clear hb7
    go_wp2_with fail
    go_at_call 37
    refine (own_any (c := cv) ((HST.out.below HC7.out).stands) HML.out).mono ?_
    rintro e w8 ⟨v8, rfl, hs8, hb8⟩
    have HS8 := Lib.hid hs8
    have HS78 := Lib.hid (HS7.out.below hb8)
    clear hs8
    have HB8 := Lib.hid (HB7.out.trans (hb8.mono HB7.out.size))
    clear hb8
    go_wp2_with fail
    go_at_call 36
    refine (EqualSteps_true HS8.out HS78.out HML.out).mono ?_
    rintro e w9 ⟨rfl, hb9⟩
    have HB9 := Lib.hid (HB8.out.trans (hb9.mono HB8.out.size))
    clear hb9
    go_wp2_with fail
    go_at_call 38
    refine (ReducesR_any (cl := cl) (HTN.out.below HB9.out) cap (HL.out.below HB9.out) HLN.out).mono ?_
    rintro e w10 ⟨rfl, hb10⟩
    rw [← HOK.out]
    have HB10 := Lib.hid (HB9.out.trans (hb10.mono HB9.out.size))
    clear hb10
    go_wp2_with fail
    go_at_call 21
    refine (awake_any _ (HT.out.below HB10.out)).mono ?_
    rintro e w11 ⟨rfl, hb11⟩
    have HB11 := Lib.hid (HB10.out.trans (hb11.mono HB10.out.size))
    clear hb11
    go_wp2_with fail
    go_ret
    exact ⟨rfl, HB11.out⟩

end Go.Proofs.YtfmppncefbjicaaDoor
