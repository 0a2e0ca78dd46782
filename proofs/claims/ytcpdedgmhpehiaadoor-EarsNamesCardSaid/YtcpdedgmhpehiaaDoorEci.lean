/- The contracts of cmp.Less, slices.IsSorted, slices.Contains over numbers and over pairs (for EarsParts). -/
import Derived.Test.YtcpdedgmhpehiaaDoorEcb
namespace Go.Proofs.YtcpdedgmhpehiaaDoor
set_option linter.unusedSimpArgs false
set_option linter.unusedVariables false
open Go.RowKit Go.Maps


set_option maxRecDepth 20000 in
set_option maxHeartbeats 1000000 in
theorem IndexI_any {m : Nat} {z : Nat → Int} {a : Option Addr} (cap : Nat) {w : World} (hI : IntsAt w a m z) (v : Int) :
    Calls Tryd.prog 86 #[.slice a m cap, .int .i64 v] w fun e w' => ∃ x : Int, e = .returned (.int .i64 x) ∧ ((∃ j : Nat, j < m ∧ x = j ∧ z j = v) ∨ (x = -1 ∧ ∀ j, j < m → z j ≠ v)) ∧ Below w.heap.size w w' := by
  have hml := hI.1
  unfold maxLen at hml
  have HI := Lib.hid hI
  clear hI
  go_enter Tryd.func86, Tryd.ntmps86
  go_wp2_with fail
  go_loopw [8] (fun i wr => ∃ k : Nat, k ≤ m ∧ i = .int .i64 k ∧ (∀ j, j < k → z j ≠ v) ∧ Below w.heap.size w wr) (fun i _ => m - (intOf i).toNat)
  case atStart => exact ⟨0, Nat.zero_le _, rfl, fun j hj => by omega, Below.refl _ _⟩
  case round =>
    obtain ⟨k, hk, rfl, hd, hbel⟩ := hrel
    have HD := Lib.hid hd
    have HB := Lib.hid hbel
    have HIR := Lib.hid (HI.out.below hbel)
    clear hd hbel
    by_cases hlt : k < m
    · obtain ⟨b, off, rfl, hb, hc⟩ := HIR.out.2 (by omega)
      have ck := hc k hlt
      clear hc
      by_cases he : z k = v
      · have hq : (v == z k) = true := by simp [he]
        have HE := Lib.hid he
        clear he
        go_wp2_with fail
        try (go_quiet (fail))
        try (go_wp2_with fail)
        go_ret
        exact ⟨k, rfl, Or.inl ⟨k, hlt, rfl, HE.out⟩, HB.out⟩
      · have hq : (v == z k) = false := by simpa using fun h => he h.symm
        have HE := Lib.hid he
        clear he
        go_wp2_with fail
        try (go_quiet (fail))
        try (go_wp2_with fail)
        go_roundw
        case rel => exact ⟨k + 1, by omega, by go_num, fun i hi => by rcases Nat.lt_succ_iff_lt_or_eq.1 hi with h | h; exact HD.out i h; rw [h]; exact HE.out, HB.out⟩
        case measure => simp [intOf]; omega
    · have hke : k = m := by omega
      subst hke
      go_wp2_with fail
      go_ret
      exact ⟨-1, rfl, Or.inr ⟨rfl, HD.out⟩, HB.out⟩

set_option maxRecDepth 20000 in
set_option maxHeartbeats 1000000 in
theorem ContainsI_any {K : List Int} {a : Option Addr} (cap : Nat) {w : World} (hI : IntsAt w a K.length (zListI K)) (v : Int) :
    Calls Tryd.prog 50 #[.slice a K.length cap, .int .i64 v] w fun e w' => e = .returned (.bool (decide (v ∈ K))) ∧ Below w.heap.size w w' := by
  have HI := Lib.hid hI
  have hat : ∀ j, (hj : j < K.length) → zListI K j = K[j] := fun j hj => by
    unfold zListI; rw [List.getD_eq_getElem?_getD, List.getElem?_eq_getElem hj]; rfl
  have HAT := Lib.hid hat
  clear hI hat
  go_enter Tryd.func50, Tryd.ntmps50
  go_wp2_with fail
  go_at_call 86
  refine (IndexI_any _ HI.out v).mono ?_
  rintro e w1 ⟨x, rfl, hx, hb⟩
  have HB := Lib.hid hb
  clear hb
  rcases hx with ⟨j, hj, rfl, he⟩ | ⟨rfl, hno⟩
  · have HX : Hid (v ∈ K) := Lib.hid (by rw [← he, HAT.out j hj]; exact List.getElem_mem hj)
    clear he
    go_wp2_with fail
    go_ret
    exact ⟨by rw [decide_eq_true HX.out]; simp, HB.out⟩
  · have HX : Hid (¬ v ∈ K) := Lib.hid fun hm => by
      obtain ⟨i, hi, e⟩ := List.mem_iff_getElem.1 hm
      exact hno i hi (by rw [HAT.out i hi]; exact e)
    clear hno
    go_wp2_with fail
    go_ret
    exact ⟨by rw [decide_eq_false HX.out]; rfl, HB.out⟩

set_option maxRecDepth 20000 in
set_option maxHeartbeats 2000000 in
theorem IndexP_any {L : List (Nat × Nat)} {b1 : Nat} {a : Option Addr} {c : Nat} {w : World} (h : PairsOwn w b1 (.slice a L.length c) L) (hL : L.length ≤ 65536) (x y : Nat) :
    Calls Tryd.prog 85 #[.slice a L.length c, .agg #[.int .i64 x, .int .i64 y]] w fun e w' => ∃ i : Int, e = .returned (.int .i64 i) ∧ ((0 ≤ i ∧ (x, y) ∈ L) ∨ (i = -1 ∧ ¬ (x, y) ∈ L)) ∧ Below w.heap.size w w' := by
  have hneq := fun w a b c e => run_eql_pair w a b c e
  have HC := Lib.hid h.cells
  clear h
  obtain ⟨w0, hw0, r3, hb0, hsz⟩ := new1 w 66 [.int .i64 x, .int .i64 y]
  go_enter Tryd.func85, Tryd.ntmps85
  go_wp2_with fail
  rw [← hw0]
  clear hw0
  go_loopw [8] (fun i wr => ∃ k : Nat, k ≤ L.length ∧ i = .int .i64 k ∧ (∀ j, j < k → L[j]? ≠ some (x, y)) ∧ Row wr w.heap.size 66 [.int .i64 x, .int .i64 y] ∧ Below w.heap.size w wr) (fun i _ => L.length - (intOf i).toNat)
  case atStart => exact ⟨0, Nat.zero_le _, rfl, by omega, r3, hb0⟩
  case round =>
    obtain ⟨k, hk, rfl, hd, q3, hbel⟩ := hrel
    have HD := Lib.hid hd
    have HB := Lib.hid hbel
    clear hd hbel r3 hb0
    by_cases hlt : k < L.length
    · obtain ⟨p, hp⟩ : ∃ p, L[k]? = some p := ⟨L[k], by simp [hlt]⟩
      obtain ⟨g1, rfl, x1, x2⟩ := HC.out wr HB.out k p hp
      obtain ⟨pa, pb⟩ := p
      dsimp only at x1 x2
      have HP := Lib.hid hp
      clear hp
      have c0 := q3.cell (i := 0) rfl
      have c1 := q3.cell (i := 1) rfl
      have HQ := Lib.hid q3
      have s1 := cast_beq x pa
      have s2 := cast_beq y pb
      by_cases he : x = pa ∧ y = pb
      · have t1 : (x == pa) = true := by simpa using he.1
        have t2 : (y == pb) = true := by simpa using he.2
        rw [t1] at s1
        rw [t2] at s2
        have HE : Hid ((x, y) ∈ L) := Lib.hid (by rw [he.1, he.2]; exact List.mem_of_getElem? HP.out)
        clear he t1 t2 q3
        go_wp2_with fail
        go_quiet (fail)
        go_wp2_with fail
        go_ret
        exact ⟨_, rfl, Or.inl ⟨by omega, HE.out⟩, below_drewN HB.out _⟩
      · have HE : Hid (L[k]? ≠ some (x, y)) := Lib.hid (fun h => by rw [HP.out] at h; simp at h; exact he ⟨h.1.symm, h.2.symm⟩)
        have t : (((x : Int) == (pa : Int)) && ((y : Int) == (pb : Int))) = false := by
          rw [s1, s2]
          rw [Bool.eq_false_iff]
          intro h
          rw [Bool.and_eq_true, beq_iff_eq, beq_iff_eq] at h
          exact he h
        clear he s1 s2 q3
        go_wp2_with fail
        go_quiet (fail)
        go_wp2_with fail
        go_roundw
        case rel => exact ⟨k + 1, by omega, by go_num, fun i hi => by rcases Nat.lt_succ_iff_lt_or_eq.1 hi with h | h; exact HD.out i h; rw [h]; exact HE.out, HQ.out.drewN _, below_drewN HB.out _⟩
        case measure => simp [intOf]; omega
    · have hke : k = L.length := by omega
      subst hke
      go_wp2_with fail
      go_ret
      refine ⟨-1, rfl, Or.inr ⟨rfl, fun hm => ?_⟩, HB.out⟩
      obtain ⟨i, hi⟩ := List.mem_iff_getElem?.1 hm
      exact HD.out i (List.getElem?_eq_some_iff.1 hi).1 hi

set_option maxRecDepth 20000 in
set_option maxHeartbeats 1000000 in
theorem ContainsP_any {L : List (Nat × Nat)} {b1 : Nat} {a : Option Addr} {c : Nat} {w : World} (h : PairsOwn w b1 (.slice a L.length c) L) (hL : L.length ≤ 65536) (x y : Nat) :
    Calls Tryd.prog 49 #[.slice a L.length c, .agg #[.int .i64 x, .int .i64 y]] w fun e w' => e = .returned (.bool (decide ((x, y) ∈ L))) ∧ Below w.heap.size w w' := by
  obtain ⟨w0, hw0, r3, hb0, hsz⟩ := new1 w 66 [.int .i64 x, .int .i64 y]
  have HIX := Lib.hid (IndexP_any (show PairsOwn w0 b1 (.slice a L.length c) L from ownsRow_below h hb0 (Nat.le_refl _)) hL x y)
  have HB0 := Lib.hid hb0
  clear h hb0
  go_enter Tryd.func49, Tryd.ntmps49
  go_wp2_with fail
  rw [← hw0]
  clear hw0
  go_at_call 85
  refine HIX.out.mono ?_
  rintro e w1 ⟨i, rfl, hx, hb⟩
  have HB := Lib.hid (HB0.out.trans (hb.mono HB0.out.size))
  clear hb
  rcases hx with ⟨h0, hm⟩ | ⟨rfl, hm⟩
  · have HX := Lib.hid hm
    have hd : decide ((0 : Int) ≤ i) = true := decide_eq_true h0
    clear hm
    go_wp2_with fail
    go_ret
    exact ⟨by rw [decide_eq_true HX.out]; first | rfl | simp, HB.out⟩
  · have HX := Lib.hid hm
    clear hm
    go_wp2_with fail
    go_ret
    exact ⟨by rw [decide_eq_false HX.out]; rfl, HB.out⟩

end Go.Proofs.YtcpdedgmhpehiaaDoor
