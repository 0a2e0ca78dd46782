/- The contract of slices.Contains for a pair that is there. -/
import Derived.Test.YtmkcnpphdghbaaaC1r
import Derived.Test.YtmkcnpphdghbaaaEq
namespace Go.Proofs.Ytmkcnpphdghbaaa
set_option linter.unusedSimpArgs false
set_option linter.unusedVariables false
open Go.RowKit Go.Maps

/-- What a slice of pairs holds, in whatever world comes. -/
def PairCells (w : World) (a : Option Addr) (L : List (Nat × Nat)) : Prop :=
  ∀ wx, Below w.heap.size w wx → ∀ i p, L[i]? = some p → ∃ g, a = some ⟨g, 0, none⟩ ∧ wx.cell? ⟨g, i * 2, none⟩ = some (.int .i64 p.1) ∧ wx.cell? ⟨g, i * 2 + 1, none⟩ = some (.int .i64 p.2)
theorem PairCells.below {w w' : World} {a : Option Addr} {L : List (Nat × Nat)} (h : PairCells w a L) (hb : Below w.heap.size w w') : PairCells w' a L :=
  fun wx hx i p hp => h wx (hb.trans (hx.mono hb.size)) i p hp

set_option maxRecDepth 20000 in
set_option maxHeartbeats 2000000 in
theorem IndexPair_any {L : List (Nat × Nat)} {a : Option Addr} {c : Nat} {w : World} (h : PairCells w a L) (hL : L.length ≤ 65536) {x y : Nat} (hm : (x, y) ∈ L) :
    Calls Try.prog 58 #[.slice a L.length c, .agg #[.int .i64 x, .int .i64 y]] w fun e w' => (∃ k : Nat, k < L.length ∧ e = .returned (.int .i64 k)) ∧ Below w.heap.size w w' := by
  have heql := fun w a b c e => run_eql_pair w a b c e
  obtain ⟨w0, hw0, R0, HB0, hsz⟩ := new1 w 32 [.int .i64 x, .int .i64 y]
  have HC := Lib.hid (h.below HB0)
  have HW := Lib.hid hw0
  have HR0 := Lib.hid R0
  have HBB := Lib.hid HB0
  have HMEM := Lib.hid hm
  clear h hw0 R0 HB0 hm
  go_enter Try.func58, Try.ntmps58
  go_wp2_with fail
  rw [← HW.out]
  clear HW
  go_loopw [8] (fun i wr => ∃ k : Nat, k ≤ L.length ∧ i = .int .i64 k ∧ (∀ j, j < k → L[j]? ≠ some (x, y)) ∧ Below w0.heap.size w0 wr) (fun i _ => L.length - (intOf i).toNat)
  case atStart => exact ⟨0, Nat.zero_le _, rfl, fun j hj => by omega, Below.refl _ _⟩
  case round =>
    obtain ⟨k, hk, rfl, hd, hbel⟩ := hrel
    have r0 := HR0.out.below hbel HR0.out.lt
    have q0 := r0.cell (i := 0) rfl
    have q1 := r0.cell (i := 1) rfl
    have HD := Lib.hid hd
    have HB := Lib.hid hbel
    clear hd hbel r0
    by_cases hlt : k < L.length
    · obtain ⟨p, hp⟩ : ∃ p, L[k]? = some p := ⟨L[k], by simp [hlt]⟩
      obtain ⟨g1, rfl, x1, x2⟩ := HC.out wr HB.out k p hp
      obtain ⟨pa, pb⟩ := p
      dsimp only at x1 x2
      have HP := Lib.hid hp
      clear hp
      have s1 := cast_beq x pa
      have s2 := cast_beq y pb
      by_cases e1 : x = pa
      · have t1 : (x == pa) = true := by simpa using e1
        rw [t1] at s1
        by_cases e2 : y = pb
        · have t2 : (y == pb) = true := by simpa using e2
          rw [t2] at s2
          clear e1 e2 t1 t2
          go_wp2_with fail
          go_quiet (fail)
          go_wp2_with fail
          go_ret
          exact ⟨⟨k, hlt, rfl⟩, HBB.out.trans ((below_drewN HB.out _).mono HBB.out.size)⟩
        · have t2 : (y == pb) = false := by simpa using e2
          rw [t2] at s2
          have HE : Hid (L[k]? ≠ some (x, y)) := Lib.hid (by rw [HP.out]; intro h; simp only [Option.some.injEq, Prod.mk.injEq] at h; exact e2 h.2.symm)
          clear e1 e2 t1 t2
          go_wp2_with fail
          go_quiet (fail)
          go_wp2_with fail
          go_roundw
          case rel => exact ⟨k + 1, by omega, by go_num, fun i hi => by rcases Nat.lt_succ_iff_lt_or_eq.1 hi with h | h; exact HD.out i h; rw [h]; exact HE.out, below_drewN HB.out _⟩
          case measure => simp [intOf]; omega
      · have t1 : (x == pa) = false := by simpa using e1
        rw [t1] at s1
        have HE : Hid (L[k]? ≠ some (x, y)) := Lib.hid (by rw [HP.out]; intro h; simp only [Option.some.injEq, Prod.mk.injEq] at h; exact e1 h.1.symm)
        clear e1 t1
        go_wp2_with fail
        go_quiet (fail)
        go_wp2_with fail
        go_roundw
        case rel => exact ⟨k + 1, by omega, by go_num, fun i hi => by rcases Nat.lt_succ_iff_lt_or_eq.1 hi with h | h; exact HD.out i h; rw [h]; exact HE.out, below_drewN HB.out _⟩
        case measure => simp [intOf]; omega
    · exfalso
      obtain ⟨j, hj⟩ := List.mem_iff_getElem?.1 HMEM.out
      have := (List.getElem?_eq_some_iff.1 hj).1
      exact HD.out j (by omega) hj

set_option maxRecDepth 20000 in
set_option maxHeartbeats 2000000 in
theorem ContainsPair_any {L : List (Nat × Nat)} {a : Option Addr} {c : Nat} {w : World} (h : PairCells w a L) (hL : L.length ≤ 65536) {x y : Nat} (hm : (x, y) ∈ L) :
    Calls Try.prog 36 #[.slice a L.length c, .agg #[.int .i64 x, .int .i64 y]] w fun e w' => e = .returned (.bool true) ∧ Below w.heap.size w w' := by
  obtain ⟨w0, hw0, R0, HB0, hsz⟩ := new1 w 32 [.int .i64 x, .int .i64 y]
  have HC := Lib.hid (h.below HB0)
  have HW := Lib.hid hw0
  have q0 := R0.cell (i := 0) rfl
  have q1 := R0.cell (i := 1) rfl
  have HBB := Lib.hid HB0
  have HMEM := Lib.hid hm
  clear h hw0 R0 HB0 hm
  go_enter Try.func36, Try.ntmps36
  go_wp2_with fail
  rw [← HW.out]
  clear HW
  go_wp2_with (go_at_call 58; refine (IndexPair_any HC.out hL HMEM.out).mono ?_; rintro e w1 ⟨⟨k, hk, rfl⟩, hb⟩; have HB1 := Lib.hid hb; clear hb)
  go_ret
  exact ⟨rfl, HBB.out.trans (HB1.out.mono HBB.out.size)⟩

end Go.Proofs.Ytmkcnpphdghbaaa
