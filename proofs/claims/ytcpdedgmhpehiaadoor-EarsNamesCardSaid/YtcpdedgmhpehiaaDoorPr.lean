/- Slices of pairs of one's own; slices.Equal over them. -/
import Derived.Test.YtcpdedgmhpehiaaDoorRows
import Derived.Test.YtcpdedgmhpehiaaDoorE3
import Derived.ChangeKeysEq
namespace Go.Proofs.YtcpdedgmhpehiaaDoor
set_option linter.unusedSimpArgs false
set_option linter.unusedVariables false
open Go.RowKit Go.Maps

theorem info_pair : (Tryd.prog.info? 66).map (fun i => (i.zero, i.size, i.bytes)) = some (some (.agg #[.int .i64 0, .int .i64 0]), 2, 16) := by kernel_rfl

/-- The cells of a slice of pairs. -/
def pairCells (L : List (Nat × Nat)) : List Value := L.flatMap fun ab => [.int .i64 ab.1, .int .i64 ab.2]
theorem pairCells_snoc (L : List (Nat × Nat)) (a b : Nat) : pairCells (L ++ [(a, b)]) = pairCells L ++ [.int .i64 a, .int .i64 b] := by
  simp [pairCells]
theorem pairCells_length (L : List (Nat × Nat)) : (pairCells L).length = L.length * 2 := by
  induction L with
  | nil => rfl
  | cons x L ih => simp [pairCells] at *; omega
theorem pairCells_get (L : List (Nat × Nat)) (i : Nat) (ab : Nat × Nat) (h : L[i]? = some ab) : (pairCells L)[i * 2]? = some (.int .i64 ab.1) ∧ (pairCells L)[i * 2 + 1]? = some (.int .i64 ab.2) := by
  induction L generalizing i with
  | nil => simp at h
  | cons x L ih =>
    cases i with
    | zero => simp at h; subst h; exact ⟨rfl, rfl⟩
    | succ i =>
      simp at h
      have := ih i h
      have e : (i + 1) * 2 = i * 2 + 1 + 1 := by omega
      rw [e]
      exact this

/-- A slice of pairs of one's own, in a block from a number on. -/
def PairsOwn (w : World) (base : Nat) (v : Value) (L : List (Nat × Nat)) : Prop := w.ownsRow base 66 2 v L.length (pairCells L)

theorem PairsOwn.form {w : World} {base : Nat} {v : Value} {L : List (Nat × Nat)} (h : PairsOwn w base v L) (hL : L ≠ []) : ∃ g cap, base ≤ g ∧ v = .slice (some ⟨g, 0, none⟩) L.length cap := by
  obtain ⟨_, h1 | ⟨g, cap, cur, hv, hg, _⟩⟩ := h
  · exact absurd (List.eq_nil_of_length_eq_zero h1.2) hL
  · exact ⟨g, cap, hg, hv⟩
theorem cells_int : Tryd.prog.cellsOf 3 = 1 := by kernel_rfl
theorem plain_int : Tryd.prog.plainKey 3 = true := by kernel_rfl
theorem run_eq_pair (w : World) (d : Nat) (a b c e : Int) : (Op.equalIn (d + 2) 66 (.agg #[.int .i64 a, .int .i64 b]) (.agg #[.int .i64 c, .int .i64 e])).run Tryd.prog w = .ok (a == c && b == e) w := by
  obtain ⟨i0, hi0, _⟩ := info_parts info_int
  rw [run_equalIn_array w (d + 1) _ _ Tryd.underlying66 hi0, cells_int]
  have p : ∀ (xs : Array Value) (o : Nat) (v : Value), xs[o]? = some v → (part 3 xs o).run Tryd.prog w = .ok v w := fun xs o v h => run_part_plain w plain_int h
  have q : ∀ x y : Int, (Op.equalIn (d + 1) 3 (.int .i64 x) (.int .i64 y)).run Tryd.prog w = .ok (x == y) w := fun x y => run_equalIn_int w d _ _ _ x y Tryd.underlying3
  show (Op.eqItems (d + 1) 3 1 #[.int .i64 a, .int .i64 b] #[.int .i64 c, .int .i64 e] [0, 1]).run Tryd.prog w = _
  simp only [Op.eqItems, Sem.run_bind, p #[.int .i64 a, .int .i64 b] (0 * 1) (.int .i64 a) rfl, p #[.int .i64 c, .int .i64 e] (0 * 1) (.int .i64 c) rfl, p #[.int .i64 a, .int .i64 b] (1 * 1) (.int .i64 b) rfl, p #[.int .i64 c, .int .i64 e] (1 * 1) (.int .i64 e) rfl, q, Result.andThen_ok]
  have e1 := p #[.int .i64 a, .int .i64 b] 1 (.int .i64 b) rfl
  have e2 := p #[.int .i64 c, .int .i64 e] 1 (.int .i64 e) rfl
  cases h1 : (a == c) <;> cases h2 : (b == e) <;> simp [e1, e2, q, h2, Result.andThen]
theorem run_neq_pair (w : World) (a b c e : Int) : (binOp .neq 66 (.agg #[.int .i64 a, .int .i64 b]) (.agg #[.int .i64 c, .int .i64 e])).run Tryd.prog w = .ok (.bool (!(a == c && b == e))) w := by
  rw [run_neq_struct, run_eq_pair w 9998]
  rfl
theorem run_eql_pair (w : World) (a b c e : Int) : (binOp .eql 66 (.agg #[.int .i64 a, .int .i64 b]) (.agg #[.int .i64 c, .int .i64 e])).run Tryd.prog w = .ok (.bool (a == c && b == e)) w := by
  rw [run_eql_struct, run_eq_pair w 9998]
  rfl

theorem PairsOwn.cells {w : World} {base : Nat} {a : Option Addr} {c : Nat} {L : List (Nat × Nat)} (h : PairsOwn w base (.slice a L.length c) L) :
    ∀ wx, Below w.heap.size w wx → ∀ i p, L[i]? = some p → ∃ g, a = some ⟨g, 0, none⟩ ∧ wx.cell? ⟨g, i * 2, none⟩ = some (.int .i64 p.1) ∧ wx.cell? ⟨g, i * 2 + 1, none⟩ = some (.int .i64 p.2) := by
  intro wx hb i p hp
  have hlt := (List.getElem?_eq_some_iff.1 hp).1
  obtain ⟨g, cap, hv, hg1, hg2⟩ := own_form' h (by omega)
  simp only [Value.slice.injEq] at hv
  obtain ⟨rfl, _, rfl⟩ := hv
  obtain ⟨p1, p2⟩ := pairCells_get L i p hp
  refine ⟨g, rfl, ?_, ?_⟩
  · rw [hb.cell (p := ⟨g, i * 2, none⟩) hg2, World.ownsRow.cellAt h (i * 2) (by omega)]; exact p1
  · rw [hb.cell (p := ⟨g, i * 2 + 1, none⟩) hg2, World.ownsRow.cellAt h (i * 2 + 1) (by omega)]; exact p2

set_option maxRecDepth 20000 in
set_option maxHeartbeats 2000000 in
theorem EqualPairs_any {L M : List (Nat × Nat)} {b1 b2 : Nat} {v1 v2 : Value} {w : World} (h1 : PairsOwn w b1 v1 L) (h2 : PairsOwn w b2 v2 M) (hL : L.length ≤ 65536) :
    Calls Tryd.prog 59 #[v1, v2] w fun e w' => e = .returned (.bool (decide (L = M))) ∧ Below w.heap.size w w' := by
  obtain ⟨a1, c1, rfl⟩ := own_form h1
  obtain ⟨a2, c2, rfl⟩ := own_form h2
  by_cases hlen : L.length = M.length
  · have hneq := fun w a b c e => run_neq_pair w a b c e
    have hl1 : ((L.length : Int) != (M.length : Int)) = false := by rw [hlen]; simp
    have HC1 := Lib.hid h1.cells
    have HC2 := Lib.hid h2.cells
    have HLEN := Lib.hid hlen
    clear h1 h2 hlen
    go_enter Tryd.func59, Tryd.ntmps59
    go_wp2_with fail
    go_loopw [13] (fun i wr => ∃ k : Nat, k ≤ L.length ∧ i = .int .i64 k ∧ (∀ i, i < k → L[i]? = M[i]?) ∧ Below w.heap.size w wr) (fun i _ => L.length - (intOf i).toNat)
    case atStart => exact ⟨0, Nat.zero_le _, rfl, by omega, Below.refl _ _⟩
    case round =>
      obtain ⟨k, hk, rfl, hd, hbel⟩ := hrel
      have HD := Lib.hid hd
      have HB := Lib.hid hbel
      clear hd hbel
      by_cases hlt : k < L.length
      · obtain ⟨p, hp⟩ : ∃ p, L[k]? = some p := ⟨L[k], by simp [hlt]⟩
        obtain ⟨q, hq⟩ : ∃ q, M[k]? = some q := ⟨M[k]'(by have := HLEN.out; omega), by simp⟩
        obtain ⟨g1, rfl, x1, x2⟩ := HC1.out wr HB.out k p hp
        obtain ⟨g2, rfl, y1, y2⟩ := HC2.out wr HB.out k q hq
        have hlt2 : k < M.length := by have := HLEN.out; omega
        obtain ⟨pa, pb⟩ := p
        obtain ⟨qa, qb⟩ := q
        dsimp only at x1 x2 y1 y2
        have HP := Lib.hid hp
        have HQ := Lib.hid hq
        clear hp hq
        have s1 := cast_beq pa qa
        have s2 := cast_beq pb qb
        by_cases e1 : pa = qa
        · have t1 : (pa == qa) = true := by simpa using e1
          rw [t1] at s1
          by_cases e2 : pb = qb
          · have t2 : (pb == qb) = true := by simpa using e2
            rw [t2] at s2
            have HE : Hid (L[k]? = M[k]?) := Lib.hid (by rw [HP.out, HQ.out, e1, e2])
            clear e1 e2 t1 t2
            go_wp2_with fail
            go_quiet (fail)
            go_wp2_with fail
            go_roundw
            case rel => exact ⟨k + 1, by omega, by go_num, fun i hi => by rcases Nat.lt_succ_iff_lt_or_eq.1 hi with h | h; exact HD.out i h; rw [h]; exact HE.out, below_drewN HB.out _⟩
            case measure => simp [intOf]; omega
          · have t2 : (pb == qb) = false := by simpa using e2
            rw [t2] at s2
            have HE : Hid (¬ L = M) := Lib.hid (fun h => by have h3 := HP.out; rw [h, HQ.out] at h3; simp at h3; exact e2 h3.2.symm)
            clear e1 e2 t1 t2
            go_wp2_with fail
            go_quiet (fail)
            go_wp2_with fail
            go_ret
            exact ⟨by rw [decide_eq_false HE.out]; rfl, below_drewN HB.out _⟩
        · have t1 : (pa == qa) = false := by simpa using e1
          rw [t1] at s1
          have HE : Hid (¬ L = M) := Lib.hid (fun h => by have h3 := HP.out; rw [h, HQ.out] at h3; simp at h3; exact e1 h3.1.symm)
          clear e1 t1 s2
          go_wp2_with fail
          go_quiet (fail)
          go_wp2_with fail
          go_ret
          exact ⟨by rw [decide_eq_false HE.out]; rfl, below_drewN HB.out _⟩
      · have hke : k = L.length := by omega
        have HE : Hid (L = M) := Lib.hid (by
          apply List.ext_getElem?
          intro i
          by_cases hi : i < k
          · exact HD.out i hi
          · have := HLEN.out
            rw [List.getElem?_eq_none (by omega), List.getElem?_eq_none (by omega)])
        clear hke
        go_wp2_with fail
        go_ret
        exact ⟨by rw [decide_eq_true HE.out]; rfl, HB.out⟩
  · have hl1 : ((L.length : Int) != (M.length : Int)) = true := by simp; omega
    have HF := Lib.hid (show ¬ L = M from fun h => hlen (by rw [h]))
    clear h1 h2 hlen
    go_enter Tryd.func59, Tryd.ntmps59
    go_wp2_with fail
    go_ret
    exact ⟨by rw [decide_eq_false HF.out]; rfl, Below.refl _ _⟩

end Go.Proofs.YtcpdedgmhpehiaaDoor
