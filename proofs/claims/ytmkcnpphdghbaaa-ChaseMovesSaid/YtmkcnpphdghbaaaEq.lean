/- Two pairs of whole numbers, compared. -/
import Derived.Test.YtmkcnpphdghbaaaC1c
import Derived.ChangeKeysEq
namespace Go.Proofs.Ytmkcnpphdghbaaa
set_option linter.unusedSimpArgs false
set_option linter.unusedVariables false
open Go.RowKit Go.Maps

theorem cells_int : Try.prog.cellsOf 3 = 1 := by kernel_rfl
theorem plain_int : Try.prog.plainKey 3 = true := by kernel_rfl
theorem run_eq_pair (w : World) (d : Nat) (a b c e : Int) : (Op.equalIn (d + 2) 32 (.agg #[.int .i64 a, .int .i64 b]) (.agg #[.int .i64 c, .int .i64 e])).run Try.prog w = .ok (a == c && b == e) w := by
  obtain ⟨i0, hi0, _⟩ := info_parts info_int
  rw [run_equalIn_array w (d + 1) _ _ Try.underlying32 hi0, cells_int]
  have p : ∀ (xs : Array Value) (o : Nat) (v : Value), xs[o]? = some v → (part 3 xs o).run Try.prog w = .ok v w := fun xs o v h => run_part_plain w plain_int h
  have q : ∀ x y : Int, (Op.equalIn (d + 1) 3 (.int .i64 x) (.int .i64 y)).run Try.prog w = .ok (x == y) w := fun x y => run_equalIn_int w d _ _ _ x y Try.underlying3
  show (Op.eqItems (d + 1) 3 1 #[.int .i64 a, .int .i64 b] #[.int .i64 c, .int .i64 e] [0, 1]).run Try.prog w = _
  simp only [Op.eqItems, Sem.run_bind, p #[.int .i64 a, .int .i64 b] (0 * 1) (.int .i64 a) rfl, p #[.int .i64 c, .int .i64 e] (0 * 1) (.int .i64 c) rfl, p #[.int .i64 a, .int .i64 b] (1 * 1) (.int .i64 b) rfl, p #[.int .i64 c, .int .i64 e] (1 * 1) (.int .i64 e) rfl, q, Result.andThen_ok]
  have e1 := p #[.int .i64 a, .int .i64 b] 1 (.int .i64 b) rfl
  have e2 := p #[.int .i64 c, .int .i64 e] 1 (.int .i64 e) rfl
  cases h1 : (a == c) <;> cases h2 : (b == e) <;> simp [e1, e2, q, h2, Result.andThen]
theorem run_neq_pair (w : World) (a b c e : Int) : (binOp .neq 32 (.agg #[.int .i64 a, .int .i64 b]) (.agg #[.int .i64 c, .int .i64 e])).run Try.prog w = .ok (.bool (!(a == c && b == e))) w := by
  rw [run_neq_struct, run_eq_pair w 9998]
  rfl
theorem run_eql_pair (w : World) (a b c e : Int) : (binOp .eql 32 (.agg #[.int .i64 a, .int .i64 b]) (.agg #[.int .i64 c, .int .i64 e])).run Try.prog w = .ok (.bool (a == c && b == e)) w := by
  rw [run_eql_struct, run_eq_pair w 9998]
  rfl

end Go.Proofs.Ytmkcnpphdghbaaa
