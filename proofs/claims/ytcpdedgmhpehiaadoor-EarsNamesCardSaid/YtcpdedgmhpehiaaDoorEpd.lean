/- The contract of the order that package ears' pairs sorts by. -/
import Derived.Test.YtcpdedgmhpehiaaDoorEpa
import Derived.Shelf.SlSortCmp.InsertionK
namespace Go.Proofs.YtcpdedgmhpehiaaDoor
set_option linter.unusedSimpArgs false
set_option linter.unusedVariables false
open Go.RowKit Go.Maps Go.Shelf

set_option maxRecDepth 20000 in
set_option maxHeartbeats 2000000 in
theorem pairs1_any (p q : Nat × Nat) (W : World) :
    Calls Tryd.prog 119 #[.agg #[.int .i64 p.1, .int .i64 p.2], .agg #[.int .i64 q.1, .int .i64 q.2]] W fun e w' => e = .returned (.int .i64 (cmpP p q)) ∧ ∃ k os', w' = Go.Sort.grow (W.drewN k) os' := by
  obtain ⟨w2, hw2, r1, r2, hb, hsz⟩ := new2 W 66 66 [.int .i64 p.1, .int .i64 p.2] [.int .i64 q.1, .int .i64 q.2]
  have HCP : Hid (∀ nq, Calls Tryd.prog 120 #[.slice (some ⟨W.heap.size, 0, none⟩) 2 2, .slice (some ⟨W.heap.size + 1, 0, none⟩) 2 2] (w2.drewN nq) fun e w' => e = .returned (.int .i64 (cmpP p q)) ∧ w' = w2.drewN nq) := Lib.hid fun nq => by
    rw [← cmp2_pair]
    refine Compare2_any (fun i hi => ?_) (fun i hi => ?_)
    · have : i = 0 ∨ i = 1 := by omega
      rcases this with rfl | rfl
      · exact r1.cell rfl
      · exact r1.cell rfl
    · have : i = 0 ∨ i = 1 := by omega
      rcases this with rfl | rfl
      · exact r2.cell rfl
      · exact r2.cell rfl
  have HW : Hid (∀ nq, ∃ os', w2.drewN nq = Go.Sort.grow (W.drewN nq) os') := Lib.hid fun nq => ⟨_, by rw [hw2, Go.Sort.alloc_eq_grow, Go.Sort.alloc_eq_grow, Go.Sort.grow_grow]; rfl⟩
  have HW2 := Lib.hid hw2
  clear hw2 r1 r2 hb hsz
  generalize cmpP p q = c at *
  go_enter Tryd.func119, Tryd.ntmps119
  go_wp2_with fail
  rw [← HW2.out]
  go_quiet ((go_at_call 120; exact Calls.quiet_of_same (HCP.out _)))
  go_wp2_with fail
  go_ret
  obtain ⟨os', ho⟩ := HW.out nq
  exact ⟨rfl, _, os', ho⟩

end Go.Proofs.YtcpdedgmhpehiaaDoor
