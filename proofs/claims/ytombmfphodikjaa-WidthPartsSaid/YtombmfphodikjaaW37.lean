/- The contracts of the law's own and none. -/
import Derived.Test.YtombmfphodikjaaW34
namespace Go.Proofs.Ytombmfphodikjaa
set_option linter.unusedSimpArgs false
set_option linter.unusedVariables false
open Go.RowKit Go.Maps

set_option maxRecDepth 20000 in
set_option maxHeartbeats 1000000 in
theorem ownT_any {m q ca cb : Nat} {ba pa : Option Addr} (w : World) :
    Calls Try.prog 29 #[treeV ba m ca pa q cb] w fun e w' => e = .returned (treeV ba m ca pa q cb) ∧ Below w.heap.size w w' := by
  obtain ⟨w0, hw0, R0, HB0, hs0⟩ := new1 w 42 [.slice ba m ca, .slice pa q cb]
  have HW0 := Lib.hid hw0
  have HB := Lib.hid HB0
  have HR := Lib.hid R0
  have c0 := R0.cell (i := 0) rfl
  have c1 := R0.cell (i := 1) rfl
  have hl := R0.lt
  have hws : w0.heap.size = w.heap.size + 1 := by rw [hw0]; simp
  clear hw0 R0 HB0
  go_enter Try.func29, Try.ntmps29
  go_wp2_with fail
  rw [← HW0.out]
  go_wp2_with fail
  have R1 := Row.new w0 41 [.slice ba m ca, .slice pa q cb]
  have g0 := R1.cell (i := 0) rfl
  have g1 := R1.cell (i := 1) rfl
  rw [hws] at g0 g1
  exact bodyPost_ret (v := treeV ba m ca pa q cb) (by simp [results, Try.results29, go_sem, g0, g1]) rfl ⟨rfl, HB.out.alloc HB.out.size _⟩
set_option maxRecDepth 20000 in
set_option maxHeartbeats 1000000 in
theorem none_any {m q ca cb : Nat} {ba pa : Option Addr} (hm : m ≤ 65536) (hq : q ≤ 65536) (w : World) :
    Calls Try.prog 27 #[treeV ba m ca pa q cb] w fun e w' => e = .returned (.bool (m + q == 0)) ∧ Below w.heap.size w w' := by
  obtain ⟨w0, hw0, R0, HB0, hs0⟩ := new1 w 42 [.slice ba m ca, .slice pa q cb]
  have hcb : (((m : Int) + q) == 0) = (m + q == 0) := by
    rw [Bool.eq_iff_iff]; simp only [beq_iff_eq]; omega
  have HCB := Lib.hid hcb
  have HW0 := Lib.hid hw0
  have HB := Lib.hid HB0
  have HR := Lib.hid R0
  have c0 := R0.cell (i := 0) rfl
  have c1 := R0.cell (i := 1) rfl
  have hl := R0.lt
  clear hw0 R0 HB0 hcb
  go_enter Try.func27, Try.ntmps27
  go_wp2_with fail
  rw [← HW0.out]
  go_wp2_with fail
  go_ret
  exact ⟨by rw [← HCB.out]; first | rfl | (congr 2; simp), HB.out⟩

end Go.Proofs.Ytombmfphodikjaa
