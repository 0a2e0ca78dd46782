/- Acts compared; the contracts of the law's own and of slices.Equal over acts. -/
import Derived.Test.YthbhhfeiianmcaaDoorQv
import Derived.Test.YthbhhfeiianmcaaDoorRows
import Derived.ChangeKeysEq
namespace Go.Proofs.YthbhhfeiianmcaaDoor
set_option linter.unusedSimpArgs false
set_option linter.unusedVariables false
open Go.RowKit Go.Maps

theorem plain_int : Tryd.prog.plainKey 3 = true := by kernel_rfl
theorem plain_bool : Tryd.prog.plainKey 4 = true := by kernel_rfl
theorem run_eq_act (w : World) (d : Nat) (p : Bool) (a : Int) : (Op.equalIn (d + 2) 52 (.agg #[.bool p, .int .i64 a]) (.agg #[.bool p, .int .i64 a])).run Tryd.prog w = .ok true w := by
  rw [run_equalIn_struct w (d + 1) 52 _ _ (by kernel_rfl) (by kernel_rfl)]
  have hp : ∀ (xs : Array Value) (o : Nat) (v : Value), xs[o]? = some v → (part 3 xs o).run Tryd.prog w = .ok v w := fun xs o v h => run_part_plain w plain_int h
  have hb : ∀ (xs : Array Value) (o : Nat) (v : Value), xs[o]? = some v → (part 4 xs o).run Tryd.prog w = .ok v w := fun xs o v h => run_part_plain w plain_bool h
  have q1 : ∀ x y : Int, (Op.equalIn (d + 1) 3 (.int .i64 x) (.int .i64 y)).run Tryd.prog w = .ok (x == y) w := fun x y => run_equalIn_int w d _ _ _ x y Tryd.underlying3
  have q2 : ∀ x y : Bool, (Op.equalIn (d + 1) 4 (.bool x) (.bool y)).run Tryd.prog w = .ok (x == y) w := fun x y => run_equalIn_bool w d _ x y Tryd.underlying4
  have hf : (Tryd.prog.fieldsOf 52).toList.map (fun f => (f.name, f.type, f.offset)) = [("Place", 4, 0), ("Node", 3, 1)] := by kernel_rfl
  generalize (Tryd.prog.fieldsOf 52).toList = fs at *
  have hlen : fs.length = 2 := by simpa using congrArg List.length hf
  obtain ⟨f, g, rfl⟩ : ∃ f g, fs = [f, g] := by
    cases fs with
    | nil => simp at hlen
    | cons f fs =>
      cases fs with
      | nil => simp at hlen
      | cons g fs =>
        cases fs with
        | nil => exact ⟨f, g, rfl⟩
        | cons h fs => simp at hlen
  simp only [List.map_cons, List.map_nil, List.cons.injEq, Prod.mk.injEq, and_true] at hf
  obtain ⟨⟨f1, f2, f3⟩, g1, g2, g3⟩ := hf
  have n1 : f.name ≠ "_" := by rw [f1]; decide
  have n2 : g.name ≠ "_" := by rw [g1]; decide
  simp only [Op.eqFields, n1, n2, ne_eq, not_false_eq_true, if_true, f2, f3, g2, g3, Sem.run_bind, hb #[.bool p, .int .i64 a] 0 (.bool p) rfl, q2, Result.andThen_ok]
  simp [hp #[.bool p, .int .i64 a] 1 (.int .i64 a) rfl, q1, Result.andThen]
theorem run_neq_act (w : World) (p : Bool) (a : Int) : (binOp .neq 52 (.agg #[.bool p, .int .i64 a]) (.agg #[.bool p, .int .i64 a])).run Tryd.prog w = .ok (.bool false) w := by
  rw [run_neq_struct, run_eq_act w 9998]
  rfl

theorem ActsOwn.cells {T : TypeId} {w : World} {base : Nat} {a : Option Addr} {c : Nat} {L : Acts} (h : ActsOwn T w base (.slice a L.length c) L) :
    ∀ wx, Below w.heap.size w wx → ∀ i p, L[i]? = some p → ∃ g, a = some ⟨g, 0, none⟩ ∧ wx.cell? ⟨g, i * 2, none⟩ = some (.bool p.1) ∧ wx.cell? ⟨g, i * 2 + 1, none⟩ = some (.int .i64 (p.2 : Nat)) := by
  intro wx hb i p hp
  have hlt := (List.getElem?_eq_some_iff.1 hp).1
  obtain ⟨g, cap, hv, hg1, hg2⟩ := own_form' h (by omega)
  simp only [Value.slice.injEq] at hv
  obtain ⟨rfl, _, rfl⟩ := hv
  obtain ⟨p1, p2⟩ := actCells_get L i p hp
  have hl := actCells_length L
  refine ⟨g, rfl, ?_, ?_⟩
  · rw [hb.cell (p := ⟨g, i * 2, none⟩) hg2, World.ownsRow.cellAt h (i * 2) (by omega)]; exact p1
  · rw [hb.cell (p := ⟨g, i * 2 + 1, none⟩) hg2, World.ownsRow.cellAt h (i * 2 + 1) (by omega)]; exact p2

set_option maxRecDepth 20000 in
set_option maxHeartbeats 2000000 in
theorem EqualActs_true {L : Acts} {b1 b2 : Nat} {v1 v2 : Value} {w : World} (h1 : ActsOwn 52 w b1 v1 L) (h2 : ActsOwn 52 w b2 v2 L) (hL : L.length ≤ 65536) :
    Calls Tryd.prog 32 #[v1, v2] w fun e w' => e = .returned (.bool true) ∧ Below w.heap.size w w' := by
  obtain ⟨a1, c1, rfl⟩ := own_form h1
  obtain ⟨a2, c2, rfl⟩ := own_form h2
  have hneq := fun w p a => run_neq_act w p a
  have hl1 : ((L.length : Int) != (L.length : Int)) = false := by simp
  have HC1 := Lib.hid h1.cells
  have HC2 := Lib.hid h2.cells
  clear h1 h2
  go_enter Tryd.func32, Tryd.ntmps32
  go_wp2_with fail
  go_loopw [13] (fun i wr => ∃ k : Nat, k ≤ L.length ∧ i = .int .i64 k ∧ Below w.heap.size w wr) (fun i _ => L.length - (intOf i).toNat)
  case atStart => exact ⟨0, Nat.zero_le _, rfl, Below.refl _ _⟩
  case round =>
    obtain ⟨k, hk, rfl, hbel⟩ := hrel
    have HB := Lib.hid hbel
    clear hbel
    by_cases hlt : k < L.length
    · obtain ⟨p, hp⟩ : ∃ p, L[k]? = some p := ⟨L[k], by simp [hlt]⟩
      obtain ⟨g1, rfl, x1, x2⟩ := HC1.out wr HB.out k p hp
      obtain ⟨g2, rfl, y1, y2⟩ := HC2.out wr HB.out k p hp
      obtain ⟨pa, pb⟩ := p
      dsimp only at x1 x2 y1 y2
      clear hp
      go_wp2_with fail
      go_quiet (fail)
      go_wp2_with fail
      go_roundw
      case rel => exact ⟨k + 1, by omega, by go_num, below_drewN HB.out _⟩
      case measure => simp [intOf]; omega
    · have hke : k = L.length := by omega
      subst hke
      go_wp2_with fail
      go_ret
      exact ⟨rfl, HB.out⟩

set_option maxRecDepth 20000 in
set_option maxHeartbeats 2000000 in
theorem own_any {L : Acts} {b1 : Nat} {v1 : Value} {w : World} (h1 : ActsOwn 88 w b1 v1 L) (hL : L.length ≤ 65536) :
    Calls Tryd.prog 33 #[v1] w fun e w' => ∃ v, e = .returned v ∧ ActsOwn 52 w' w.heap.size v L ∧ Below w.heap.size w w' := by
  obtain ⟨a1, c1, rfl⟩ := own_form h1
  obtain ⟨i1, hi1, hy1, hy2, hy3⟩ := info_parts info_actR
  have HC1 := Lib.hid h1.cells
  clear h1
  go_enter Tryd.func33, Tryd.ntmps33
  go_wp2_with fail
  go_loopw [3, 8] (fun ou i wr => ∃ k : Nat, k ≤ L.length ∧ i = .int .i64 k ∧ ActsOwn 52 wr w.heap.size ou (L.take k) ∧ Below w.heap.size w wr) (fun _ i _ => L.length - (intOf i).toNat)
  case atStart => exact ⟨0, Nat.zero_le _, rfl, ActsOwn.nil _ _ _, Below.refl _ _⟩
  case round =>
    obtain ⟨k, hk, rfl, hown, hbel⟩ := hrel
    have HB := Lib.hid hbel
    have HOW := Lib.hid hown
    clear hbel hown
    by_cases hlt : k < L.length
    · obtain ⟨p, hp⟩ : ∃ p, L[k]? = some p := ⟨L[k], by simp [hlt]⟩
      obtain ⟨g1, rfl, x1, x2⟩ := HC1.out wr HB.out k p hp
      obtain ⟨pa, pb⟩ := p
      dsimp only at x1 x2
      have HTK : Hid (L.take (k + 1) = L.take k ++ [(pa, pb)]) := Lib.hid (by rw [List.take_add_one, hp]; rfl)
      have hml : (L.take k).length ≤ 65536 := by rw [List.length_take]; omega
      have hszr := HB.out.size
      clear hp
      generalize L.take k = M at *
      go_wp2_with (at_builtin; refine wpList_append_own _ rfl _ _ 50 rfl w.heap.size 52 i1 (.agg #[.bool false, .int .i64 0]) 2 16 Tryd.underlying50 hi1 hy1 hy2 hy3 rfl (by decide) _ _ _ rfl (World.ownsRow.alloc (World.ownsRow.alloc (show World.ownsRow wr w.heap.size 52 2 _ M.length (actCells M) from HOW.out) _) _) ⟨_, 0, none⟩ 1 1 [.bool pa, .int .i64 pb] rfl rfl ?c1 ?c2 ?c3 ?c4 ?c5 ?_)
      case c1 =>
        have h := cells_new (wr.alloc (.cells #[.bool pa, .int .i64 pb] 88)) 52 [.bool pa, .int .i64 (pb : Nat)]
        rw [World.size_alloc] at h
        exact h
      case c2 => intro u hu; simp at hu; rcases hu with rfl | rfl <;> rfl
      case c3 => unfold maxLen; omega
      case c4 => omega
      case c5 => simp; omega
      intro v3 w3 hown3 hg3 _
      have HO3 := Lib.hid (ActsOwn.snoc hown3)
      have HB3 := Lib.hid (((HB.out.alloc hszr _).alloc (by simp; omega) _).grown hg3 (by simp; omega) (fun k hk => (World.ownsRow.lt (show World.ownsRow _ _ _ _ _ _ _ from HOW.out) k hk).1))
      clear hown3 hg3
      go_wp2_with fail
      go_roundw
      case rel => exact ⟨k + 1, by omega, by go_num, by rw [HTK.out]; exact HO3.out, HB3.out⟩
      case measure => simp [intOf]; omega
    · have hke : k = L.length := by omega
      subst hke
      go_wp2_with fail
      go_ret
      exact ⟨_, rfl, by rw [← List.take_length (l := L)]; exact HOW.out, HB.out⟩
end Go.Proofs.YthbhhfeiianmcaaDoor
