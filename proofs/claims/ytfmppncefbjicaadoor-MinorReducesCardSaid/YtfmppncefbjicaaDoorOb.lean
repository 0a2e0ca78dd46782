/- Package minor: reductions: firstStep. -/
import Derived.Test.YtfmppncefbjicaaDoorOa
namespace Go.Proofs.YtfmppncefbjicaaDoor
set_option linter.unusedSimpArgs false
set_option linter.unusedVariables false
open Go.RowKit Go.Maps
attribute [local go_sem] i64_bit toNat_eq_one toNat_ne_one toNat_eq_zero toNat_ne_zero i64_and i64_or i64_andNot i64_or_pow i64_andNot_pow

/-- Four values written into a block. -/
theorem put4 {w : World} {b : Nat} {T : TypeId} {v0 v1 v2 v3 : Value} (h : Row w b T [v0, v1, v2, v3]) (q0 q1 q2 q3 : Value) : ∃ x0 x1 x2 x3 : World,
    (w.setCell ⟨b, 0, none⟩ q0 = x0 ∧ x0.setCell ⟨b, 1, none⟩ q1 = x1 ∧ x1.setCell ⟨b, 2, none⟩ q2 = x2 ∧ x2.setCell ⟨b, 3, none⟩ q3 = x3)
    ∧ (w.cell? ⟨b, 0, none⟩ = some v0 ∧ x0.cell? ⟨b, 1, none⟩ = some v1 ∧ x1.cell? ⟨b, 2, none⟩ = some v2 ∧ x2.cell? ⟨b, 3, none⟩ = some v3)
    ∧ (w.frozen? ⟨b, 0, none⟩ = false ∧ x0.frozen? ⟨b, 1, none⟩ = false ∧ x1.frozen? ⟨b, 2, none⟩ = false ∧ x2.frozen? ⟨b, 3, none⟩ = false)
    ∧ (b < w.heap.size ∧ b < x0.heap.size ∧ b < x1.heap.size ∧ b < x2.heap.size)
    ∧ Row x3 b T [q0, q1, q2, q3] ∧ (∀ B w0, B ≤ b → Below B w0 w → Below B w0 x3) ∧ (∀ b' T' L, b' ≠ b → Row w b' T' L → Row x3 b' T' L) ∧ ∀ B, KeepsFrom B w x3 := by
  refine ⟨_, _, _, _, ⟨rfl, rfl, rfl, rfl⟩, ⟨h.cell (i := 0) rfl, (h.set 0 q0).cell (i := 1) rfl, ((h.set 0 q0).set 1 q1).cell (i := 2) rfl, (((h.set 0 q0).set 1 q1).set 2 q2).cell (i := 3) rfl⟩,
    ⟨h.free 0, (h.set 0 q0).free 1, ((h.set 0 q0).set 1 q1).free 2, (((h.set 0 q0).set 1 q1).set 2 q2).free 3⟩,
    ⟨h.lt, (h.set 0 q0).lt, ((h.set 0 q0).set 1 q1).lt, (((h.set 0 q0).set 1 q1).set 2 q2).lt⟩,
    (((h.set 0 q0).set 1 q1).set 2 q2).set 3 q3, ?_, ?_, ?_⟩
  · intro B w0 hb hw
    exact (((hw.setCell (p := ⟨b, 0, none⟩) hb q0).setCell (p := ⟨b, 1, none⟩) hb q1).setCell (p := ⟨b, 2, none⟩) hb q2).setCell (p := ⟨b, 3, none⟩) hb q3
  · intro b' T' L hne hr
    exact (((hr.other hne q0).other hne q1).other hne q2).other hne q3
  · intro B
    exact (((keeps_set B w b 0 q0).trans (keeps_set B _ b 1 q1)).trans (keeps_set B _ b 2 q2)).trans (keeps_set B _ b 3 q3)

theorem stpO_form (n : Nat) (f : Nat → Nat) (left : Nat) (v : Int) : ∃ k u a b : Int, stpO' n f left v = .agg #[.int .i64 k, .int .i64 u, .int .i64 a, .int .i64 b] := by
  unfold stpO'
  split
  · exact ⟨_, _, _, _, rfl⟩
  · exact ⟨0, 0, 0, 0, rfl⟩

theorem bitsOf_before {s x u : Nat} {pre0 : List Nat} (h : pre0 ++ [x] <+: bitsOf s) (hu : u < x) (hs : s.testBit u = true) (h10 : u < 10) : u ∈ pre0 := by
  obtain ⟨t, ht⟩ := h
  have hm : u ∈ bitsOf s := mem_bitsOf.2 ⟨h10, hs⟩
  have hsort : (bitsOf s).Pairwise (· < ·) := List.Pairwise.filter _ List.pairwise_lt_range
  rw [← ht] at hm hsort
  rcases List.mem_append.1 hm with h1 | h1
  · rcases List.mem_append.1 h1 with h2 | h2
    · exact h2
    · rw [List.mem_singleton.1 h2] at hu; omega
  · have := (List.pairwise_append.1 hsort).2.2 x (by simp) u h1
    omega

/-- What firstStep answers. -/
def FirstPost (n : Nat) (f : Nat → Nat) (left : Nat) (e : Ending) : Prop :=
  (∃ x : Nat, x < n ∧ stpB n f left x = true ∧ (∀ u : Nat, u < x → stpB n f left u = false) ∧ e = .returned (.tuple #[stpO' n f left x, .bool true])) ∨
  ((∀ u : Nat, stpB n f left u = false) ∧ e = .returned (.tuple #[.agg zeroV.toArray, .bool false]))

theorem results_cell_cell {fn : Func} {p u : Tmp} {ty ty2 : TypeId} (h : fn.results = #[.cell p ty, .cell u ty2]) (tmps : Array Value) (P : Program) (w : World) :
    (results fn tmps).run P w =
      ((asAddr (tmps.getD p undef)).run P w).andThen fun a w1 => ((loadVar ty a).run P w1).andThen fun v w2 => ((asAddr (tmps.getD u undef)).run P w2).andThen fun a2 w3 => ((loadVar ty2 a2).run P w3).andThen fun v2 w4 => .ok (.tuple #[v, v2]) w4 := by
  simp only [results, h]
  simp [Sem.run_bind, Result.andThen]
theorem results_first {tmps : Array Value} {W : World} {g1 g2 : Nat} {q : List Value} {ok : Bool} (hp : tmps.getD 2 undef = ptrV g1) (h3 : tmps.getD 3 undef = ptrV g2) (hg : Row W g1 88 q) (hq : q.length = 4) (hk : Row W g2 4 [.bool ok]) :
    (results Tryd.f95 tmps).run Tryd.prog W = .ok (.tuple #[.agg q.toArray, .bool ok]) W := by
  have h := run_loadVar_row (P := Tryd.prog) W g1 88 88 q.toArray (0, 0) _ hg Tryd.underlying88 rfl (by rw [show q.toArray.size = 4 by simp [hq]]; kernel_rfl)
  have c2 := hk.cell (i := 0) rfl
  rw [results_cell_cell (p := 2) (u := 3) (ty := 88) (ty2 := 4) rfl, hp, h3]
  generalize loadVar 88 = L at h
  simp [asAddr, Result.andThen, h, go_sem, c2]

section
attribute [local go_sem] Oper.semAt_some wide_fn wide_fn_in
set_option maxRecDepth 100000 in
set_option maxHeartbeats 4000000 in
theorem firstStep_any {n pb g c base left : Nat} {f : Nat → Nat} {w : World} (R : RestAt w pb g c base n f left) (hn8 : n ≤ 8) (hl : left < 2 ^ n) (hf : ∀ i, i < n → f i < 2 ^ n) (hT : Tab w) :
    Calls Tryd.prog 95 #[ptrV pb] w fun e w' => FirstPost n f left e ∧ Below w.heap.size w w' := by
  have h8 := pow_le8 hn8
  have HR := Lib.hid R
  have HT := Lib.hid hT
  have HF := Lib.hid hf
  refine (callsIn_wide (n := 9)).1 ?_
  refine callsIn_of_wp_marks Tryd.func95 rfl trivial ?_ rfl
  simp only [Tryd.ntmps95, List.size_toArray, List.length_cons, List.length_nil, Nat.reduceAdd, Nat.reduceSub, Array.replicate_succ, Array.replicate_zero, List.push_toArray, List.append_toArray, List.nil_append, List.cons_append]
  obtain ⟨w0, hw0, r1, r2, r3, hb0, hsz⟩ := new3 w 111 88 4 [ptrV pb] zeroV [.bool false]
  have hw0' := hw0
  unfold zeroV at hw0'
  have cl := (R.below hb0).row.cell (i := 1) rfl
  rw [hw0'] at cl
  clear R hT
  gi_wp2_with (gi_at_call 93; refine (callsIn_wide.2 (nodes_any _ _)).mono ?_; rintro e w1 ⟨rfl, rfl⟩)
  rw [← hw0']
  clear cl hw0'
  obtain ⟨w1, hw1, rs, hb1, hsz1⟩ := new1 w0 3 [.int .i64 left]
  have e0 : w0.heap.size = w.heap.size + 1 + 1 + 1 := by rw [hw0]; simp
  rw [← hw1]
  rw [e0] at rs hsz1
  clear hw1
  have d1 := r1.below hb1 r1.lt
  have d2 := r2.below hb1 r2.lt
  have d3 := r3.below hb1 r3.lt
  have hbw := hb0.trans (hb1.mono hb0.size)
  clear r1 r2 r3 hw0
  refine range_nodes (nodes_seq left (by omega) _ w1 hsz1 (rs.cell (i := 0) rfl) (HT.out.below hbw)) Tab.put (Below.refl _ _) rfl (enters_of Tryd.func109 (by kernel_rfl) rfl) rfl
    (fun pre W => (∀ u ∈ pre, stpB n f left (u : Nat) = false) ∧ Row W w.heap.size 111 [ptrV pb] ∧ Row W (w.heap.size + 1) 88 zeroV ∧ Row W (w.heap.size + 1 + 1) 4 [.bool false] ∧ Below w.heap.size w W)
    (fun c pre W => ∃ (pre0 : List Nat) (x : Nat) (q : List Value), c = .ret ∧ pre = pre0 ++ [x] ∧ (∀ u ∈ pre0, stpB n f left (u : Nat) = false) ∧ stpB n f left (x : Nat) = true ∧ q.length = 4 ∧ stpO' n f left (x : Nat) = .agg q.toArray ∧ Row W (w.heap.size + 1) 88 q ∧ Row W (w.heap.size + 1 + 1) 4 [.bool true] ∧ Below w.heap.size w W)
    ((ownFrom_pure _ _).and (((own_row _ _ _).from _).and (((own_row _ _ _).from _).and (((own_row _ _ _).from _).and (ownFrom_below (Nat.le_refl _) hbw.size)))))
    (fun c => ownFrom_ex fun pre0 => ownFrom_ex fun x => ownFrom_ex fun q => (ownFrom_pure _ _).and ((ownFrom_pure _ _).and ((ownFrom_pure _ _).and ((ownFrom_pure _ _).and ((ownFrom_pure _ _).and ((ownFrom_pure _ _).and (((own_row _ _ _).from _).and (((own_row _ _ _).from _).and (ownFrom_below (Nat.le_refl _) hbw.size)))))))))
    ⟨by simp, d1, d2, d3, hbw⟩ (fun _ W h => HT.out.below h.2.2.2.2) ?a1 ?assign ?body ?done ?stop
  case assign =>
    intro l x W K hx hK
    gi_wp2
    exact hK
  case body =>
    rintro l pre x W hx _ ⟨hp, o1, o2, o3, hB⟩
    have hxn := bitsOf_lt hl hx
    have HP := Lib.hid hp
    have HB := Lib.hid hB
    have HSP := Lib.hid (step_any (HR.out.below hB) hn8 hl HF.out (HT.out.below hB) x)
    obtain ⟨k, u, a, b, hov⟩ := stpO_form n f left x
    rw [hov] at HSP
    have HOV := Lib.hid hov
    have c1 := o1.cell (i := 0) rfl
    clear hp hB hov
    cases hk : stpB n f left x
    · rw [hk] at HSP
      have HK := Lib.hid hk
      have H1 := Lib.hid o1
      have H2 := Lib.hid o2
      have H3 := Lib.hid o3
      clear hk o1 o2 o3
      gi_wp2_with (gi_at_call 97; refine (CallsIn.inRound l (callsIn_wide.2 HSP.out)).mono ?_; rintro e W5 ⟨rfl, hb5⟩; obtain ⟨W6, hW6, r6, hb6, hs6⟩ := new1 W5 88 [.int .i64 k, .int .i64 u, .int .i64 a, .int .i64 b]; have HB6 := Lib.hid (hb5.trans (hb6.mono hb5.size)); have HW6 := Lib.hid hW6; have R6 := Lib.hid r6; clear hb5 hb6 hW6 r6)
      rw [← HW6.out]
      refine ⟨keeps_below HB6.out, fun y hy => ?_, H1.out.below HB6.out H1.out.lt, H2.out.below HB6.out H2.out.lt, H3.out.below HB6.out H3.out.lt, HB.out.trans (HB6.out.mono HB.out.size)⟩
      rcases List.mem_append.1 hy with h | h
      · exact HP.out y h
      · rw [List.mem_singleton.1 h]; exact HK.out
    · rw [hk] at HSP
      have HK := Lib.hid hk
      have H2 := Lib.hid o2
      have H3 := Lib.hid o3
      clear hk o1 o2 o3
      gi_wp2_with (gi_at_call 97; refine (CallsIn.inRound l (callsIn_wide.2 HSP.out)).mono ?_; rintro e W5 ⟨rfl, hb5⟩; obtain ⟨W6, hW6, r6, hb6, hs6⟩ := new1 W5 88 [.int .i64 k, .int .i64 u, .int .i64 a, .int .i64 b]; have hb56 := hb5.trans (hb6.mono hb5.size); have k0 := r6.cell (i := 0) rfl; have k1 := r6.cell (i := 1) rfl; have k2 := r6.cell (i := 2) rfl; have k3 := r6.cell (i := 3) rfl; have hW6' := hW6.symm; obtain ⟨x0, x1, x2, x3, ⟨g0, g1, g2, g3⟩, ⟨j0, j1, j2, j3⟩, ⟨u0, u1, u2, u3⟩, ⟨l0, l1, l2, l3⟩, hq, hbq, hoq, hkq⟩ := put4 (H2.out.below hb56 H2.out.lt) (.int .i64 k) (.int .i64 u) (.int .i64 a) (.int .i64 b); have p3 := hoq _ _ _ (by omega) (H3.out.below hb56 H3.out.lt); have m3 := p3.cell (i := 0) rfl; have n3 := p3.free 0; have l4 := p3.lt; have HB6 := Lib.hid hb56; have HQ := Lib.hid hq; have HBQ := Lib.hid hbq; have HKQ := Lib.hid hkq; have HP3 := Lib.hid p3; have HOQ := Lib.hid hoq; clear hb5 hb6 hW6 r6 hb56 hq hbq hoq hkq p3 hs6)
      exact ⟨((keeps_below HB6.out).trans (HKQ.out _)).trans (keeps_set _ _ _ _ _), pre, x, _, rfl, rfl, HP.out, HK.out, rfl, HOV.out, HQ.out.other (by simp) _, HP3.out.set 0 _, (HBQ.out _ _ (by omega) (HB.out.trans (HB6.out.mono HB.out.size))).setCell (p := ⟨w.heap.size + 1 + 1, 0, none⟩) (by simp; omega) _⟩
  case done =>
    rintro D W hD ⟨hp, o1, o2, o3, hB⟩ hK
    have HNO : Hid (∀ u : Nat, stpB n f left (u : Nat) = false) := Lib.hid fun u => by
      cases hb : stpB n f left (u : Nat)
      · rfl
      · have h1 := hb
        unfold stpB at h1
        simp only [Bool.and_eq_true] at h1
        have h2 := inB_iff.1 h1.1
        rw [hp u (mem_bitsOf.2 ⟨by omega, by simpa using h1.2.1⟩)] at hb
        cases hb
    have HKK := Lib.hid hK
    obtain ⟨x0, x1, x2, x3, ⟨g0, g1, g2, g3⟩, ⟨j0, j1, j2, j3⟩, ⟨u0, u1, u2, u3⟩, ⟨l0, l1, l2, l3⟩, hq, hbq, hoq, hkq⟩ := put4 o2 (.int .i64 0) (.int .i64 0) (.int .i64 0) (.int .i64 0)
    have p3 := hoq _ _ _ (by omega) o3
    have m3 := p3.cell (i := 0) rfl
    have n3 := p3.free 0
    have l4 := p3.lt
    have HB := Lib.hid hB
    have HQ := Lib.hid hq
    have HBQ := Lib.hid hbq
    have HKQ := Lib.hid hkq
    have HP3 := Lib.hid p3
    clear hp o1 o2 o3 hB hK hq hbq hoq hkq p3
    gi_wp2
    exact leaves_marks (B := w.heap.size) (ds := [markAt D]) ((Marks.one (Nat.le_trans hbw.size hD) HKK.out).keeps ((HKQ.out w.heap.size).trans (keeps_set _ _ _ _ _))) (fun w' hs => ⟨_, results_first rfl rfl (hs.row (HQ.out.other (by simp) _)) rfl (hs.row (HP3.out.set 0 _)), Or.inr ⟨HNO.out, rfl⟩, ((HBQ.out _ _ (by omega) HB.out).setCell (p := ⟨w.heap.size + 1 + 1, 0, none⟩) (by simp; omega) _).trans hs.below⟩)
  case stop =>
    rintro D c pre W hD hpre ⟨pre0, x, q, rfl, rfl, hp, hx, hq, hov, o2, o3, hB⟩ hK
    have hxm := hpre.subset (show x ∈ pre0 ++ [x] by simp)
    have hxn : x < n := bitsOf_lt hl hxm
    have HX := Lib.hid hx
    have HNO : Hid (∀ u : Nat, u < x → stpB n f left (u : Nat) = false) := Lib.hid fun u hu => by
      cases hb : stpB n f left (u : Nat)
      · rfl
      · have h1 := hb
        unfold stpB at h1
        simp only [Bool.and_eq_true] at h1
        have h2 := inB_iff.1 h1.1
        rw [hp u (bitsOf_before hpre hu (by simpa using h1.2.1) (by omega))] at hb
        cases hb
    have HOV := Lib.hid hov
    have H2 := Lib.hid o2
    have H3 := Lib.hid o3
    have HB := Lib.hid hB
    clear hp hx hov o2 o3 hB
    gi_wp2
    exact leaves_marks (B := w.heap.size) (ds := [markAt D]) (Marks.one (Nat.le_trans hbw.size hD) hK) (fun w' hs => ⟨_, results_first rfl rfl (hs.row H2.out) hq (hs.row H3.out), Or.inl ⟨x, hxn, HX.out, HNO.out, by rw [HOV.out]⟩, HB.out.trans hs.below⟩)
end

end Go.Proofs.YtfmppncefbjicaaDoor
