/- Package minor: reductions: steps as a slice of one's own, compared; areReductions. Package minor: reductions. -/
import Derived.Test.YtfmppncefbjicaaDoorOc
import Derived.Test.YtfmppncefbjicaaDoorRows
import Derived.ChangeKeysEq
namespace Go.Proofs.YtfmppncefbjicaaDoor
set_option linter.unusedSimpArgs false
set_option linter.unusedVariables false
open Go.RowKit Go.Maps
attribute [local go_sem] i64_bit toNat_eq_one toNat_ne_one toNat_eq_zero toNat_ne_zero i64_and i64_or i64_andNot i64_or_pow i64_andNot_pow

/-- A reduction as four numbers: the kind, the node, the neighbours. -/
abbrev StZ := Int × Int × Int × Int
def stC (x : StZ) : List Value := [.int .i64 x.1, .int .i64 x.2.1, .int .i64 x.2.2.1, .int .i64 x.2.2.2]
def stV (x : StZ) : Value := .agg (stC x).toArray
def stL (L : List StZ) : List Value := L.flatMap stC
theorem stL_len (L : List StZ) : (stL L).length = L.length * 4 := by
  induction L with
  | nil => rfl
  | cons x L ih => simp only [stL, List.flatMap_cons, List.length_append, List.length_cons] at *; rw [ih]; simp [stC]; omega
theorem stL_snoc (L : List StZ) (x : StZ) : stL (L ++ [x]) = stL L ++ stC x := by simp [stL]
theorem stL_get : ∀ (L : List StZ) (i : Nat) (x : StZ), L[i]? = some x → ∀ j, j < 4 → (stL L)[i * 4 + j]? = (stC x)[j]? := by
  intro L
  induction L with
  | nil => intro i x h; simp at h
  | cons y L ih =>
    intro i x h j hj
    have e : stL (y :: L) = stC y ++ stL L := rfl
    have h4 : (stC y).length = 4 := rfl
    cases i with
    | zero =>
      simp at h
      subst h
      rw [e, Nat.zero_mul, Nat.zero_add, List.getElem?_append_left (by omega)]
    | succ i =>
      simp at h
      rw [e, List.getElem?_append_right (by omega), h4, show (i + 1) * 4 + j - 4 = i * 4 + j by omega]
      exact ih i x h j hj
/-- A slice of reductions of one's own. -/
def StepsOwn (T : TypeId) (w : World) (base : Nat) (v : Value) (L : List StZ) : Prop := w.ownsRow base T 4 v L.length (stL L)
theorem StepsOwn.nil (T : TypeId) (w : World) (base : Nat) : StepsOwn T w base (.slice none 0 0) [] := World.ownsRow_nil w base T 4
theorem StepsOwn.snoc {T : TypeId} {w' : World} {base : Nat} {v' : Value} {L : List StZ} {x : StZ} (h : w'.ownsRow base T 4 v' (L.length + 1) (stL L ++ stC x)) : StepsOwn T w' base v' (L ++ [x]) := by
  unfold StepsOwn
  rw [List.length_append, stL_snoc]
  exact h
theorem StepsOwn.below {T : TypeId} {w w' : World} {base : Nat} {v : Value} {L : List StZ} (h : StepsOwn T w base v L) (hb : Below w.heap.size w w') : StepsOwn T w' base v L := ownsRow_below h hb (Nat.le_refl _)
theorem StepsOwn.cells {T : TypeId} {w : World} {base : Nat} {a : Option Addr} {c : Nat} {L : List StZ} (h : StepsOwn T w base (.slice a L.length c) L) (hL : L ≠ []) :
    ∃ g, a = some ⟨g, 0, none⟩ ∧ base ≤ g ∧ g < w.heap.size ∧ ∀ i x, L[i]? = some x → ∀ j u, (stC x)[j]? = some u → w.cell? ⟨g, i * 4 + j, none⟩ = some u := by
  have hl : L.length ≠ 0 := by cases L with | nil => exact absurd rfl hL | cons => simp
  obtain ⟨g, cap, hv, hg1, hg2⟩ := own_form' h hl
  simp only [Value.slice.injEq] at hv
  obtain ⟨rfl, _, rfl⟩ := hv
  refine ⟨g, rfl, hg1, hg2, fun i x hx j u hu => ?_⟩
  have hlt := (List.getElem?_eq_some_iff.1 hx).1
  have hj : j < 4 := (List.getElem?_eq_some_iff.1 hu).1
  rw [World.ownsRow.cellAt h (i * 4 + j) (by omega)]
  exact (stL_get L i x hx j hj).trans hu

theorem plain_int : Tryd.prog.plainKey 3 = true := by kernel_rfl
theorem run_eq_step (w : World) (d : Nat) (x y : StZ) : (Op.equalIn (d + 2) 88 (stV x) (stV y)).run Tryd.prog w = .ok (decide (x = y)) w := by
  obtain ⟨a1, a2, a3, a4⟩ := x
  obtain ⟨b1, b2, b3, b4⟩ := y
  unfold stV stC
  rw [run_equalIn_struct w (d + 1) 88 _ _ (by kernel_rfl) (by kernel_rfl)]
  have hp : ∀ (xs : Array Value) (o : Nat) (v : Value), xs[o]? = some v → (part 3 xs o).run Tryd.prog w = .ok v w := fun xs o v h => run_part_plain w plain_int h
  have q1 : ∀ x y : Int, (Op.equalIn (d + 1) 3 (.int .i64 x) (.int .i64 y)).run Tryd.prog w = .ok (x == y) w := fun x y => run_equalIn_int w d _ _ _ x y Tryd.underlying3
  have hf : (Tryd.prog.fieldsOf 88).toList.map (fun f => (f.name, f.type, f.offset)) = [("Kind", 3, 0), ("Node", 3, 1), ("A", 3, 2), ("B", 3, 3)] := by kernel_rfl
  generalize (Tryd.prog.fieldsOf 88).toList = fs at *
  have hlen : fs.length = 4 := by simpa using congrArg List.length hf
  obtain ⟨f, g, h, k, rfl⟩ : ∃ f g h k, fs = [f, g, h, k] := by
    match fs, hlen with
    | [f, g, h, k], _ => exact ⟨f, g, h, k, rfl⟩
  simp only [List.map_cons, List.map_nil, List.cons.injEq, Prod.mk.injEq, and_true] at hf
  obtain ⟨⟨f1, f2, f3⟩, ⟨g1, g2, g3⟩, ⟨h1, h2, h3⟩, k1, k2, k3⟩ := hf
  have n1 : f.name ≠ "_" := by rw [f1]; decide
  have n2 : g.name ≠ "_" := by rw [g1]; decide
  have n3 : h.name ≠ "_" := by rw [h1]; decide
  have n4 : k.name ≠ "_" := by rw [k1]; decide
  have p0 : ∀ a b c e : Int, (part 3 #[.int .i64 a, .int .i64 b, .int .i64 c, .int .i64 e] 0).run Tryd.prog w = .ok (.int .i64 a) w := fun a b c e => hp _ 0 _ rfl
  have p1 : ∀ a b c e : Int, (part 3 #[.int .i64 a, .int .i64 b, .int .i64 c, .int .i64 e] 1).run Tryd.prog w = .ok (.int .i64 b) w := fun a b c e => hp _ 1 _ rfl
  have p2 : ∀ a b c e : Int, (part 3 #[.int .i64 a, .int .i64 b, .int .i64 c, .int .i64 e] 2).run Tryd.prog w = .ok (.int .i64 c) w := fun a b c e => hp _ 2 _ rfl
  have p3 : ∀ a b c e : Int, (part 3 #[.int .i64 a, .int .i64 b, .int .i64 c, .int .i64 e] 3).run Tryd.prog w = .ok (.int .i64 e) w := fun a b c e => hp _ 3 _ rfl
  simp only [Op.eqFields, n1, n2, n3, n4, ne_eq, not_false_eq_true, if_true, f2, f3, g2, g3, h2, h3, k2, k3, Sem.run_bind, p0, q1, Result.andThen_ok]
  by_cases e1 : a1 = b1
  · subst e1
    simp only [beq_self_eq_true, Bool.not_true, Bool.false_eq_true, if_false, Sem.run_bind, p1, q1, Result.andThen_ok]
    by_cases e2 : a2 = b2
    · subst e2
      simp only [beq_self_eq_true, Bool.not_true, Bool.false_eq_true, if_false, Sem.run_bind, p2, q1, Result.andThen_ok]
      by_cases e3 : a3 = b3
      · subst e3
        simp only [beq_self_eq_true, Bool.not_true, Bool.false_eq_true, if_false, Sem.run_bind, p3, q1, Result.andThen_ok]
        by_cases e4 : a4 = b4
        · subst e4; simp
        · simp [e4]
      · simp [e3]
    · simp [e2]
  · simp [e1]
theorem run_neq_step (w : World) (x y : StZ) : (binOp .neq 88 (stV x) (stV y)).run Tryd.prog w = .ok (.bool (!decide (x = y))) w := by
  rw [show stV x = .agg (stC x).toArray from rfl, show stV y = .agg (stC y).toArray from rfl, run_neq_struct]
  have h := run_eq_step w 9998 x y
  unfold stV at h
  rw [h]
  rfl

/-- The reduction of a node as four numbers. -/
def stZ (n : Nat) (f : Nat → Nat) (v : Nat) : StZ := ((szS n (f v) : Nat), (v : Nat), if szS n (f v) = 0 then (-1 : Int) else ((lowN (f v) : Nat) : Int), if szS n (f v) = 2 then ((lowN (diff (f v) (2 ^ lowN (f v))) : Nat) : Int) else (-1 : Int))
theorem stpV_eq (n : Nat) (f : Nat → Nat) (v : Nat) : stpV (stpN n f v) = stC (stZ n f v) := rfl
theorem stpO_yes {n : Nat} {f : Nat → Nat} {left v : Nat} (h : stpB n f left (v : Nat) = true) : stpO' n f left (v : Nat) = .agg (stC (stZ n f v)).toArray := by
  unfold stpO'
  rw [if_pos h, Int.toNat_natCast]; rfl
/-- Whether reductions are what they are in turn, and leave nothing. -/
def areT (n : Nat) : (Nat → Nat) → Nat → List StZ → Bool
  | _, left, [] => left == 0
  | f, left, x :: L => stpB n f left x.2.1 && (decide (stZ n f x.2.1.toNat = x) && areT n (doF n f x.2.1.toNat) (diff left (2 ^ x.2.1.toNat)) L)
theorem doF_lt {n v : Nat} {f : Nat → Nat} (hn8 : n ≤ 8) (hf : ∀ i, i < n → f i < 2 ^ n) (hv : v < n) : ∀ i, i < n → doF n f v i < 2 ^ n := by
  have h := doL_lt hn8 hf hv
  exact cutF_lt _ _ h fun u hu => bitsOf_lt (h v hv) hu
theorem RestAt.ne {w : World} {pb g c base n left : Nat} {f : Nat → Nat} (h : RestAt w pb g c base n f left) : g ≠ pb := by
  rintro rfl
  obtain ⟨h1, h2⟩ := h
  unfold Row at h1
  rcases h2.2 with ⟨e, _⟩ | ⟨g', c', cur, hv, _, hh, _⟩
  · simp at e
  · have e : g = g' := by simp only [Value.slice.injEq, Option.some.injEq, Addr.mk.injEq] at hv; exact hv.1.1
    rw [← e, h1] at hh
    simp at hh

set_option maxRecDepth 20000 in
set_option maxHeartbeats 4000000 in
theorem areReductions_any {n : Nat} {r : Nat → Nat} {a : Option Addr} {w : World} {base : Nat} {v : Value} {L : List StZ} (T : Tn w a n r) (cap : Nat) (hL : StepsOwn 88 w base v L) (hlen : L.length ≤ 1000) (hT : Tab w) :
    Calls Tryd.prog 70 #[.slice a n cap, v] w fun e w' => e = .returned (.bool (areT n r (2 ^ n - 1) L)) ∧ Below w.heap.size w w' := by
  have hn8 := T.le
  have HNR := Lib.hid (newRest_any T cap)
  have hbd := T.bd
  have HT := Lib.hid hT
  obtain ⟨al, cl, rfl⟩ := own_form hL
  have HL := Lib.hid hL
  have h2n := Nat.two_pow_pos n
  clear T hL hT
  go_enter Tryd.func70, Tryd.ntmps70
  go_wp2_with (go_at_call 94; refine HNR.out.mono ?_; rintro e w1 ⟨pb, g, c, rfl, R1, hpb, hg, hb1⟩; have HR1 := Lib.hid R1; have HB1 := Lib.hid hb1; clear R1 hb1)
  go_loopw [14] (fun i wr => ∃ (k : Nat) (f : Nat → Nat) (left : Nat), k ≤ L.length ∧ i = .int .i64 k ∧ areT n f left (L.drop k) = areT n r (2 ^ n - 1) L ∧ (∀ i, i < n → f i < 2 ^ n) ∧ left < 2 ^ n ∧ RestAt wr pb g c w.heap.size n f left ∧ Below w.heap.size w wr) (fun i _ => L.length - (intOf i).toNat)
  case atStart => exact ⟨0, r, 2 ^ n - 1, Nat.zero_le _, rfl, rfl, hbd, by omega, HR1.out, HB1.out⟩
  case round =>
    obtain ⟨k, f, left, hk, rfl, hare, hf, hl, R, hB⟩ := hrel
    have HR := Lib.hid R
    have HB := Lib.hid hB
    have HF := Lib.hid hf
    clear R hB hf hbd HR1 HB1
    by_cases hlt : k < L.length
    · obtain ⟨x, hx⟩ : ∃ x, L[k]? = some x := ⟨L[k], by simp [hlt]⟩
      have hdr : L.drop k = x :: L.drop (k + 1) := by rw [List.drop_eq_getElem_cons hlt]; rw [List.getElem?_eq_getElem hlt] at hx; simp at hx; rw [hx]
      rw [hdr] at hare
      obtain ⟨gl, rfl, _, hgl, hce⟩ := HL.out.cells (by rintro rfl; simp at hlt)
      obtain ⟨x1, x2, x3, x4⟩ := x
      have y0 : wr.cell? ⟨gl, k * 4, none⟩ = some (.int .i64 x1) := (HB.out.cell (p := ⟨gl, k * 4, none⟩) hgl).trans (hce k _ hx 0 _ rfl)
      have y1 : wr.cell? ⟨gl, k * 4 + 1, none⟩ = some (.int .i64 x2) := (HB.out.cell (p := ⟨gl, k * 4 + 1, none⟩) hgl).trans (hce k _ hx 1 _ rfl)
      have y2 : wr.cell? ⟨gl, k * 4 + 2, none⟩ = some (.int .i64 x3) := (HB.out.cell (p := ⟨gl, k * 4 + 2, none⟩) hgl).trans (hce k _ hx 2 _ rfl)
      have y3 : wr.cell? ⟨gl, k * 4 + 3, none⟩ = some (.int .i64 x4) := (HB.out.cell (p := ⟨gl, k * 4 + 3, none⟩) hgl).trans (hce k _ hx 3 _ rfl)
      have HARE : Hid ((stpB n f left x2 && (decide (stZ n f x2.toNat = (x1, x2, x3, x4)) && areT n (doF n f x2.toNat) (diff left (2 ^ x2.toNat)) (L.drop (k + 1)))) = areT n r (2 ^ n - 1) L) := Lib.hid hare
      clear hce hx hdr hare
      obtain ⟨w2, hw2, r2, hb2, hs2⟩ := new1 wr 88 [.int .i64 x1, .int .i64 x2, .int .i64 x3, .int .i64 x4]
      have HST := Lib.hid (step_any (HR.out.below hb2) hn8 hl HF.out (HT.out.below (HB.out.trans (hb2.mono HB.out.size))) x2)
      obtain ⟨q1, q2, q3, q4, hov⟩ := stpO_form n f left x2
      rw [hov] at HST
      have HOV := Lib.hid hov
      have hW2 := hw2.symm
      have m0 := r2.cell (i := 0) rfl
      have m1 := r2.cell (i := 1) rfl
      have m2 := r2.cell (i := 2) rfl
      have m3 := r2.cell (i := 3) rfl
      have HR2 := Lib.hid r2
      have HB2 := Lib.hid hb2
      clear hov hw2 r2 hb2
      cases hsb : stpB n f left x2
      · rw [hsb] at HST HARE
        clear hsb
        go_wp2_with (go_at_call 97; refine HST.out.mono ?_; rintro e w3 ⟨rfl, hb3⟩; have HB3 := Lib.hid hb3; clear hb3)
        exact bodyPost_ret (results_tmp rfl _ _ _) rfl ⟨by rw [← HARE.out]; rfl, (HB.out.trans ((HB2.out.trans (HB3.out.mono HB2.out.size)).mono HB.out.size)).alloc (Nat.le_trans HB.out.size (Nat.le_trans HB2.out.size HB3.out.size)) _⟩
      · have hvv : ∃ v : Nat, x2 = v ∧ v < n ∧ szS n (f v) ≤ 2 := by
          have h := hsb
          unfold stpB at h
          simp only [Bool.and_eq_true, decide_eq_true_eq] at h
          obtain ⟨h0, h1⟩ := inB_iff.1 h.1
          exact ⟨x2.toNat, by omega, by omega, h.2.2⟩
        obtain ⟨v, rfl, hvn, hk2⟩ := hvv
        have hz : stZ n f v = (q1, q2, q3, q4) := by
          have h := stpO_yes hsb
          rw [HOV.out] at h
          have h2 : (#[.int .i64 q1, .int .i64 q2, .int .i64 q3, .int .i64 q4] : Array Value) = (stC (stZ n f v)).toArray := by injection h
          have h3 := congrArg Array.toList h2
          unfold stC at h3
          simp only [List.cons.injEq, Value.int.injEq, true_and, and_true] at h3
          exact Prod.ext h3.1.symm (Prod.ext h3.2.1.symm (Prod.ext h3.2.2.1.symm h3.2.2.2.symm))
        rw [hsb, Bool.true_and, Int.toNat_natCast, hz] at HARE
        rw [hsb] at HST
        have hneq : ∀ W : World, (binOp .neq 88 (.agg #[.int .i64 q1, .int .i64 q2, .int .i64 q3, .int .i64 q4]) (.agg #[.int .i64 x1, .int .i64 (v : Nat), .int .i64 x3, .int .i64 x4])).run Tryd.prog W = .ok (.bool (!decide ((q1, q2, q3, q4) = (x1, ((v : Nat) : Int), x3, x4)))) W := fun W => run_neq_step W (q1, q2, q3, q4) (x1, ((v : Nat) : Int), x3, x4)
        have HDO : Hid (∀ W, Below wr.heap.size wr W → Calls Tryd.prog 96 #[ptrV pb, .agg #[.int .i64 q1, .int .i64 q2, .int .i64 q3, .int .i64 q4]] W fun e w' => e = .returned (.tuple #[]) ∧ RestAt w' pb g c w.heap.size n (doF n f v) (diff left (2 ^ v)) ∧ Below w.heap.size w w') := Lib.hid fun W hW => by
          have h := do_any (HR.out.below hW) hn8 hl HF.out hvn hk2 HT.out (HB.out.trans (hW.mono HB.out.size)) (Nat.le_refl _) hpb HR.out.ne
          rw [stpV_eq, hz] at h
          exact h.mono fun _ _ ⟨a1, a2, _, a4⟩ => ⟨a1, a2, a4⟩
        have HZ := Lib.hid hz
        have HSB := Lib.hid hsb
        clear hz hsb
        cases hd : decide ((q1, q2, q3, q4) = (x1, ((v : Nat) : Int), x3, x4))
        all_goals
          rw [hd] at HARE
          simp only [hd, Bool.not_true, Bool.not_false] at hneq
          clear hd
          go_wp2_with (first
            | (go_at_call 97; refine HST.out.mono ?_; rintro e w3 ⟨rfl, hb3⟩; obtain ⟨w4, hw4, r4, hb4, hs4⟩ := new1 w3 88 [.int .i64 q1, .int .i64 q2, .int .i64 q3, .int .i64 q4]; have hW4 := hw4.symm; have z0 := r4.cell (i := 0) rfl; have z1 := r4.cell (i := 1) rfl; have z2 := r4.cell (i := 2) rfl; have z3 := r4.cell (i := 3) rfl; have hb24 := hb3.trans (hb4.mono hb3.size); have t2 := HR2.out.below hb24 HR2.out.lt; have n0 := t2.cell (i := 0) rfl; have n1 := t2.cell (i := 1) rfl; have n2 := t2.cell (i := 2) rfl; have n3 := t2.cell (i := 3) rfl; have HB4 := Lib.hid (HB2.out.trans (hb24.mono HB2.out.size)); clear hb3 hb4 hw4 r4 t2 hb24)
            | (go_at_call 96; refine (HDO.out _ HB4.out).mono ?_; rintro e w5 ⟨rfl, hr5, hb5⟩; have HR5 := Lib.hid hr5; have HB5 := Lib.hid hb5; clear hr5 hb5))
        · exact bodyPost_ret (results_tmp rfl _ _ _) rfl ⟨by rw [← HARE.out]; rfl, HB.out.trans (HB4.out.mono HB.out.size)⟩
        · go_roundw
          case rel => exact ⟨k + 1, doF n f v, diff left (2 ^ v), by omega, by go_num, HARE.out, doF_lt hn8 HF.out hvn, Nat.lt_of_le_of_lt (diff_le _ _) hl, HR5.out, HB5.out⟩
          case measure => simp [intOf]; omega
    · have hke : k = L.length := by omega
      subst hke
      have cl0 := HR.out.row.cell (i := 1) rfl
      have HARE : Hid ((left == 0) = areT n r (2 ^ n - 1) L) := Lib.hid (by rw [← hare, List.drop_length]; rfl)
      clear hare
      go_wp2_with fail
      refine bodyPost_ret (results_tmp rfl _ _ _) rfl ⟨?_, HB.out⟩
      rw [← HARE.out]
      have e : (((left : Nat) : Int) == 0) = (left == 0) := by rw [Bool.eq_iff_iff, beq_iff_eq, beq_iff_eq]; omega
      show Ending.returned (.bool (((left : Nat) : Int) == 0)) = _
      rw [e]

/-- The first node that can be reduced. -/
def fstS (n : Nat) (f : Nat → Nat) (left : Nat) : Option Nat := (List.range n).find? fun v => stpB n f left (v : Nat)
theorem fst_some {n left x : Nat} {f : Nat → Nat} (hx : x < n) (hs : stpB n f left (x : Nat) = true) (hno : ∀ u : Nat, u < x → stpB n f left (u : Nat) = false) : fstS n f left = some x := by
  unfold fstS
  rw [List.find?_range_eq_some]
  exact ⟨hs, List.mem_range.2 hx, fun j hj => by rw [hno j hj]; rfl⟩
theorem fst_none {n left : Nat} {f : Nat → Nat} (hno : ∀ u : Nat, stpB n f left (u : Nat) = false) : fstS n f left = none := by
  unfold fstS
  rw [List.find?_eq_none]
  intro x _
  rw [hno x]; simp
/-- The rest behind some reductions of the first node each time, and they. -/
def redT (n : Nat) (r : Nat → Nat) : Nat → Option ((Nat → Nat) × Nat × List StZ)
  | 0 => some (r, 2 ^ n - 1, [])
  | k + 1 => match redT n r k with
    | none => none
    | some (f, left, L) => match fstS n f left with
      | none => none
      | some x => some (doF n f x, diff left (2 ^ x), L ++ [stZ n f x])
theorem redT_none {n : Nat} {r : Nat → Nat} {k : Nat} (h : redT n r k = none) : ∀ m, k ≤ m → redT n r m = none := by
  intro m hm
  obtain ⟨d, rfl⟩ : ∃ d, m = k + d := ⟨m - k, by omega⟩
  clear hm
  induction d with
  | zero => exact h
  | succ d ih =>
    show redT n r (k + d + 1) = none
    unfold redT
    rw [ih]

end Go.Proofs.YtfmppncefbjicaaDoor

namespace Go.Proofs.YtfmppncefbjicaaDoor
set_option linter.unusedSimpArgs false
set_option linter.unusedVariables false
open Go.RowKit Go.Maps
attribute [local go_sem] i64_bit toNat_eq_one toNat_ne_one toNat_eq_zero toNat_ne_zero i64_and i64_or i64_andNot i64_or_pow i64_andNot_pow

theorem info_step : (Tryd.prog.info? 88).map (fun i => (i.zero, i.size, i.bytes)) = some (some (.agg #[.int .i64 0, .int .i64 0, .int .i64 0, .int .i64 0]), 4, 32) := by kernel_rfl
theorem RestAt.keep {w w' : World} {pb g c base n left : Nat} {f : Nat → Nat} (h : RestAt w pb g c base n f left) (h1 : w'.heap[pb]? = w.heap[pb]?) (h2 : w'.heap[g]? = w.heap[g]?) : RestAt w' pb g c base n f left :=
  ⟨by have := h.row; unfold Row at *; rw [h1]; exact this, h.near.1, h.near.2.imp_right fun ⟨g', cap, cur, hv, hg, hh, r⟩ => ⟨g', cap, cur, hv, hg, by
    have e : g = g' := by simp only [Value.slice.injEq, Option.some.injEq, Addr.mk.injEq] at hv; exact hv.1.1
    rw [← e, h2, e]; exact hh, r⟩⟩
theorem StepsOwn.keep {T : TypeId} {w w' : World} {base : Nat} {v : Value} {L : List StZ} (h : StepsOwn T w base v L) (hs : ∀ b, base ≤ b → b < w.heap.size → w'.heap[b]? = w.heap[b]?) : StepsOwn T w' base v L :=
  ⟨h.1, h.2.imp_right fun ⟨g', cap, cur, hv, hg, hh, r⟩ => ⟨g', cap, cur, hv, hg, by rw [hs g' hg (Array.getElem?_eq_some_iff.1 hh).1]; exact hh, r⟩⟩

/-- What reductions answers. -/
def RedPost (n : Nat) (r : Nat → Nat) (B : Nat) (e : Ending) (w' : World) : Prop :=
  match redT n r n with
  | some (_, _, L) => ∃ v, e = .returned (.tuple #[v, .bool true]) ∧ StepsOwn 88 w' B v L
  | none => e = .returned (.tuple #[.slice none 0 0, .bool false])
theorem redT_len {n : Nat} {r : Nat → Nat} : ∀ k f left L, redT n r k = some (f, left, L) → L.length = k := by
  intro k
  induction k with
  | zero => intro f left L h; unfold redT at h; simp at h; rw [h.2.2]; rfl
  | succ k ih =>
    intro f left L h
    unfold redT at h
    cases hk : redT n r k with
    | none => rw [hk] at h; cases h
    | some q =>
      obtain ⟨f0, l0, L0⟩ := q
      rw [hk] at h
      simp only at h
      cases hf : fstS n f0 l0 with
      | none => rw [hf] at h; cases h
      | some x =>
        rw [hf] at h
        simp only [Option.some.injEq, Prod.mk.injEq] at h
        rw [← h.2.2, List.length_append, ih _ _ _ hk]; rfl

set_option maxRecDepth 20000 in
set_option maxHeartbeats 4000000 in
theorem reductions_any {n : Nat} {r : Nat → Nat} {a : Option Addr} {w : World} (T : Tn w a n r) (cap : Nat) (hT : Tab w) :
    Calls Tryd.prog 69 #[.slice a n cap] w fun e w' => RedPost n r w.heap.size e w' ∧ Below w.heap.size w w' := by
  have hn8 := T.le
  obtain ⟨i1, hi1, hy1, hy2, hy3⟩ := info_parts info_step
  have HNR := Lib.hid (newRest_any T cap)
  have hbd := T.bd
  have HT := Lib.hid hT
  have h2n := Nat.two_pow_pos n
  have hmk : ∀ w : World, (Instr.makeSlice 42 (.int .i64 0) (.int .i64 (n : Int))).run Tryd.prog w = .ok (.slice (some ⟨w.heap.size, 0, none⟩) 0 n) (w.alloc (.cells (madeCells #[.int .i64 0, .int .i64 0, .int .i64 0, .int .i64 0] (n * 4)) 88)) := fun w => by
    have hr := run_make (P := Tryd.prog) w 42 88 i1 _ Tryd.underlying42 hi1 hy1 .i64 .i64 0 (n : Int) (by omega) (by omega) (by rw [hy3]; omega) (by omega)
    simp only [Int.toNat_natCast, hy2, Int.toNat_zero] at hr
    exact hr
  clear T hT
  go_enter Tryd.func69, Tryd.ntmps69
  go_wp2_with (go_at_call 94; refine HNR.out.mono ?_; rintro e w1 ⟨pb, g, c, rfl, R1, hpb, hg, hb1⟩; have HR1 := Lib.hid R1; have HB1 := Lib.hid hb1; clear R1 hb1)
  have hpl := HR1.out.row.lt
  have hgl := (World.ownsRow.lt HR1.out.near g rfl).2
  obtain ⟨w0, hw0⟩ : ∃ x, x = w1.alloc (.cells (madeCells #[.int .i64 0, .int .i64 0, .int .i64 0, .int .i64 0] (n * 4)) 88) := ⟨_, rfl⟩
  have HS0 : Hid (StepsOwn 88 w0 w1.heap.size (.slice (some ⟨w1.heap.size, 0, none⟩) 0 n) []) := Lib.hid (by
    rw [hw0]
    exact World.ownsRow_made w1 _ n (Nat.le_refl _) (by unfold maxLen; omega) (by simp [madeCells]))
  have hb0 : Below w1.heap.size w1 w0 := by rw [hw0]; exact (Below.refl _ _).alloc (Nat.le_refl _) _
  have HR0 := Lib.hid (HR1.out.below hb0)
  have HB0 := Lib.hid (HB1.out.trans (hb0.mono HB1.out.size))
  have hs0 := hb0.size
  have hs1 := HB1.out.size
  rw [← hw0]
  clear hw0 hmk hb0 HR1 HB1
  go_loopw [5, 15] (fun u i wr => ∃ (k : Nat) (f : Nat → Nat) (left : Nat) (L : List StZ), k ≤ n ∧ i = .int .i64 k ∧ redT n r k = some (f, left, L) ∧ (∀ i, i < n → f i < 2 ^ n) ∧ left < 2 ^ n ∧ RestAt wr pb g c w.heap.size n f left ∧ StepsOwn 88 wr w1.heap.size u L ∧ Below w.heap.size w wr ∧ w1.heap.size ≤ wr.heap.size) (fun _ i _ => n - (intOf i).toNat)
  case atStart => exact ⟨0, r, 2 ^ n - 1, [], Nat.zero_le _, rfl, rfl, hbd, by omega, HR0.out, HS0.out, HB0.out, hs0⟩
  case round =>
    obtain ⟨k, f, left, L, hk, rfl, hred, hf, hl, R, S, hB, hsw⟩ := hrel
    have hLk := redT_len _ _ _ _ hred
    have HR := Lib.hid R
    have HS := Lib.hid S
    have HB := Lib.hid hB
    have HF := Lib.hid hf
    have HRED := Lib.hid hred
    clear R hB hf hbd HR0 HB0 S HS0 hred
    by_cases hlt : k < n
    · have HFS := Lib.hid (firstStep_any HR.out hn8 hl HF.out (HT.out.below HB.out))
      have HDO : Hid (∀ (x : Nat) (q1 q2 q3 q4 : Int) (W : World), x < n → stpB n f left (x : Nat) = true → stpO' n f left (x : Nat) = .agg #[.int .i64 q1, .int .i64 q2, .int .i64 q3, .int .i64 q4] → Below wr.heap.size wr W → stZ n f x = (q1, q2, q3, q4) ∧ Calls Tryd.prog 96 #[ptrV pb, .agg #[.int .i64 q1, .int .i64 q2, .int .i64 q3, .int .i64 q4]] W fun e w' => e = .returned (.tuple #[]) ∧ RestAt w' pb g c w.heap.size n (doF n f x) (diff left (2 ^ x)) ∧ Kep W w' pb (.slice (some ⟨g, 0, none⟩) n c) ∧ Below w.heap.size w w') := Lib.hid fun x q1 q2 q3 q4 W hx hsb hov hW => by
        have hz : stZ n f x = (q1, q2, q3, q4) := by
          have h := stpO_yes hsb
          rw [hov] at h
          have h2 : (#[.int .i64 q1, .int .i64 q2, .int .i64 q3, .int .i64 q4] : Array Value) = (stC (stZ n f x)).toArray := by injection h
          have h3 := congrArg Array.toList h2
          unfold stC at h3
          simp only [List.cons.injEq, Value.int.injEq, true_and, and_true] at h3
          exact Prod.ext h3.1.symm (Prod.ext h3.2.1.symm (Prod.ext h3.2.2.1.symm h3.2.2.2.symm))
        have hk2 : szS n (f x) ≤ 2 := by
          unfold stpB at hsb
          simp only [Bool.and_eq_true, decide_eq_true_eq] at hsb
          exact hsb.2.2
        have h := do_any (HR.out.below hW) hn8 hl HF.out hx hk2 HT.out (HB.out.trans (hW.mono HB.out.size)) (Nat.le_refl _) hpb HR.out.ne
        rw [stpV_eq, hz] at h
        exact ⟨hz, h⟩
      have hml : L.length + 1 ≤ 1000 := by omega
      cases hfx : fstS n f left with
      | none =>
        have HF1 : Hid (Calls Tryd.prog 95 #[ptrV pb] wr fun e w' => e = .returned (.tuple #[.agg #[.int .i64 0, .int .i64 0, .int .i64 0, .int .i64 0], .bool false]) ∧ Below wr.heap.size wr w') := Lib.hid (HFS.out.mono fun e w' ⟨h, hb⟩ => ⟨by
          rcases h with ⟨x, hx, hsb, hno, rfl⟩ | ⟨hno, rfl⟩
          · rw [fst_some hx hsb hno] at hfx; cases hfx
          · rfl, hb⟩)
        have HN : Hid (redT n r n = none) := Lib.hid (redT_none (k := k + 1) (by unfold redT; rw [HRED.out]; simp only [hfx]) n (by omega))
        clear hfx HFS HDO
        go_wp2_with (go_at_call 95; refine HF1.out.mono ?_; rintro e w3 ⟨rfl, hb3⟩; have HB3 := Lib.hid hb3; clear hb3)
        refine bodyPost_ret (results_tmp2 rfl _ _ _) rfl ⟨by unfold RedPost; rw [HN.out]; rfl, (HB.out.trans (HB3.out.mono HB.out.size)).alloc (Nat.le_trans HB.out.size HB3.out.size) _⟩
      | some x =>
        have hxs : x < n ∧ stpB n f left (x : Nat) = true := by
          unfold fstS at hfx
          rw [List.find?_range_eq_some] at hfx
          exact ⟨List.mem_range.1 hfx.2.1, hfx.1⟩
        obtain ⟨hx, hsb⟩ := hxs
        obtain ⟨q1, q2, q3, q4, hov⟩ := stpO_form n f left x
        have HF1 : Hid (Calls Tryd.prog 95 #[ptrV pb] wr fun e w' => e = .returned (.tuple #[.agg #[.int .i64 q1, .int .i64 q2, .int .i64 q3, .int .i64 q4], .bool true]) ∧ Below wr.heap.size wr w') := Lib.hid (HFS.out.mono fun e w' ⟨h, hb⟩ => ⟨by
          rcases h with ⟨x', hx', hsb', hno', rfl⟩ | ⟨hno, rfl⟩
          · rw [fst_some hx' hsb' hno'] at hfx
            cases hfx
            rw [hov]
          · rw [fst_none hno] at hfx; exact absurd hfx (by simp), hb⟩)
        have HD1 := Lib.hid fun W hW => (HDO.out x q1 q2 q3 q4 W hx hsb hov hW).2
        have HZ := Lib.hid (HDO.out x q1 q2 q3 q4 wr hx hsb hov (Below.refl _ _)).1
        have HN : Hid (redT n r (k + 1) = some (doF n f x, diff left (2 ^ x), L ++ [stZ n f x])) := Lib.hid (by unfold redT; rw [HRED.out]; simp only [hfx])
        have HFX := Lib.hid (doF_lt hn8 HF.out hx)
        clear hfx HFS HDO hsb hov
        go_wp2_with (first
          | (at_builtin; refine wpList_append_own _ rfl _ _ 42 rfl w1.heap.size 88 i1 (.agg #[.int .i64 0, .int .i64 0, .int .i64 0, .int .i64 0]) 4 32 Tryd.underlying42 hi1 hy1 hy2 hy3 rfl (by decide) _ _ _ rfl (World.ownsRow.alloc (show World.ownsRow _ w1.heap.size 88 4 _ L.length (stL L) from HS5.out) _) ⟨_, 0, none⟩ 1 1 [.int .i64 q1, .int .i64 q2, .int .i64 q3, .int .i64 q4] rfl rfl ?c1 ?c2 ?c3 ?c4 ?c5 ?_)
          | (go_at_call 95; refine HF1.out.mono ?_; rintro e w3 ⟨rfl, hb3⟩; obtain ⟨w4, hw4, r4, hb4, hs4⟩ := new1 w3 88 [.int .i64 q1, .int .i64 q2, .int .i64 q3, .int .i64 q4]; have hW4 := hw4.symm; have z0 := r4.cell (i := 0) rfl; have z1 := r4.cell (i := 1) rfl; have z2 := r4.cell (i := 2) rfl; have z3 := r4.cell (i := 3) rfl; have HB4 := Lib.hid (hb3.trans (hb4.mono hb3.size)); have HS3 := Lib.hid hb3.size; have HR4 := Lib.hid r4; clear hb3 hb4 hw4 r4)
          | (go_at_call 96; refine (HD1.out _ HB4.out).mono ?_; rintro e w5 ⟨rfl, hr5, hk5, hb5⟩; have t5 := hk5.row HR4.out (by have := HS3.out; omega) (by have := HS3.out; simp [Value.ownBlock]; omega); have v0 := t5.cell (i := 0) rfl; have v1 := t5.cell (i := 1) rfl; have v2 := t5.cell (i := 2) rfl; have v3 := t5.cell (i := 3) rfl; have HS5 : Hid (StepsOwn 88 w5 w1.heap.size u5 L) := Lib.hid ((HS.out.below HB4.out).keep (fun b hb1 hb2 => hk5.same b hb2 (by omega) (by simp [Value.ownBlock]; omega))); have HR5 := Lib.hid hr5; have HK5 := Lib.hid hk5.size; have HS4 := Lib.hid hs4; have HB5 := Lib.hid hb5; clear hr5 hb5 hk5 t5 hs4))
        case c1 => exact cells_new _ _ _
        case c2 => intro u hu; simp at hu; rcases hu with rfl | rfl | rfl | rfl <;> rfl
        case c3 => unfold maxLen; omega
        case c4 => omega
        case c5 => have h1 := HK5.out; have h2 := HS3.out; have h3 := HS4.out; simp; omega
        intro v6 w6 hown6 hg6 _
        have HO6 : Hid (StepsOwn 88 w6 w1.heap.size v6 (L ++ [stZ n f x])) := Lib.hid (StepsOwn.snoc (by rw [HZ.out, hLk]; exact hown6))
        have hlt5 : ∀ b, some b = u5.ownBlock → w1.heap.size ≤ b := fun b e => (World.ownsRow.lt (show World.ownsRow _ _ _ _ _ _ _ from HS5.out) b e.symm).1
        have hpl5 : pb < w5.heap.size := HR5.out.row.lt
        have hgl5 : g < w5.heap.size := (World.ownsRow.lt HR5.out.near g rfl).2
        have HR6 : Hid (RestAt w6 pb g c w.heap.size n (doF n f x) (diff left (2 ^ x))) := Lib.hid (HR5.out.keep
          ((hg6.block pb (by simp; omega) (fun e => by have := hlt5 pb e; omega)).trans (Below.heap_alloc _ _ _ hpl5))
          ((hg6.block g (by simp; omega) (fun e => by have := hlt5 g e; omega)).trans (Below.heap_alloc _ _ _ hgl5)))
        have HB6 := Lib.hid ((HB5.out.alloc HB5.out.size _).grown hg6 (by have := HB5.out.size; simp; omega) (fun b hb => Nat.le_trans hs1 (hlt5 b hb.symm)))
        have hs6 : w1.heap.size ≤ w6.heap.size := by
          have h1 := hg6.size
          have h2 := HK5.out
          have h3 := HS3.out
          have h4 := HS4.out
          simp at h1
          omega
        clear hown6 hg6 hlt5
        go_wp2_with fail
        go_roundw
        case rel => exact ⟨k + 1, doF n f x, diff left (2 ^ x), L ++ [stZ n f x], by omega, by go_num, HN.out, HFX.out, Nat.lt_of_le_of_lt (diff_le _ _) hl, HR6.out, HO6.out, HB6.out, hs6⟩
        case measure => simp [intOf]; omega
    · have hke : k = n := by omega
      subst hke
      go_wp2_with fail
      exact bodyPost_ret (results_tmp2 rfl _ _ _) rfl ⟨by unfold RedPost; rw [HRED.out]; exact ⟨_, rfl, ownsRow_low HS.out hs1⟩, HB.out⟩

end Go.Proofs.YtfmppncefbjicaaDoor
