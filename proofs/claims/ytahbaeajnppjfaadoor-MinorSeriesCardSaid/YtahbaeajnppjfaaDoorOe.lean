/- Package minor: reductions. -/
import Derived.Test.YtahbaeajnppjfaaDoorOd
namespace Go.Proofs.YtahbaeajnppjfaaDoor
set_option linter.unusedSimpArgs false
set_option linter.unusedVariables false
open Go.RowKit Go.Maps
attribute [local go_sem] i64_bit toNat_eq_one toNat_ne_one toNat_eq_zero toNat_ne_zero i64_and i64_or i64_andNot i64_or_pow i64_andNot_pow

theorem info_step : (Tryd.prog.info? 88).map (fun i => (i.zero, i.size, i.bytes)) = some (some (.agg #[.int .i64 0, .int .i64 0, .int .i64 0, .int .i64 0]), 4, 32) := by kernel_rfl
theorem RestAt.keep {w w' : World} {pb g c base n left : Nat} {f : Nat → Nat} (h : RestAt w pb g c base n f left) (h1 : w'.heap[pb]? = w.heap[pb]?) (h2 : w'.heap[g]? = w.heap[g]?) : RestAt w' pb g c base n f left :=
  ⟨by have := h.row; unfold Row at *; rw [h1]; exact this, h.near.1, h.near.2.imp_right fun ⟨g', cap, cur, hv, hg, hh, r⟩ => ⟨g', cap, cur, hv, hg, by
    have e : g = g' := by simp only [Value.slice.injEq, Option.some.injEq, Addr.mk.injEq] at hv; exact hv.1.1
    rw [← e, h2, e]; exact hh, r⟩⟩
theorem StepsOwn.keep {T : TypeId} {w w' : World} {base : Nat} {v : Value} {L : List StZ} (h : StepsOwn T w base v L) (hs : ∀ b, base ≤ b → b < w.heap.size → w'.heap[b]? = w.heap[b]?) : StepsOwn T w' base v L :=
  ⟨h.1, h.2.imp_right fun ⟨g', cap, cur, hv, hg, hh, r⟩ => ⟨g', cap, cur, hv, hg, by rw [hs g' hg (Array.getElem?_eq_some_iff.1 hh).1]; exact hh, r⟩⟩

/-- What reductions answers. -/
def RedPost (n : Nat) (r : Nat → Nat) (B : Nat) (e : Ending) (w' : World) : Prop :=
  match redT n r n with
  | some (_, _, L) => ∃ v, e = .returned (.tuple #[v, .bool true]) ∧ StepsOwn 88 w' B v L
  | none => e = .returned (.tuple #[.slice none 0 0, .bool false])
theorem redT_len {n : Nat} {r : Nat → Nat} : ∀ k f left L, redT n r k = some (f, left, L) → L.length = k := by
  intro k
  induction k with
  | zero => intro f left L h; unfold redT at h; simp at h; rw [h.2.2]; rfl
  | succ k ih =>
    intro f left L h
    unfold redT at h
    cases hk : redT n r k with
    | none => rw [hk] at h; cases h
    | some q =>
      obtain ⟨f0, l0, L0⟩ := q
      rw [hk] at h
      simp only at h
      cases hf : fstS n f0 l0 with
      | none => rw [hf] at h; cases h
      | some x =>
        rw [hf] at h
        simp only [Option.some.injEq, Prod.mk.injEq] at h
        rw [← h.2.2, List.length_append, ih _ _ _ hk]; rfl

set_option maxRecDepth 20000 in
set_option maxHeartbeats 4000000 in
theorem reductions_any {n : Nat} {r : Nat → Nat} {a : Option Addr} {w : World} (T : Tn w a n r) (cap : Nat) (hT : Tab w) :
    Calls Tryd.prog 69 #[.slice a n cap] w fun e w' => RedPost n r w.heap.size e w' ∧ Below w.heap.size w w' := by
  have hn8 := T.le
  obtain ⟨i1, hi1, hy1, hy2, hy3⟩ := info_parts info_step
  have HNR := Lib.hid (newRest_any T cap)
  have hbd := T.bd
  have HT := Lib.hid hT
  have h2n := Nat.two_pow_pos n
  have hmk : ∀ w : World, (Instr.makeSlice 42 (.int .i64 0) (.int .i64 (n : Int))).run Tryd.prog w = .ok (.slice (some ⟨w.heap.size, 0, none⟩) 0 n) (w.alloc (.cells (madeCells #[.int .i64 0, .int .i64 0, .int .i64 0, .int .i64 0] (n * 4)) 88)) := fun w => by
    have hr := run_make (P := Tryd.prog) w 42 88 i1 _ Tryd.underlying42 hi1 hy1 .i64 .i64 0 (n : Int) (by omega) (by omega) (by rw [hy3]; omega) (by omega)
    simp only [Int.toNat_natCast, hy2, Int.toNat_zero] at hr
    exact hr
  clear T hT
  go_enter Tryd.func69, Tryd.ntmps69
  go_wp2_with (go_at_call 94; refine HNR.out.mono ?_; rintro e w1 ⟨pb, g, c, rfl, R1, hpb, hg, hb1⟩; have HR1 := Lib.hid R1; have HB1 := Lib.hid hb1; clear R1 hb1)
  have hpl := HR1.out.row.lt
  have hgl := (World.ownsRow.lt HR1.out.near g rfl).2
  obtain ⟨w0, hw0⟩ : ∃ x, x = w1.alloc (.cells (madeCells #[.int .i64 0, .int .i64 0, .int .i64 0, .int .i64 0] (n * 4)) 88) := ⟨_, rfl⟩
  have HS0 : Hid (StepsOwn 88 w0 w1.heap.size (.slice (some ⟨w1.heap.size, 0, none⟩) 0 n) []) := Lib.hid (by
    rw [hw0]
    exact World.ownsRow_made w1 _ n (Nat.le_refl _) (by unfold maxLen; omega) (by simp [madeCells]))
  have hb0 : Below w1.heap.size w1 w0 := by rw [hw0]; exact (Below.refl _ _).alloc (Nat.le_refl _) _
  have HR0 := Lib.hid (HR1.out.below hb0)
  have HB0 := Lib.hid (HB1.out.trans (hb0.mono HB1.out.size))
  have hs0 := hb0.size
  have hs1 := HB1.out.size
  rw [← hw0]
  clear hw0 hmk hb0 HR1 HB1
  go_loopw [5, 15] (fun u i wr => ∃ (k : Nat) (f : Nat → Nat) (left : Nat) (L : List StZ), k ≤ n ∧ i = .int .i64 k ∧ redT n r k = some (f, left, L) ∧ (∀ i, i < n → f i < 2 ^ n) ∧ left < 2 ^ n ∧ RestAt wr pb g c w.heap.size n f left ∧ StepsOwn 88 wr w1.heap.size u L ∧ Below w.heap.size w wr ∧ w1.heap.size ≤ wr.heap.size) (fun _ i _ => n - (intOf i).toNat)
  case atStart => exact ⟨0, r, 2 ^ n - 1, [], Nat.zero_le _, rfl, rfl, hbd, by omega, HR0.out, HS0.out, HB0.out, hs0⟩
  case round =>
    obtain ⟨k, f, left, L, hk, rfl, hred, hf, hl, R, S, hB, hsw⟩ := hrel
    have hLk := redT_len _ _ _ _ hred
    have HR := Lib.hid R
    have HS := Lib.hid S
    have HB := Lib.hid hB
    have HF := Lib.hid hf
    have HRED := Lib.hid hred
    clear R hB hf hbd HR0 HB0 S HS0 hred
    by_cases hlt : k < n
    · have HFS := Lib.hid (firstStep_any HR.out hn8 hl HF.out (HT.out.below HB.out))
      have HDO : Hid (∀ (x : Nat) (q1 q2 q3 q4 : Int) (W : World), x < n → stpB n f left (x : Nat) = true → stpO' n f left (x : Nat) = .agg #[.int .i64 q1, .int .i64 q2, .int .i64 q3, .int .i64 q4] → Below wr.heap.size wr W → stZ n f x = (q1, q2, q3, q4) ∧ Calls Tryd.prog 96 #[ptrV pb, .agg #[.int .i64 q1, .int .i64 q2, .int .i64 q3, .int .i64 q4]] W fun e w' => e = .returned (.tuple #[]) ∧ RestAt w' pb g c w.heap.size n (doF n f x) (diff left (2 ^ x)) ∧ Kep W w' pb (.slice (some ⟨g, 0, none⟩) n c) ∧ Below w.heap.size w w') := Lib.hid fun x q1 q2 q3 q4 W hx hsb hov hW => by
        have hz : stZ n f x = (q1, q2, q3, q4) := by
          have h := stpO_yes hsb
          rw [hov] at h
          have h2 : (#[.int .i64 q1, .int .i64 q2, .int .i64 q3, .int .i64 q4] : Array Value) = (stC (stZ n f x)).toArray := by injection h
          have h3 := congrArg Array.toList h2
          unfold stC at h3
          simp only [List.cons.injEq, Value.int.injEq, true_and, and_true] at h3
          exact Prod.ext h3.1.symm (Prod.ext h3.2.1.symm (Prod.ext h3.2.2.1.symm h3.2.2.2.symm))
        have hk2 : szS n (f x) ≤ 2 := by
          unfold stpB at hsb
          simp only [Bool.and_eq_true, decide_eq_true_eq] at hsb
          exact hsb.2.2
        have h := do_any (HR.out.below hW) hn8 hl HF.out hx hk2 HT.out (HB.out.trans (hW.mono HB.out.size)) (Nat.le_refl _) hpb HR.out.ne
        rw [stpV_eq, hz] at h
        exact ⟨hz, h⟩
      have hml : L.length + 1 ≤ 1000 := by omega
      cases hfx : fstS n f left with
      | none =>
        have HF1 : Hid (Calls Tryd.prog 95 #[ptrV pb] wr fun e w' => e = .returned (.tuple #[.agg #[.int .i64 0, .int .i64 0, .int .i64 0, .int .i64 0], .bool false]) ∧ Below wr.heap.size wr w') := Lib.hid (HFS.out.mono fun e w' ⟨h, hb⟩ => ⟨by
          rcases h with ⟨x, hx, hsb, hno, rfl⟩ | ⟨hno, rfl⟩
          · rw [fst_some hx hsb hno] at hfx; cases hfx
          · rfl, hb⟩)
        have HN : Hid (redT n r n = none) := Lib.hid (redT_none (k := k + 1) (by unfold redT; rw [HRED.out]; simp only [hfx]) n (by omega))
        clear hfx HFS HDO
        go_wp2_with (go_at_call 95; refine HF1.out.mono ?_; rintro e w3 ⟨rfl, hb3⟩; have HB3 := Lib.hid hb3; clear hb3)
        refine bodyPost_ret (results_tmp2 rfl _ _ _) rfl ⟨by unfold RedPost; rw [HN.out]; rfl, (HB.out.trans (HB3.out.mono HB.out.size)).alloc (Nat.le_trans HB.out.size HB3.out.size) _⟩
      | some x =>
        have hxs : x < n ∧ stpB n f left (x : Nat) = true := by
          unfold fstS at hfx
          rw [List.find?_range_eq_some] at hfx
          exact ⟨List.mem_range.1 hfx.2.1, hfx.1⟩
        obtain ⟨hx, hsb⟩ := hxs
        obtain ⟨q1, q2, q3, q4, hov⟩ := stpO_form n f left x
        have HF1 : Hid (Calls Tryd.prog 95 #[ptrV pb] wr fun e w' => e = .returned (.tuple #[.agg #[.int .i64 q1, .int .i64 q2, .int .i64 q3, .int .i64 q4], .bool true]) ∧ Below wr.heap.size wr w') := Lib.hid (HFS.out.mono fun e w' ⟨h, hb⟩ => ⟨by
          rcases h with ⟨x', hx', hsb', hno', rfl⟩ | ⟨hno, rfl⟩
          · rw [fst_some hx' hsb' hno'] at hfx
            cases hfx
            rw [hov]
          · rw [fst_none hno] at hfx; exact absurd hfx (by simp), hb⟩)
        have HD1 := Lib.hid fun W hW => (HDO.out x q1 q2 q3 q4 W hx hsb hov hW).2
        have HZ := Lib.hid (HDO.out x q1 q2 q3 q4 wr hx hsb hov (Below.refl _ _)).1
        have HN : Hid (redT n r (k + 1) = some (doF n f x, diff left (2 ^ x), L ++ [stZ n f x])) := Lib.hid (by unfold redT; rw [HRED.out]; simp only [hfx])
        have HFX := Lib.hid (doF_lt hn8 HF.out hx)
        clear hfx HFS HDO hsb hov
        go_wp2_with (first
          | (at_builtin; refine wpList_append_own _ rfl _ _ 42 rfl w1.heap.size 88 i1 (.agg #[.int .i64 0, .int .i64 0, .int .i64 0, .int .i64 0]) 4 32 Tryd.underlying42 hi1 hy1 hy2 hy3 rfl (by decide) _ _ _ rfl (World.ownsRow.alloc (show World.ownsRow _ w1.heap.size 88 4 _ L.length (stL L) from HS5.out) _) ⟨_, 0, none⟩ 1 1 [.int .i64 q1, .int .i64 q2, .int .i64 q3, .int .i64 q4] rfl rfl ?c1 ?c2 ?c3 ?c4 ?c5 ?_)
          | (go_at_call 95; refine HF1.out.mono ?_; rintro e w3 ⟨rfl, hb3⟩; obtain ⟨w4, hw4, r4, hb4, hs4⟩ := new1 w3 88 [.int .i64 q1, .int .i64 q2, .int .i64 q3, .int .i64 q4]; have hW4 := hw4.symm; have z0 := r4.cell (i := 0) rfl; have z1 := r4.cell (i := 1) rfl; have z2 := r4.cell (i := 2) rfl; have z3 := r4.cell (i := 3) rfl; have HB4 := Lib.hid (hb3.trans (hb4.mono hb3.size)); have HS3 := Lib.hid hb3.size; have HR4 := Lib.hid r4; clear hb3 hb4 hw4 r4)
          | (go_at_call 96; refine (HD1.out _ HB4.out).mono ?_; rintro e w5 ⟨rfl, hr5, hk5, hb5⟩; have t5 := hk5.row HR4.out (by have := HS3.out; omega) (by have := HS3.out; simp [Value.ownBlock]; omega); have v0 := t5.cell (i := 0) rfl; have v1 := t5.cell (i := 1) rfl; have v2 := t5.cell (i := 2) rfl; have v3 := t5.cell (i := 3) rfl; have HS5 : Hid (StepsOwn 88 w5 w1.heap.size u5 L) := Lib.hid ((HS.out.below HB4.out).keep (fun b hb1 hb2 => hk5.same b hb2 (by omega) (by simp [Value.ownBlock]; omega))); have HR5 := Lib.hid hr5; have HK5 := Lib.hid hk5.size; have HS4 := Lib.hid hs4; have HB5 := Lib.hid hb5; clear hr5 hb5 hk5 t5 hs4))
        case c1 => exact cells_new _ _ _
        case c2 => intro u hu; simp at hu; rcases hu with rfl | rfl | rfl | rfl <;> rfl
        case c3 => unfold maxLen; omega
        case c4 => omega
        case c5 => have h1 := HK5.out; have h2 := HS3.out; have h3 := HS4.out; simp; omega
        intro v6 w6 hown6 hg6 _
        have HO6 : Hid (StepsOwn 88 w6 w1.heap.size v6 (L ++ [stZ n f x])) := Lib.hid (StepsOwn.snoc (by rw [HZ.out, hLk]; exact hown6))
        have hlt5 : ∀ b, some b = u5.ownBlock → w1.heap.size ≤ b := fun b e => (World.ownsRow.lt (show World.ownsRow _ _ _ _ _ _ _ from HS5.out) b e.symm).1
        have hpl5 : pb < w5.heap.size := HR5.out.row.lt
        have hgl5 : g < w5.heap.size := (World.ownsRow.lt HR5.out.near g rfl).2
        have HR6 : Hid (RestAt w6 pb g c w.heap.size n (doF n f x) (diff left (2 ^ x))) := Lib.hid (HR5.out.keep
          ((hg6.block pb (by simp; omega) (fun e => by have := hlt5 pb e; omega)).trans (Below.heap_alloc _ _ _ hpl5))
          ((hg6.block g (by simp; omega) (fun e => by have := hlt5 g e; omega)).trans (Below.heap_alloc _ _ _ hgl5)))
        have HB6 := Lib.hid ((HB5.out.alloc HB5.out.size _).grown hg6 (by have := HB5.out.size; simp; omega) (fun b hb => Nat.le_trans hs1 (hlt5 b hb.symm)))
        have hs6 : w1.heap.size ≤ w6.heap.size := by
          have h1 := hg6.size
          have h2 := HK5.out
          have h3 := HS3.out
          have h4 := HS4.out
          simp at h1
          omega
        clear hown6 hg6 hlt5
        go_wp2_with fail
        go_roundw
        case rel => exact ⟨k + 1, doF n f x, diff left (2 ^ x), L ++ [stZ n f x], by omega, by go_num, HN.out, HFX.out, Nat.lt_of_le_of_lt (diff_le _ _) hl, HR6.out, HO6.out, HB6.out, hs6⟩
        case measure => simp [intOf]; omega
    · have hke : k = n := by omega
      subst hke
      go_wp2_with fail
      exact bodyPost_ret (results_tmp2 rfl _ _ _) rfl ⟨by unfold RedPost; rw [HRED.out]; exact ⟨_, rfl, ownsRow_low HS.out hs1⟩, HB.out⟩

end Go.Proofs.YtahbaeajnppjfaaDoor
