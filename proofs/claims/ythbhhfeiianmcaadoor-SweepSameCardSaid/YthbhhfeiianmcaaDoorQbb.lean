/- The contract of package sweep's clearAt. -/
import Derived.Test.YthbhhfeiianmcaaDoorQba
namespace Go.Proofs.YthbhhfeiianmcaaDoor
set_option linter.unusedSimpArgs false
set_option linter.unusedVariables false
open Go.RowKit Go.Maps
attribute [local go_sem] i64_bit toNat_eq_one toNat_ne_one toNat_eq_zero toNat_ne_zero i64_and i64_or i64_andNot i64_or_pow i64_andNot_pow

/-- What is smoky when a guard has come to a node, of which the streets to some nodes are done. -/
def clrS (S : Nat → Nat) (H v : Nat) (pre : List Nat) (x : Nat) : Nat := if x ∈ pre then diff (if x = v then diff (S v) H else S x) (2 ^ v) else if x = v then diff (S v) H else S x
theorem keeps_storeI (B : Nat) (W : World) (nq b i : Nat) (v : Value) : KeepsFrom B W ((W.drewN nq).setCell ⟨b, i, none⟩ v) :=
  ⟨(KeepsOthers.setCell (W.drewN nq) ⟨b, i, none⟩ v).size, fun k o _ hk ho => (KeepsOthers.setCell (W.drewN nq) ⟨b, i, none⟩ v).same k o hk ho⟩
theorem diff_ltc {a b c : Nat} (h : a < c) : diff a b < c := Nat.lt_of_le_of_lt (diff_le _ _) h
theorem diff_twice (a b : Nat) : diff (diff a b) b = diff a b := by
  apply Nat.eq_of_testBit_eq
  intro i
  rw [testBit_diff, testBit_diff]
  cases a.testBit i <;> cases b.testBit i <;> rfl
theorem clrS_nil {S : Nat → Nat} {H v : Nat} (x : Nat) : clrS S H v [] x = if x = v then diff (S v) H else S x := by
  unfold clrS; rw [if_neg (by simp)]
theorem clrS_snoc {S : Nat → Nat} {H v x : Nat} {pre : List Nat} (i : Nat) : clrS S H v (pre ++ [x]) i = if i = x then diff (clrS S H v pre x) (2 ^ v) else clrS S H v pre i := by
  unfold clrS
  by_cases e : i = x
  · subst e
    rw [if_pos (by simp), if_pos rfl]
    by_cases h : i ∈ pre
    · rw [if_pos h, diff_twice]
    · rw [if_neg h]
  · rw [if_neg e]
    by_cases h : i ∈ pre
    · rw [if_pos (by simp [h]), if_pos h]
    · rw [if_neg (by simp [h, e]), if_neg h]
theorem clrS_lt {S : Nat → Nat} {n H v : Nat} {pre : List Nat} (hS : ∀ x, x < n → S x < 2 ^ n) {x : Nat} (hx : x < n) (hv : v < n) : clrS S H v pre x < 2 ^ n := by
  have h1 : (if x = v then diff (S v) H else S x) < 2 ^ n := by
    split
    · exact diff_ltc (hS v hv)
    · exact hS x hx
  unfold clrS
  split
  · exact diff_ltc h1
  · exact h1
section
attribute [local go_sem] Oper.semAt_some wide_fn wide_fn_in
set_option maxRecDepth 100000 in
set_option maxHeartbeats 4000000 in
theorem clearAt_any {n : Nat} {S : Nat → Nat} {wB w : World} {pb sb sc H v : Nat} {tv h1 h2 : Value} (hn7 : n ≤ 7) (hrow : Row w pb 93 [tv, .slice (some ⟨sb, 0, none⟩) n sc, .int .i64 (H : Nat), h1, h2, .bool false]) (hm : SmoAt w sb n S) (hne : pb ≠ sb) (hS : ∀ x, x < n → S x < 2 ^ n) (hH : H < 2 ^ n) (hv : v < n) (hT : Tab wB) (hBw : Below wB.heap.size wB w) (hpB : wB.heap.size ≤ pb) (hsB : wB.heap.size ≤ sb) :
    Calls Tryd.prog 99 #[.pointer (some ⟨pb, 0, none⟩), .int .i64 v] w fun e w' => e = .returned (.tuple #[]) ∧ Row w' pb 93 [tv, .slice (some ⟨sb, 0, none⟩) n sc, .int .i64 (H : Nat), h1, h2, .bool false] ∧ SmoAt w' sb n (clrS S H v (bitsOf H)) ∧ Below wB.heap.size wB w' := by
  have HR := Lib.hid hrow
  have HM := Lib.hid hm
  have HT := Lib.hid hT
  have HS := Lib.hid hS
  have h7 := pow_le7 hn7
  have lp := hrow.lt
  have lm := hm.lt
  have hSv := hS v hv
  have hSv16 : S v < 65536 := by omega
  have hH16 : H < 65536 := by omega
  have hv16 : v < 16 := by omega
  have hv64 : v < 64 := by omega
  have hpw := pow_bd v hv16
  have hszB := hBw.size
  obtain ⟨w0, hw0, r2, r3, hb0, hsz⟩ := new2 w 89 3 [.pointer (some ⟨pb, 0, none⟩)] [.int .i64 v]
  have R1 := HR.out.below hb0 lp
  have M1 := HM.out.below hb0 lm
  have c0 := R1.cell (i := 0) rfl
  have c1 := R1.cell (i := 1) rfl
  have c2 := R1.cell (i := 2) rfl
  have cv := M1.cell hv
  have fv := M1.free v
  have lv := M1.lt
  have b2 := r2.cell (i := 0) rfl
  have b3 := r3.cell (i := 0) rfl
  have HB0 := Lib.hid (hBw.trans (hb0.mono hszB))
  have hns : sb ≠ w.heap.size := by omega
  have hns1 : sb ≠ w.heap.size + 1 := by omega
  clear hrow hm hT hS hBw
  refine (callsIn_wide (n := 9)).1 ?_
  refine callsIn_of_wp_marks Tryd.func99 rfl trivial ?_ rfl
  simp only [Tryd.ntmps99, List.size_toArray, List.length_cons, List.length_nil, Nat.reduceAdd, Nat.reduceSub, Array.replicate_succ, Array.replicate_zero, List.push_toArray, List.append_toArray, List.nil_append, List.cons_append]
  gi_wp2
  rw [← hw0]
  clear hw0
  refine last_round (by kernel_rfl) rfl (by kernel_rfl) (by kernel_rfl) (by kernel_rfl) ?_
  dsimp only [initOf, lastOf]
  repeat (gi_big_quiet_step ((fail)))
  refine wpQuietIn_nil ?_
  rintro _ ⟨nq, rfl⟩
  gi_wp2
  gi_wp2_with (gi_at_call 74; refine (callsIn_wide.2 (nodes_any _ _)).mono ?_; rintro e w1 ⟨rfl, rfl⟩)
  have q2 := (r2.drewN nq).other (a := ⟨sb, v, none⟩) (Ne.symm hns) (.int .i64 (diff (S v) H : Nat))
  have q3 := (r3.drewN nq).other (a := ⟨sb, v, none⟩) (Ne.symm hns1) (.int .i64 (diff (S v) H : Nat))
  have qR := (R1.drewN nq).other (a := ⟨sb, v, none⟩) hne (.int .i64 (diff (S v) H : Nat))
  have qM := ((M1.drewN nq).set hv (diff (S v) H)).mono (S' := clrS S H v []) (fun i _ => clrS_nil i)
  have qB := (below_drewN HB0.out nq).setCell (p := ⟨sb, v, none⟩) hsB (.int .i64 (diff (S v) H : Nat))
  have hW1 : ((w0.drewN nq).setCell ⟨sb, v, none⟩ (.int .i64 (diff (S v) H : Nat))).heap.size = w0.heap.size := by simp [World.setCell]
  generalize (w0.drewN nq).setCell ⟨sb, v, none⟩ (.int .i64 (diff (S v) H : Nat)) = W1 at *
  obtain ⟨wn, hwn, rs, hbn, hszn⟩ := new1 W1 3 [.int .i64 H]
  rw [← hwn]
  rw [hW1] at rs
  clear hwn
  have p2 := q2.below hbn q2.lt
  have p3 := q3.below hbn q3.lt
  have pR := qR.below hbn qR.lt
  have pM := qM.below hbn qM.lt
  have hbw := qB.trans (hbn.mono qB.size)
  refine range_nodes (nodes_seq H (by omega) _ wn (by omega) (rs.cell (i := 0) rfl) (HT.out.below hbw)) Tab.put (Below.refl _ _) rfl (enters_of Tryd.func96 (by kernel_rfl) rfl) rfl
    (fun pre W => Row W w.heap.size 89 [.pointer (some ⟨pb, 0, none⟩)] ∧ Row W (w.heap.size + 1) 3 [.int .i64 v] ∧ Row W pb 93 [tv, .slice (some ⟨sb, 0, none⟩) n sc, .int .i64 (H : Nat), h1, h2, .bool false] ∧ SmoAt W sb n (clrS S H v pre) ∧ Below wB.heap.size wB W)
    (fun _ _ _ => False)
    (((own_row _ _ _).from _).and (((own_row _ _ _).from _).and (((own_row _ _ _).from _).and ((ownFrom_smo _ _ _ _).and (ownFrom_below (Nat.le_refl _) hbw.size)))))
    (fun c => ownFrom_pure _ _)
    ⟨p2, p3, pR, pM, hbw⟩ (fun _ W h => HT.out.below h.2.2.2.2) ?a1 ?assign ?body ?done ?stop
  case assign =>
    intro l x W K hx hK
    gi_wp2
    exact hK
  case body =>
    rintro l pre x W hx hpx ⟨o2, o3, oR, oM, hB⟩
    have hxn := bitsOf_lt hH hx
    have hcl := clrS_lt (H := H) (pre := pre) HS.out hxn hv
    have hcl16 : clrS S H v pre x < 65536 := by omega
    have HSN := Lib.hid (fun i => clrS_snoc (S := S) (H := H) (v := v) (x := x) (pre := pre) i)
    have c0 := oR.cell (i := 0) rfl
    have c1 := oR.cell (i := 1) rfl
    have c2 := oR.cell (i := 2) rfl
    have cx := oM.cell hxn
    have fx := oM.free x
    have lx := oM.lt
    have b2 := o2.cell (i := 0) rfl
    have b3 := o3.cell (i := 0) rfl
    generalize hc : clrS S H v pre x = cur at *
    gi_wp2
    refine last_round (by kernel_rfl) rfl (by kernel_rfl) (by kernel_rfl) (by kernel_rfl) ?_
    dsimp only [initOf, lastOf]
    repeat (gi_big_quiet_step ((fail)))
    refine wpQuietIn_nil ?_
    rintro _ ⟨nq, rfl⟩
    gi_wp2
    refine ⟨keeps_storeI _ W _ _ _ _, (o2.drewN _).other (Ne.symm hns) _, (o3.drewN _).other (Ne.symm hns1) _, (oR.drewN _).other hne _, ((oM.drewN _).set hxn _).mono (fun i _ => ?_), (below_drewN hB _).setCell (p := ⟨sb, x, none⟩) hsB _⟩
    rw [HSN.out i]
  case done =>
    rintro D W hD ⟨o2, o3, oR, oM, hB⟩ hK
    obtain ⟨CL, oc, hCL⟩ := oM
    exact leaves_marks (B := wB.heap.size) (Marks.one (Nat.le_trans hbw.size hD) hK) (fun w' hs => ⟨_, results_none rfl _ _ _, rfl, hs.row oR, ⟨CL, hs.row oc, hCL⟩, hB.trans hs.below⟩)
  case stop => exact fun _ _ _ _ _ _ h _ => h.elim
end
end Go.Proofs.YthbhhfeiianmcaaDoor
