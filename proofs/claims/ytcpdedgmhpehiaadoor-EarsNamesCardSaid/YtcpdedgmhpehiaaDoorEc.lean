/- The contracts of package ears' reach, isPart, count, isConnected. -/
import Derived.Test.YtcpdedgmhpehiaaDoorEb
import Derived.Test.YtcpdedgmhpehiaaDoorW1
namespace Go.Proofs.YtcpdedgmhpehiaaDoor
set_option linter.unusedSimpArgs false
set_option linter.unusedVariables false
open Go.RowKit Go.Maps
attribute [local go_sem] i64_bit toNat_eq_one toNat_ne_one toNat_eq_zero toNat_ne_zero i64_and i64_or i64_andNot i64_or_pow i64_andNot_pow

/-- What one sweep over some found nodes finds. -/
def stepF (r : Nat → Nat) (within f : Nat) (pre : List Nat) : Nat := pre.foldl (fun acc u => acc ||| (r u &&& within)) f
theorem stepF_snoc (r : Nat → Nat) (within f : Nat) (pre : List Nat) (x : Nat) : stepF r within f (pre ++ [x]) = stepF r within f pre ||| (r x &&& within) := by simp [stepF]
theorem testBit_stepF (r : Nat → Nat) (within : Nat) : ∀ (pre : List Nat) (f i : Nat), (stepF r within f pre).testBit i = true ↔ f.testBit i = true ∨ ∃ u ∈ pre, (r u).testBit i = true ∧ within.testBit i = true := by
  intro pre
  induction pre with
  | nil => intro f i; simp [stepF]
  | cons u pre ih =>
    intro f i
    show (stepF r within (f ||| (r u &&& within)) pre).testBit i = true ↔ _
    rw [ih, Nat.testBit_or, Nat.testBit_and, Bool.or_eq_true, Bool.and_eq_true]
    simp only [List.mem_cons, exists_eq_or_imp]
    rw [or_assoc]
theorem stepF_lt {r : Nat → Nat} {within n : Nat} (hw : within < 2 ^ n) : ∀ (pre : List Nat) {f : Nat}, f < 2 ^ n → stepF r within f pre < 2 ^ n := by
  intro pre
  induction pre with
  | nil => intro f hf; exact hf
  | cons u pre ih => intro f hf; exact ih (Nat.or_lt_two_pow hf (Nat.lt_of_le_of_lt Nat.and_le_right hw))

theorem pow_le10 {n : Nat} (h : n ≤ 10) : 2 ^ n ≤ 1024 := by
  have : 2 ^ n ≤ 2 ^ 10 := Nat.pow_le_pow_right (by omega) h
  simpa using this

section
attribute [local go_sem] Oper.semAt_some wide_fn wide_fn_in
set_option maxRecDepth 100000 in
set_option maxHeartbeats 2000000 in
theorem reach_any {n : Nat} {r : Nat → Nat} {a : Option Addr} {w : World} (G : GrAt w a n r) (hn10 : n ≤ 10) (hr : ∀ i, i < n → r i < 2 ^ n) (cap v within : Nat) (hv : v < n) (hwi : within < 2 ^ n) (hT : Tab w) :
    Calls Tryd.prog 107 #[.slice a n cap, .int .i64 v, .int .i64 within] w fun e w' => e = .returned (.int .i64 (partS n r within v : Nat)) ∧ Below w.heap.size w w' := by
  obtain ⟨hml, hI⟩ := G.ints
  obtain ⟨b, off, rfl, hlt, hc⟩ := hI G.pos
  have h10 := pow_le10 hn10
  have hw16 : within < 65536 := by omega
  have hbc : ∀ wx, Below w.heap.size w wx → ∀ i, i < n → wx.cell? ⟨b, off + i, none⟩ = some (.int .i64 (r i : Nat)) := fun wx hb i hi => by rw [hb.cell (p := ⟨b, off + i, none⟩) hlt]; exact hc i hi
  have HC := Lib.hid hbc
  have HR := Lib.hid hr
  have HT := Lib.hid hT
  have hv64 : v < 64 := by omega
  have hpb := pow_bd v (by omega)
  have HPC := Lib.hid (pow_cast v)
  unfold maxLen at hml
  clear hbc hc hI hr hT G
  refine (callsIn_wide (n := 9)).1 ?_
  refine callsIn_of_wp_marks Tryd.func107 rfl trivial ?_ rfl
  simp only [Tryd.ntmps107, List.size_toArray, List.length_cons, List.length_nil, Nat.reduceAdd, Nat.reduceSub, Array.replicate_succ, Array.replicate_zero, List.push_toArray, List.append_toArray, List.nil_append, List.cons_append]
  obtain ⟨w0, hw0, r3, r5, hb0, hsz⟩ := new2 w 22 3 [.slice (some ⟨b, off, none⟩) n cap] [.int .i64 within]
  gi_wp2
  rw [← hw0, HPC.out]
  clear hw0
  refine wpIn_loop (fun a' wr => ∃ (ds : List Deferred) (u0 u1 u2 u3 u4 u5 u6 u7 u8 u9 u10 u11 u12 u13 u14 u15 u16 u17 u18 u19 u20 u21 u22 u23 u24 u25 u26 u27 u28 : Value), (∃ f : Nat, u7 = .int .i64 (f : Nat) ∧ f < 2 ^ n ∧ f.testBit v = true ∧ (∀ i, f.testBit i = true → (partS n r within v).testBit i = true) ∧ u3 = .pointer (some ⟨w.heap.size, 0, none⟩) ∧ u5 = .pointer (some ⟨w.heap.size + 1, 0, none⟩) ∧ Marks w.heap.size wr ds ∧ Row wr w.heap.size 22 [.slice (some ⟨b, off, none⟩) n cap] ∧ Row wr (w.heap.size + 1) 3 [.int .i64 within] ∧ Below w.heap.size w wr) ∧ a' = { tmps := #[u0, u1, u2, u3, u4, u5, u6, u7, u8, u9, u10, u11, u12, u13, u14, u15, u16, u17, u18, u19, u20, u21, u22, u23, u24, u25, u26, u27, u28], defers := ds }) (fun a' wr => n - szS n (intOf (a'.tmps.getD 7 undef)).toNat) ?_ ?_
  ·
    refine ⟨_, _, _, _, _, _, _, _, _, _, _, _, _, _, _, _, _, _, _, _, _, _, _, _, _, _, _, _, _, _, ?_, rfl⟩
    exact ⟨2 ^ v, rfl, pow_lt_pow hv, bit_pow v, fun i h => by
      rw [Nat.testBit_two_pow] at h
      have h2 : v = i := of_decide_eq_true h
      subst h2; exact partS_self, rfl, rfl, trivial, r3, r5, hb0⟩
  ·
    rintro a' wr ⟨ds, u0, u1, u2, u3, u4, u5, u6, u7, u8, u9, u10, u11, u12, u13, u14, u15, u16, u17, u18, u19, u20, u21, u22, u23, u24, u25, u26, u27, u28, hrel, rfl⟩
    dsimp only
    obtain ⟨f, rfl, hf, hfv, hfp, rfl, rfl, hM, q3, q5, hbr⟩ := hrel
    have HM := Lib.hid hM
    have HFV := Lib.hid hfv
    have HFP := Lib.hid hfp
    clear hM hfv hfp r3 r5 hb0 hsz hpb
    gi_wp2_with (gi_at_call 91; refine (callsIn_wide.2 (nodes_any _ _)).mono ?_; rintro e w1 ⟨rfl, rfl⟩)
    obtain ⟨wn, hwn, rw_, rs, hbn, hszn⟩ := new2 wr 3 3 [.int .i64 f] [.int .i64 f]
    rw [← hwn]
    have p3 := q3.below hbn q3.lt
    have p5 := q5.below hbn q5.lt
    have hbw := hbr.trans (hbn.mono hbr.size)
    refine range_nodes (nodes_seq f (by omega) _ wn hszn (rs.cell (i := 0) rfl) (HT.out.below hbw)) Tab.put (Below.refl _ _) rfl (enters_of Tryd.func124 (by kernel_rfl) rfl) rfl
      (fun pre W => Row W wr.heap.size 3 [.int .i64 (stepF r within f pre : Nat)] ∧ Row W w.heap.size 22 [.slice (some ⟨b, off, none⟩) n cap] ∧ Row W (w.heap.size + 1) 3 [.int .i64 within] ∧ KeepsFrom w.heap.size wr W ∧ Below w.heap.size w W)
      (fun _ _ _ => False)
      (((own_row _ _ _).from _).and (((own_row _ _ _).from _).and (((own_row _ _ _).from _).and ((ownFrom_keepsFrom hbn.size).and (ownFrom_below (Nat.le_refl _) hbw.size)))))
      (fun c => ownFrom_pure _ _)
      ⟨rw_, p3, p5, keeps_below hbn, hbw⟩ (fun _ W h => HT.out.below h.2.2.2.2) ?a1 ?assign ?body ?done ?stop
    case assign =>
      intro l x W K hx hK
      gi_wp2
      exact hK
    case body =>
      rintro l pre x W hx _ ⟨ow, o3, o5, hKF, hB⟩
      have hxn := bitsOf_lt hf hx
      have cx := HC.out W hB x hxn
      have hrx := HR.out x hxn
      have HST := Lib.hid (stepF_snoc r within f pre x)
      have hst : stepF r within f pre < 65536 := Nat.lt_of_lt_of_le (stepF_lt hwi pre hf) (by omega)
      generalize stepF r within f pre = g at *
      have hand : r x &&& within < 65536 := Nat.lt_of_le_of_lt Nat.and_le_right hw16
      have hrx16 : r x < 65536 := by omega
      have cw := ow.cell (i := 0) rfl
      have c3 := o3.cell (i := 0) rfl
      have c5 := o5.cell (i := 0) rfl
      have fw := ow.free 0
      have lw := ow.lt
      gi_wp2
      refine last_round (by kernel_rfl) rfl (by kernel_rfl) (by kernel_rfl) (by kernel_rfl) ?_
      dsimp only [initOf, lastOf]
      repeat (gi_big_quiet_step ((fail)))
      refine wpQuietIn_nil ?_
      rintro _ ⟨nq, rfl⟩
      gi_wp2
      exact ⟨keeps_store _ _ _ _ _, by rw [HST.out]; exact (ow.drewN nq).set 0 _, (o3.drewN nq).other (Nat.ne_of_lt (Nat.lt_of_lt_of_le q3.lt (Nat.le_refl _))) _, (o5.drewN nq).other (Nat.ne_of_lt (Nat.lt_of_lt_of_le q5.lt (Nat.le_refl _))) _, hKF.trans (keeps_store _ _ _ _ _), (below_drewN hB nq).setCell (p := ⟨wr.heap.size, 0, none⟩) hbr.size _⟩
    case done =>
      rintro D W hD ⟨ow, o3, o5, hKF, hB⟩ hK
      have hst := stepF_lt (r := r) hwi (bitsOf f) hf
      have HIT := Lib.hid (testBit_stepF r within (bitsOf f) f)
      have HM2 := Lib.hid (HM.out.push hKF hbr.size (Nat.le_trans hbn.size hD) hK)
      generalize stepF r within f (bitsOf f) = g at *
      have cw := ow.cell (i := 0) rfl
      by_cases hq : g = f
      · subst hq
        have HE : Hid (g = partS n r within v) := Lib.hid (partS_is hv HR.out HFV.out HFP.out (fun u hu h1 x h2 h3 => (HIT.out x).2 (Or.inr ⟨u, mem_bitsOf.2 ⟨by omega, h1⟩, h2, h3⟩)))
        gi_wp2
        exact leaves_marks HM2.out (fun w' hs => ⟨_, results_tmp rfl _ _ _, by rw [← HE.out]; rfl, hB.trans hs.below⟩)
      · have hne : ((g : Int) == (f : Int)) = false := by rw [cast_beq]; simpa using hq
        have HGP := Lib.hid (show ∀ i, g.testBit i = true → (partS n r within v).testBit i = true from fun i h => by
          rcases (HIT.out i).1 h with h1 | ⟨u, hu, h1, h2⟩
          · exact HFP.out i h1
          · obtain ⟨hu1, hu2⟩ := mem_bitsOf.1 hu
            exact partS_closed hv HR.out u (bitsOf_lt hf hu) (HFP.out u hu2) i h1 h2)
        have HGV := Lib.hid ((HIT.out v).2 (Or.inl HFV.out))
        have HLT := Lib.hid (show szS n f < szS n g from by
          obtain ⟨i, h1, h2⟩ : ∃ i, f.testBit i = false ∧ g.testBit i = true := by
            apply Classical.byContradiction
            intro hno
            refine hq (Nat.eq_of_testBit_eq fun i => ?_)
            cases hf2 : f.testBit i
            · cases hg2 : g.testBit i
              · rfl
              · exact absurd ⟨i, hf2, hg2⟩ hno
            · exact (HIT.out i).2 (Or.inl hf2)
          have hin : i < n := by
            apply Classical.byContradiction
            intro hx
            have := Nat.testBit_lt_two_pow (i := i) (Nat.lt_of_lt_of_le hst (Nat.pow_le_pow_right (by omega) (by omega)))
            rw [this] at h2; cases h2
          exact szS_lt (fun j _ hj => (HIT.out j).2 (Or.inl hj)) hin h1 h2)
        have HLE := Lib.hid (szS_le n g)
        gi_wp2
        refine ⟨⟨_, _, _, _, _, _, _, _, _, _, _, _, _, _, _, _, _, _, _, _, _, _, _, _, _, _, _, _, _, _, ?_, rfl⟩, ?_⟩
        · exact ⟨g, rfl, hst, HGV.out, HGP.out, rfl, rfl, HM2.out, o3, o5, hB⟩
        · have h1 := HLT.out
          have h2 := HLE.out
          simp [intOf]; omega
    case stop => exact fun _ _ _ _ _ _ h _ => h.elim
end

theorem isPart_any (a b : Nat) (w : World) (ha : a < 65536) (hb : b < 65536) :
    Calls Tryd.prog 117 #[.int .i64 a, .int .i64 b] w fun e w' => e = .returned (.bool (diff a b == 0)) ∧ w = w' := by
  have hd := diff_lt (b := b) ha
  go_enter Tryd.func117, Tryd.ntmps117
  go_wp2
  go_ret
  exact ⟨by rw [← cast_beq0]; rfl, rfl⟩

end Go.Proofs.YtcpdedgmhpehiaaDoor
