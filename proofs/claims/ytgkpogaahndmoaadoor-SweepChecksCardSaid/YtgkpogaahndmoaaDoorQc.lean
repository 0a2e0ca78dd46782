/- The contract of package sweep's border. -/
import Derived.Test.YtgkpogaahndmoaaDoorQb
import Derived.Test.YtgkpogaahndmoaaDoorQt2
namespace Go.Proofs.YtgkpogaahndmoaaDoor
set_option linter.unusedSimpArgs false
set_option linter.unusedVariables false
open Go.RowKit Go.Maps
attribute [local go_sem] i64_bit toNat_eq_one toNat_ne_one toNat_eq_zero toNat_ne_zero i64_and i64_or i64_andNot i64_or_pow i64_andNot_pow

theorem pow_le7 {n : Nat} (h : n ≤ 7) : 2 ^ n ≤ 128 := by
  have : 2 ^ n ≤ 2 ^ 7 := Nat.pow_le_pow_right (by omega) h
  simpa using this

section
attribute [local go_sem] Oper.semAt_some wide_fn wide_fn_in
set_option maxRecDepth 100000 in
set_option maxHeartbeats 2000000 in
theorem border_any {n : Nat} {r : Nat → Nat} {a : Option Addr} {w : World} (G : GrAt w a n r) (hn7 : n ≤ 7) (hr : ∀ i, i < n → r i < 2 ^ n) (cap set : Nat) (hset : set < 2 ^ n) (hT : Tab w) :
    Calls Tryd.prog 77 #[.slice a n cap, .int .i64 set] w fun e w' => e = .returned (.int .i64 (bord r set : Nat)) ∧ Below w.heap.size w w' := by
  obtain ⟨hml, hI⟩ := G.ints
  obtain ⟨b, off, rfl, hlt, hc⟩ := hI G.pos
  have h7 := pow_le7 hn7
  have hs16 : set < 65536 := by omega
  have hbc : ∀ wx, Below w.heap.size w wx → ∀ i, i < n → wx.cell? ⟨b, off + i, none⟩ = some (.int .i64 (r i : Nat)) := fun wx hb i hi => by rw [hb.cell (p := ⟨b, off + i, none⟩) hlt]; exact hc i hi
  have HC := Lib.hid hbc
  have HR := Lib.hid hr
  have HT := Lib.hid hT
  unfold maxLen at hml
  clear hbc hc hI hr hT G
  refine (callsIn_wide (n := 9)).1 ?_
  refine callsIn_of_wp_marks Tryd.func77 rfl trivial ?_ rfl
  simp only [Tryd.ntmps77, List.size_toArray, List.length_cons, List.length_nil, Nat.reduceAdd, Nat.reduceSub, Array.replicate_succ, Array.replicate_zero, List.push_toArray, List.append_toArray, List.nil_append, List.cons_append]
  obtain ⟨w0, hw0, r2, r3, r5, hb0, hsz⟩ := new3 w 76 3 3 [.slice (some ⟨b, off, none⟩) n cap] [.int .i64 set] [.int .i64 0]
  have e0 : w0.heap.size = w.heap.size + 1 + 1 + 1 := by rw [hw0]; simp
  obtain ⟨wn, hwn, rs, hbn, hszn⟩ := new1 w0 3 [.int .i64 set]
  rw [e0] at rs hszn
  gi_wp2_with (gi_at_call 74; refine (callsIn_wide.2 (nodes_any _ _)).mono ?_; rintro e w1 ⟨rfl, rfl⟩)
  rw [← hw0, ← hwn]
  have p2 := r2.below hbn r2.lt
  have p3 := r3.below hbn r3.lt
  have p5 := r5.below hbn r5.lt
  have hbw := hb0.trans (hbn.mono hb0.size)
  refine range_nodes (nodes_seq set (by omega) _ wn hszn (rs.cell (i := 0) rfl) (HT.out.below hbw)) Tab.put (Below.refl _ _) rfl (enters_of Tryd.func96 (by kernel_rfl) rfl) rfl
    (fun pre W => Row W (w.heap.size + 1 + 1) 3 [.int .i64 (bordF r set pre : Nat)] ∧ Row W w.heap.size 76 [.slice (some ⟨b, off, none⟩) n cap] ∧ Row W (w.heap.size + 1) 3 [.int .i64 set] ∧ (∀ x ∈ pre, x < n) ∧ Below w.heap.size w W)
    (fun _ _ _ => False)
    (((own_row _ _ _).from _).and (((own_row _ _ _).from _).and (((own_row _ _ _).from _).and ((ownFrom_pure _ _).and (ownFrom_below (Nat.le_refl _) hbw.size)))))
    (fun c => ownFrom_pure _ _)
    ⟨p5, p2, p3, by simp, hbw⟩ (fun _ W h => HT.out.below h.2.2.2.2) ?a1 ?assign ?body ?done ?stop
  case assign =>
    intro l x W K hx hK
    gi_wp2
    exact hK
  case body =>
    rintro l pre x W hx _ ⟨o5, o2, o3, hpre, hB⟩
    have hxn := bitsOf_lt hset hx
    have cx := HC.out W hB x hxn
    have hrx := HR.out x hxn
    have HST := Lib.hid (bordF_snoc r set pre x)
    have hbf : bordF r set pre < 65536 := Nat.lt_of_lt_of_le (bordF_lt hpre) (by omega)
    have HPR := Lib.hid (show ∀ y ∈ pre ++ [x], y < n from fun y hy => by
      rcases List.mem_append.1 hy with h | h
      · exact hpre y h
      · rw [List.mem_singleton.1 h]; exact hxn)
    generalize bordF r set pre = g at *
    have hrx16 : r x < 65536 := by omega
    have hx16 : x < 16 := by omega
    have hx64 : x < 64 := by omega
    have hpw := pow_bd x hx16
    have c2 := o2.cell (i := 0) rfl
    have c3 := o3.cell (i := 0) rfl
    have c5 := o5.cell (i := 0) rfl
    have f5 := o5.free 0
    have l5 := o5.lt
    clear hpre
    gi_wp2
    refine quiet_round (by kernel_rfl) (by kernel_rfl) (by kernel_rfl) ?_
    repeat (gi_big_quiet_step (((gi_at_call 80; refine CallsIn.quiet_of_same (CallsIn.inRound l (callsIn_wide.2 ((isPart_any (r x) set _ hrx16 hs16).mono fun _ _ ⟨a, b⟩ => ⟨a, b.symm⟩)))))))
    refine wpQuietIn_nil ?_
    rintro _ ⟨nq, rfl⟩
    cases hq : (diff (r x) set == 0)
    · rw [hq, if_neg (by decide)] at HST
      gi_wp2
      refine last_round (by kernel_rfl) rfl (by kernel_rfl) (by kernel_rfl) (by kernel_rfl) ?_
      dsimp only [initOf, lastOf]
      repeat (gi_big_quiet_step ((fail)))
      refine wpQuietIn_nil ?_
      rintro _ ⟨nq, rfl⟩
      gi_wp2
      exact ⟨keeps_store _ W _ _ _, by rw [HST.out]; exact (o5.drewN _).set 0 _, (o2.drewN _).other (by simp; omega) _, (o3.drewN _).other (by simp) _, HPR.out, (below_drewN hB _).setCell (p := ⟨w.heap.size + 1 + 1, 0, none⟩) (by simp; omega) _⟩
    · rw [hq, if_pos rfl] at HST
      gi_wp2
      exact ⟨(keeps_drewN W nq).from _, by rw [HST.out]; exact o5.drewN nq, o2.drewN nq, o3.drewN nq, HPR.out, below_drewN hB nq⟩
  case done =>
    rintro D W hD ⟨o5, o2, o3, _, hB⟩ hK
    have HB : Hid (bordF r set (bitsOf set) = bord r set) := Lib.hid rfl
    generalize bordF r set (bitsOf set) = g at *
    have c5 := o5.cell (i := 0) rfl
    gi_wp2
    exact leaves_marks (B := w.heap.size) (Marks.one (Nat.le_trans hbw.size hD) hK) (fun w' hs => ⟨_, results_tmp rfl _ _ _, by rw [← HB.out]; rfl, hB.trans hs.below⟩)
  case stop => exact fun _ _ _ _ _ _ h _ => h.elim
end

end Go.Proofs.YtgkpogaahndmoaaDoor
