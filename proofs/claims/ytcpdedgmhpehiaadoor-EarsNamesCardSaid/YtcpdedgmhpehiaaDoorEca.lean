/- The contracts of package ears' count and edgesWithin, of the reference's Size (for EarsCactus). -/
import Derived.Test.YtcpdedgmhpehiaaDoorEh
import Derived.Test.YtcpdedgmhpehiaaDoorEt5
namespace Go.Proofs.YtcpdedgmhpehiaaDoor
set_option linter.unusedSimpArgs false
set_option linter.unusedVariables false
open Go.RowKit Go.Maps
attribute [local go_sem] i64_bit toNat_eq_one toNat_ne_one toNat_eq_zero toNat_ne_zero i64_and i64_or i64_andNot i64_or_pow i64_andNot_pow

set_option maxRecDepth 20000 in
set_option maxHeartbeats 4000000 in
theorem ones64_any (x : Nat) (hx : x < 1024) (w : World) :
    Calls Tryd.prog 151 #[.int .u64 x] w fun e w' => e = .returned (.int .i64 (szS 10 x : Nat)) ∧ w = w' := by
  go_enter Tryd.func151, Tryd.ntmps151
  go_wp2
  go_ret
  refine ⟨?_, rfl⟩
  refine congrArg (fun t => Ending.returned (Value.int IntKind.i64 t)) ?_
  revert x
  decide +kernel
set_option maxRecDepth 20000 in
set_option maxHeartbeats 4000000 in
theorem ones_any (x : Nat) (hx : x < 1024) (w : World) :
    Calls Tryd.prog 128 #[.int .u64 x] w fun e w' => e = .returned (.int .i64 (szS 10 x : Nat)) ∧ w = w' := by
  go_enter Tryd.func128, Tryd.ntmps128
  go_wp2_with (go_at_call 151; refine (ones64_any x hx _).mono ?_; rintro e w1 ⟨rfl, rfl⟩)
  go_ret
  exact ⟨rfl, rfl⟩

theorem szS_more {n T : Nat} (hT : T < 2 ^ n) : ∀ k, szS (n + k) T = szS n T
  | 0 => rfl
  | k + 1 => by
    have ih := szS_more hT k
    have h0 : T.testBit (n + k) = false := Nat.testBit_lt_two_pow (Nat.lt_of_lt_of_le hT (Nat.pow_le_pow_right (by omega) (by omega)))
    show szS (n + k + 1) T = _
    rw [← ih]
    unfold szS
    rw [List.range_succ, List.countP_append]
    simp [h0]
theorem szS_ten {n T : Nat} (hn : n ≤ 10) (hT : T < 2 ^ n) : szS 10 T = szS n T := by
  have := szS_more hT (10 - n)
  rwa [show n + (10 - n) = 10 by omega] at this

set_option maxRecDepth 20000 in
set_option maxHeartbeats 1000000 in
theorem count_any {n : Nat} (hn : n ≤ 10) (x : Nat) (hx : x < 2 ^ n) (w : World) :
    Calls Tryd.prog 97 #[.int .i64 x] w fun e w' => e = .returned (.int .i64 (szS n x : Nat)) ∧ w = w' := by
  have h10 := pow_le10 hn
  have hx10 : x < 1024 := by omega
  have HS := Lib.hid (szS_ten hn hx)
  clear hx h10
  go_enter Tryd.func97, Tryd.ntmps97
  go_wp2_with (go_at_call 128; refine (ones_any x hx10 _).mono ?_; rintro e w1 ⟨rfl, rfl⟩)
  go_ret
  exact ⟨by rw [HS.out]; rfl, rfl⟩

theorem szS_low : ∀ S, S < 1024 → 0 < S → szS 10 (S &&& (S - 1)) + 1 = szS 10 S ∧ S &&& (S - 1) < S := by decide +kernel

set_option maxRecDepth 20000 in
set_option maxHeartbeats 2000000 in
theorem Size_any {n : Nat} (hn : n ≤ 10) (T : Nat) (hT : T < 2 ^ n) (w : World) :
    Calls Tryd.prog 44 #[.int .i64 T] w fun e w' => e = .returned (.int .i64 (szS n T : Nat)) ∧ w = w' := by
  have h9 : szS 10 T ≤ 10 := szS_le 10 T
  have HS := Lib.hid (szS_ten hn hT)
  have hT9 : T < 1024 := by have := pow_le10 hn; omega
  clear hT
  go_enter Tryd.func44, Tryd.ntmps44
  go_wp2_with fail
  go_loopw [0, 3] (fun s c wr => ∃ S k, s = .int .i64 (S : Nat) ∧ c = .int .i64 (k : Nat) ∧ S < 1024 ∧ k + szS 10 S = szS 10 T ∧ w = wr) (fun s _ _ => (intOf s).toNat)
  case atStart => exact ⟨T, 0, rfl, rfl, hT9, by omega, rfl⟩
  case round =>
    obtain ⟨S, k, rfl, rfl, hS, hk, rfl⟩ := hrel
    by_cases h0 : 0 < S
    · obtain ⟨l1, l2⟩ := szS_low S hS h0
      have hc : wrap64 ((S : Int) - 1) = ((S - 1 : Nat) : Int) := by
        rw [show ((S : Int) - 1) = ((S - 1 : Nat) : Int) by omega]
        exact IntWalk.wrap64_in _ ⟨by omega, by omega⟩
      have hb : bits .and .i64 (S : Int) ((S : Int) - 1) = ((S &&& (S - 1) : Nat) : Int) := by
        rw [show ((S : Int) - 1) = ((S - 1 : Nat) : Int) by omega, i64_and S (S - 1) (by omega) (by omega)]
      go_wp2_with fail
      go_roundw
      case rel => exact ⟨S &&& (S - 1), k + 1, by first | rfl | exact congrArg (Value.int .i64) hb, by go_num, by omega, by omega, by first | trivial | rfl⟩
      case measure => simpa [intOf, hb] using l2
    · have : S = 0 := by omega
      subst this
      go_wp2_with fail
      go_ret
      have h00 : szS 10 0 = 0 := by decide
      rw [h00] at hk
      have hk2 : k = szS n T := by rw [← HS.out]; omega
      subst hk2
      exact ⟨rfl, rfl⟩

/-- The sum over the nodes met. -/
def degF (n : Nat) (r : Nat → Nat) (s : Nat) (pre : List Nat) : Nat := pre.foldl (fun acc v => acc + szS n (r v &&& s)) 0
theorem degF_snoc (n : Nat) (r : Nat → Nat) (s : Nat) (pre : List Nat) (x : Nat) : degF n r s (pre ++ [x]) = degF n r s pre + szS n (r x &&& s) := by simp [degF]
theorem degF_range (n : Nat) (r : Nat → Nat) (s : Nat) : ∀ k, degF n r s ((List.range k).filter fun i => s.testBit i) = degS n r s k := by
  intro k
  induction k with
  | zero => rfl
  | succ k ih =>
    rw [List.range_succ, List.filter_append, degS, ← ih]
    cases hb : s.testBit k
    · simp [hb]
    · simp only [List.filter_cons, hb, List.filter_nil, if_true]
      exact degF_snoc ..
theorem degS_more {n : Nat} {r : Nat → Nat} {s : Nat} (hs : s < 2 ^ n) : ∀ k, degS n r s (n + k) = degS n r s n
  | 0 => rfl
  | k + 1 => by
    have h0 : s.testBit (n + k) = false := Nat.testBit_lt_two_pow (Nat.lt_of_lt_of_le hs (Nat.pow_le_pow_right (by omega) (by omega)))
    show degS n r s (n + k) + (if s.testBit (n + k) then szS n (r (n + k) &&& s) else 0) = _
    rw [h0, if_neg (by decide), degS_more hs k, Nat.add_zero]
theorem degF_all {n : Nat} {r : Nat → Nat} {s : Nat} (hn : n ≤ 10) (hs : s < 2 ^ n) : degF n r s (bitsOf s) = degS n r s n := by
  unfold bitsOf
  rw [degF_range]
  have := degS_more (r := r) hs (10 - n)
  rwa [show n + (10 - n) = 10 by omega] at this
theorem degF_from {n : Nat} {r : Nat → Nat} {s : Nat} : ∀ (pre : List Nat) (a : Nat), pre.foldl (fun acc v => acc + szS n (r v &&& s)) a ≤ a + n * pre.length
  | [], a => by simp
  | x :: pre, a => by
    have h1 := degF_from (n := n) (r := r) (s := s) pre (a + szS n (r x &&& s))
    have h2 := szS_le n (r x &&& s)
    rw [List.foldl_cons, List.length_cons, Nat.mul_add, Nat.mul_one]
    omega
theorem degF_le {n : Nat} {r : Nat → Nat} {s : Nat} (pre : List Nat) : degF n r s pre ≤ n * pre.length := by
  have := degF_from (n := n) (r := r) (s := s) pre 0
  rwa [Nat.zero_add] at this
theorem degS_le10 {n : Nat} {r : Nat → Nat} {s : Nat} (hn : n ≤ 10) : ∀ k, degS n r s k ≤ 10 * k := by
  intro k
  induction k with
  | zero => simp [degS]
  | succ k ih =>
    rw [degS]
    have := szS_le n (r k &&& s)
    split <;> omega

section
attribute [local go_sem] Oper.semAt_some wide_fn wide_fn_in
set_option maxRecDepth 100000 in
set_option maxHeartbeats 2000000 in
theorem edgesWithin_any {n : Nat} {r : Nat → Nat} {a : Option Addr} {w : World} (G : GrAt w a n r) (hn10 : n ≤ 10) (hr : ∀ i, i < n → r i < 2 ^ n) (cap set : Nat) (hset : set < 2 ^ n) (hT : Tab w) :
    Calls Tryd.prog 96 #[.slice a n cap, .int .i64 set] w fun e w' => e = .returned (.int .i64 (degS n r set n / 2 : Nat)) ∧ Below w.heap.size w w' := by
  obtain ⟨hml, hI⟩ := G.ints
  obtain ⟨b, off, rfl, hlt, hc⟩ := hI G.pos
  have h10 := pow_le10 hn10
  have hs16 : set < 65536 := by omega
  have hbc : ∀ wx, Below w.heap.size w wx → ∀ i, i < n → wx.cell? ⟨b, off + i, none⟩ = some (.int .i64 (r i : Nat)) := fun wx hb i hi => by rw [hb.cell (p := ⟨b, off + i, none⟩) hlt]; exact hc i hi
  have HC := Lib.hid hbc
  have HR := Lib.hid hr
  have HT := Lib.hid hT
  have HDF := Lib.hid (degF_all (r := r) hn10 hset)
  unfold maxLen at hml
  clear hbc hc hI hr hT G
  refine (callsIn_wide (n := 9)).1 ?_
  refine callsIn_of_wp_marks Tryd.func96 rfl trivial ?_ rfl
  simp only [Tryd.ntmps96, List.size_toArray, List.length_cons, List.length_nil, Nat.reduceAdd, Nat.reduceSub, Array.replicate_succ, Array.replicate_zero, List.push_toArray, List.append_toArray, List.nil_append, List.cons_append]
  obtain ⟨w0, hw0, r2, r3, r5, hb0, hsz⟩ := new3 w 71 3 3 [.slice (some ⟨b, off, none⟩) n cap] [.int .i64 set] [.int .i64 0]
  have e0 : w0.heap.size = w.heap.size + 1 + 1 + 1 := by rw [hw0]; simp
  obtain ⟨wn, hwn, rs, hbn, hszn⟩ := new1 w0 3 [.int .i64 set]
  rw [e0] at rs hszn
  gi_wp2_with (gi_at_call 91; refine (callsIn_wide.2 (nodes_any _ _)).mono ?_; rintro e w1 ⟨rfl, rfl⟩)
  rw [← hw0, ← hwn]
  have p2 := r2.below hbn r2.lt
  have p3 := r3.below hbn r3.lt
  have p5 := r5.below hbn r5.lt
  have hbw := hb0.trans (hbn.mono hb0.size)
  refine range_nodes (nodes_seq set (by omega) _ wn hszn (rs.cell (i := 0) rfl) (HT.out.below hbw)) Tab.put (Below.refl _ _) rfl (enters_of Tryd.func124 (by kernel_rfl) rfl) rfl
    (fun pre W => Row W (w.heap.size + 1 + 1) 3 [.int .i64 (degF n r set pre : Nat)] ∧ Row W w.heap.size 71 [.slice (some ⟨b, off, none⟩) n cap] ∧ Row W (w.heap.size + 1) 3 [.int .i64 set] ∧ pre.length ≤ 10 ∧ Below w.heap.size w W)
    (fun _ _ _ => False)
    (((own_row _ _ _).from _).and (((own_row _ _ _).from _).and (((own_row _ _ _).from _).and ((ownFrom_pure _ _).and (ownFrom_below (Nat.le_refl _) hbw.size)))))
    (fun c => ownFrom_pure _ _)
    ⟨p5, p2, p3, by simp, hbw⟩ (fun _ W h => HT.out.below h.2.2.2.2) ?a1 ?assign ?body ?done ?stop
  case assign =>
    intro l x W K hx hK
    gi_wp2
    exact hK
  case body =>
    rintro l pre x W hx hpfx ⟨o5, o2, o3, hpre, hB⟩
    have hxn := bitsOf_lt hset hx
    have cx := HC.out W hB x hxn
    have hrx := HR.out x hxn
    have HST := Lib.hid (degF_snoc n r set pre x)
    have hbf : degF n r set pre ≤ 100 := Nat.le_trans (degF_le pre) (by
      have := Nat.mul_le_mul hn10 hpre
      omega)
    have HPR := Lib.hid (show (pre ++ [x]).length ≤ 10 from by
      rw [List.length_append, List.length_singleton]
      have h1 := bitsOf_len set
      have h2 : pre.length < (bitsOf set).length := hpfx
      omega)
    have hst := szS_le n (r x &&& set)
    have hand : r x &&& set < 2 ^ n := Nat.lt_of_le_of_lt Nat.and_le_right hset
    have HCO := Lib.hid (fun w => count_any hn10 (r x &&& set) hand w)
    generalize degF n r set pre = g at *
    generalize szS n (r x &&& set) = c at *
    have hrx16 : r x < 65536 := by omega
    have c2 := o2.cell (i := 0) rfl
    have c3 := o3.cell (i := 0) rfl
    have c5 := o5.cell (i := 0) rfl
    have f5 := o5.free 0
    have l5 := o5.lt
    clear hpre hpfx
    gi_wp2
    refine last_round (by kernel_rfl) rfl (by kernel_rfl) (by kernel_rfl) (by kernel_rfl) ?_
    dsimp only [initOf, lastOf]
    repeat (gi_big_quiet_step (((gi_at_call 97; refine CallsIn.quiet_of_same (CallsIn.inRound l (callsIn_wide.2 ((HCO.out _).mono fun _ _ ⟨a, b⟩ => ⟨a, b.symm⟩)))))))
    refine wpQuietIn_nil ?_
    rintro _ ⟨nq, rfl⟩
    gi_wp2
    exact ⟨keeps_store _ W _ _ _, by rw [HST.out]; exact (o5.drewN _).set 0 _, (o2.drewN _).other (by simp; omega) _, (o3.drewN _).other (by simp) _, HPR.out, (below_drewN hB _).setCell (p := ⟨w.heap.size + 1 + 1, 0, none⟩) (by simp; omega) _⟩
  case done =>
    rintro D W hD ⟨o5, o2, o3, _, hB⟩ hK
    rw [HDF.out] at o5
    have hle := degS_le10 (r := r) (s := set) hn10 n
    have hle2 : degS n r set n ≤ 100 := by omega
    obtain ⟨g, hg⟩ : ∃ g, degS n r set n = g := ⟨_, rfl⟩
    rw [hg] at o5 hle2
    have HGG := Lib.hid hg
    clear hg hle HDF
    have c5 := o5.cell (i := 0) rfl
    gi_wp2
    exact leaves_marks (B := w.heap.size) (Marks.one (Nat.le_trans hbw.size hD) hK) (fun w' hs => ⟨_, results_tmp rfl _ _ _, by rw [HGG.out]; rfl, hB.trans hs.below⟩)
  case stop => exact fun _ _ _ _ _ _ h _ => h.elim
end

end Go.Proofs.YtcpdedgmhpehiaaDoor
