/- The contracts of package ears' nextNumber and number. -/
import Derived.Test.YtnjpciaeapgbiaaDoorEt3
import Derived.Test.YtnjpciaeapgbiaaDoorIo
namespace Go.Proofs.YtnjpciaeapgbiaaDoor
set_option linter.unusedSimpArgs false
set_option linter.unusedVariables false
open Go.RowKit Go.Maps
attribute [local go_sem] i64_bit toNat_eq_one toNat_ne_one toNat_eq_zero toNat_ne_zero i64_and i64_or i64_andNot i64_or_pow i64_andNot_pow

theorem bitsOf_before {s x u : Nat} {pre0 : List Nat} (h : pre0 ++ [x] <+: bitsOf s) (hu : u < x) (hs : s.testBit u = true) (h10 : u < 10) : u ∈ pre0 := by
  obtain ⟨t, ht⟩ := h
  have hm : u ∈ bitsOf s := mem_bitsOf.2 ⟨h10, hs⟩
  have hsort : (bitsOf s).Pairwise (· < ·) := List.Pairwise.filter _ List.pairwise_lt_range
  rw [← ht] at hm hsort
  rcases List.mem_append.1 hm with h1 | h1
  · rcases List.mem_append.1 h1 with h2 | h2
    · exact h2
    · rw [List.mem_singleton.1 h2] at hu; omega
  · have := (List.pairwise_append.1 hsort).2.2 x (by simp) u h1
    omega

section
attribute [local go_sem] Oper.semAt_some wide_fn wide_fn_in
set_option maxRecDepth 100000 in
set_option maxHeartbeats 2000000 in
theorem nextNumber_any {n : Nat} {r : Nat → Nat} {ad : Option Addr} {w : World} (G : GrAt w ad n r) (hP : Pl n r) (cap before t : Nat) (hbe : before < 2 ^ n) (ht : t < n) (hT : Tab w) (hex : ∃ v, v < n ∧ nxP n r before t v = true) :
    Calls Tryd.prog 108 #[.slice ad n cap, .int .i64 before, .int .i64 (restS n before : Nat), .int .i64 t] w fun e w' => ∃ v : Nat, e = .returned (.int .i64 v) ∧ (v < n ∧ nxP n r before t v = true ∧ ∀ u, u < v → nxP n r before t u = false) ∧ Below w.heap.size w w' := by
  have hn10 := hP.le
  have h10 := pow_le10 hn10
  obtain ⟨hml, hI⟩ := G.ints
  obtain ⟨b, off, rfl, hlt, hc⟩ := hI G.pos
  have hbc : ∀ wx, Below w.heap.size w wx → ∀ i, i < n → wx.cell? ⟨b, off + i, none⟩ = some (.int .i64 (r i : Nat)) := fun wx hb i hi => by rw [hb.cell (p := ⟨b, off + i, none⟩) hlt]; exact hc i hi
  have HC := Lib.hid hbc
  have HG := Lib.hid G
  have HPL := Lib.hid hP
  have HT := Lib.hid hT
  have HEX := Lib.hid hex
  have hrl := rest_lt (n := n) (before := before)
  obtain ⟨R, hR⟩ : ∃ R, R = restS n before := ⟨_, rfl⟩
  have HR := Lib.hid hR
  rw [← hR] at hrl ⊢
  have hR16 : R < 65536 := by omega
  have hb16 : before < 65536 := by omega
  have ht16 : t < 16 := by omega
  have ht64 : t < 64 := by omega
  have hpt := pow_bd t ht16
  unfold maxLen at hml
  clear hbc hc hI hT G hP hex hR
  obtain ⟨w0, hw0, r1, r2, r3, hb0, hsz⟩ := new3 w 76 3 3 [.slice (some ⟨b, off, none⟩) n cap] [.int .i64 before] [.int .i64 R]
  have e0 : w0.heap.size = w.heap.size + 1 + 1 + 1 := by rw [hw0]; simp
  obtain ⟨w1, hw1, r4, hb1, hsz1⟩ := new1 w0 3 [.int .i64 0]
  rw [e0] at r4 hsz1
  refine (callsIn_wide (n := 9)).1 ?_
  refine callsIn_of_wp_marks Tryd.func108 rfl trivial ?_ rfl
  simp only [Tryd.ntmps108, List.size_toArray, List.length_cons, List.length_nil, Nat.reduceAdd, Nat.reduceSub, Array.replicate_succ, Array.replicate_zero, List.push_toArray, List.append_toArray, List.nil_append, List.cons_append]
  gi_wp2
  rw [← hw0, ← hw1]
  have p1 := r1.below hb1 r1.lt
  have p2 := r2.below hb1 r2.lt
  have p3 := r3.below hb1 r3.lt
  have c3 := p3.cell (i := 0) rfl
  have hbw := hb0.trans (hb1.mono hb0.size)
  clear hw0 hw1 r1 r2 r3
  have hdl : diff R (2 ^ t) < 2 ^ n := Nat.lt_of_le_of_lt (diff_le _ _) hrl
  refine wpIn_mono (Q := fun e a' w' => match e with | .normal => a' = { tmps := #[.slice (some ⟨b, off, none⟩) n cap, .int .i64 before, .int .i64 R, .int .i64 t, .pointer (some ⟨w.heap.size, 0, none⟩), .pointer (some ⟨w.heap.size + 1, 0, none⟩), .pointer (some ⟨w.heap.size + 1 + 1, 0, none⟩), undef, .pointer (some ⟨w.heap.size + 1 + 1 + 1, 0, none⟩), undef, .int .i64 R, .int .i64 t, .int .i64 (2 ^ t), .int .i64 (diff R (2 ^ t) : Nat), .func (.func 123) #[] #[.pointer (some ⟨w1.heap.size, 0, none⟩)], undef, undef, undef, undef, undef, undef, undef, undef, undef, undef, undef, undef, undef, undef, undef, undef, undef, undef], defers := [] } ∧ w' = (w1.alloc (.cells #[.int .i64 (diff R (2 ^ t) : Nat)] 3)).drewN 1 | _ => False) ?_ ?_
  · have hw2 : IntKind.i64.wrap ((2 : Int) ^ t) = 2 ^ t := IntWalk.i64_in _ (by omega)
    have hw3 : bits .andNot .i64 (R : Int) ((2 : Int) ^ t) = ((diff R (2 ^ t) : Nat) : Int) := i64_andNot_pow R t hR16 ht16
    clear hpt
    gi_region_with (gi_at_call 93; refine (callsIn_wide.2 (nodes_any (diff R (2 ^ t)) _)).mono ?_; rintro e w9 ⟨rfl, rfl⟩)
    all_goals exact ⟨rfl, rfl⟩
  intro e a' w' hp
  cases e <;> try exact hp.elim
  obtain ⟨rfl, rfl⟩ := hp
  dsimp only
  obtain ⟨wm, hwm, rs, hbm, hszm⟩ := new1 w1 3 [.int .i64 (diff R (2 ^ t) : Nat)]
  rw [← hwm]
  clear hwm
  have hbd : Below w1.heap.size w1 (wm.drewN 1) := below_drewN hbm 1
  have d1 := p1.below hbd p1.lt
  have d2 := p2.below hbd p2.lt
  have d3 := p3.below hbd p3.lt
  have d4 := r4.below hbd r4.lt
  have dz := rs.drewN 1
  have hszd : w1.heap.size < (wm.drewN 1).heap.size := hszm
  have hbw1 := hbw.trans (hbd.mono hbw.size)
  generalize wm.drewN 1 = W1 at *
  clear rs hbm hszm c3
  gi_wp2
  refine range_nodes (nodes_seq (diff R (2 ^ t)) (by omega) _ W1 hszd (dz.cell (i := 0) rfl) (HT.out.below hbw1)) Tab.put (Below.refl _ _) rfl (enters_of Tryd.func123 (by kernel_rfl) rfl) rfl
    (fun pre W => (∀ u ∈ pre, nxP n r before t u = false) ∧ Row W w.heap.size 76 [.slice (some ⟨b, off, none⟩) n cap] ∧ Row W (w.heap.size + 1) 3 [.int .i64 before] ∧ Row W (w.heap.size + 1 + 1) 3 [.int .i64 R] ∧ Row W (w.heap.size + 1 + 1 + 1) 3 [.int .i64 0] ∧ KeepsFrom w.heap.size w1 W ∧ Below w.heap.size w W)
    (fun c pre W => ∃ (pre0 : List Nat) (x : Nat), c = .ret ∧ pre = pre0 ++ [x] ∧ (∀ u ∈ pre0, nxP n r before t u = false) ∧ nxP n r before t x = true ∧ Row W (w.heap.size + 1 + 1 + 1) 3 [.int .i64 x] ∧ KeepsFrom w.heap.size w1 W ∧ Below w.heap.size w W)
    ((ownFrom_pure _ _).and (((own_row _ _ _).from _).and (((own_row _ _ _).from _).and (((own_row _ _ _).from _).and (((own_row _ _ _).from _).and ((ownFrom_keepsFrom hbd.size).and (ownFrom_below (Nat.le_refl _) hbw1.size)))))))
    (fun c => ownFrom_ex fun pre0 => ownFrom_ex fun x => (ownFrom_pure _ _).and ((ownFrom_pure _ _).and ((ownFrom_pure _ _).and ((ownFrom_pure _ _).and (((own_row _ _ _).from _).and ((ownFrom_keepsFrom hbd.size).and (ownFrom_below (Nat.le_refl _) hbw1.size)))))))
    ⟨by simp, d1, d2, d3, d4, keeps_below hbd, hbw1⟩ (fun _ W h => HT.out.below h.2.2.2.2.2.2) ?a1 ?assign ?body ?done ?stop
  case assign =>
    intro l x W K hx hK
    gi_wp2
    exact hK
  case body =>
    rintro l pre x W hx _ ⟨hp, o1, o2, o3, o4, hKF, hB⟩
    obtain ⟨hx10, hxd⟩ := mem_bitsOf.1 hx
    have hxn := bitsOf_lt hdl hx
    have HNX : Hid (nxP n r before t x = (r x &&& before != 0 && conB n r (diff R (2 ^ x)))) := Lib.hid (by
      obtain ⟨h1, h2⟩ := diff_pow_bit.1 hxd
      unfold nxP
      rw [← HR.out, h1, show (x == t) = false from beq_eq_false_iff_ne.2 h2]; rfl)
    have HP := Lib.hid hp
    have HKF := Lib.hid hKF
    have HB := Lib.hid hB
    have hrx := HPL.out.bd x hxn
    have hrx16 : r x < 65536 := by omega
    have hx16 : x < 16 := by omega
    have hx64 : x < 64 := by omega
    have hpx := pow_bd x hx16
    have hand : r x &&& before < 65536 := Nat.lt_of_le_of_lt Nat.and_le_left hrx16
    have hdx : diff R (2 ^ x) < 2 ^ n := Nat.lt_of_le_of_lt (diff_le _ _) hrl
    clear hxd hp hKF
    by_cases h0 : r x &&& before = 0
    · have HF : Hid (nxP n r before t x = false) := Lib.hid (by rw [HNX.out, h0]; rfl)
      have hx0 : (((r x &&& before : Nat) : Int) != 0) = false := by rw [h0]; rfl
      have c1 := o1.cell (i := 0) rfl
      have c2 := o2.cell (i := 0) rfl
      have c3 := o3.cell (i := 0) rfl
      have cx := HC.out W hB x hxn
      clear h0 hB
      gi_wp2
      refine quiet_round (by kernel_rfl) (by kernel_rfl) (by kernel_rfl) ?_
      repeat (gi_big_quiet_step ((fail)))
      refine wpQuietIn_nil ?_
      rintro _ ⟨nq, rfl⟩
      gi_wp2
      refine ⟨(keeps_drewN W nq).from _, fun u hu => ?_, o1.drewN nq, o2.drewN nq, o3.drewN nq, o4.drewN nq, HKF.out.trans ((keeps_drewN W nq).from _), below_drewN HB.out nq⟩
      rcases List.mem_append.1 hu with h | h
      · exact HP.out u h
      · rw [List.mem_singleton.1 h]; exact HF.out
    · have hx0 : (((r x &&& before : Nat) : Int) != 0) = true := by rw [bne_iff_ne]; omega
      have c1 : ∀ u : BelowW W.heap.size W, u.w.cell? ⟨w.heap.size, 0, none⟩ = some (.slice (some ⟨b, off, none⟩) n cap) := fun u => (o1.below u.h o1.lt).cell (i := 0) rfl
      have c2 : ∀ u : BelowW W.heap.size W, u.w.cell? ⟨w.heap.size + 1, 0, none⟩ = some (.int .i64 before) := fun u => (o2.below u.h o2.lt).cell (i := 0) rfl
      have c3 : ∀ u : BelowW W.heap.size W, u.w.cell? ⟨w.heap.size + 1 + 1, 0, none⟩ = some (.int .i64 R) := fun u => (o3.below u.h o3.lt).cell (i := 0) rfl
      have cx : ∀ u : BelowW W.heap.size W, u.w.cell? ⟨b, off + x, none⟩ = some (.int .i64 (r x : Nat)) := fun u => HC.out u.w (hB.trans (u.h.mono hB.size)) x hxn
      have HCN : Hid (∀ u : BelowW W.heap.size W, Calls Tryd.prog 101 #[.slice (some ⟨b, off, none⟩) n cap, .int .i64 (diff R (2 ^ x) : Nat)] u.w fun e w' => e = .returned (.bool (conB n r (diff R (2 ^ x)))) ∧ Below u.w.heap.size u.w w') := Lib.hid fun u =>
        isConnected_any (HG.out.below (hB.trans (u.h.mono hB.size))) hn10 HPL.out.bd cap _ hdx (HT.out.below (hB.trans (u.h.mono hB.size)))
      have HBZ := Lib.hid hB.size
      rw [show (r x &&& before != 0) = true from bne_iff_ne.2 h0, Bool.true_and] at HNX
      clear h0 hB
      cases hcn : conB n r (diff R (2 ^ x))
      all_goals
        rw [hcn] at HNX HCN
        clear hcn
        gi_wp2
        refine below_round W.heap.size W (Below.refl _ _) (by kernel_rfl) (by kernel_rfl) (by kernel_rfl) ?_
        repeat (gi_big_quiet_step ((gi_at_call 101; exact CallsIn.inRound l (callsIn_wide.2 (calls_below (Nat.le_refl _) (HCN.out _))))))
        refine wpQuietIn_nil ?_
        rintro _ ⟨u, rfl⟩
        have v1 := o1.below u.h o1.lt
        have v2 := o2.below u.h o2.lt
        have v3 := o3.below u.h o3.lt
        have v4 := o4.below u.h o4.lt
        have HU := Lib.hid u.h
        have HBU := Lib.hid (HB.out.trans (u.h.mono HBZ.out))
        generalize u.w = W2 at *
        clear c1 c2 c3 cx
        have f4 := v4.free 0
        have l4 := v4.lt
        have c4 := v4.cell (i := 0) rfl
        gi_wp2
      · refine ⟨keeps_below HU.out, fun y hy => ?_, v1, v2, v3, v4, HKF.out.trans (keeps_below HU.out), HBU.out⟩
        rcases List.mem_append.1 hy with h | h
        · exact HP.out y h
        · rw [List.mem_singleton.1 h]; exact HNX.out
      · exact ⟨(keeps_below HU.out).trans (keeps_set _ _ _ _ _), pre, x, rfl, rfl, HP.out, HNX.out, v4.set 0 _, HKF.out.trans ((keeps_below HU.out).trans (keeps_set _ _ _ _ _)), HBU.out.setCell (p := ⟨w.heap.size + 1 + 1 + 1, 0, none⟩) (by simp; omega) _⟩
  case done =>
    rintro D W hD ⟨hp, o1, o2, o3, o4, hKF, hB⟩ hK
    exfalso
    obtain ⟨v, hv, hx⟩ := HEX.out
    have h1 := hx
    unfold nxP at h1
    simp only [Bool.and_eq_true, Bool.not_eq_true', beq_eq_false_iff_ne] at h1
    rw [hp v (mem_bitsOf.2 ⟨by omega, diff_pow_bit.2 ⟨by rw [HR.out]; exact h1.1.1, h1.1.2⟩⟩)] at hx
    cases hx
  case stop =>
    rintro D c pre W hD hpre ⟨pre0, x, rfl, rfl, hp, hx, o4, hKF, hB⟩ hK
    have hxm := hpre.subset (show x ∈ pre0 ++ [x] by simp)
    have hxn : x < n := bitsOf_lt hdl hxm
    have HX := Lib.hid hx
    have HNO : Hid (∀ u, u < x → nxP n r before t u = false) := Lib.hid fun u hu => by
      cases hb : nxP n r before t u
      · rfl
      · have h1 := hb
        unfold nxP at h1
        simp only [Bool.and_eq_true, Bool.not_eq_true', beq_eq_false_iff_ne] at h1
        rw [hp u (bitsOf_before hpre hu (diff_pow_bit.2 ⟨by rw [HR.out]; exact h1.1.1, h1.1.2⟩) (by omega))] at hb
        cases hb
    have c4 := o4.cell (i := 0) rfl
    have f4 := o4.free 0
    clear hp hx
    gi_wp2
    refine leaves_marks (B := w.heap.size) (ds := [markAt D]) (Marks.one (Nat.le_trans (Nat.le_trans hbw1.size hD) (Nat.le_refl _)) hK) (fun w' hs => ⟨.int .i64 x, ?_, x, rfl, ⟨hxn, HX.out, HNO.out⟩, hB.trans hs.below⟩)
    have g4 := (hs.row o4).cell (i := 0) rfl
    simp [results, Tryd.f108, go_sem, g4]
end

/-- The numbering as numbers. -/
def natsI (L : List Nat) : List Int := L.map fun (x : Nat) => (x : Int)
theorem natsI_len (L : List Nat) : (natsI L).length = L.length := by simp [natsI]
theorem natsI_snoc (L : List Nat) (x : Nat) : natsI (L ++ [x]) = natsI L ++ [(x : Int)] := by simp [natsI]
def numL (n : Nat) (r : Nat → Nat) (s t : Nat) : List Int := natsI (s :: numW n r t (n - 2) (2 ^ s)) ++ [(t : Int)]
theorem numW_len (n : Nat) (r : Nat → Nat) (t : Nat) : ∀ k before, (numW n r t k before).length ≤ k := by
  intro k
  induction k with
  | zero => intro _; exact Nat.le_refl _
  | succ k ih =>
    intro before
    rw [numW_succ]
    cases (List.range n).find? (nxP n r before t) with
    | none => exact Nat.zero_le _
    | some v => have := ih (before ||| 2 ^ v); simpa using this
theorem numL_len (n : Nat) (r : Nat → Nat) (s t : Nat) : (numL n r s t).length ≤ n + 2 := by
  have := numW_len n r t (n - 2) (2 ^ s)
  simp only [numL, List.length_append, natsI_len, List.length_cons, List.length_nil]
  omega
theorem all_q (a : Option Addr) (n cap : Nat) (w : World) (hn : n < 16) :
    Calls Tryd.prog 91 #[.slice a n cap] w fun e w' => e = .returned (.int .i64 (2 ^ n - 1 : Nat)) ∧ w' = w := (all_any a n cap w hn).mono fun _ _ ⟨h1, h2⟩ => ⟨h1, h2.symm⟩

set_option maxRecDepth 20000 in
set_option maxHeartbeats 4000000 in
theorem number_any {n : Nat} {r : Nat → Nat} {ad : Option Addr} {w : World} (G : GrAt w ad n r) (hP : Pl n r) (cap s t : Nat) (hs : s < n) (ht : t < n) (hst : s ≠ t) (hd : doubleB n r = true) (hT : Tab w) :
    Calls Tryd.prog 77 #[.slice ad n cap, .int .i64 s, .int .i64 t] w fun e w' => ∃ v, e = .returned v ∧ IntsOwn w' w.heap.size v (numL n r s t) ∧ Below w.heap.size w w' := by
  have hn10 := hP.le
  have hn16 : n < 16 := by omega
  have h10 := pow_le10 hn10
  have hml := G.ints.1
  unfold maxLen at hml
  have HG := Lib.hid G
  have HPL := Lib.hid hP
  have HT := Lib.hid hT
  have HS0 := Lib.hid (NumSit.start hP hd hs hst)
  have HW := Lib.hid (double_whole hP hd)
  have hs16 : s < 16 := by omega
  have hps := pow_bd s hs16
  have HPC := Lib.hid (pow_cast s)
  have hall16 : 2 ^ n - 1 < 65536 := by omega
  have HOL := Lib.hid (IntsOwn.lit w (s : Int))
  have hb0 : Below w.heap.size w (w.alloc (.cells #[.int .i64 (s : Int)] 3)) := (Below.refl _ _).alloc (Nat.le_refl _) _
  have HB0 := Lib.hid hb0
  clear G hP hT hd hb0
  go_enter Tryd.func77, Tryd.ntmps77
  go_wp2_with fail
  go_quiet ((go_at_call 91; exact Calls.quiet_of_same (all_q _ _ _ _ hn16)))
  have HO1 : Hid (IntsOwn ((w.alloc (.cells #[.int .i64 (s : Int)] 3)).drewN nq) w.heap.size (.slice (some ⟨w.heap.size, 0, none⟩) 1 1) [(s : Int)]) := Lib.hid HOL.out
  have HB1 := Lib.hid (below_drewN HB0.out nq)
  generalize (w.alloc (.cells #[.int .i64 (s : Int)] 3)).drewN nq = w1 at *
  clear HOL HB0
  go_wp2_with fail
  go_loopw [7, 8, 9] (fun v bf rs wr => ∃ (L : List Nat) (before k c : Nat) (a : Option Addr), k = L.length ∧ v = .slice a k c ∧ bf = .int .i64 before ∧ rs = .int .i64 (restS n before : Nat) ∧ IntsOwn wr w.heap.size v (natsI L) ∧ NumSit n r s t L before ∧ Below w.heap.size w wr) (fun v _ _ _ => match v with | .slice _ m _ => n - m | _ => 0)
  case atStart => exact ⟨[s], 2 ^ s, 1, 1, _, rfl, rfl, by rw [HPC.out], rfl, HO1.out, HS0.out, HB1.out⟩
  case round =>
    obtain ⟨L, before, k, c, a, hk, rfl, rfl, rfl, hown, hS, hbr⟩ := hrel
    have HK := Lib.hid hk
    have HOW := Lib.hid hown
    have HS := Lib.hid hS
    have HBR := Lib.hid hbr
    have hkn : k ≤ n - 1 := by rw [hk]; exact hS.le
    have hbl := hS.lt
    have hbsz := hbr.size
    clear hk hown hS hbr HS0 HO1 HB1
    by_cases hlt : k < n - 1
    · have hex := nx_some HPL.out HW.out hs ht HS.out (by rw [← HK.out]; exact hlt)
      have HNX := Lib.hid (nextNumber_any (HG.out.below HBR.out) HPL.out cap before t hbl ht (HT.out.below HBR.out) hex)
      obtain ⟨R, hR⟩ : ∃ R, R = restS n before := ⟨_, rfl⟩
      have HR := Lib.hid hR
      have hR16 : R < 65536 := by rw [hR]; exact Nat.lt_of_lt_of_le rest_lt (by omega)
      rw [← hR] at HNX ⊢
      have hb16 : before < 65536 := by omega
      have hki : (k : Int) < (n : Int) - 1 := by omega
      clear hR hex
      go_wp2_with fail
      go_at_call 108
      refine HNX.out.mono ?_
      rintro e w2 ⟨x, rfl, ⟨hxn, hx1, hx2⟩, hb2⟩
      have HX := Lib.hid (HS.out.step HPL.out ht (by rw [← HK.out]; exact hlt) hxn hx1 hx2)
      have HO2 := Lib.hid (HOW.out.below hb2)
      have HB2 := Lib.hid (HBR.out.trans (hb2.mono hbsz))
      have hx16 : x < 16 := by omega
      have hpx := pow_bd x hx16
      have hb2sz := HB2.out.size
      have HRO : Hid (restS n (before ||| 2 ^ x) = diff R (2 ^ x)) := Lib.hid (by rw [rest_or, HR.out])
      clear hx1 hx2 hb2 HNX HOW
      go_wp2_with (at_builtin; refine wpList_app_int w.heap.size _ (x : Int) _ rfl _ _ rfl rfl HO2.out rfl ?c1 ?c2 ?_)
      case c1 => rw [natsI_len]; have := HK.out; omega
      try (case c2 => exact hb2sz)
      intro v' w3 ho3 hb3 _
      have HF := Lib.hid (own_form ho3)
      have HO3 := Lib.hid ho3
      have HB3 := Lib.hid (HB2.out.trans hb3)
      clear ho3 hb3
      go_wp2_with fail
      obtain ⟨a3, c3, hv3⟩ := HF.out
      have hL1 : (natsI L ++ [(x : Int)]).length = k + 1 := by rw [List.length_append, natsI_len, HK.out]; rfl
      rw [hL1] at hv3
      subst hv3
      go_roundw
      case rel => exact ⟨L ++ [x], before ||| 2 ^ x, k + 1, c3, a3, by rw [List.length_append, HK.out]; rfl, rfl, rfl, by rw [HRO.out], by rw [natsI_snoc]; exact HO3.out, HX.out, HB3.out⟩
      case measure => show n - (k + 1) < n - k; omega
    · have hke : k = n - 1 := by omega
      have hki : ¬ (k : Int) < (n : Int) - 1 := by omega
      have HD := Lib.hid (HS.out.done (by rw [← HK.out]; exact hke))
      have HKE := Lib.hid hke
      clear hke hlt
      go_wp2_with (at_builtin; refine wpList_app_int w.heap.size _ (t : Int) _ rfl _ _ rfl rfl HOW.out rfl ?c1 ?c2 ?_)
      case c1 => rw [natsI_len]; have := HK.out; omega
      try (case c2 => exact hbsz)
      intro v' w3 ho3 hb3 _
      have HO3 := Lib.hid ho3
      have HB3 := Lib.hid (HBR.out.trans hb3)
      clear ho3 hb3
      go_wp2_with fail
      go_ret
      exact ⟨v', rfl, by unfold numL; rw [← HD.out]; exact HO3.out, HB3.out⟩

end Go.Proofs.YtnjpciaeapgbiaaDoor
