/- The contract of package sweep's firstLayout. -/
import Derived.Test.YtgkpogaahndmoaaDoorQp
import Derived.Maps.OwnIn
namespace Go.Proofs.YtgkpogaahndmoaaDoor
set_option linter.unusedSimpArgs false
set_option linter.unusedVariables false
open Go.RowKit Go.Maps
attribute [local go_sem] i64_bit toNat_eq_one toNat_ne_one toNat_eq_zero toNat_ne_zero i64_and i64_or i64_andNot i64_or_pow i64_andNot_pow

theorem bitsOf_before {s x u : Nat} {pre0 : List Nat} (h : pre0 ++ [x] <+: bitsOf s) (hu : u < x) (hs : s.testBit u = true) (h10 : u < 10) : u ∈ pre0 := by
  obtain ⟨t, ht⟩ := h
  have hm : u ∈ bitsOf s := mem_bitsOf.2 ⟨h10, hs⟩
  have hsort : (bitsOf s).Pairwise (· < ·) := List.Pairwise.filter _ List.pairwise_lt_range
  rw [← ht] at hm hsort
  rcases List.mem_append.1 hm with h1 | h1
  · rcases List.mem_append.1 h1 with h2 | h2
    · exact h2
    · rw [List.mem_singleton.1 h2] at hu; omega
  · have := (List.pairwise_append.1 hsort).2.2 x (by simp) u h1
    omega
theorem nxt_lst {n : Nat} {r : Nat → Nat} {W g x : Nat} (h : g.testBit x = false) : nxtB n (tbd n r) W g x = true ↔ lst n r (g ||| 2 ^ x) ≤ W := by
  rw [nxtB_iff]
  unfold lst
  show _ ∧ szS n (bord r (g ||| 2 ^ x)) ≤ W ∧ _ ↔ _
  constructor
  · rintro ⟨_, h1, h2⟩; exact Nat.max_le.2 ⟨h2, h1⟩
  · intro h1; exact ⟨h, (Nat.max_le.1 h1).2, (Nat.max_le.1 h1).1⟩
theorem of_grown_own {W w1 : World} {base B : Nat} {e : TypeId} {size : Nat} {v : Value} {n : Nat} {xs : List Value} (h : W.ownsRow base e size v n xs) (hg : W.grownBy w1 v.ownBlock) : KeepsFrom B W w1 :=
  ⟨hg.size, fun k o _ hk ho => (hg.block k (Array.getElem?_eq_some_iff.1 hk).1 (fun e1 => by
    rcases h.2 with ⟨h1, _⟩ | ⟨g, cap, cur, hv, _, hgb, _⟩
    · rw [h1] at e1; cases e1
    · rw [hv] at e1
      have e2 : k = g := by simpa [Value.ownBlock] using e1
      subst e2
      rw [hgb] at hk; cases hk; cases ho)).trans hk⟩

section
attribute [local go_sem] Oper.semAt_some wide_fn wide_fn_in
set_option maxRecDepth 100000 in
set_option maxHeartbeats 2000000 in
theorem firstLayout_any {n : Nat} {r : Nat → Nat} {a : Option Addr} {w : World} (G : GrAt w a n r) (hn7 : n ≤ 7) (hr : ∀ i, i < n → r i < 2 ^ n) (cap : Nat) (hT : Tab w) :
    Calls Tryd.prog 52 #[.slice a n cap] w fun e w' => ∃ v, e = .returned v ∧ IntsOwn w' w.heap.size v ((ordW n (tbd n r) (rst n (tbd n r) 0) n 0).map fun (x : Nat) => (x : Int)) ∧ Below w.heap.size w w' := by
  have HG := Lib.hid G
  have HR := Lib.hid hr
  have HT := Lib.hid hT
  have h7 := pow_le7 hn7
  have hpos := G.pos
  have hpn := Nat.two_pow_pos n
  have hM : 2 ^ n - 1 < 2 ^ n := by omega
  obtain ⟨i0, hi0, hz1, hz2, hz3⟩ := info_parts info_int
  have hmk : ∀ w : World, (Instr.makeSlice 22 (.int .i64 0) (.int .i64 (n : Int))).run Tryd.prog w = .ok (.slice (some ⟨w.heap.size, 0, none⟩) 0 n) (w.alloc (.cells (madeCells #[.int .i64 0] n) 3)) := fun w => by
    have h := run_makeSlice (P := Tryd.prog) (w := w) 22 3 i0 (.int .i64 0) Tryd.underlying22 hi0 hz1 .i64 .i64 0 n (by omega) (by omega) (by rw [hz2]; simp; omega) (by rw [hz3]; omega) (by omega)
    rw [hz2, show (Value.int .i64 0).cells = #[.int .i64 0] from by unfold Value.cells; rfl, Nat.mul_one, Int.toNat_natCast] at h
    exact h
  obtain ⟨N, hN⟩ : ∃ N : Nat, N = 2 ^ n := ⟨_, rfl⟩
  have HN := Lib.hid hN
  have HBS : Hid (Calls Tryd.prog 78 #[.slice a n cap] w fun e w' => ∃ tb, e = .returned (.slice (some ⟨tb, 0, none⟩) N N) ∧ Row w' tb 3 (tabL N (lst n r)) ∧ w.heap.size ≤ tb ∧ Below w.heap.size w w') := Lib.hid (by
    have h := breadths_any G hn7 hr cap hT
    unfold BreadthsPost at h
    rw [← hN] at h
    exact h)
  clear G hr hT hN
  refine (callsIn_wide (n := 9)).1 ?_
  refine callsIn_of_wp_marks Tryd.func52 rfl trivial ?_ rfl
  simp only [Tryd.ntmps52, List.size_toArray, List.length_cons, List.length_nil, Nat.reduceAdd, Nat.reduceSub, Array.replicate_succ, Array.replicate_zero, List.push_toArray, List.append_toArray, List.nil_append, List.cons_append]
  gi_wp2_with (gi_at_call 78; refine (callsIn_wide.2 HBS.out).mono ?_; rintro e w1 ⟨tb, rfl, hrow, htb, hb1⟩; have HB1 := Lib.hid hb1; have HRW := Lib.hid hrow; clear hb1 hrow)
  have hown0 : (w1.alloc (.cells #[.slice (some ⟨tb, 0, none⟩) N N] 22) |>.alloc (.cells (madeCells #[.int .i64 0] n) 3)).ownsRow (w1.heap.size + 1) 3 1 (.slice (some ⟨w1.heap.size + 1, 0, none⟩) 0 n) 0 [] := by
    have h := World.ownsRow_made (base := w1.heap.size + 1) (w1.alloc (.cells #[.slice (some ⟨tb, 0, none⟩) N N] 22)) (e := 3) (size := 1) (madeCells #[.int .i64 0] n) n (by simp) (by unfold maxLen; omega) (by rw [size_madeCells]; simp)
    simpa using h
  obtain ⟨w2, hw2, r1, r3, r4, hb2, hsz2, ho2⟩ : ∃ w2, w2 = ((((w1.alloc (.cells #[.slice (some ⟨tb, 0, none⟩) N N] 22)).alloc (.cells (madeCells #[.int .i64 0] n) 3)).alloc (.cells #[.slice (some ⟨w1.heap.size + 1, 0, none⟩) 0 n] 22)).alloc (.cells #[.int .i64 0] 3)) ∧
      Row w2 w1.heap.size 22 [.slice (some ⟨tb, 0, none⟩) N N] ∧ Row w2 (w1.heap.size + 1 + 1) 22 [.slice (some ⟨w1.heap.size + 1, 0, none⟩) 0 n] ∧ Row w2 (w1.heap.size + 1 + 1 + 1) 3 [.int .i64 (0 : Nat)] ∧ Below w1.heap.size w1 w2 ∧ w1.heap.size + 1 + 1 + 1 < w2.heap.size ∧ IntsOwn w2 (w1.heap.size + 1) (.slice (some ⟨w1.heap.size + 1, 0, none⟩) 0 n) [] := by
    refine ⟨_, rfl, (((Row.new _ _ _).alloc _).alloc _).alloc _, ?_, ?_, ((((Below.refl _ _).alloc (Nat.le_refl _) _).alloc (by simp) _).alloc (by simp; omega) _).alloc (by simp; omega) _, by simp, ?_⟩
    · have h := (Row.new ((w1.alloc (.cells #[.slice (some ⟨tb, 0, none⟩) N N] 22)).alloc (.cells (madeCells #[.int .i64 0] n) 3)) 22 [.slice (some ⟨w1.heap.size + 1, 0, none⟩) 0 n]).alloc (.cells #[.int .i64 0] 3)
      simpa using h
    · have h := Row.new (((w1.alloc (.cells #[.slice (some ⟨tb, 0, none⟩) N N] 22)).alloc (.cells (madeCells #[.int .i64 0] n) 3)).alloc (.cells #[.slice (some ⟨w1.heap.size + 1, 0, none⟩) 0 n] 22)) 3 [.int .i64 0]
      simpa using h
    · exact (hown0.alloc _).alloc _
  rw [← hw2]
  clear hw2 hown0
  have HTB := Lib.hid (HRW.out.below hb2 HRW.out.lt)
  have hbw2 := HB1.out.trans (hb2.mono HB1.out.size)
  have HTBL := Lib.hid HRW.out.lt
  have ht : ∀ g v, v < n → tbd n r g v ≤ n := fun g v _ => szS_le _ _
  have HTD := Lib.hid ht
  obtain ⟨W, hW⟩ : ∃ W, W = rst n (tbd n r) 0 := ⟨_, rfl⟩
  have HWW := Lib.hid hW
  have HGO : Hid (Going n (tbd n r) W [] 0) := Lib.hid (Going.start (by rw [hW]; exact Nat.le_refl _))
  clear ht hW
  refine wpIn_loop (fun a' wr => ∃ (ds : List Deferred) (u0 u1 u2 u3 u4 u5 u6 u7 u8 u9 u10 u11 u12 u13 u14 u15 u16 u17 u18 u19 u20 u21 u22 u23 u24 u25 u26 u27 u28 u29 u30 u31 u32 u33 u34 u35 u36 u37 u38 u39 u40 u41 u42 : Value), (∃ (L : List Nat) (gone sb : Nat) (v : Value), u0 = .slice a n cap ∧ u3 = .pointer (some ⟨w1.heap.size, 0, none⟩) ∧ u4 = .pointer (some ⟨w1.heap.size + 1 + 1, 0, none⟩) ∧ u5 = .pointer (some ⟨sb, 0, none⟩) ∧ Marks w.heap.size wr ds ∧ Row wr w1.heap.size 22 [.slice (some ⟨tb, 0, none⟩) N N] ∧ Row wr (w1.heap.size + 1 + 1) 22 [v] ∧ Row wr sb 3 [.int .i64 (gone : Nat)] ∧ Row wr tb 3 (tabL N (lst n r)) ∧ IntsOwn wr (w1.heap.size + 1) v (L.map fun (x : Nat) => (x : Int)) ∧ some sb ≠ v.ownBlock ∧ w1.heap.size + 1 + 1 < sb ∧ Going n (tbd n r) W L gone ∧ Below w.heap.size w wr) ∧ a' = { tmps := #[u0, u1, u2, u3, u4, u5, u6, u7, u8, u9, u10, u11, u12, u13, u14, u15, u16, u17, u18, u19, u20, u21, u22, u23, u24, u25, u26, u27, u28, u29, u30, u31, u32, u33, u34, u35, u36, u37, u38, u39, u40, u41, u42], defers := ds }) (fun a' wr => (match a'.tmps.getD 5 undef with | .pointer (some p) => n - szS n (intOf ((wr.cell? p).getD undef)).toNat | _ => 0)) ?_ ?_
  ·
    refine ⟨_, _, _, _, _, _, _, _, _, _, _, _, _, _, _, _, _, _, _, _, _, _, _, _, _, _, _, _, _, _, _, _, _, _, _, _, _, _, _, _, _, _, _, _, ?_, rfl⟩
    exact ⟨[], 0, _, _, rfl, rfl, rfl, rfl, trivial, r1, r3, r4, HTB.out, ho2, by simp [Value.ownBlock]; omega, by omega, HGO.out, hbw2⟩
  ·
    rintro a' wr ⟨ds, u0, u1, u2, u3, u4, u5, u6, u7, u8, u9, u10, u11, u12, u13, u14, u15, u16, u17, u18, u19, u20, u21, u22, u23, u24, u25, u26, u27, u28, u29, u30, u31, u32, u33, u34, u35, u36, u37, u38, u39, u40, u41, u42, hrel, rfl⟩
    dsimp only
    obtain ⟨L, gone, sb, v, rfl, rfl, rfl, rfl, hMk, q1, q3, q4, qt, hown, hne, hsb, hgo, hbr⟩ := hrel
    have HM := Lib.hid hMk
    have HGG := Lib.hid hgo
    have HNE := Lib.hid hne
    have HOW := Lib.hid hown
    clear hMk hgo hne hown r1 r3 r4 ho2 HGO
    have hgl := HGG.out.lt
    have hg16 : gone < 65536 := by omega
    have hM16 : 2 ^ n - 1 < 65536 := by omega
    have c4 := q4.cell (i := 0) rfl
    have HCW := Lib.hid c4
    gi_wp2
    refine wpIn_mono (Q := fun e a' w' => match e with | .normal => a' = { tmps := #[.slice a n cap, u1, u2, .pointer (some ⟨w1.heap.size, 0, none⟩), .pointer (some ⟨w1.heap.size + 1 + 1, 0, none⟩), .pointer (some ⟨sb, 0, none⟩), u6, u7, u8, u9, u10, u11, .int .i64 gone, .slice a n cap, .int .i64 (2 ^ n - 1 : Nat), .bool ((gone : Int) != ((2 ^ n - 1 : Nat) : Int)), u16, u17, u18, u19, u20, u21, u22, u23, u24, u25, u26, u27, u28, u29, u30, u31, u32, u33, u34, u35, u36, u37, u38, u39, u40, u41, u42], defers := ds } ∧ w' = wr.drewN 1 | _ => False) ?_ ?_
    · gi_region_with (gi_at_call 79; refine (callsIn_wide.2 (all_any _ _ _ _ (by omega))).mono ?_; rintro e w1 ⟨rfl, rfl⟩)
      all_goals exact ⟨rfl, rfl⟩
    intro e a' w' hp
    cases e <;> try exact hp.elim
    obtain ⟨rfl, rfl⟩ := hp
    dsimp only
    have hbd : Below wr.heap.size wr (wr.drewN 1) := below_drewN (Below.refl _ _) 1
    have p1 := q1.drewN 1
    have p3 := q3.drewN 1
    have p4 := q4.drewN 1
    have pt := qt.drewN 1
    have HOD := Lib.hid (show IntsOwn (wr.drewN 1) (w1.heap.size + 1) v (L.map fun (x : Nat) => (x : Int)) from HOW.out)
    have HMD := Lib.hid (HM.out.keeps ((keeps_drewN wr 1).from _))
    have hbw := below_drewN hbr 1
    have HSW : Hid ((wr.drewN 1).heap.size = wr.heap.size) := Lib.hid rfl
    generalize wr.drewN 1 = W0 at *
    clear q1 q3 q4 qt c4 HM HOW hbd hbr
    by_cases hall : gone = 2 ^ n - 1
    · have HALL := Lib.hid hall
      have hq : ((gone : Int) != ((2 ^ n - 1 : Nat) : Int)) = false := by rw [hall]; simp
      clear hall
      have c3 := p3.cell (i := 0) rfl
      rw [hq]
      gi_wp2
      have hd := HGG.out
      rw [HALL.out] at hd
      have HD := Lib.hid hd.done.1
      refine leaves_marks HMD.out (fun w' hs => ⟨_, results_tmp rfl _ _ _, v, rfl, ?_, hbw.trans hs.below⟩)
      have h := ownsRow_base (base' := w.heap.size) (ownsRow_shut hs HOD.out) (by have := HB1.out.size; omega)
      rw [← HWW.out, ← HD.out]
      exact h
    · have hq : ((gone : Int) != ((2 ^ n - 1 : Nat) : Int)) = true := by simp; omega
      have HNEX := Lib.hid (HGG.out.next hall (fun v hv => HTD.out gone v hv))
      have HMORE := Lib.hid (HGG.out.more hall)
      clear hall
      have hdl : diff (2 ^ n - 1) gone < 2 ^ n := Nat.lt_of_le_of_lt (diff_le _ _) hM
      have c4 := p4.cell (i := 0) rfl
      rw [hq]
      gi_wp2
      refine wpIn_mono (Q := fun e a' w' => match e with | .normal => a' = { tmps := #[.slice a n cap, u1, u2, .pointer (some ⟨w1.heap.size, 0, none⟩), .pointer (some ⟨w1.heap.size + 1 + 1, 0, none⟩), .pointer (some ⟨sb, 0, none⟩), u6, u7, u8, u9, u10, u11, .int .i64 gone, .slice a n cap, .int .i64 (2 ^ n - 1 : Nat), .bool true, .slice a n cap, .int .i64 (2 ^ n - 1 : Nat), .int .i64 gone, .int .i64 (diff (2 ^ n - 1) gone : Nat), .func (.func 96) #[] #[.pointer (some ⟨W0.heap.size, 0, none⟩)], u21, u22, u23, u24, u25, u26, u27, u28, u29, u30, u31, u32, u33, u34, u35, u36, u37, u38, u39, u40, u41, u42], defers := ds } ∧ w' = (W0.alloc (.cells #[.int .i64 (diff (2 ^ n - 1) gone : Nat)] 3)).drewN 1 | _ => False) ?_ ?_
      · gi_region_with (first | (gi_at_call 79; refine (callsIn_wide.2 (all_any _ _ _ _ (by omega))).mono ?_; rintro e w1 ⟨rfl, rfl⟩) | (gi_at_call 74; refine (callsIn_wide.2 (nodes_any _ _)).mono ?_; rintro e w1 ⟨rfl, rfl⟩))
        all_goals exact ⟨rfl, rfl⟩
      intro e a' w' hp
      cases e <;> try exact hp.elim
      obtain ⟨rfl, rfl⟩ := hp
      dsimp only
      obtain ⟨wm, hwm, rs, hbm, hszm⟩ := new1 W0 3 [.int .i64 (diff (2 ^ n - 1) gone : Nat)]
      rw [← hwm]
      clear hwm
      have hbd : Below W0.heap.size W0 (wm.drewN 1) := below_drewN hbm 1
      have d1 := p1.below hbd p1.lt
      have d3 := p3.below hbd p3.lt
      have d4 := p4.below hbd p4.lt
      have dt := pt.below hbd pt.lt
      have dz := rs.drewN 1
      have hszd : W0.heap.size < (wm.drewN 1).heap.size := hszm
      have hbw1 := hbw.trans (hbd.mono hbw.size)
      have HOE := Lib.hid (show IntsOwn (wm.drewN 1) (w1.heap.size + 1) v (L.map fun (x : Nat) => (x : Int)) from ownsRow_below HOD.out hbd (Nat.le_refl _))
      generalize wm.drewN 1 = W1 at *
      clear rs hbm hszm
      gi_wp2
      refine range_nodes (nodes_seq (diff (2 ^ n - 1) gone) (by omega) _ W1 hszd (dz.cell (i := 0) rfl) (HT.out.below hbw1)) Tab.put (Below.refl _ _) rfl (enters_of Tryd.func96 (by kernel_rfl) rfl) rfl
        (fun pre W2 => (∀ u ∈ pre, nxtB n (tbd n r) W gone u = false) ∧ Row W2 w1.heap.size 22 [.slice (some ⟨tb, 0, none⟩) N N] ∧ Row W2 (w1.heap.size + 1 + 1) 22 [v] ∧ Row W2 sb 3 [.int .i64 (gone : Nat)] ∧ Row W2 tb 3 (tabL N (lst n r)) ∧ W2.ownsRow (w1.heap.size + 1) 3 1 v (L.map fun (x : Nat) => (x : Int)).length ((L.map fun (x : Nat) => (x : Int)).map fun x => Value.int .i64 x) ∧ KeepsFrom w.heap.size W0 W2 ∧ Below w.heap.size w W2)
        (fun c pre W2 => ∃ (pre0 : List Nat) (x : Nat) (v' : Value), c = .exit 2 ∧ pre = pre0 ++ [x] ∧ (∀ u ∈ pre0, nxtB n (tbd n r) W gone u = false) ∧ nxtB n (tbd n r) W gone x = true ∧ Row W2 w1.heap.size 22 [.slice (some ⟨tb, 0, none⟩) N N] ∧ Row W2 (w1.heap.size + 1 + 1) 22 [v'] ∧ Row W2 sb 3 [.int .i64 (gone ||| 2 ^ x : Nat)] ∧ Row W2 tb 3 (tabL N (lst n r)) ∧ W2.ownsRow (w1.heap.size + 1) 3 1 v' ((L ++ [x]).map fun (x : Nat) => (x : Int)).length (((L ++ [x]).map fun (x : Nat) => (x : Int)).map fun x => Value.int .i64 x) ∧ some sb ≠ v'.ownBlock ∧ KeepsFrom w.heap.size W0 W2 ∧ Below w.heap.size w W2)
        ((ownFrom_pure _ _).and (((own_row _ _ _).from _).and (((own_row _ _ _).from _).and (((own_row _ _ _).from _).and (((own_row _ _ _).from _).and ((ownFrom_ownsRow _ _ _ _ (fun _ => v) _ _).and ((ownFrom_keepsFrom hbd.size).and (ownFrom_below (Nat.le_refl _) hbw1.size))))))))
        (fun c => ownFrom_ex fun pre0 => ownFrom_ex fun x => ownFrom_ex fun v' => (ownFrom_pure _ _).and ((ownFrom_pure _ _).and ((ownFrom_pure _ _).and ((ownFrom_pure _ _).and (((own_row _ _ _).from _).and (((own_row _ _ _).from _).and (((own_row _ _ _).from _).and (((own_row _ _ _).from _).and ((ownFrom_ownsRow _ _ _ _ (fun _ => v') _ _).and ((ownFrom_pure _ _).and ((ownFrom_keepsFrom hbd.size).and (ownFrom_below (Nat.le_refl _) hbw1.size))))))))))))
        ⟨by simp, d1, d3, d4, dt, HOE.out, keeps_below hbd, hbw1⟩ (fun _ W h => HT.out.below h.2.2.2.2.2.2.2) ?a1 ?assign ?body ?done ?stop
      case assign =>
        intro l x W K hx hK
        gi_wp2
        exact hK
      case body =>
        rintro l pre x W2 hx _ ⟨hp, o1, o3, o4, ot, hown, hKF, hB⟩
        obtain ⟨hx10, hxd⟩ := mem_bitsOf.1 hx
        have hxn := bitsOf_lt hdl hx
        have hgx : gone.testBit x = false := by
          rw [testBit_diff, Bool.and_eq_true] at hxd
          simpa using hxd.2
        have HGX := Lib.hid hgx
        have hor : gone ||| 2 ^ x < 2 ^ n := Nat.or_lt_two_pow hgl (pow_lt_pow hxn)
        have HNL := Lib.hid (nxt_lst (n := n) (r := r) (W := W) hgx)
        have HL0 : Hid (lst n r 0 = W) := Lib.hid (by rw [lst_rst]; exact HWW.out.symm)
        have HP := Lib.hid hp
        have HOWN := Lib.hid hown
        have HKF := Lib.hid hKF
        have HB := Lib.hid hB
        have horN : gone ||| 2 ^ x < N := by rw [HN.out]; exact hor
        have hN0 : 0 < N := by rw [HN.out]; exact hpn
        have cT := ot.cell (i := gone ||| 2 ^ x) (tabL_get horN)
        have cZ := ot.cell (i := 0) (tabL_get hN0)
        rw [HL0.out] at cZ
        have hy := lst_le (r := r) hor
        have hW7 : W ≤ 7 := by have := lst_le (r := r) hpn; rw [HL0.out] at this; omega
        have HYD : Hid (∃ y, y = lst n r (gone ||| 2 ^ x)) := Lib.hid ⟨_, rfl⟩
        generalize lst n r (gone ||| 2 ^ x) = y at *
        have hx16 : x < 16 := by omega
        have hx64 : x < 64 := by omega
        have hpw := pow_bd x hx16
        have ca := o1.cell (i := 0) rfl
        have cb := o3.cell (i := 0) rfl
        have cc := o4.cell (i := 0) rfl
        clear hxd hgx hp hown hKF hB HYD hor
        by_cases hyW : y ≤ W
        · have hd : decide ((y : Int) ≤ (W : Int)) = true := by simp; omega
          have HYW := Lib.hid (HNL.out.2 hyW)
          have hLn := HMORE.out
          have hszB := HB.out.size
          have hszw := HB1.out.size
          gi_wp2
          refine quiet_round (by kernel_rfl) (by kernel_rfl) (by kernel_rfl) ?_
          repeat (gi_big_quiet_step ((fail)))
          refine wpQuietIn_nil ?_
          rintro _ ⟨nq, rfl⟩
          have HO3 : Hid ((W2.drewN nq).ownsRow (w1.heap.size + 1) 3 1 v (L.map fun (x : Nat) => (x : Int)).length ((L.map fun (x : Nat) => (x : Int)).map fun x => Value.int .i64 x)) := Lib.hid HOWN.out
          have HKD : Hid (KeepsFrom w.heap.size W2 (W2.drewN nq)) := Lib.hid ((keeps_drewN W2 nq).from _)
          have HBD : Hid (Below w.heap.size w (W2.drewN nq)) := Lib.hid (below_drewN HB.out nq)
          have z1 := o1.drewN nq
          have z3 := o3.drewN nq
          have z4 := o4.drewN nq
          have zt := ot.drewN nq
          have HSZ : Hid ((W2.drewN nq).heap.size = W2.heap.size) := Lib.hid rfl
          have HSB : Hid (sb < W2.heap.size) := Lib.hid o4.lt
          have HWS : Hid (w1.heap.size + 1 + 1 < W2.heap.size) := Lib.hid o3.lt
          have cb3 := z3.cell (i := 0) rfl
          generalize hW3 : W2.drewN nq = W3 at *
          have HLL : Hid ((L.map fun (x : Nat) => (x : Int)).length = L.length) := Lib.hid (by simp)
          clear ca cb cc cT cZ o1 o3 o4 ot
          gi_wp2_with (gi_at_builtin; refine wpListIn_append_own_at _ rfl _ _ 22 rfl (w1.heap.size + 1) 3 i0 (.int .i64 0) 1 8 Tryd.underlying22 hi0 hz1 hz2 hz3 rfl (by decide) v _ _ rfl (HO3.out.alloc _) ⟨W3.heap.size, 0, none⟩ 1 1 [.int .i64 x] rfl rfl ?c1 ?c2 ?c3 ?c4 ?c5 ?_)
          case c1 => exact cells_new _ _ _
          case c2 => intro u hu; simp at hu; subst hu; rfl
          case c3 => rw [HLL.out]; unfold maxLen; omega
          case c4 => rw [HLL.out]; omega
          case c5 => have := HSZ.out; have := HWS.out; simp; omega
          intro v' w9 hown1 hg1 _ hat
          obtain ⟨g', cap', rfl⟩ := ownsRow_succ hown1
          have HOA := Lib.hid (HO3.out.alloc (.cells #[.int .i64 x] 3))
          have y1 := (z1.alloc (.cells #[.int .i64 x] 3)).grown hg1 (not_own HOA.out (by omega))
          have y3 := (z3.alloc (.cells #[.int .i64 x] 3)).grown hg1 (not_own_type HO3.out z3 (by decide))
          have y4 := (z4.alloc (.cells #[.int .i64 x] 3)).grown hg1 HNE.out
          have yt := (zt.alloc (.cells #[.int .i64 x] 3)).grown hg1 (not_own HOA.out (by have := HTBL.out; omega))
          have hk1 : ∀ B, KeepsFrom B W3 w9 := fun B => ((KeepsOthers.alloc W3 (.cells #[.int .i64 x] 3)).from B).trans (of_grown_own HOA.out hg1)
          have hb1 := (HBD.out.alloc HBD.out.size (.cells #[.int .i64 x] 3)).grown hg1 (by have := HBD.out.size; simp; omega) (fun k hk => by have := (World.ownsRow.lt HO3.out k hk).1; omega)
          have HNE9 : Hid (some sb ≠ (Value.slice (some ⟨g', 0, none⟩) (L.length + 1) cap').ownBlock) := Lib.hid (by
            rcases hat with h | h
            · rw [h]; exact HNE.out
            · rw [h]; have := HSB.out; have := HSZ.out; simp; omega)
          have HO1 := Lib.hid hown1
          have HK1 := Lib.hid hk1
          have HB1' := Lib.hid hb1
          clear hown1 hk1 hb1 hat hg1 z1 z3 z4 zt cb3
          have f3 := y3.free 0
          have l3 := y3.lt
          have c3 := y3.cell (i := 0) rfl
          gi_wp2
          have HO4 : Hid ((w9.setCell ⟨w1.heap.size + 1 + 1, 0, none⟩ (.slice (some ⟨g', 0, none⟩) (L.length + 1) cap')).ownsRow (w1.heap.size + 1) 3 1 (.slice (some ⟨g', 0, none⟩) (L.length + 1) cap') ((L ++ [x]).map fun (x : Nat) => (x : Int)).length (((L ++ [x]).map fun (x : Nat) => (x : Int)).map fun x => Value.int .i64 x)) := Lib.hid (by
            have h := HO1.out.kept (grownBy_setCell' w9 (w1.heap.size + 1 + 1) (.slice (some ⟨g', 0, none⟩) (L.length + 1) cap')) (.inr (not_own_type HO1.out y3 (by decide)).symm)
            simpa using h)
          have a1 := y1.other (a := ⟨w1.heap.size + 1 + 1, 0, none⟩) (by simp; omega) (.slice (some ⟨g', 0, none⟩) (L.length + 1) cap')
          have a3 := y3.set 0 (.slice (some ⟨g', 0, none⟩) (L.length + 1) cap')
          have a4 := y4.other (a := ⟨w1.heap.size + 1 + 1, 0, none⟩) (by simp; omega) (.slice (some ⟨g', 0, none⟩) (L.length + 1) cap')
          have at' := yt.other (a := ⟨w1.heap.size + 1 + 1, 0, none⟩) (by have := HTBL.out; simp; omega) (.slice (some ⟨g', 0, none⟩) (L.length + 1) cap')
          have HK2 : Hid (KeepsFrom w.heap.size W2 (w9.setCell ⟨w1.heap.size + 1 + 1, 0, none⟩ (.slice (some ⟨g', 0, none⟩) (L.length + 1) cap')) ∧ KeepsFrom W1.heap.size W2 (w9.setCell ⟨w1.heap.size + 1 + 1, 0, none⟩ (.slice (some ⟨g', 0, none⟩) (L.length + 1) cap'))) := Lib.hid ⟨HKD.out.trans ((HK1.out _).trans (keeps_set _ _ _ _ _)), (by rw [← hW3]; exact (keeps_drewN W2 nq).from _ : KeepsFrom W1.heap.size W2 W3).trans ((HK1.out _).trans (keeps_set _ _ _ _ _))⟩
          have HB2 := Lib.hid (HB1'.out.setCell (p := ⟨w1.heap.size + 1 + 1, 0, none⟩) (by simp; omega) (.slice (some ⟨g', 0, none⟩) (L.length + 1) cap'))
          generalize w9.setCell ⟨w1.heap.size + 1 + 1, 0, none⟩ (.slice (some ⟨g', 0, none⟩) (L.length + 1) cap') = w10 at *
          clear y1 y3 y4 yt f3 l3 c3 HO1 HK1 HB1'
          have c4 := a4.cell (i := 0) rfl
          have f4 := a4.free 0
          have l4 := a4.lt
          refine last_round (by kernel_rfl) rfl (by kernel_rfl) (by kernel_rfl) (by kernel_rfl) ?_
          dsimp only [initOf, lastOf]
          repeat (gi_big_quiet_step ((fail)))
          refine wpQuietIn_nil ?_
          rintro _ ⟨nq, rfl⟩
          gi_wp2
          refine ⟨HK2.out.2.trans (keeps_store _ _ _ _ _), pre, x, _, rfl, rfl, HP.out, HYW.out, (a1.drewN nq).other (by simp; omega) _, (a3.drewN nq).other (by simp; omega) _, (a4.drewN nq).set 0 _, (at'.drewN nq).other (by have := HTBL.out; simp; omega) _, ?_, HNE9.out, HKF.out.trans (HK2.out.1.trans (keeps_store _ _ _ _ _)), (below_drewN HB2.out nq).setCell (p := ⟨sb, 0, none⟩) (by simp; omega) _⟩
          exact World.ownsRow.kept (show (w10.drewN nq).ownsRow _ _ _ _ _ _ from HO4.out) (grownBy_setCell' (w10.drewN nq) sb _) (.inr HNE9.out.symm)
        · have hd : decide ((y : Int) ≤ (W : Int)) = false := by simp; omega
          have HYW := Lib.hid (Bool.eq_false_iff.2 fun h => hyW (HNL.out.1 h))
          gi_wp2
          refine quiet_round (by kernel_rfl) (by kernel_rfl) (by kernel_rfl) ?_
          repeat (gi_big_quiet_step ((fail)))
          refine wpQuietIn_nil ?_
          rintro _ ⟨nq, rfl⟩
          gi_wp2
          refine ⟨(keeps_drewN W2 nq).from _, fun u hu => ?_, o1.drewN nq, o3.drewN nq, o4.drewN nq, ot.drewN nq, HOWN.out, HKF.out.trans ((keeps_drewN W2 nq).from _), below_drewN HB.out nq⟩
          rcases List.mem_append.1 hu with h | h
          · exact HP.out u h
          · rw [List.mem_singleton.1 h]; exact HYW.out
      case done =>
        rintro D W2 hD ⟨hp, o1, o3, o4, ot, hown, hKF, hB⟩ hK
        exfalso
        obtain ⟨u, hu, hb⟩ := HNEX.out
        have h1 := (nxtB_iff.1 hb).1
        have := hp u (mem_bitsOf.2 ⟨by omega, by rw [testBit_diff, h1, Nat.testBit_two_pow_sub_one, decide_eq_true hu]; rfl⟩)
        rw [this] at hb; cases hb
      case stop =>
        rintro D c pre W2 hD hpre ⟨pre0, x, v', rfl, rfl, hp, hnx, o1, o3, o4, ot, hown, hne, hKF, hB⟩ hK
        have HM2 := Lib.hid (HMD.out.push hKF hbw.size (Nat.le_trans hbd.size hD) hK)
        have hxn : x < n := bitsOf_lt hdl (hpre.subset (by simp))
        have hall : ∀ u, u < x → nxtB n (tbd n r) W gone u = false := by
          intro u hu
          cases hb : gone.testBit u
          · exact hp u (bitsOf_before hpre hu (by rw [testBit_diff, hb, Nat.testBit_two_pow_sub_one, decide_eq_true (by omega)]; rfl) (by omega))
          · exact Bool.eq_false_iff.2 fun h => by have := (nxtB_iff.1 h).1; rw [hb] at this; cases this
        have HST := Lib.hid (HGG.out.step hxn hnx hall)
        have HNX := Lib.hid hnx
        have HOWN := Lib.hid hown
        have HNE2 := Lib.hid hne
        have HB2 := Lib.hid hB
        have HKF := Lib.hid hKF
        have c4' := o4.cell (i := 0) rfl
        have hszW := hB.size
        clear hp hall hpre hnx hown hne hB hKF hK
        gi_wp2
        obtain ⟨w4, hw4, b1, b2, b3⟩ := new1 W2 3 [.int .i64 (gone ||| 2 ^ x : Nat)]
        rw [← hw4]
        have HW4 := Lib.hid hw4
        clear hw4
        refine ⟨⟨_, _, _, _, _, _, _, _, _, _, _, _, _, _, _, _, _, _, _, _, _, _, _, _, _, _, _, _, _, _, _, _, _, _, _, _, _, _, _, _, _, _, _, _, ?_, rfl⟩, ?_⟩
        · exact ⟨L ++ [x], gone ||| 2 ^ x, W2.heap.size, v', rfl, rfl, rfl, rfl, HM2.out.keeps (keeps_below b2), o1.below b2 o1.lt, o3.below b2 o3.lt, b1, ot.below b2 ot.lt, ownsRow_below HOWN.out b2 (Nat.le_refl _), fun e => by have := (World.ownsRow.lt HOWN.out _ e.symm).2; omega, o3.lt, HST.out, HB2.out.trans (b2.mono hszW)⟩
        · rename_i _ pa ea _ pb eb
          have ea' : Value.pointer (some ⟨W2.heap.size, 0, none⟩) = Value.pointer (some pa) := ea
          have eb' : Value.pointer (some ⟨sb, 0, none⟩) = Value.pointer (some pb) := eb
          cases ea'
          cases eb'
          rw [HCW.out, b1.cell (i := 0) rfl]
          have h1 := HST.out.sz
          have h2 := HGG.out.sz
          have h3 := HST.out.len
          simp only [List.length_append, List.length_singleton] at h1 h3
          simp only [Option.getD_some, intOf, Int.toNat_natCast]
          omega
end
end Go.Proofs.YtgkpogaahndmoaaDoor
