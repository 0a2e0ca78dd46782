/- Package minor: the contracts of newTown in two forms, newPair, around, isConnected, reaches. -/
import Derived.Test.YtfmppncefbjicaaDoorMb
import Derived.Test.YtfmppncefbjicaaDoorM3
import Derived.Test.YtfmppncefbjicaaDoorW2
namespace Go.Proofs.YtfmppncefbjicaaDoor
set_option linter.unusedSimpArgs false
set_option linter.unusedVariables false
open Go.RowKit Go.Maps
attribute [local go_sem] i64_bit toNat_eq_one toNat_ne_one toNat_eq_zero toNat_ne_zero i64_and i64_or i64_andNot i64_or_pow i64_andNot_pow

def InI64 (z : Nat → Int) : Prop := ∀ i, -9223372036854775808 ≤ z i ∧ z i ≤ 9223372036854775807
abbrev natG (z : Nat → Int) (i : Nat) : Nat := (z i).toNat
theorem pow_le8 {n : Nat} (h : n ≤ 8) : 2 ^ n ≤ 256 := by
  have : 2 ^ n ≤ 2 ^ 8 := Nat.pow_le_pow_right (by omega) h
  simpa using this
theorem lt16m {n x : Nat} (hn : n ≤ 8) (hx : x < 2 ^ n) : x < 65536 := by have := pow_le8 hn; omega
theorem bit_ltm {x n i : Nat} (h : x < 2 ^ n) (hb : x.testBit i = true) : i < n := by
  apply Classical.byContradiction
  intro hn
  have := Nat.testBit_lt_two_pow (i := i) (Nat.lt_of_lt_of_le h (Nat.pow_le_pow_right (by omega) (by omega)))
  rw [this] at hb; cases hb
theorem lowN_ltm {n s : Nat} (hn : n ≤ 8) (h0 : 0 < s) (hs : s < 2 ^ n) : lowN s < n :=
  bit_ltm hs (lowN_all s (by have := pow_le8 hn; omega) h0).2.1

/-- What a town is. -/
structure Tn (w : World) (a : Option Addr) (n : Nat) (r : Nat → Nat) : Prop where
  at_ : GrAt w a n r
  le : n ≤ 8
  bd : ∀ i, i < n → r i < 2 ^ n
theorem Tn.below {w w' : World} {a : Option Addr} {n : Nat} {r : Nat → Nat} (h : Tn w a n r) (hb : Below w.heap.size w w') : Tn w' a n r := ⟨h.at_.below hb, h.le, h.bd⟩
theorem Tn.of_graph {w : World} {a : Option Addr} {n : Nat} {z : Nat → Int} (h : IntsAt w a n z) (hg : graphB n 8 z = true) : Tn w a n (natG z) := by
  obtain ⟨h1, h2, h3⟩ := graphB_le hg
  refine ⟨GrAt.of_graph h hg (by omega), h2, fun i hi => ?_⟩
  obtain ⟨h4, h5⟩ := h3 i hi
  rw [pow_cast] at h5
  show (z i).toNat < 2 ^ n
  omega
theorem newTown_yes {n : Nat} {z : Nat → Int} {a : Option Addr} (cap : Nat) {w : World} (hI : IntsAt w a n z) (hz : InI64 z) (hT : Tab w) (hg : graphB n 8 z = true) :
    Calls Tryd.prog 68 #[.slice a n cap] w fun e w' => e = .returned (.tuple #[.slice a n cap, .bool true]) ∧ Below w.heap.size w w' := by
  refine (newTown_any n z a cap w hI hz hT).mono ?_
  rintro e w' ⟨rfl, hb⟩
  rw [hg]
  exact ⟨rfl, hb⟩
theorem newTown_no {n : Nat} {z : Nat → Int} {a : Option Addr} (cap : Nat) {w : World} (hI : IntsAt w a n z) (hz : InI64 z) (hT : Tab w) (hg : graphB n 8 z = false) :
    Calls Tryd.prog 68 #[.slice a n cap] w fun e w' => e = .returned (.tuple #[.slice none 0 0, .bool false]) ∧ Below w.heap.size w w' := by
  refine (newTown_any n z a cap w hI hz hT).mono ?_
  rintro e w' ⟨rfl, hb⟩
  rw [hg]
  exact ⟨rfl, hb⟩

/-- The nodes that have a neighbour among some. -/
def aroF (r : Nat → Nat) (pre : List Nat) : Nat := pre.foldl (fun acc v => acc ||| r v) 0
theorem aroF_snoc (r : Nat → Nat) (pre : List Nat) (x : Nat) : aroF r (pre ++ [x]) = aroF r pre ||| r x := by simp [aroF]
theorem testBit_aroF (r : Nat → Nat) : ∀ (pre : List Nat) (f i : Nat), (pre.foldl (fun acc v => acc ||| r v) f).testBit i = true ↔ f.testBit i = true ∨ ∃ u ∈ pre, (r u).testBit i = true := by
  intro pre
  induction pre with
  | nil => intro f i; simp
  | cons x pre ih =>
    intro f i
    rw [List.foldl_cons, ih, Nat.testBit_or, Bool.or_eq_true]
    constructor
    · rintro ((h | h) | ⟨u, hu, h⟩)
      · exact .inl h
      · exact .inr ⟨x, List.mem_cons_self .., h⟩
      · exact .inr ⟨u, List.mem_cons_of_mem _ hu, h⟩
    · rintro (h | ⟨u, hu, h⟩)
      · exact .inl (.inl h)
      · rcases List.mem_cons.1 hu with rfl | hu
        · exact .inl (.inr h)
        · exact .inr ⟨u, hu, h⟩
theorem aroF_lt {n : Nat} {r : Nat → Nat} (hr : ∀ i, i < n → r i < 2 ^ n) : ∀ (pre : List Nat), (∀ u ∈ pre, u < n) → aroF r pre < 2 ^ n := by
  intro pre hp
  apply Nat.lt_pow_two_of_testBit
  intro i hi
  rw [Bool.eq_false_iff]
  intro h
  rcases (testBit_aroF r pre 0 i).1 h with h | ⟨u, hu, h⟩
  · simp at h
  · rw [Nat.testBit_lt_two_pow (Nat.lt_of_lt_of_le (hr u (hp u hu)) (Nat.pow_le_pow_right (by omega) hi))] at h; cases h
/-- The nodes that have a neighbour in a set. -/
def aroN (r : Nat → Nat) (s : Nat) : Nat := aroF r (bitsOf s)
theorem testBit_aro {n : Nat} {r : Nat → Nat} {s : Nat} (hn : n ≤ 8) (hs : s < 2 ^ n) (i : Nat) : (aroN r s).testBit i = true ↔ ∃ j, j < n ∧ s.testBit j = true ∧ (r j).testBit i = true := by
  unfold aroN
  rw [show aroF r (bitsOf s) = (bitsOf s).foldl (fun acc v => acc ||| r v) 0 from rfl, testBit_aroF]
  constructor
  · rintro (h | ⟨u, hu, h⟩)
    · simp at h
    · exact ⟨u, bitsOf_lt hs hu, (mem_bitsOf.1 hu).2, h⟩
  · rintro ⟨j, hj, h1, h2⟩
    exact .inr ⟨j, mem_bitsOf.2 ⟨by omega, h1⟩, h2⟩
theorem aroN_lt {n : Nat} {r : Nat → Nat} {s : Nat} (hr : ∀ i, i < n → r i < 2 ^ n) (hs : s < 2 ^ n) : aroN r s < 2 ^ n := aroF_lt hr _ fun _ hu => bitsOf_lt hs hu

section
attribute [local go_sem] Oper.semAt_some wide_fn wide_fn_in
set_option maxRecDepth 100000 in
set_option maxHeartbeats 2000000 in
theorem around_any {n : Nat} {r : Nat → Nat} {a : Option Addr} {w : World} (G : Tn w a n r) (cap set : Nat) (hset : set < 2 ^ n) (hT : Tab w) :
    Calls Tryd.prog 106 #[.slice a n cap, .int .i64 set] w fun e w' => e = .returned (.int .i64 (aroN r set : Nat)) ∧ Below w.heap.size w w' := by
  have hn8 := G.le
  obtain ⟨hml, hI⟩ := G.at_.ints
  obtain ⟨b, off, rfl, hlt, hc⟩ := hI G.at_.pos
  have h8 := pow_le8 hn8
  have hs16 : set < 65536 := by omega
  have hbc : ∀ wx, Below w.heap.size w wx → ∀ i, i < n → wx.cell? ⟨b, off + i, none⟩ = some (.int .i64 (r i : Nat)) := fun wx hb i hi => by rw [hb.cell (p := ⟨b, off + i, none⟩) hlt]; exact hc i hi
  have HC := Lib.hid hbc
  have HR := Lib.hid G.bd
  have HT := Lib.hid hT
  unfold maxLen at hml
  clear hbc hc hI hT G
  refine (callsIn_wide (n := 9)).1 ?_
  refine callsIn_of_wp_marks Tryd.func106 rfl trivial ?_ rfl
  simp only [Tryd.ntmps106, List.size_toArray, List.length_cons, List.length_nil, Nat.reduceAdd, Nat.reduceSub, Array.replicate_succ, Array.replicate_zero, List.push_toArray, List.append_toArray, List.nil_append, List.cons_append]
  obtain ⟨w0, hw0, r2, r5, hb0, hsz⟩ := new2 w 74 3 [.slice (some ⟨b, off, none⟩) n cap] [.int .i64 0]
  have e0 : w0.heap.size = w.heap.size + 1 + 1 := by rw [hw0]; simp
  obtain ⟨wn, hwn, rs, hbn, hszn⟩ := new1 w0 3 [.int .i64 set]
  rw [e0] at rs hszn
  gi_wp2_with (gi_at_call 93; refine (callsIn_wide.2 (nodes_any _ _)).mono ?_; rintro e w1 ⟨rfl, rfl⟩)
  rw [← hw0, ← hwn]
  have p2 := r2.below hbn r2.lt
  have p5 := r5.below hbn r5.lt
  have hbw := hb0.trans (hbn.mono hb0.size)
  refine range_nodes (nodes_seq set (by omega) _ wn hszn (rs.cell (i := 0) rfl) (HT.out.below hbw)) Tab.put (Below.refl _ _) rfl (enters_of Tryd.func109 (by kernel_rfl) rfl) rfl
    (fun pre W => Row W (w.heap.size + 1) 3 [.int .i64 (aroF r pre : Nat)] ∧ Row W w.heap.size 74 [.slice (some ⟨b, off, none⟩) n cap] ∧ (∀ u ∈ pre, u < n) ∧ Below w.heap.size w W)
    (fun _ _ _ => False)
    (((own_row _ _ _).from _).and (((own_row _ _ _).from _).and ((ownFrom_pure _ _).and (ownFrom_below (Nat.le_refl _) hbw.size))))
    (fun c => ownFrom_pure _ _)
    ⟨p5, p2, by simp, hbw⟩ (fun _ W h => HT.out.below h.2.2.2) ?a1 ?assign ?body ?done ?stop
  case assign =>
    intro l x W K hx hK
    gi_wp2
    exact hK
  case body =>
    rintro l pre x W hx hpfx ⟨o5, o2, hpre, hB⟩
    have hxn := bitsOf_lt hset hx
    have cx := HC.out W hB x hxn
    have hrx := HR.out x hxn
    have HST := Lib.hid (aroF_snoc r pre x)
    have hag := aroF_lt HR.out pre hpre
    have HPR : Hid (∀ u ∈ pre ++ [x], u < n) := Lib.hid fun u hu => by
      rcases List.mem_append.1 hu with h | h
      · exact hpre u h
      · rw [List.mem_singleton.1 h]; exact hxn
    generalize aroF r pre = g at *
    have hg16 : g < 65536 := by omega
    have hrx16 : r x < 65536 := by omega
    have c2 := o2.cell (i := 0) rfl
    have c5 := o5.cell (i := 0) rfl
    have f5 := o5.free 0
    have l5 := o5.lt
    clear hpre hpfx
    gi_wp2
    refine last_round (by kernel_rfl) rfl (by kernel_rfl) (by kernel_rfl) (by kernel_rfl) ?_
    dsimp only [initOf, lastOf]
    repeat (gi_big_quiet_step ((fail)))
    refine wpQuietIn_nil ?_
    rintro _ ⟨nq, rfl⟩
    gi_wp2
    exact ⟨keeps_store _ W _ _ _, by rw [HST.out]; exact (o5.drewN _).set 0 _, (o2.drewN _).other (by simp) _, HPR.out, (below_drewN hB _).setCell (p := ⟨w.heap.size + 1, 0, none⟩) (by simp) _⟩
  case done =>
    rintro D W hD ⟨o5, o2, _, hB⟩ hK
    have c5 := o5.cell (i := 0) rfl
    gi_wp2
    exact leaves_marks (B := w.heap.size) (Marks.one (Nat.le_trans hbw.size hD) hK) (fun w' hs => ⟨_, results_tmp rfl _ _ _, rfl, hB.trans hs.below⟩)
  case stop => exact fun _ _ _ _ _ _ h _ => h.elim
end

/-- Whether a number is a connected set, as the program asks it. -/
def conB (n : Nat) (r : Nat → Nat) (s : Nat) : Bool := decide (0 < s) && partS n r s (lowN s) == s
theorem two_pow_lt {n v : Nat} (h : v < n) : 2 ^ v < 2 ^ n := Nat.pow_lt_pow_right (by omega) h

set_option maxRecDepth 20000 in
set_option maxHeartbeats 2000000 in
theorem isConnected_any {n : Nat} {r : Nat → Nat} {a : Option Addr} {w : World} (G : Tn w a n r) (cap s : Nat) (hs : s < 2 ^ n) (hT : Tab w) :
    Calls Tryd.prog 86 #[.slice a n cap, .int .i64 s] w fun e w' => e = .returned (.bool (conB n r s)) ∧ Below w.heap.size w w' := by
  have hn8 := G.le
  have h8 := pow_le8 hn8
  have hn16 : n < 16 := by omega
  have hs16 : s < 65536 := by omega
  have HG := Lib.hid G
  have HT := Lib.hid hT
  have HX : Hid (conB n r s = (decide (0 < s) && partS n r s (lowN s) == s)) := Lib.hid rfl
  have hin : inB ((s : Nat) : Int) (2 ^ n) = true := inB_true (by omega) (by rw [pow_cast]; omega)
  have HIS : Hid (∀ w : World, Calls Tryd.prog 91 #[.slice a n cap, .int .i64 s] w fun e w' => e = .returned (.bool true) ∧ w = w') := Lib.hid fun w => by
    have := isSet_any a n cap (s : Int) w hn16
    rw [hin] at this; exact this
  clear G hT hin
  by_cases h0 : s = 0
  · subst h0
    go_enter Tryd.func86, Tryd.ntmps86
    go_wp2_with (go_at_call 91; refine (HIS.out _).mono ?_; rintro e w1 ⟨rfl, rfl⟩)
    go_ret
    exact ⟨by rw [HX.out]; rfl, Below.refl _ _⟩
  · have hpos : 0 < s := Nat.pos_of_ne_zero h0
    have hlv := lowN_ltm hn8 hpos hs
    have hv16 : lowN s < 16 := by omega
    have hs0 : ((s : Int) == 0) = false := by rw [beq_eq_false_iff_ne]; omega
    have HLB := Lib.hid (lowN_all s (by omega) hpos).2.1
    have HFI := Lib.hid (fun w h => first_any s (by omega) hpos w h)
    have hpv := pow_bd (lowN s) hv16
    obtain ⟨pv, hpe⟩ : ∃ p : Nat, p = 2 ^ lowN s := ⟨_, rfl⟩
    have hpc : (2 : Int) ^ lowN s = (pv : Nat) := by rw [hpe]; exact pow_cast _
    have HPE := Lib.hid hpe
    have HPC := Lib.hid hpc
    have HLV := Lib.hid hlv
    have HX2 : Hid (conB n r s = (partS n r s (lowN s) == s)) := Lib.hid (by rw [HX.out, decide_eq_true hpos, Bool.true_and])
    have hpv2 : pv < 2 ^ n := by rw [hpe]; exact two_pow_lt hlv
    generalize lowN s = v at *
    clear hpc hpe h0
    go_enter Tryd.func86, Tryd.ntmps86
    go_wp2_with (first
      | (go_at_call 91; refine (HIS.out _).mono ?_; rintro e w1 ⟨rfl, rfl⟩)
      | (go_at_call 105; refine (HFI.out _ HT.out).mono ?_; rintro e w2 ⟨rfl, rfl⟩))
    rw [HPC.out]
    go_loopw [5] (fun f wr => ∃ x : Nat, f = .int .i64 x ∧ x.testBit v = true ∧ (∀ i, x.testBit i = true → (partS n r s v).testBit i = true) ∧ Below w.heap.size w wr) (fun f _ => 2 ^ n - (intOf f).toNat)
    case atStart => exact ⟨pv, rfl, by rw [HPE.out]; exact bit_pow v, fun i h => metIn_sub n i (by rw [← HPE.out]; exact h), Below.refl _ _⟩
    case round =>
      obtain ⟨x, rfl, hself, hsub, hbr⟩ := hrel
      have hxP := sub_le hsub
      have hP := partS_lt (set := s) HLV.out HG.out.bd
      have hx2 : x < 2 ^ n := by omega
      have hx16 := lt16m hn8 hx2
      have hAl : aroN r x < 2 ^ n := aroN_lt HG.out.bd hx2
      have hA16 : aroN r x < 65536 := lt16m hn8 hAl
      have HTB := Lib.hid (fun i => testBit_aro (r := r) hn8 hx2 i)
      have HAR := Lib.hid (around_any (HG.out.below hbr) cap x hx2 (HT.out.below hbr))
      have HS := Lib.hid hself
      have HSU := Lib.hid hsub
      have HB := Lib.hid hbr
      have HXL := Lib.hid hx2
      obtain ⟨A, hA⟩ : ∃ A, A = aroN r x := ⟨_, rfl⟩
      rw [← hA] at hA16 HTB HAR
      have hand : A &&& s < 65536 := and_lt hA16
      clear hself hsub hxP hP hx2 hpv hA hAl hbr
      by_cases h0 : diff (A &&& s) x = 0
      · have H0 := Lib.hid h0
        have hb0 : (((diff (A &&& s) x : Nat) : Int) == 0) = true := by rw [h0]; rfl
        have hq := cast_beq x s
        clear h0
        go_wp2_with (go_at_call 106; refine HAR.out.mono ?_; rintro e w3 ⟨rfl, hb3⟩; have HB3 := Lib.hid (HB.out.trans (hb3.mono HB.out.size)); clear hb3)
        go_ret
        have : x = partS n r s v := partS_is HLV.out HG.out.bd HS.out HSU.out (fun u hu h1 y h2 h3 => by
          apply Classical.byContradiction
          intro h4
          have h5 : A.testBit y = true := (HTB.out y).2 ⟨u, hu, h1, h2⟩
          have h6 : (diff (A &&& s) x).testBit y = true := by rw [testBit_diff, Nat.testBit_and, h5, h3]; simpa using h4
          rw [H0.out] at h6; simp at h6)
        exact ⟨by rw [HX2.out, ← this]; first | rfl | (rw [← hq]; rfl), HB3.out⟩
      · have H0 := Lib.hid h0
        have hb0 : (((diff (A &&& s) x : Nat) : Int) == 0) = false := by rw [beq_eq_false_iff_ne]; omega
        have hdl : diff (A &&& s) x < 65536 := diff_lt hand
        clear h0
        go_wp2_with (go_at_call 106; refine HAR.out.mono ?_; rintro e w3 ⟨rfl, hb3⟩; have HB3 := Lib.hid (HB.out.trans (hb3.mono HB.out.size)); clear hb3)
        go_roundw
        case rel =>
          refine ⟨x ||| diff (A &&& s) x, rfl, by rw [Nat.testBit_or, HS.out]; rfl, fun i hi => ?_, HB3.out⟩
          rw [Nat.testBit_or, Bool.or_eq_true, testBit_diff, Nat.testBit_and, Bool.and_eq_true, Bool.and_eq_true] at hi
          rcases hi with hi | ⟨⟨h1, h2⟩, _⟩
          · exact HSU.out i hi
          · obtain ⟨j, hj, h3, h4⟩ := (HTB.out i).1 h1
            exact partS_closed HLV.out HG.out.bd j hj (HSU.out j h3) i h4 h2
        case measure =>
          have hor : x < x ||| diff (A &&& s) x := by
            rcases Nat.lt_or_eq_of_le (Nat.left_le_or (n := x) (m := diff (A &&& s) x)) with h | h
            · exact h
            · exfalso
              apply H0.out
              apply Nat.eq_of_testBit_eq
              intro i
              rw [Nat.zero_testBit]
              cases hi : (diff (A &&& s) x).testBit i
              · rfl
              · have h5 : (x ||| diff (A &&& s) x).testBit i = true := by rw [Nat.testBit_or, hi, Bool.or_true]
                rw [← h] at h5
                rw [testBit_diff, h5] at hi
                simp at hi
          have := HXL.out
          simp only [intOf, Array.getD_eq_getD_getElem?]
          simp
          omega

end Go.Proofs.YtfmppncefbjicaaDoor
