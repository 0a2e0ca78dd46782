/- Package minor: areNeighbours, the reference's Valid and Contract. Package minor: Delete and Contract; MinorLess. -/
import Derived.Test.YtfmppncefbjicaaDoorMl
namespace Go.Proofs.YtfmppncefbjicaaDoor
set_option linter.unusedSimpArgs false
set_option linter.unusedVariables false
open Go.RowKit Go.Maps
attribute [local go_sem] i64_bit toNat_eq_one toNat_ne_one toNat_eq_zero toNat_ne_zero i64_and i64_or i64_andNot i64_or_pow i64_andNot_pow

theorem bits_upto {n s : Nat} (hn : n ≤ 10) (hs : s < 2 ^ n) : bitsOf s = (List.range n).filter s.testBit := by
  unfold bitsOf
  rw [show (10 : Nat) = n + (10 - n) by omega, List.range_add, List.filter_append]
  have : (List.map (fun x => n + x) (List.range (10 - n))).filter (fun i => s.testBit i) = [] := by
    rw [List.filter_eq_nil_iff]
    intro i hi
    obtain ⟨j, _, rfl⟩ := List.mem_map.1 hi
    rw [Nat.testBit_lt_two_pow (Nat.lt_of_lt_of_le hs (Nat.pow_le_pow_right (by omega) (by omega)))]
    simp
  rw [this, List.append_nil]
/-- The neighbours but one among the first k nodes. -/
def othN (s x k : Nat) : List Nat := (List.range k).filter fun u => s.testBit u && u != x
theorem othN_succ (s x k : Nat) : othN s x (k + 1) = if (s.testBit k && k != x) = true then othN s x k ++ [k] else othN s x k := by
  unfold othN
  rw [List.range_succ, List.filter_append]
  split
  · rename_i h; simp only [List.filter, h]
  · rename_i h; simp only [List.filter]; rw [Bool.not_eq_true] at h; rw [h]; simp
theorem othN_all {n s x : Nat} (hn : n ≤ 10) (hs : s < 2 ^ n) : othN s x n = bitsOf (diff s (2 ^ x)) := by
  rw [bits_upto hn (Nat.lt_of_le_of_lt (diff_le _ _) hs)]
  unfold othN
  refine List.filter_congr fun u _ => ?_
  rw [testBit_diff, Nat.testBit_two_pow]
  by_cases h : u = x
  · subst h; simp
  · rw [decide_eq_false (fun e => h e.symm)]; simp [h]
theorem othN_lt {s x k n : Nat} (hk : k ≤ n) : ∀ u ∈ othN s x k, u < n := fun u hu => by
  have := (List.mem_filter.1 hu).1
  have := List.mem_range.1 this
  omega

/-- Whether two numbers are nodes that are neighbours. -/
def nbM (n : Nat) (r : Nat → Nat) (x y : Int) : Bool := inB x n && inB y n && (r x.toNat).testBit y.toNat
set_option maxRecDepth 20000 in
set_option maxHeartbeats 1000000 in
theorem areNeighbours_any {n : Nat} {r : Nat → Nat} {a : Option Addr} {w : World} (G : Tn w a n r) (cap : Nat) (x y : Int) :
    Calls Tryd.prog 80 #[.slice a n cap, .int .i64 x, .int .i64 y] w fun e w' => e = .returned (.bool (nbM n r x y)) ∧ w = w' := by
  have h8 := pow_le8 G.le
  have hn8 := G.le
  have hn16 : n < 16 := by omega
  have HE : Hid (nbM n r x y = (inB x n && inB y n && (r x.toNat).testBit y.toNat)) := Lib.hid rfl
  obtain ⟨hml, hI⟩ := G.at_.ints
  obtain ⟨b, off, rfl, hlt, hc⟩ := hI G.at_.pos
  unfold maxLen at hml
  have hr := G.bd
  cases h1 : inB x n
  · have H1 := Lib.hid h1
    rw [h1] at HE
    clear h1 hI hc G hr
    go_enter Tryd.func80, Tryd.ntmps80
    go_wp2_with (go_at_call 78; refine (isNode_any _ _ _ _ _ hn16).mono ?_; rintro e w1 ⟨rfl, rfl⟩; rw [H1.out])
    go_ret
    exact ⟨by rw [HE.out]; rfl, rfl⟩
  · cases h2 : inB y n
    · have H1 := Lib.hid h1
      have H2 := Lib.hid h2
      rw [h1, h2] at HE
      clear h1 h2 hI hc G hr
      go_enter Tryd.func80, Tryd.ntmps80
      go_wp2_with (go_at_call 78; refine (isNode_any _ _ _ _ _ hn16).mono ?_; rintro e w1 ⟨rfl, rfl⟩; first | rw [H1.out] | rw [H2.out])
      go_ret
      exact ⟨by rw [HE.out]; rfl, rfl⟩
    · have H1 := Lib.hid h1
      have H2 := Lib.hid h2
      rw [h1, h2] at HE
      rw [inB_iff] at h1 h2
      obtain ⟨x, rfl⟩ : ∃ k : Nat, x = k := ⟨x.toNat, by omega⟩
      obtain ⟨y, rfl⟩ : ∃ k : Nat, y = k := ⟨y.toNat, by omega⟩
      have hxn : x < n := by omega
      have hyn : y < n := by omega
      have cx := hc x hxn
      have hrx := hr x hxn
      have hrx16 : r x < 65536 := by omega
      have hy64 : y < 64 := by omega
      rw [Int.toNat_natCast, Int.toNat_natCast] at HE
      clear h1 h2 hI hc G hr
      go_enter Tryd.func80, Tryd.ntmps80
      go_wp2_with (first
        | (go_at_call 78; refine (isNode_any _ _ _ _ _ hn16).mono ?_; rintro e w1 ⟨rfl, rfl⟩; first | rw [H1.out] | rw [H2.out])
        | (go_at_call 92; refine (has_any _ _ _ hrx16 hy64).mono ?_; rintro e w1 ⟨rfl, rfl⟩))
      go_ret
      exact ⟨by rw [HE.out]; rfl, rfl⟩

set_option maxRecDepth 20000 in
set_option maxHeartbeats 1000000 in
theorem ValidR_any (n : Nat) (z : Nat → Int) (a : Option Addr) (cap : Nat) (w : World) (hI : IntsAt w a n z) (hz : InI64 z) :
    Calls Tryd.prog 19 #[.slice a n cap] w fun e w' => e = .returned (.bool (graphB n 8 z)) ∧ Below w.heap.size w w' := by
  have HI := Lib.hid hI
  have HZ := Lib.hid hz
  clear hI hz
  go_enter Tryd.func19, Tryd.ntmps19
  go_wp2_with (go_at_call 62; refine (IsGraph_any n 8 8 rfl z a cap _ HI.out HZ.out (by omega)).mono ?_; rintro e w1 ⟨rfl, hb1⟩; have HB1 := Lib.hid hb1; clear hb1)
  go_ret
  exact ⟨rfl, HB1.out⟩
theorem graphB_few {n : Nat} {z : Nat → Int} : graphB (min n 12) 8 z = graphB n 8 z := by
  by_cases h : n ≤ 12
  · rw [Nat.min_eq_left h]
  · rw [Nat.min_eq_right (by omega), graphB_no (Or.inr (by omega)), graphB_no (Or.inr (by omega))]

set_option maxRecDepth 100000 in
set_option maxHeartbeats 4000000 in
theorem ContractR_any {n x y : Nat} {r : Nat → Nat} {ad : Option Addr} {w : World} (G : Tn w ad n r) (cap : Nat) (hx : x < n) (hy : y < n) :
    Calls Tryd.prog 50 #[.slice ad n cap, .int .i64 x, .int .i64 y] w fun e w' => ∃ u, e = .returned u ∧ WoOwn w' w.heap.size u (fun i => ((jnF r x (bitsOf (diff (r y) (2 ^ x))) i : Nat) : Int)) y (n - 1) ∧ Below w.heap.size w w' := by
  have hn8 := G.le
  have h8 := pow_le8 hn8
  obtain ⟨hml, hI⟩ := G.at_.ints
  obtain ⟨b, off, rfl, hlt, hcell⟩ := hI G.at_.pos
  obtain ⟨i0, hi0, hz1, hz2, hz3⟩ := info_parts info_int
  have HR := Lib.hid G.bd
  have hry := G.bd y hy
  have hry16 : r y < 65536 := by omega
  have cy0 := hcell y hy
  have HALL := Lib.hid (othN_all (x := x) (show n ≤ 10 by omega) hry)
  unfold maxLen at hml
  have hn0 : n ≠ 0 := by omega
  have HC := Lib.hid (show ∀ j u, ((List.range n).map fun i => Value.int .i64 (r i : Nat))[j]? = some u → (w.alloc (.cells #[] 3)).cell? ((⟨b, off, none⟩ : Addr).add j) = some u from fun j u hu => by
    obtain ⟨hj, he⟩ := List.getElem?_eq_some_iff.1 hu
    have hjn : j < n := by simpa using hj
    have e2 : u = .int .i64 (r j : Nat) := by rw [← he]; simp
    have e1 : (⟨b, off, none⟩ : Addr).add j = ⟨b, off + j, none⟩ := by
      unfold Addr.add
      split
      · rename_i h0; subst h0; rfl
      · simp
    rw [e1, e2, ((Below.refl w.heap.size w).alloc (Nat.le_refl _) _).cell (p := ⟨b, off + j, none⟩) hlt]
    exact hcell j hjn)
  clear hcell hI G
  go_enter Tryd.func50, Tryd.ntmps50
  go_wp2_with (at_builtin; refine wpList_append_own _ rfl _ _ 23 rfl w.heap.size 3 i0 (.int .i64 0) 1 8 Tryd.underlying23 hi0 hz1 hz2 hz3 rfl (by decide) _ _ _ rfl (World.ownsRow_made w #[] 0 (Nat.le_refl _) (Nat.zero_le _) rfl) ⟨b, off, none⟩ n cap ((List.range n).map fun i => Value.int .i64 (r i : Nat)) rfl (by simp) HC.out ?c2 ?c3 ?c4 ?c5 ?_)
  case c2 => first | (intro u hu; obtain ⟨i, _, rfl⟩ := List.mem_map.1 hu; rfl) | (intro u hu; rfl) | (intros; rfl)
  case c3 => unfold maxLen; omega
  case c4 => omega
  try (case c5 => simp)
  intro v' w1 hown hgr _
  have HB1 := Lib.hid (show Below w.heap.size w w1 from ((Below.refl w.heap.size w).alloc (Nat.le_refl _) _).grown hgr (by simp) (fun k hk => by simp [Value.ownBlock] at hk; omega))
  have ho : GOwn w1 w.heap.size v' n r := by simpa [GOwn] using hown
  obtain ⟨g, c1, rfl, hg1, hg2⟩ := own_form' ho hn0
  have HO1 := Lib.hid ho
  clear hown hgr ho
  go_wp2_with fail
  go_loopw [8, 14] (fun _ i wr => ∃ k : Nat, k ≤ n ∧ i = .int .i64 k ∧ GOwn wr w.heap.size (.slice (some ⟨g, 0, none⟩) n c1) n (jnF r x (othN (r y) x k)) ∧ Below w.heap.size w wr) (fun _ i _ => n - (intOf i).toNat)
  case atStart => exact ⟨0, Nat.zero_le _, rfl, HO1.out, HB1.out⟩
  case round =>
    obtain ⟨k, hk, rfl, hown, hbel⟩ := hrel
    have HO := Lib.hid hown
    have HB := Lib.hid hbel
    have HX := Lib.hid (othN_succ (r y) x k)
    clear hown
    by_cases hlt2 : k < n
    · have cy := hbel.cell (p := ⟨b, off + y, none⟩) hlt
      rw [cy0] at cy
      clear hbel
      have hk16 : k < 16 := by omega
      cases hb1 : (r y).testBit k
      · rw [hb1, Bool.false_and, if_neg (by simp)] at HX
        go_wp2_with fail
        go_roundw
        case rel => exact ⟨k + 1, by omega, by go_num, by rw [HX.out]; exact HO.out, HB.out⟩
        case measure => simp [intOf]; omega
      · by_cases hkx : k = x
        · subst hkx
          rw [hb1, show (k != k) = false by simp, Bool.and_false, if_neg (by simp)] at HX
          have d1 : ((k : Int) != (k : Int)) = false := by simp
          go_wp2_with fail
          go_roundw
          case rel => exact ⟨k + 1, by omega, by go_num, by rw [HX.out]; exact HO.out, HB.out⟩
          case measure => simp [intOf]; omega
        · rw [hb1, show (k != x) = true by simp [hkx], Bool.and_true, if_pos rfl, ] at HX
          have d1 : ((k : Int) != (x : Int)) = true := by simp; omega
          have HJ := Lib.hid (join_own (B := w.heap.size) HO.out (fun i hi => Nat.lt_of_lt_of_le (jnF_lt hx (othN (r y) x k) r HR.out (othN_lt hk) i hi) h8) hn8 hx hlt2 (Nat.le_refl _))
          go_wp2_with (go_at_call 67; refine HJ.out.mono ?_; rintro e w5 ⟨rfl, ho5, hb5, _, _⟩; have HO5 := Lib.hid ho5; have HB5 := Lib.hid (HB.out.trans hb5); clear ho5 hb5)
          go_roundw
          case rel => exact ⟨k + 1, by omega, by go_num, by rw [HX.out, jnF_snoc]; exact HO5.out, HB5.out⟩
          case measure => simp [intOf]; omega
    · have hke : k = n := by omega
      subst hke
      have hbd := jnF_lt hx (othN (r y) x k) r HR.out (othN_lt (Nat.le_refl _))
      have HWO := Lib.hid (DeleteR_any (cap := c1) (GOwn.ints HO.out (by omega)) hy (by omega) (fun i hi => ⟨Int.natCast_nonneg _, by have := hbd i hi; rw [pow_cast k]; exact_mod_cast this⟩))
      rw [HALL.out] at HWO
      clear hbel hbd cy0
      go_wp2_with (go_at_call 49; refine HWO.out.mono ?_; rintro e w6 ⟨⟨u, rfl, hu⟩, hb6⟩)
      go_ret
      exact ⟨u, rfl, ownsRow_low hu HB.out.size, HB.out.trans (hb6.mono HB.out.size)⟩

end Go.Proofs.YtfmppncefbjicaaDoor

namespace Go.Proofs.YtfmppncefbjicaaDoor
set_option linter.unusedSimpArgs false
set_option linter.unusedVariables false
open Go.RowKit Go.Maps
attribute [local go_sem] i64_bit toNat_eq_one toNat_ne_one toNat_eq_zero toNat_ne_zero i64_and i64_or i64_andNot i64_or_pow i64_andNot_pow

theorem WoOwn.ints' {w : World} {base g L c v : Nat} {z : Nat → Int} (h : WoOwn w base (.slice (some ⟨g, 0, none⟩) L c) z v L) (hn : L ≤ 1000) : IntsAt w (some ⟨g, 0, none⟩) L (woZ z v) :=
  ⟨by unfold maxLen; omega, fun h0 => ⟨g, 0, rfl, by
    rcases h.2 with ⟨h1, _⟩ | ⟨g', c', cur, hv, _, h3, _⟩
    · simp at h1
    · simp only [Value.slice.injEq, Option.some.injEq, Addr.mk.injEq] at hv
      rw [hv.1.1]; exact (Array.getElem?_eq_some_iff.1 h3).1, fun i hi => by
        rw [Nat.zero_add, World.ownsRow.cellAt h i (by omega)]
        exact map_range_get _ hi⟩⟩
/-- What Delete and Contract take. -/
def delOk (n : Nat) (z : Nat → Int) (v : Int) : Bool := graphB n 8 z && (decide (2 ≤ n) && inB v n)
def conOk (n : Nat) (z : Nat → Int) (a b : Int) : Bool := graphB n 8 z && (decide (a < b) && nbM n (natG z) a b)

set_option maxRecDepth 20000 in
set_option maxHeartbeats 1000000 in
theorem Delete_no {n : Nat} {z : Nat → Int} {a : Option Addr} (cap : Nat) {v : Int} {w : World} (hI : IntsAt w a n z) (hz : InI64 z) (hT : Tab w) (h : delOk n z v = false) :
    Calls Tryd.prog 47 #[.slice a n cap, .int .i64 v] w fun e w' => e = .returned (.tuple #[.slice none 0 0, .int .i64 2]) ∧ Below w.heap.size w w' := by
  have HI := Lib.hid hI
  have HZ := Lib.hid hz
  have HT := Lib.hid hT
  cases hg : graphB n 8 z
  · clear hI hz hT h
    go_enter Tryd.func47, Tryd.ntmps47
    go_wp2_with fail
    go_at_call 68
    refine (newTown_no _ HI.out HZ.out HT.out hg).mono ?_
    rintro e w1 ⟨rfl, hb1⟩
    go_wp2_with fail
    go_ret2
    exact ⟨rfl, hb1⟩
  · have hn1 := (graphB_le hg)
    have HG := Lib.hid hg
    have hn16 : n < 16 := by omega
    unfold delOk at h
    rw [hg, Bool.true_and] at h
    clear hI hz hT
    by_cases h2 : 2 ≤ n
    · rw [decide_eq_true h2, Bool.true_and] at h
      have H := Lib.hid h
      have d1 : decide ((n : Int) < 2) = false := by simp; omega
      have d2 : decide (n < 2) = false := by simp; omega
      clear h hg
      go_enter Tryd.func47, Tryd.ntmps47
      go_wp2_with fail
      go_at_call 68
      refine (newTown_yes _ HI.out HZ.out HT.out HG.out).mono ?_
      rintro e w1 ⟨rfl, hb1⟩
      have HB1 := Lib.hid hb1
      clear hb1
      go_wp2_with (go_at_call 78; refine (isNode_any _ _ _ _ _ hn16).mono ?_; rintro e w2 ⟨rfl, rfl⟩; rw [H.out])
      go_ret2
      exact ⟨rfl, HB1.out⟩
    · have d1 : decide ((n : Int) < 2) = true := by simp; omega
      have d2 : decide (n < 2) = true := by simp; omega
      clear h hg
      go_enter Tryd.func47, Tryd.ntmps47
      go_wp2_with fail
      go_at_call 68
      refine (newTown_yes _ HI.out HZ.out HT.out HG.out).mono ?_
      rintro e w1 ⟨rfl, hb1⟩
      have HB1 := Lib.hid hb1
      clear hb1
      go_wp2_with fail
      go_ret2
      exact ⟨rfl, HB1.out⟩

theorem graph_bd {n : Nat} {z : Nat → Int} (hg : graphB n 8 z = true) : ∀ i, i < n → 0 ≤ z i ∧ z i < 2 ^ n := (graphB_le hg).2.2

set_option maxRecDepth 20000 in
set_option maxHeartbeats 1000000 in
theorem Delete_yes {n v : Nat} {z : Nat → Int} {a : Option Addr} (cap : Nat) {w : World} (hI : IntsAt w a n z) (hz : InI64 z) (hT : Tab w) (hg : graphB n 8 z = true) (h2 : 2 ≤ n) (hv : v < n) :
    Calls Tryd.prog 47 #[.slice a n cap, .int .i64 v] w fun e w' => ∃ u, e = .returned (.tuple #[u, .int .i64 0]) ∧ WoOwn w' w.heap.size u z v (n - 1) ∧ Below w.heap.size w w' := by
  have HI := Lib.hid hI
  have HZ := Lib.hid hz
  have HT := Lib.hid hT
  have hn1 := (graphB_le hg)
  have HG := Lib.hid hg
  have hn16 : n < 16 := by omega
  have hn9 : n ≤ 9 := by omega
  have d1 : decide ((n : Int) < 2) = false := by simp; omega
  have d2 : decide (n < 2) = false := by simp; omega
  have H : Hid (inB (v : Int) n = true) := Lib.hid (by rw [inB_iff]; omega)
  clear hI hz hT hg
  go_enter Tryd.func47, Tryd.ntmps47
  go_wp2_with fail
  go_at_call 68
  refine (newTown_yes _ HI.out HZ.out HT.out HG.out).mono ?_
  rintro e w1 ⟨rfl, hb1⟩
  have HI1 := Lib.hid (HI.out.below hb1)
  have HB1 := Lib.hid hb1
  clear hb1
  go_wp2_with (first
    | (go_at_call 78; refine (isNode_any _ _ _ _ _ hn16).mono ?_; rintro e w2 ⟨rfl, rfl⟩; rw [H.out])
    | (go_at_call 79; refine (minorWithout_any HI1.out hv hn9 (graph_bd HG.out)).mono ?_; rintro e w3 ⟨⟨u, rfl, hu⟩, hb3⟩; have HU := Lib.hid hu; have HB3 := Lib.hid (HB1.out.trans (hb3.mono HB1.out.size)); clear hu hb3))
  go_ret2
  exact ⟨u, rfl, ownsRow_low HU.out HB1.out.size, HB3.out⟩

set_option maxRecDepth 20000 in
set_option maxHeartbeats 1000000 in
theorem Contract_no {n : Nat} {z : Nat → Int} {a : Option Addr} (cap : Nat) {x y : Int} {w : World} (hI : IntsAt w a n z) (hz : InI64 z) (hT : Tab w) (h : conOk n z x y = false) :
    Calls Tryd.prog 48 #[.slice a n cap, .int .i64 x, .int .i64 y] w fun e w' => e = .returned (.tuple #[.slice none 0 0, .int .i64 2]) ∧ Below w.heap.size w w' := by
  have HI := Lib.hid hI
  have HZ := Lib.hid hz
  have HT := Lib.hid hT
  cases hg : graphB n 8 z
  · clear hI hz hT h
    go_enter Tryd.func48, Tryd.ntmps48
    go_wp2_with fail
    go_at_call 68
    refine (newTown_no _ HI.out HZ.out HT.out hg).mono ?_
    rintro e w1 ⟨rfl, hb1⟩
    go_wp2_with fail
    go_ret2
    exact ⟨rfl, hb1⟩
  · have HG := Lib.hid hg
    unfold conOk at h
    rw [hg, Bool.true_and] at h
    clear hI hz hT
    by_cases h2 : x < y
    · rw [decide_eq_true h2, Bool.true_and] at h
      have H := Lib.hid h
      have d1 : decide (y ≤ x) = false := by simp; omega
      clear h hg
      go_enter Tryd.func48, Tryd.ntmps48
      go_wp2_with fail
      go_at_call 68
      refine (newTown_yes _ HI.out HZ.out HT.out HG.out).mono ?_
      rintro e w1 ⟨rfl, hb1⟩
      have HI1 := Lib.hid (HI.out.below hb1)
      have HB1 := Lib.hid hb1
      clear hb1
      go_wp2_with (go_at_call 80; refine (areNeighbours_any (Tn.of_graph HI1.out HG.out) _ _ _).mono ?_; rintro e w2 ⟨rfl, rfl⟩; rw [H.out])
      go_ret2
      exact ⟨rfl, HB1.out⟩
    · have d1 : decide (y ≤ x) = true := by simp; omega
      clear h hg
      go_enter Tryd.func48, Tryd.ntmps48
      go_wp2_with fail
      go_at_call 68
      refine (newTown_yes _ HI.out HZ.out HT.out HG.out).mono ?_
      rintro e w1 ⟨rfl, hb1⟩
      have HB1 := Lib.hid hb1
      clear hb1
      go_wp2_with fail
      go_ret2
      exact ⟨rfl, HB1.out⟩

set_option maxRecDepth 20000 in
set_option maxHeartbeats 1000000 in
theorem Contract_yes {n x y : Nat} {z : Nat → Int} {a : Option Addr} (cap : Nat) {w : World} (hI : IntsAt w a n z) (hz : InI64 z) (hT : Tab w) (hg : graphB n 8 z = true) (hxy : x < y) (hy : y < n) (hb : (natG z x).testBit y = true) :
    Calls Tryd.prog 48 #[.slice a n cap, .int .i64 x, .int .i64 y] w fun e w' => ∃ u, e = .returned (.tuple #[u, .int .i64 0]) ∧ WoOwn w' w.heap.size u (fun i => ((jnF (natG z) x (bitsOf (diff (natG z y) (2 ^ x))) i : Nat) : Int)) y (n - 1) ∧ Below w.heap.size w w' := by
  have HI := Lib.hid hI
  have HZ := Lib.hid hz
  have HT := Lib.hid hT
  have HG := Lib.hid hg
  have hx : x < n := by omega
  have d1 : decide ((y : Int) ≤ (x : Int)) = false := by simp; omega
  have d2 : decide (y ≤ x) = false := by simp; omega
  have H : Hid (nbM n (natG z) x y = true) := Lib.hid (by
    unfold nbM
    rw [Int.toNat_natCast, Int.toNat_natCast, hb, (inB_iff).2 (by omega), (inB_iff).2 (by omega)]; rfl)
  clear hI hz hT hg hb
  go_enter Tryd.func48, Tryd.ntmps48
  go_wp2_with fail
  go_at_call 68
  refine (newTown_yes _ HI.out HZ.out HT.out HG.out).mono ?_
  rintro e w1 ⟨rfl, hb1⟩
  have HI1 := Lib.hid (HI.out.below hb1)
  have HT1 := Lib.hid (HT.out.below hb1)
  have HB1 := Lib.hid hb1
  clear hb1
  go_wp2_with (first
    | (go_at_call 80; refine (areNeighbours_any (Tn.of_graph HI1.out HG.out) _ _ _).mono ?_; rintro e w2 ⟨rfl, rfl⟩; rw [H.out])
    | (go_at_call 81; refine (joined_any (Tn.of_graph HI1.out HG.out) _ hx hy HT1.out).mono ?_; rintro e w3 ⟨u, rfl, hu, hb3⟩; have HU := Lib.hid hu; have HB3 := Lib.hid (HB1.out.trans (hb3.mono HB1.out.size)); clear hu hb3))
  go_ret2
  exact ⟨u, rfl, ownsRow_low HU.out HB1.out.size, HB3.out⟩

end Go.Proofs.YtfmppncefbjicaaDoor
