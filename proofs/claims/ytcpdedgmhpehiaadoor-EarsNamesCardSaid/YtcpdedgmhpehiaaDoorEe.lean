/- The contracts of package ears' blockOf, bridges, isCut, cuts. -/
import Derived.Test.YtcpdedgmhpehiaaDoorEd
namespace Go.Proofs.YtcpdedgmhpehiaaDoor
set_option linter.unusedSimpArgs false
set_option linter.unusedVariables false
open Go.RowKit Go.Maps
attribute [local go_sem] i64_bit toNat_eq_one toNat_ne_one toNat_eq_zero toNat_ne_zero i64_and i64_or i64_andNot i64_or_pow i64_andNot_pow

/-- The nodes but for one. -/
abbrev butS (n v : Nat) : Nat := diff (2 ^ n - 1) (2 ^ v)
theorem butS_lt {n v : Nat} : butS n v < 2 ^ n := Nat.lt_of_le_of_lt (diff_le _ _) (Nat.sub_lt (Nat.two_pow_pos n) (by omega))
/-- What no one of the first nodes keeps from an edge. -/
def blkTo (n : Nat) (r : Nat → Nat) (a b : Nat) : Nat → Nat
  | 0 => 2 ^ n - 1
  | k + 1 => blkTo n r a b k &&& (partS n r (butS n k) (if a = k then b else a) ||| 2 ^ k)
theorem blkTo_lt {n : Nat} {r : Nat → Nat} {a b : Nat} : ∀ k, blkTo n r a b k < 2 ^ n
  | 0 => Nat.sub_lt (Nat.two_pow_pos n) (by omega)
  | k + 1 => Nat.lt_of_le_of_lt Nat.and_le_left (blkTo_lt k)

theorem all_b (a : Option Addr) (n cap : Nat) (w : World) (hn : n < 16) :
    Calls Tryd.prog 89 #[.slice a n cap] w fun e w' => e = .returned (.int .i64 (2 ^ n - 1 : Nat)) ∧ Below w.heap.size w w' :=
  (all_any a n cap w hn).mono fun _ _ ⟨h1, h2⟩ => ⟨h1, by subst h2; exact Below.refl _ _⟩

set_option maxRecDepth 20000 in
set_option maxHeartbeats 4000000 in
theorem blockOf_any {n : Nat} {r : Nat → Nat} {ad : Option Addr} {w : World} (G : GrAt w ad n r) (hn10 : n ≤ 10) (hr : ∀ i, i < n → r i < 2 ^ n) (cap a b : Nat) (ha : a < n) (hb : b < n) (hT : Tab w) :
    Calls Tryd.prog 93 #[.slice ad n cap, .agg #[.int .i64 a, .int .i64 b]] w fun e w' => e = .returned (.int .i64 (blkTo n r a b n : Nat)) ∧ Below w.heap.size w w' := by
  have h10 := pow_le10 hn10
  have hn16 : n < 16 := by omega
  have HG := Lib.hid G
  have HR := Lib.hid hr
  have HT := Lib.hid hT
  have hml := G.ints.1
  unfold maxLen at hml
  clear G hr hT
  obtain ⟨w0, hw0, r3, hb0, hsz⟩ := new1 w 66 [.int .i64 a, .int .i64 b]
  go_enter Tryd.func93, Tryd.ntmps93
  go_wp2_with (go_at_call 89; refine (all_any _ _ _ _ hn16).mono ?_; rintro e w1 ⟨rfl, rfl⟩)
  rw [← hw0]
  clear hw0
  go_loopw [5, 12] (fun f i wr => ∃ k : Nat, k ≤ n ∧ i = .int .i64 k ∧ f = .int .i64 (blkTo n r a b k : Nat) ∧ Row wr w.heap.size 66 [.int .i64 a, .int .i64 b] ∧ Below w.heap.size w wr) (fun _ i _ => n - (intOf i).toNat)
  case atStart => exact ⟨0, Nat.zero_le _, rfl, rfl, r3, hb0⟩
  case round =>
    obtain ⟨k, hk, rfl, rfl, q3, hbr⟩ := hrel
    clear r3 hb0
    by_cases hlt : k < n
    · have HST : Hid (blkTo n r a b (k + 1) = blkTo n r a b k &&& (partS n r (butS n k) (if a = k then b else a) ||| 2 ^ k)) := Lib.hid rfl
      have hbk := blkTo_lt (n := n) (r := r) (a := a) (b := b) k
      generalize blkTo n r a b k = B at *
      have hend : (if a = k then b else a) < n := by split <;> assumption
      have c0 := q3.cell (i := 0) rfl
      have c1 := q3.cell (i := 1) rfl
      have hp := partS_lt (set := butS n k) hend HR.out
      have HPX : Hid (∀ u : BelowW wr.heap.size wr, Calls Tryd.prog 107 #[.slice ad n cap, .int .i64 ((if a = k then b else a : Nat) : Int), .int .i64 (butS n k : Nat)] u.w fun e w' => e = .returned (.int .i64 (partS n r (butS n k) (if a = k then b else a) : Nat)) ∧ Below u.w.heap.size u.w w') :=
        Lib.hid fun u => reach_any ((HG.out.below hbr).below u.h) hn10 HR.out cap _ _ hend butS_lt ((HT.out.below hbr).below u.h)
      generalize partS n r (butS n k) (if a = k then b else a) = X at *
      have hX16 : X < 65536 := by omega
      have hB16 : B < 65536 := by omega
      have hk16 : k < 16 := by omega
      have hk64 : k < 64 := by omega
      have hall : 2 ^ n - 1 < 65536 := by omega
      have hor := or_lt hX16 (pow_lt16 hk16)
      have hpw := pow_bd k hk16
      by_cases hak : a = k
      · have hd : ((a : Int) == (k : Int)) = true := by rw [cast_beq]; simpa using hak
        rw [if_pos hak] at HPX
        go_wp2_with fail
        refine wp_region_below wr.heap.size wr (Below.refl _ _) (by kernel_rfl) (by kernel_rfl) ?_
        repeat (go_big_quiet_step (first | (go_at_call 89; exact calls_below (Nat.le_refl _) (all_b _ _ _ _ hn16)) | (go_at_call 107; exact calls_below (Nat.le_refl _) (HPX.out _))))
        refine wpQuiet_nil ?_
        rintro _ ⟨u, rfl⟩
        have HU := Lib.hid u.h
        go_wp2_with fail
        go_roundw
        case rel => exact ⟨k + 1, by omega, by go_num, by rw [HST.out], q3.below HU.out q3.lt, hbr.trans (HU.out.mono hbr.size)⟩
        case measure => simp [intOf]; omega
      · have hd : ((a : Int) == (k : Int)) = false := by rw [cast_beq]; simpa using hak
        rw [if_neg hak] at HPX
        go_wp2_with fail
        refine wp_region_below wr.heap.size wr (Below.refl _ _) (by kernel_rfl) (by kernel_rfl) ?_
        repeat (go_big_quiet_step (first | (go_at_call 89; exact calls_below (Nat.le_refl _) (all_b _ _ _ _ hn16)) | (go_at_call 107; exact calls_below (Nat.le_refl _) (HPX.out _))))
        refine wpQuiet_nil ?_
        rintro _ ⟨u, rfl⟩
        have HU := Lib.hid u.h
        go_wp2_with fail
        go_roundw
        case rel => exact ⟨k + 1, by omega, by go_num, by rw [HST.out], q3.below HU.out q3.lt, hbr.trans (HU.out.mono hbr.size)⟩
        case measure => simp [intOf]; omega
    · have hke : k = n := by omega
      subst hke
      go_wp2_with fail
      go_ret
      exact ⟨rfl, hbr⟩

/-- Whether an edge is a block of its own. -/
def brB (n : Nat) (r : Nat → Nat) (e : Nat × Nat) : Bool := blkTo n r e.1 e.2 n == (2 ^ e.1 ||| 2 ^ e.2)
theorem edgesTo_lt {n : Nat} {r : Nat → Nat} (hr : ∀ i, i < n → r i < 2 ^ n) : ∀ k, k ≤ n → ∀ e ∈ edgesTo r k, e.1 < n ∧ e.2 < n := by
  intro k
  induction k with
  | zero => intro _ e he; cases he
  | succ k ih =>
    intro hk e he
    rcases List.mem_append.1 he with h | h
    · exact ih (by omega) e h
    · unfold rowE at h
      obtain ⟨x, hx, rfl⟩ := List.mem_map.1 h
      exact ⟨by omega, bitsOf_lt (hr k (by omega)) ((List.mem_filter.1 hx).1)⟩
theorem pairs_cell {w : World} {base : Nat} {g c : Nat} {L : List (Nat × Nat)} (h : PairsOwn w base (.slice (some ⟨g, 0, none⟩) L.length c) L) {i : Nat} {p : Nat × Nat} (hi : L[i]? = some p) :
    ∀ wx, Below w.heap.size w wx → wx.cell? ⟨g, i * 2, none⟩ = some (.int .i64 p.1) ∧ wx.cell? ⟨g, i * 2 + 1, none⟩ = some (.int .i64 p.2) := by
  intro wx hb
  obtain ⟨g', h1, h2, h3⟩ := h.cells wx hb i p hi
  cases h1
  exact ⟨h2, h3⟩

set_option maxRecDepth 20000 in
set_option maxHeartbeats 4000000 in
theorem bridges_any {n : Nat} {r : Nat → Nat} {ad : Option Addr} {w : World} (G : GrAt w ad n r) (hn10 : n ≤ 10) (hr : ∀ i, i < n → r i < 2 ^ n) (cap : Nat) (hT : Tab w) :
    Calls Tryd.prog 83 #[.slice ad n cap] w fun e w' => ∃ v, e = .returned v ∧ PairsOwn w' w.heap.size v ((edgesTo r n).filter (brB n r)) ∧ Below w.heap.size w w' := by
  have h10 := pow_le10 hn10
  have hn16 : n < 16 := by omega
  have HG := Lib.hid G
  have HR := Lib.hid hr
  have HT := Lib.hid hT
  obtain ⟨i0, hi0, hz1, hz2, hz3⟩ := info_parts info_pair
  have hml := G.ints.1
  unfold maxLen at hml
  clear G hr hT
  have HLT := Lib.hid (edgesTo_lt HR.out n (Nat.le_refl _))
  have hlen := edgesTo_len r n
  have HED := Lib.hid (edges_any HG.out hn10 HR.out cap HT.out)
  generalize edgesTo r n = L at *
  have hlm : L.length ≤ maxLen := by unfold maxLen; omega
  unfold maxLen at hlm
  go_enter Tryd.func83, Tryd.ntmps83
  go_wp2_with (go_at_call 92; refine HED.out.mono ?_; rintro e w1 ⟨v, rfl, hO, hb1⟩; obtain ⟨av, cv, rfl⟩ := own_form hO; have HCE := Lib.hid (fun wx hb i p h => hO.cells wx hb i p h); clear hO)
  go_loopw [3, 9] (fun v i wr => ∃ k : Nat, k ≤ L.length ∧ i = .int .i64 k ∧ PairsOwn wr w1.heap.size v ((L.take k).filter (brB n r)) ∧ Below w1.heap.size w1 wr) (fun _ i _ => L.length - (intOf i).toNat)
  case atStart => exact ⟨0, Nat.zero_le _, rfl, ⟨rfl, Or.inl ⟨rfl, rfl⟩⟩, Below.refl _ _⟩
  case round =>
    obtain ⟨k, hk, rfl, hown, hbr⟩ := hrel
    by_cases hlt : k < L.length
    · obtain ⟨p, hp⟩ : ∃ p, L[k]? = some p := ⟨_, List.getElem?_eq_getElem hlt⟩
      obtain ⟨p1, p2⟩ := p
      obtain ⟨g, rfl, c0, c1⟩ := HCE.out wr hbr k _ hp
      obtain ⟨hp1, hp2⟩ := HLT.out _ (List.mem_of_getElem? hp)
      have HTK : Hid ((L.take (k + 1)).filter (brB n r) = (L.take k).filter (brB n r) ++ (if brB n r (p1, p2) then [(p1, p2)] else [])) := Lib.hid (by
        rw [List.take_add_one, hp, List.filter_append]
        simp only [Option.toList, List.filter]
        cases brB n r (p1, p2) <;> rfl)
      have hkl : ((L.take k).filter (brB n r)).length ≤ k := Nat.le_trans (List.length_filter_le _ _) (by rw [List.length_take]; omega)
      have HX : Hid (brB n r (p1, p2) = (blkTo n r p1 p2 n == (2 ^ p1 ||| 2 ^ p2))) := Lib.hid rfl
      have hX := blkTo_lt (n := n) (r := r) (a := p1) (b := p2) n
      have hcall : ∀ u : BelowW wr.heap.size wr, Calls Tryd.prog 93 #[.slice ad n cap, .agg #[.int .i64 p1, .int .i64 p2]] u.w fun e w' => e = .returned (.int .i64 (blkTo n r p1 p2 n : Nat)) ∧ Below u.w.heap.size u.w w' := fun u =>
        have hbw : Below w.heap.size w wr := hb1.trans (hbr.mono hb1.size)
        blockOf_any ((HG.out.below hbw).below u.h) hn10 HR.out cap _ _ hp1 hp2 ((HT.out.below hbw).below u.h)
      have HCL := Lib.hid hcall
      clear hcall
      generalize blkTo n r p1 p2 n = X at *
      have hX16 : X < 65536 := by omega
      have hp116 : p1 < 16 := by omega
      have hp216 : p2 < 16 := by omega
      have hp164 : p1 < 64 := by omega
      have hp264 : p2 < 64 := by omega
      have hq1 := pow_bd p1 hp116
      have hq2 := pow_bd p2 hp216
      have hw1 := pow_lt16 hp116
      have hw2 := pow_lt16 hp216
      have hor := or_lt hw1 hw2
      have hO2 : bits .or .i64 ((2 : Int) ^ p1) ((2 : Int) ^ p2) = ((2 ^ p1 ||| 2 ^ p2 : Nat) : Int) := by rw [pow_cast p1]; exact i64_or_pow (2 ^ p1) p2 hw1 hp216
      have HOW := Lib.hid hown
      clear hown
      obtain ⟨wb, hwb, rb, hbb, hsz⟩ := new1 wr 66 [.int .i64 p1, .int .i64 p2]
      go_wp2_with fail
      rw [← hwb]
      have hc0 : ∀ u : BelowW wb.heap.size wb, u.w.cell? ⟨wr.heap.size, 0, none⟩ = some (.int .i64 p1) := fun u => (rb.below u.h rb.lt).cell rfl
      have hc1 : ∀ u : BelowW wb.heap.size wb, u.w.cell? ⟨wr.heap.size, 1, none⟩ = some (.int .i64 p2) := fun u => (rb.below u.h rb.lt).cell rfl
      refine wp_region_below wb.heap.size wb (Below.refl _ _) (by kernel_rfl) (by kernel_rfl) ?_
      repeat (go_big_quiet_step (first | (go_at_call 93; exact calls_below (Nat.le_refl _) (HCL.out ⟨_, hbb.trans ((BelowW.h _).mono hbb.size)⟩))))
      refine wpQuiet_nil ?_
      rintro _ ⟨u, rfl⟩
      have hbu := hbb.trans (u.h.mono hbb.size)
      have HO2 := Lib.hid (show PairsOwn u.w w1.heap.size u3 ((L.take k).filter (brB n r)) from ownsRow_below HOW.out hbu (Nat.le_refl _))
      have HB2 := Lib.hid (hbr.trans (hbu.mono hbr.size))
      have hcu := hc0 u
      have hcv := hc1 u
      have HRB := Lib.hid hbr.size
      clear hc0 hc1
      cases hq : brB n r (p1, p2)
      · rw [hq] at HTK
        have hne : ((X : Int) == ((2 ^ p1 ||| 2 ^ p2 : Nat) : Int)) = false := by rw [cast_beq, ← HX.out]; exact hq
        go_wp2_with fail
        go_roundw
        case rel => exact ⟨k + 1, by omega, by go_num, by rw [HTK.out, if_neg (by decide), List.append_nil]; exact HO2.out, HB2.out⟩
        case measure => simp [intOf]; omega
      · rw [hq] at HTK
        have hne : ((X : Int) == ((2 ^ p1 ||| 2 ^ p2 : Nat) : Int)) = true := by rw [cast_beq, ← HX.out]; exact hq
        have HKL := Lib.hid hkl
        generalize (L.take k).filter (brB n r) = L0 at *
        have hbsz := HB2.out.size
        go_wp2_with (at_builtin; refine wpList_append_own _ rfl _ _ 61 rfl w1.heap.size 66 i0 (.agg #[.int .i64 0, .int .i64 0]) 2 16 Tryd.underlying61 hi0 hz1 hz2 hz3 rfl (by decide) _ _ _ rfl (HO2.out.alloc _) ⟨u.w.heap.size, 0, none⟩ 1 1 [.int .i64 p1, .int .i64 p2] rfl rfl ?c1 ?c2 ?c3 ?c4 ?c5 ?_)
        case c2 => exact ⟨rfl, rfl⟩
        case c3 => have := HKL.out; unfold maxLen; omega
        case c4 => have := HKL.out; omega
        case c5 => omega
        intro v' w9 hown1 hg1 _
        have HO1 := Lib.hid hown1
        have HG1 := Lib.hid hg1
        clear hown1 hg1
        go_wp2_with fail
        go_roundw
        case rel =>
          refine ⟨k + 1, by omega, by go_num, ?_, (HB2.out.alloc (by omega) _).grown HG1.out (by simp; omega) (fun k hk => (World.ownsRow.lt HO2.out k hk).1)⟩
          rw [HTK.out]
          unfold PairsOwn
          rw [if_pos trivial, pairCells_snoc, List.length_append (bs := [(p1, p2)]), List.length_singleton]
          exact HO1.out
        case measure => simp [intOf]; omega
    · have hke : k = L.length := by omega
      subst hke
      rw [List.take_length] at hown
      go_wp2_with fail
      go_ret
      exact ⟨_, rfl, ownsRow_base hown hb1.size, hb1.trans (hbr.mono hb1.size)⟩

/-- Whether a node is a cut node, as the program finds it. -/
def isCutP (n : Nat) (r : Nat → Nat) (v : Nat) : Bool := r v != 0 && !(diff (r v) (partS n r (butS n v) (lowN (r v))) == 0)
theorem lowN_lt {n s : Nat} (hn : n ≤ 10) (h0 : 0 < s) (hs : s < 2 ^ n) : lowN s < n := by
  have h9 := pow_le10 hn
  obtain ⟨_, h2, _⟩ := lowN_all s (by omega) h0
  apply Classical.byContradiction
  intro h
  have := Nat.testBit_lt_two_pow (i := lowN s) (Nat.lt_of_lt_of_le hs (Nat.pow_le_pow_right (by omega) (by omega)))
  rw [this] at h2; cases h2

set_option maxRecDepth 20000 in
set_option maxHeartbeats 4000000 in
theorem isCut_any {n : Nat} {r : Nat → Nat} {ad : Option Addr} {w : World} (G : GrAt w ad n r) (hn10 : n ≤ 10) (hr : ∀ i, i < n → r i < 2 ^ n) (cap v : Nat) (hv : v < n) (hT : Tab w) :
    Calls Tryd.prog 115 #[.slice ad n cap, .int .i64 v] w fun e w' => e = .returned (.bool (isCutP n r v)) ∧ Below w.heap.size w w' := by
  have h10 := pow_le10 hn10
  have hn16 : n < 16 := by omega
  have HG := Lib.hid G
  have HR := Lib.hid hr
  have HT := Lib.hid hT
  obtain ⟨hml, hI⟩ := G.ints
  obtain ⟨b, off, rfl, hlt, hc⟩ := hI G.pos
  unfold maxLen at hml
  have cv : w.cell? ⟨b, off + v, none⟩ = some (.int .i64 (r v : Nat)) := hc v hv
  have hrv := hr v hv
  have hv16 : v < 16 := by omega
  have hv64 : v < 64 := by omega
  have hpw := pow_bd v hv16
  have hall : 2 ^ n - 1 < 65536 := by omega
  have HX : Hid (isCutP n r v = (r v != 0 && !(diff (r v) (partS n r (butS n v) (lowN (r v))) == 0))) := Lib.hid rfl
  have hcall : 0 < r v → partS n r (butS n v) (lowN (r v)) < 65536 ∧ ∀ u : BelowW w.heap.size w, Calls Tryd.prog 107 #[.slice (some ⟨b, off, none⟩) n cap, .int .i64 (lowN (r v) : Nat), .int .i64 (butS n v : Nat)] u.w fun e w' => e = .returned (.int .i64 (partS n r (butS n v) (lowN (r v)) : Nat)) ∧ Below u.w.heap.size u.w w' := fun h0 =>
    ⟨Nat.lt_of_lt_of_le (partS_lt (lowN_lt hn10 h0 hrv) hr) (by omega), fun u => reach_any (HG.out.below u.h) hn10 HR.out cap _ _ (lowN_lt hn10 h0 hrv) butS_lt (HT.out.below u.h)⟩
  clear hI hc G hr hT
  generalize r v = s at *
  by_cases h0 : s = 0
  · subst h0
    have hz : (((0 : Nat) : Int) != 0) = false := rfl
    go_enter Tryd.func115, Tryd.ntmps115
    go_wp2_with fail
    go_quiet (fail)
    go_wp2_with fail
    go_ret
    exact ⟨by rw [HX.out]; rfl, below_drewN (Below.refl _ _) _⟩
  · obtain ⟨hp16, hcl⟩ := hcall (by omega)
    have HCL := Lib.hid hcl
    clear hcl hcall
    have hs16 : s < 65536 := by omega
    have hs0 : 0 < s := by omega
    have hs10 : s < 1024 := by omega
    have hne : ((s : Int) != 0) = true := by rw [bne_iff_ne]; omega
    have hfst : ∀ u : BelowW w.heap.size w, Calls Tryd.prog 125 #[.int .i64 s] u.w fun e w' => e = .returned (.int .i64 (lowN s : Nat)) ∧ Below u.w.heap.size u.w w' := fun u => (first_any s hs10 hs0 _ (HT.out.below u.h)).mono fun _ _ ⟨h1, h2⟩ => ⟨h1, by subst h2; exact Below.refl _ _⟩
    have HFS := Lib.hid hfst
    clear hfst
    generalize partS n r (butS n v) (lowN s) = X at *
    have hip : ∀ u : BelowW w.heap.size w, Calls Tryd.prog 117 #[.int .i64 s, .int .i64 X] u.w fun e w' => e = .returned (.bool (diff s X == 0)) ∧ Below u.w.heap.size u.w w' := fun u => (isPart_any s X _ hs16 hp16).mono fun _ _ ⟨h1, h2⟩ => ⟨h1, by subst h2; exact Below.refl _ _⟩
    have HIP := Lib.hid hip
    clear hip
    generalize lowN s = lo at *
    go_enter Tryd.func115, Tryd.ntmps115
    go_wp2_with fail
    refine wp_region_below w.heap.size w (Below.refl _ _) (by kernel_rfl) (by kernel_rfl) ?_
    repeat (go_big_quiet_step (first | (go_at_call 89; exact calls_below (Nat.le_refl _) (all_b _ _ _ _ hn16)) | (go_at_call 107; exact calls_below (Nat.le_refl _) (HCL.out _)) | (go_at_call 125; exact calls_below (Nat.le_refl _) (HFS.out _)) | (go_at_call 117; exact calls_below (Nat.le_refl _) (HIP.out _))))
    refine wpQuiet_nil ?_
    rintro _ ⟨u, rfl⟩
    have HU := Lib.hid u.h
    go_wp2_with fail
    go_ret
    exact ⟨by rw [HX.out]; simp [h0], HU.out⟩

/-- The cut nodes among the first ones. -/
def cutsTo (n : Nat) (r : Nat → Nat) : Nat → Nat
  | 0 => 0
  | k + 1 => if isCutP n r k then cutsTo n r k ||| 2 ^ k else cutsTo n r k
theorem cutsTo_lt {n : Nat} {r : Nat → Nat} : ∀ k, k ≤ n → cutsTo n r k < 2 ^ n
  | 0, _ => Nat.two_pow_pos n
  | k + 1, h => by
    have ih := cutsTo_lt (n := n) (r := r) k (by omega)
    unfold cutsTo
    split
    · exact Nat.or_lt_two_pow ih (pow_lt_pow (by omega))
    · exact ih

set_option maxRecDepth 20000 in
set_option maxHeartbeats 4000000 in
theorem cuts_any {n : Nat} {r : Nat → Nat} {ad : Option Addr} {w : World} (G : GrAt w ad n r) (hn10 : n ≤ 10) (hr : ∀ i, i < n → r i < 2 ^ n) (cap : Nat) (hT : Tab w) :
    Calls Tryd.prog 80 #[.slice ad n cap] w fun e w' => e = .returned (.int .i64 (cutsTo n r n : Nat)) ∧ Below w.heap.size w w' := by
  have h10 := pow_le10 hn10
  have HG := Lib.hid G
  have HR := Lib.hid hr
  have HT := Lib.hid hT
  have hml := G.ints.1
  unfold maxLen at hml
  clear G hr hT
  go_enter Tryd.func80, Tryd.ntmps80
  go_wp2_with fail
  go_loopw [3, 7] (fun f i wr => ∃ k : Nat, k ≤ n ∧ i = .int .i64 k ∧ f = .int .i64 (cutsTo n r k : Nat) ∧ Below w.heap.size w wr) (fun _ i _ => n - (intOf i).toNat)
  case atStart => exact ⟨0, Nat.zero_le _, rfl, rfl, Below.refl _ _⟩
  case round =>
    obtain ⟨k, hk, rfl, rfl, hbr⟩ := hrel
    by_cases hlt : k < n
    · have HST : Hid (cutsTo n r (k + 1) = if isCutP n r k then cutsTo n r k ||| 2 ^ k else cutsTo n r k) := Lib.hid rfl
      have hbk := cutsTo_lt (r := r) k (by omega : k ≤ n)
      generalize cutsTo n r k = B at *
      have hB16 : B < 65536 := by omega
      have hk16 : k < 16 := by omega
      have hk64 : k < 64 := by omega
      have hpw := pow_bd k hk16
      have HCL := Lib.hid (isCut_any (HG.out.below hbr) hn10 HR.out cap k hlt (HT.out.below hbr))
      cases hq : isCutP n r k
      all_goals
        go_wp2_with (go_at_call 115; refine HCL.out.mono ?_; rintro e w2 ⟨rfl, hb2⟩; rw [hq]; have HB2 := Lib.hid (hbr.trans (hb2.mono hbr.size)); clear hb2)
        go_roundw
        case rel => exact ⟨k + 1, by omega, by go_num, by rw [HST.out, hq]; rfl, HB2.out⟩
        case measure => simp [intOf]; omega
    · have hke : k = n := by omega
      subst hke
      go_wp2_with fail
      go_ret
      exact ⟨rfl, hbr⟩

end Go.Proofs.YtcpdedgmhpehiaaDoor
