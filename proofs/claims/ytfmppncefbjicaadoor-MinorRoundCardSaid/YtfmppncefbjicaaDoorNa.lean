/- Package minor: the program's isModel, Check; what is not valid. -/
import Derived.Test.YtfmppncefbjicaaDoorNc
namespace Go.Proofs.YtfmppncefbjicaaDoor
set_option linter.unusedSimpArgs false
set_option linter.unusedVariables false
open Go.RowKit Go.Maps
attribute [local go_sem] i64_bit toNat_eq_one toNat_ne_one toNat_eq_zero toNat_ne_zero i64_and i64_or i64_andNot i64_or_pow i64_andNot_pow

/-! ### copies with their capacity -/

theorem own_formC {w : World} {base : Nat} {e : TypeId} {size : Nat} {v : Value} {n : Nat} {xs : List Value} (h : w.ownsRow base e size v n xs) (hn : n ≠ 0) : ∃ g cap, v = .slice (some ⟨g, 0, none⟩) n cap ∧ n ≤ cap ∧ g < w.heap.size := by
  rcases h.2 with h1 | ⟨g, cap, cur, hv, _, hh, hc, _⟩
  · exact absurd h1.2 hn
  · exact ⟨g, cap, hv, hc, (Array.getElem?_eq_some_iff.1 hh).1⟩
theorem own_cap {w : World} {base : Nat} {e : TypeId} {size : Nat} {v : Value} {n : Nat} {xs : List Value} (h : w.ownsRow base e size v n xs) : ∃ a cap, v = .slice a n cap ∧ n ≤ cap := by
  rcases h.2 with h1 | ⟨g, cap, cur, hv, _, hh, hc, _⟩
  · exact ⟨none, 0, by rw [h1.1, h1.2], by omega⟩
  · exact ⟨_, cap, hv, hc⟩
def CopyPostC (n : Nat) (z : Nat → Int) (w : World) (e : Ending) (w' : World) : Prop :=
  ∃ a cap, e = .returned (.slice a n cap) ∧ n ≤ cap ∧ IntsAt w' a n z ∧ Below w.heap.size w w'

set_option maxRecDepth 20000 in
set_option maxHeartbeats 1000000 in
theorem CloneC_any (n : Nat) (z : Nat → Int) (v : Value) (w : World) (hn : n ≤ 1000000) (h : SliceArg w v n z) : Calls Tryd.prog 54 #[v] w (CopyPostC n z w) := by
  obtain ⟨i0, hi0, hz1, hz2, hz3⟩ := info_parts info_int
  have hq := fun w a n c => Lib.run_eql_slice_nil (P := Tryd.prog) w 22 3 a n c 0 0 Tryd.underlying22
  rcases h with ⟨rfl, rfl⟩ | ⟨x, cap, rfl, h1, h2, h3⟩
  · go_enter Tryd.func54, Tryd.ntmps54
    go_wp2
    go_ret
    exact ⟨none, 0, rfl, Nat.le_refl _, ⟨by decide, fun h => absurd h (by omega)⟩, Below.refl _ _⟩
  · go_enter Tryd.func54, Tryd.ntmps54
    unfold maxLen at h2
    have hnews : ∀ j u, ((List.range n).map fun i => Value.int .i64 (z i))[j]? = some u → (w.alloc (.cells #[] 3)).cell? (x.add j) = some u := by
      intro j u hu
      by_cases hj : j < n
      · rw [map_range_get _ hj] at hu
        cases hu
        obtain ⟨b, off, rfl, h4, h5⟩ := h3 (by omega)
        have e1 : (⟨b, off, none⟩ : Addr).add j = ⟨b, off + j, none⟩ := by
          unfold Addr.add
          split
          · rename_i h0; subst h0; rfl
          · rfl
        rw [e1, ((Below.refl w.heap.size w).alloc (Nat.le_refl _) _).cell (p := ⟨b, off + j, none⟩) h4]
        exact h5 j hj
      · simp [hj] at hu
    have HN := Lib.hid hnews
    clear hnews
    go_wp2_with (at_builtin; refine wpList_append_own _ rfl _ _ 22 rfl w.heap.size 3 i0 (.int .i64 0) 1 8 Tryd.underlying22 hi0 hz1 hz2 hz3 rfl (by decide) _ _ _ rfl (World.ownsRow_made w #[] 0 (Nat.le_refl _) (Nat.zero_le _) rfl) x n cap ((List.range n).map fun i => Value.int .i64 (z i)) rfl (by simp) HN.out ?c2 ?c3 ?c4 ?c5 ?_)
    case c2 => intro u hu; obtain ⟨i, _, rfl⟩ := List.mem_map.1 hu; rfl
    case c3 => unfold maxLen; omega
    case c4 => omega
    case c5 => simp
    intro v' w1 hown hgr _
    have HO := Lib.hid hown
    have HG := Lib.hid hgr
    clear hown hgr
    go_wp2_with fail
    go_ret
    have ho := HO.out
    have hb : Below w.heap.size w w1 := ((Below.refl w.heap.size w).alloc (Nat.le_refl _) _).grown HG.out (by simp) (fun k hk => by simp [Value.ownBlock] at hk; omega)
    try simp only [Nat.zero_add, List.nil_append] at ho
    by_cases h0 : n = 0
    · subst h0
      obtain ⟨a', cap', rfl⟩ := own_form ho
      exact ⟨a', cap', rfl, Nat.zero_le _, ⟨by decide, fun h => absurd h (by omega)⟩, hb⟩
    · obtain ⟨g, cap', rfl, hcl, hg2⟩ := own_formC ho h0
      refine ⟨_, cap', rfl, hcl, ⟨by unfold maxLen; omega, fun _ => ⟨g, 0, rfl, hg2, fun i hi => ?_⟩⟩, hb⟩
      rw [Nat.zero_add, World.ownsRow.cellAt ho i (by omega)]
      exact map_range_get _ hi

set_option maxRecDepth 20000 in
set_option maxHeartbeats 1000000 in
theorem ListC_any (n : Nat) (z : Nat → Int) (v : Value) (w : World) (h : SliceArg w v n z) : Calls Tryd.prog 18 #[v] w (CopyPostC (min n 12) z w) := by
  rcases h with ⟨rfl, rfl⟩ | ⟨x, cap, rfl, h1, h2, h3⟩
  · go_enter Tryd.func18, Tryd.ntmps18
    go_wp2_with (go_at_call 54; refine (CloneC_any 0 z _ _ (by omega) (Or.inl ⟨rfl, rfl⟩)).mono ?_; rintro e w1 ⟨a, cap, rfl, hcl, hi, hb⟩)
    go_ret
    exact ⟨a, cap, rfl, hcl, hi, hb⟩
  · unfold maxLen at h2
    by_cases hn : n ≤ 12
    · have hmin : min n 12 = n := by omega
      have HM := Lib.hid hmin
      clear hmin
      have HA : Hid (SliceArg w (.slice (some x) n cap) n z) := Lib.hid (Or.inr ⟨x, cap, rfl, h1, by unfold maxLen; exact h2, h3⟩)
      clear h3
      go_enter Tryd.func18, Tryd.ntmps18
      go_wp2_with (go_at_call 54; refine (CloneC_any n z _ _ (by omega) HA.out).mono ?_; rintro e w1 ⟨a, cap', rfl, hcl, hi, hb⟩; have HI := Lib.hid hi; clear hi)
      go_ret
      rw [HM.out]
      exact ⟨a, cap', rfl, hcl, HI.out, hb⟩
    · have hmin : min n 12 = 12 := by omega
      have HM := Lib.hid hmin
      clear hmin
      have HA : Hid (SliceArg w (.slice (some x) 12 cap) 12 z) := Lib.hid (Or.inr ⟨x, cap, rfl, by omega, by unfold maxLen; exact h2, fun _ => by
        obtain ⟨b, off, rfl, h4, h5⟩ := h3 (by omega)
        exact ⟨b, off, rfl, h4, fun i hi => h5 i (by omega)⟩⟩)
      clear h3
      go_enter Tryd.func18, Tryd.ntmps18
      go_wp2_with (go_at_call 54; refine (CloneC_any 12 z _ _ (by omega) HA.out).mono ?_; rintro e w1 ⟨a, cap', rfl, hcl, hi, hb⟩; have HI := Lib.hid hi; clear hi)
      go_ret
      rw [HM.out]
      exact ⟨a, cap', rfl, hcl, HI.out, hb⟩



/-! ### newPair, Model where they are not valid -/

set_option maxRecDepth 20000 in
set_option maxHeartbeats 1000000 in
theorem newPair_no {n q : Nat} {z y : Nat → Int} {a b : Option Addr} (ca cb : Nat) {w : World} (hI : IntsAt w a n z) (hJ : IntsAt w b q y) (hz : InI64 z) (hy : InI64 y) (hT : Tab w) (h : pairB n q z y = false) :
    Calls Tryd.prog 58 #[.slice a n ca, .slice b q cb] w fun e w' => ∃ a1 n1 c1 a2 n2 c2, e = .returned (.tuple #[.slice a1 n1 c1, .slice a2 n2 c2, .bool false]) ∧ Below w.heap.size w w' := by
  have HI := Lib.hid hI
  have HJ := Lib.hid hJ
  have HZ := Lib.hid hz
  have HY := Lib.hid hy
  have HT := Lib.hid hT
  unfold pairB at h
  rw [graph_six] at h
  clear hI hJ hz hy hT
  cases hg : graphB n 8 z
  · cases hp : graphB q 8 y
    · clear h
      go_enter Tryd.func58, Tryd.ntmps58
      go_wp2_with fail
      go_at_call 68
      refine (newTown_no _ HI.out HZ.out HT.out hg).mono ?_
      rintro e w1 ⟨rfl, hb1⟩
      have HB1 := Lib.hid hb1
      have HJ1 := Lib.hid (HJ.out.below hb1)
      have HT1 := Lib.hid (HT.out.below hb1)
      clear hb1
      go_wp2_with fail
      go_at_call 68
      refine (newTown_no _ HJ1.out HY.out HT1.out hp).mono ?_
      rintro e w2 ⟨rfl, hb2⟩
      have HB2 := Lib.hid (HB1.out.trans (hb2.mono HB1.out.size))
      clear hb2
      go_wp2_with fail
      go_ret3
      exact ⟨_, _, _, _, _, _, rfl, HB2.out⟩
    · clear h
      go_enter Tryd.func58, Tryd.ntmps58
      go_wp2_with fail
      go_at_call 68
      refine (newTown_no _ HI.out HZ.out HT.out hg).mono ?_
      rintro e w1 ⟨rfl, hb1⟩
      have HB1 := Lib.hid hb1
      have HJ1 := Lib.hid (HJ.out.below hb1)
      have HT1 := Lib.hid (HT.out.below hb1)
      clear hb1
      go_wp2_with fail
      go_at_call 68
      refine (newTown_yes _ HJ1.out HY.out HT1.out hp).mono ?_
      rintro e w2 ⟨rfl, hb2⟩
      have HB2 := Lib.hid (HB1.out.trans (hb2.mono HB1.out.size))
      clear hb2
      go_wp2_with fail
      go_ret3
      exact ⟨_, _, _, _, _, _, rfl, HB2.out⟩
  · rw [hg, Bool.true_and] at h
    cases hp : graphB q 8 y
    · clear h
      go_enter Tryd.func58, Tryd.ntmps58
      go_wp2_with fail
      go_at_call 68
      refine (newTown_yes _ HI.out HZ.out HT.out hg).mono ?_
      rintro e w1 ⟨rfl, hb1⟩
      have HB1 := Lib.hid hb1
      have HJ1 := Lib.hid (HJ.out.below hb1)
      have HT1 := Lib.hid (HT.out.below hb1)
      clear hb1
      go_wp2_with fail
      go_at_call 68
      refine (newTown_no _ HJ1.out HY.out HT1.out hp).mono ?_
      rintro e w2 ⟨rfl, hb2⟩
      have HB2 := Lib.hid (HB1.out.trans (hb2.mono HB1.out.size))
      clear hb2
      go_wp2_with fail
      go_ret3
      exact ⟨_, _, _, _, _, _, rfl, HB2.out⟩
    · rw [hp, Bool.true_and, decide_eq_false_iff_not] at h
      have hqi : decide ((q : Int) ≤ 6) = false := decide_eq_false (by omega)
      clear h
      go_enter Tryd.func58, Tryd.ntmps58
      go_wp2_with fail
      go_at_call 68
      refine (newTown_yes _ HI.out HZ.out HT.out hg).mono ?_
      rintro e w1 ⟨rfl, hb1⟩
      have HB1 := Lib.hid hb1
      have HJ1 := Lib.hid (HJ.out.below hb1)
      have HT1 := Lib.hid (HT.out.below hb1)
      clear hb1
      go_wp2_with fail
      go_at_call 68
      refine (newTown_yes _ HJ1.out HY.out HT1.out hp).mono ?_
      rintro e w2 ⟨rfl, hb2⟩
      have HB2 := Lib.hid (HB1.out.trans (hb2.mono HB1.out.size))
      clear hb2
      go_wp2_with fail
      go_ret3
      exact ⟨_, _, _, _, _, _, rfl, HB2.out⟩
set_option maxRecDepth 20000 in
set_option maxHeartbeats 1000000 in
theorem Model_no {n q : Nat} {z y : Nat → Int} {a b : Option Addr} (ca cb : Nat) {w : World} (hI : IntsAt w a n z) (hJ : IntsAt w b q y) (hz : InI64 z) (hy : InI64 y) (hT : Tab w) (h : pairB n q z y = false) :
    Calls Tryd.prog 15 #[.slice a n ca, .slice b q cb] w fun e w' => e = .returned (.tuple #[.slice none 0 0, .int .i64 2]) ∧ Below w.heap.size w w' := by
  have HNP := Lib.hid (newPair_no ca cb hI hJ hz hy hT h)
  clear hI hJ hz hy hT h
  go_enter Tryd.func15, Tryd.ntmps15
  go_wp2_with fail
  go_at_call 58
  refine (HNP.out).mono ?_
  rintro e w1 ⟨a1, n1, c1, a2, n2, c2, rfl, hb1⟩
  go_wp2_with fail
  go_ret2
  exact ⟨rfl, hb1⟩
set_option maxRecDepth 20000 in
set_option maxHeartbeats 1000000 in
theorem Check_no {n q m : Nat} {z y : Nat → Int} {a b am : Option Addr} (ca cb cm : Nat) {w : World} (hI : IntsAt w a n z) (hJ : IntsAt w b q y) (hz : InI64 z) (hy : InI64 y) (hT : Tab w) (h : pairB n q z y = false) :
    Calls Tryd.prog 17 #[.slice a n ca, .slice b q cb, .slice am m cm] w fun e w' => e = .returned (.tuple #[.bool false, .int .i64 2]) ∧ Below w.heap.size w w' := by
  have HNP := Lib.hid (newPair_no ca cb hI hJ hz hy hT h)
  clear hI hJ hz hy hT h
  go_enter Tryd.func17, Tryd.ntmps17
  go_wp2_with fail
  go_at_call 58
  refine (HNP.out).mono ?_
  rintro e w1 ⟨a1, n1, c1, a2, n2, c2, rfl, hb1⟩
  go_wp2_with fail
  go_ret2
  exact ⟨rfl, hb1⟩

/-! ### isConnected at any number, isModel -/

set_option maxRecDepth 20000 in
set_option maxHeartbeats 1000000 in
theorem isConnected_z {n : Nat} {r : Nat → Nat} {a : Option Addr} {w : World} (G : Tn w a n r) (cap : Nat) (v : Int) (hT : Tab w) :
    Calls Tryd.prog 86 #[.slice a n cap, .int .i64 v] w fun e w' => e = .returned (.bool (cz n r v)) ∧ Below w.heap.size w w' := by
  have hpc := pow_cast n
  have hn16 : n < 16 := by have := G.le; omega
  by_cases h : 0 ≤ v ∧ v < 2 ^ n
  · obtain ⟨s, rfl⟩ : ∃ s : Nat, v = s := ⟨v.toNat, by omega⟩
    refine (isConnected_any G cap s (by omega) hT).mono ?_
    rintro e w' ⟨rfl, hb⟩
    refine ⟨?_, hb⟩
    unfold cz
    rw [decide_eq_true h.2, Int.toNat_natCast]
    by_cases h0 : s = 0
    · subst h0; rfl
    · rw [decide_eq_true (by omega)]; rfl
  · have hin : inB v (2 ^ n) = false := inB_false h
    have hcz : cz n r v = false := by
      unfold cz
      rw [show (decide (0 < v) && decide (v < 2 ^ n)) = false by rw [Bool.eq_false_iff]; intro h2; rw [Bool.and_eq_true, decide_eq_true_eq, decide_eq_true_eq] at h2; exact h (by omega)]
      rfl
    have HIS := Lib.hid (isSet_any a n cap v w hn16)
    rw [hin] at HIS
    rw [hcz]
    clear G hT h hin hcz hpc
    go_enter Tryd.func86, Tryd.ntmps86
    go_wp2_with fail
    go_at_call 91
    refine (HIS.out).mono ?_
    rintro e w1 ⟨rfl, rfl⟩
    go_wp2_with fail
    go_ret
    exact ⟨rfl, Below.refl _ _⟩

set_option maxRecDepth 20000 in
set_option maxHeartbeats 4000000 in
theorem isModel_any {n q m : Nat} {r pr : Nat → Nat} {a b am : Option Addr} {w : World} (T : Tn w a n r) (P : Tn w b q pr) (ca cb cm : Nat) {y : Nat → Int} (hM : IntsAt w am m y) (hcm : m ≤ cm) (hT : Tab w) :
    Calls Tryd.prog 61 #[.slice a n ca, .slice b q cb, .slice am m cm] w fun e w' => e = .returned (.bool (isM n q r pr m y)) ∧ Below w.heap.size w w' := by
  have hm := hM.1
  unfold maxLen at hm
  have hn8 := T.le
  have hq8 := P.le
  have h8 := pow_le8 hn8
  have HT := Lib.hid T
  have HP := Lib.hid P
  have HM := Lib.hid hM
  have HTB := Lib.hid hT
  have HIM : Hid (isM n q r pr m y = (decide (m = q) && goM n r pr y m [] 0)) := Lib.hid rfl
  have HGO : Hid (∀ k B met, goM n r pr y (k + 1) B met = (okS n r pr B met (y B.length) && goM n r pr y k (B ++ [(y B.length).toNat]) (met ||| (y B.length).toNat))) := Lib.hid fun _ _ _ => rfl
  obtain ⟨X, hX⟩ : ∃ X, X = isM n q r pr m y := ⟨_, rfl⟩
  rw [← hX] at HIM ⊢
  clear T P hM hX hT
  by_cases hmq : m = q
  · subst hmq
    have hne : ((m : Int) != (m : Int)) = false := by simp
    go_enter Tryd.func61, Tryd.ntmps61
    go_wp2_with fail
    go_loopw [7, 8, 9, 17] (fun mt _ _ ix wr => ∃ (i : Nat) (B : List Nat) (met : Nat), i ≤ m ∧ ix = .int .i64 i ∧ mt = .int .i64 met ∧ met < 2 ^ n ∧ B.length = i ∧ (∀ x ∈ B, x < 2 ^ n) ∧ (∀ j, j < i → y j = (B.getD j 0 : Nat)) ∧ goM n r pr y m [] 0 = goM n r pr y (m - i) B met ∧ Below w.heap.size w wr) (fun _ _ _ ix _ => m - (intOf ix).toNat)
    case atStart => exact ⟨0, [], 0, Nat.zero_le _, rfl, rfl, Nat.two_pow_pos n, rfl, by simp, fun j hj => absurd hj (by omega), rfl, Below.refl _ _⟩
    case round =>
      obtain ⟨i, B, met, him, rfl, rfl, hmet, hBl, hBb, hBy, hgo, hb⟩ := hrel
      have HB := Lib.hid hb
      have HBB := Lib.hid hBb
      have HBY := Lib.hid hBy
      have HBL := Lib.hid hBl
      have HGG := Lib.hid hgo
      clear hb hBb hBy hgo hBl
      by_cases hlt : i < m
      · have hMI := HM.out.below HB.out
        have hMI2 := hMI.2
        obtain ⟨bm, om, rfl, hltm, hcl⟩ := hMI2 (by omega)
        have ci := hcl i hlt
        have hCUT : ∀ wx, Below wr.heap.size wr wx → IntsAt wx (some ⟨bm, om, none⟩) B.length (natL B) := fun wx hw => ⟨by rw [HBL.out]; unfold maxLen; omega, fun _ => ⟨bm, om, rfl, Nat.lt_of_lt_of_le hltm hw.size, fun j hj => by
          have hj2 : j < i := by rw [← HBL.out]; exact hj
          rw [hw.cell (p := ⟨bm, om + j, none⟩) hltm, hcl j (by omega), HBY.out j hj2]; rfl⟩⟩
        have HCUT := Lib.hid hCUT
        have HCN := Lib.hid (fun (u : BelowW wr.heap.size wr) => isConnected_z (HT.out.below (HB.out.trans (u.h.mono HB.out.size))) ca (y i) (HTB.out.below (HB.out.trans (u.h.mono HB.out.size))))
        have hNO : okS n r pr B met (y i) = false → X = false := fun h => by
          rw [HIM.out, HGG.out, show m - i = (m - i - 1) + 1 by omega, HGO.out, HBL.out, h]; simp
        have HNO := Lib.hid hNO
        have HUB : Hid (∀ u : BelowW wr.heap.size wr, Below w.heap.size w u.w) := Lib.hid fun u => HB.out.trans (u.h.mono HB.out.size)
        clear hNO hMI hMI2 hcl hCUT
        cases hz : cz n r (y i)
        · have HX := Lib.hid (HNO.out (by rw [okS_cz, hz]; rfl))
          rw [hz] at HCN
          clear hz
          generalize y i = v at *
          go_wp2_with fail
          refine wp_region_below wr.heap.size wr (Below.refl _ _) (by kernel_rfl) (by kernel_rfl) ?_
          repeat (go_big_quiet_step (first | (go_at_call 86; exact calls_below (Nat.le_refl _) (HCN.out _))))
          refine wpQuiet_nil ?_
          rintro _ ⟨u, rfl⟩
          have HU := Lib.hid (HUB.out u)
          go_wp2_with fail
          go_ret
          exact ⟨by rw [HX.out]; rfl, HU.out⟩
        · have hz2 := hz
          unfold cz at hz2
          rw [Bool.and_eq_true, Bool.and_eq_true, decide_eq_true_eq, decide_eq_true_eq] at hz2
          obtain ⟨⟨hv0, hvn⟩, _⟩ := hz2
          obtain ⟨s, hsv⟩ : ∃ s : Nat, y i = s := ⟨(y i).toNat, by omega⟩
          have hs : s < 2 ^ n := by rw [hsv, pow_cast n] at hvn; omega
          have hs16 : s < 65536 := by omega
          have hm16 : met < 65536 := by omega
          have HOKS : Hid (okS n r pr B met (y i) = (s &&& met == 0 && rchB r s (pr B.length) B)) := Lib.hid (by rw [okS_cz, hz, hsv, Int.toNat_natCast, Bool.true_and])
          have HSV := Lib.hid hsv
          rw [hz, hsv] at HCN
          rw [hsv] at ci
          clear hz hsv hv0 hvn
          obtain ⟨bp, op, rfl, hbp, hcp⟩ := HP.out.at_.ints.2 HP.out.at_.pos
          have cN : ∀ u : BelowW wr.heap.size wr, u.w.cell? ⟨bp, op + i, none⟩ = some (.int .i64 (pr i : Nat)) := fun u => by
            rw [(HB.out.trans (u.h.mono HB.out.size)).cell (p := ⟨bp, op + i, none⟩) hbp]; exact hcp i hlt
          have hpr : pr i < 65536 := lt16m hq8 (HP.out.bd i hlt)
          have HRE : Hid (∀ u : BelowW wr.heap.size wr, Calls Tryd.prog 88 #[.slice a n ca, .int .i64 s, .int .i64 (pr i : Nat), .slice (some ⟨bm, om, none⟩) i cm] u.w fun e w' => e = .returned (.bool (rchB r s (pr i) B)) ∧ Below u.w.heap.size u.w w') := Lib.hid fun u => by
            have := reaches_any (HT.out.below (HUB.out u)) ca s (pr i) hs hpr (HTB.out.below (HUB.out u)) cm (HCUT.out u.w u.h) HBB.out (by rw [HBL.out]; omega)
            rw [HBL.out] at this
            exact this
          have hsl1 : decide ((i : Int) < 0) = false := by simp
          have hsl2 : decide ((cm : Int) < (i : Int)) = false := by simp; omega
          have hsl3 : decide (cm < i) = false := by simp; omega
          have hsl4 : i ≤ cm := by omega
          clear hcp
          by_cases c1 : s &&& met = 0
          · have e1 : (((s &&& met : Nat) : Int) != 0) = false := by rw [c1]; rfl
            have HC1 := Lib.hid c1
            clear c1
            cases hf : rchB r s (pr i) B
            · have HX := Lib.hid (HNO.out (by rw [HOKS.out, HBL.out, hf]; simp))
              rw [hf] at HRE
              clear hf
              go_wp2_with fail
              refine wp_region_below wr.heap.size wr (Below.refl _ _) (by kernel_rfl) (by kernel_rfl) ?_
              repeat (go_big_quiet_step (first | (go_at_call 86; exact calls_below (Nat.le_refl _) (HCN.out _)) | (go_at_call 88; exact calls_below (Nat.le_refl _) (HRE.out _))))
              refine wpQuiet_nil ?_
              rintro _ ⟨u, rfl⟩
              have HU := Lib.hid (HUB.out u)
              go_wp2_with fail
              go_ret
              exact ⟨by rw [HX.out]; rfl, HU.out⟩
            · have HNX := Lib.hid (show goM n r pr y m [] 0 = goM n r pr y (m - (i + 1)) (B ++ [s]) (met ||| s) by
                rw [HGG.out, show m - i = (m - (i + 1)) + 1 by omega, HGO.out, HBL.out, HOKS.out, HBL.out, hf, HC1.out, HSV.out, Int.toNat_natCast]; simp)
              have HOR := Lib.hid (i64_or met s hm16 hs16)
              rw [hf] at HRE
              clear hf
              go_wp2_with fail
              refine wp_region_below wr.heap.size wr (Below.refl _ _) (by kernel_rfl) (by kernel_rfl) ?_
              repeat (go_big_quiet_step (first | (go_at_call 86; exact calls_below (Nat.le_refl _) (HCN.out _)) | (go_at_call 88; exact calls_below (Nat.le_refl _) (HRE.out _))))
              refine wpQuiet_nil ?_
              rintro _ ⟨u, rfl⟩
              have HU := Lib.hid (HUB.out u)
              go_wp2_with fail
              go_roundw
              case rel =>
                refine ⟨i + 1, B ++ [s], met ||| s, by omega, by go_num, by first | rfl | rw [HOR.out], Nat.or_lt_two_pow hmet hs, by rw [List.length_append, HBL.out]; rfl, fun x hx => ?_, fun j hj => ?_, HNX.out, HU.out⟩
                · rcases List.mem_append.1 hx with h | h
                  · exact HBB.out x h
                  · rw [List.mem_singleton.1 h]; exact hs
                · by_cases e : j = i
                  · subst e; rw [HSV.out, ← HBL.out, getD_new]
                  · rw [getD_old (by rw [HBL.out]; omega)]; exact HBY.out j (by omega)
              case measure => simp [intOf]; omega
          · have e1 : (((s &&& met : Nat) : Int) != 0) = true := by simp; omega
            have HX := Lib.hid (HNO.out (by rw [HOKS.out]; simp [c1]))
            clear c1
            go_wp2_with fail
            refine wp_region_below wr.heap.size wr (Below.refl _ _) (by kernel_rfl) (by kernel_rfl) ?_
            repeat (go_big_quiet_step (first | (go_at_call 86; exact calls_below (Nat.le_refl _) (HCN.out _)) | (go_at_call 88; exact calls_below (Nat.le_refl _) (HRE.out _))))
            refine wpQuiet_nil ?_
            rintro _ ⟨u, rfl⟩
            have HU := Lib.hid (HUB.out u)
            go_wp2_with fail
            go_ret
            exact ⟨by rw [HX.out]; rfl, HU.out⟩
      · have hmi : m - i = 0 := by omega
        have HX := Lib.hid (show X = true by rw [HIM.out, HGG.out, hmi]; simp [goM])
        clear hmi
        go_wp2_with fail
        go_ret
        exact ⟨by rw [HX.out]; rfl, HB.out⟩
  · have hne : ((m : Int) != (q : Int)) = true := by simp; omega
    have HX := Lib.hid (show X = false by rw [HIM.out, decide_eq_false hmq]; rfl)
    go_enter Tryd.func61, Tryd.ntmps61
    go_wp2_with fail
    go_ret
    exact ⟨by rw [HX.out]; rfl, Below.refl _ _⟩

set_option maxRecDepth 20000 in
set_option maxHeartbeats 1000000 in
theorem Check_yes {n q m : Nat} {z y x : Nat → Int} {a b am : Option Addr} (ca cb cm : Nat) {w : World} (hI : IntsAt w a n z) (hJ : IntsAt w b q y) (hz : InI64 z) (hy : InI64 y) (hT : Tab w) (hg : graphB n 8 z = true) (hp : graphB q 6 y = true) (hM : IntsAt w am m x) (hcm : m ≤ cm) :
    Calls Tryd.prog 17 #[.slice a n ca, .slice b q cb, .slice am m cm] w fun e w' => e = .returned (.tuple #[.bool (isM n q (natG z) (natG y) m x), .int .i64 0]) ∧ Below w.heap.size w w' := by
  have HNP := Lib.hid (newPair_yes ca cb hI hJ hz hy hT hg hp)
  have HT := Lib.hid (Tn.of_graph hI hg)
  have HP := Lib.hid (Tn.of_graph hJ (graph_eight hp))
  have HM := Lib.hid hM
  have HTB := Lib.hid hT
  clear hI hJ hz hy hT hg hp hM
  go_enter Tryd.func17, Tryd.ntmps17
  go_wp2_with fail
  go_at_call 58
  refine (HNP.out).mono ?_
  rintro e w1 ⟨rfl, hb1⟩
  have HB1 := Lib.hid hb1
  clear hb1
  go_wp2_with fail
  go_at_call 61
  refine (isModel_any (HT.out.below HB1.out) (HP.out.below HB1.out) ca cb cm (HM.out.below HB1.out) hcm (HTB.out.below HB1.out)).mono ?_
  rintro e w2 ⟨rfl, hb2⟩
  have HB2 := Lib.hid (HB1.out.trans (hb2.mono HB1.out.size))
  clear hb2
  go_wp2_with fail
  go_ret2
  exact ⟨rfl, HB2.out⟩

end Go.Proofs.YtfmppncefbjicaaDoor
