/- The contracts of the reference's Breadth, Layout and PathWidth. -/
import Derived.Test.YtgkpogaahndmoaaDoorQo
import Derived.Test.YtgkpogaahndmoaaDoorQi
namespace Go.Proofs.YtgkpogaahndmoaaDoor
set_option linter.unusedSimpArgs false
set_option linter.unusedVariables false
open Go.RowKit Go.Maps
attribute [local go_sem] i64_bit toNat_eq_one toNat_ne_one toNat_eq_zero toNat_ne_zero i64_and i64_or i64_andNot i64_or_pow i64_andNot_pow

theorem brd_alo (n : Nat) (r : Nat → Nat) (z : Nat → Int) : ∀ k, brdTo n r z k = alo (tbd n r) z k
  | 0 => rfl
  | k + 1 => by show max (brdTo n r z k) _ = max (alo (tbd n r) z k) _; rw [brd_alo n r z k]; rfl

set_option maxRecDepth 20000 in
set_option maxHeartbeats 2000000 in
theorem BreadthR_any {n : Nat} {r : Nat → Nat} {ad o : Option Addr} {w : World} {z : Nat → Int} (G : GrAt w ad n r) (hn7 : n ≤ 7) (hr : ∀ i, i < n → r i < 2 ^ n) (cap co : Nat) (ho : ordB n n z = true) (hI : IntsAt w o n z) :
    Calls Tryd.prog 26 #[.slice ad n cap, .slice o n co] w fun e w' => e = .returned (.int .i64 (brdTo n r z n : Nat)) ∧ Below w.heap.size w w' := by
  have h7 := pow_le7 hn7
  have hpos := G.pos
  obtain ⟨b, off, rfl, hlt, hc⟩ := hI.2 hpos
  have hbc : ∀ wx, Below w.heap.size w wx → ∀ i, i < n → wx.cell? ⟨b, off + i, none⟩ = some (.int .i64 (z i)) := fun wx hb i hi => by rw [hb.cell (p := ⟨b, off + i, none⟩) hlt]; exact hc i hi
  have HC := Lib.hid hbc
  have HG := Lib.hid G
  have HR := Lib.hid hr
  have HO := Lib.hid ho
  have hml := G.ints.1
  unfold maxLen at hml
  clear G hr hI hc hbc ho
  go_enter Tryd.func26, Tryd.ntmps26
  go_wp2_with fail
  go_loopw [5, 6, 11] (fun f c i wr => ∃ k : Nat, k ≤ n ∧ i = .int .i64 k ∧ f = .int .i64 (brdTo n r z k : Nat) ∧ c = .int .i64 (metO z k : Nat) ∧ Below w.heap.size w wr) (fun _ _ i _ => n - (intOf i).toNat)
  case atStart => exact ⟨0, Nat.zero_le _, rfl, rfl, rfl, Below.refl _ _⟩
  case round =>
    obtain ⟨k, hk, rfl, rfl, rfl, hbr⟩ := hrel
    have HBR := Lib.hid hbr
    clear hbr
    by_cases hltk : k < n
    · have ck := HC.out wr HBR.out k hltk
      obtain ⟨h0, h1, h2, h3⟩ := okO_iff ((ordB_iff HO.out).2 k hltk)
      have hM := lay_met HO.out hk
      have hM2 := lay_met HO.out (show k + 1 ≤ n by omega)
      have HMS : Hid (metO z (k + 1) = metO z k ||| 2 ^ (z k).toNat) := Lib.hid rfl
      obtain ⟨s, hs⟩ : ∃ s : Nat, z k = s := ⟨(z k).toNat, by omega⟩
      rw [hs] at ck
      rw [hs, Int.toNat_natCast] at HMS
      have HST : Hid (brdTo n r z (k + 1) = max (brdTo n r z k) (szS n (bord r (metO z (k + 1))))) := Lib.hid rfl
      have HBO := Lib.hid (BorderR_b (HG.out.below HBR.out) hn7 HR.out cap (metO z (k + 1)) hM2)
      have HCO := Lib.hid (fun w' => Size_any (n := n) (by omega) (bord r (metO z (k + 1))) (bord_lt hM2) w')
      have hg := brd_le (n := n) (r := r) (z := z) k
      have hy := szS_le n (bord r (metO z (k + 1)))
      generalize szS n (bord r (metO z (k + 1))) = y at *
      generalize bord r (metO z (k + 1)) = X at *
      rw [HMS.out] at HBO
      generalize brdTo n r z k = g at *
      have hsn : s < n := by omega
      have hs16 : s < 16 := by omega
      have hs64 : s < 64 := by omega
      have hps := pow_bd s hs16
      generalize metO z k = M at *
      have hM16 : M < 65536 := by omega
      clear h0 h1 h2 h3
      go_wp2_with (first
        | (go_at_call 57; refine HBO.out.mono ?_; rintro e w1 ⟨rfl, hb1⟩; have HB1 := Lib.hid (HBR.out.trans (hb1.mono HBR.out.size)); clear hb1)
        | (go_at_call 56; refine (HCO.out _).mono ?_; rintro e w2 ⟨rfl, rfl⟩))
      all_goals
        go_roundw
        case rel =>
          refine ⟨k + 1, by omega, by go_num, ?_, by rw [HMS.out], HB1.out⟩
          rw [HST.out]
          refine congrArg (Value.int .i64) ?_
          split <;> omega
        case measure => simp [intOf]; omega
    · have hke : k = n := by omega
      subst hke
      go_wp2_with fail
      go_ret
      exact ⟨rfl, HBR.out⟩

/-- What is best among the first orders of a list. -/
def BestIn (t : Nat → Nat → Nat) (n : Nat) (LL : List (List Nat)) (vs : List Value) (q : Nat) (b : Value) (s : Nat) : Prop :=
  (q = 0 ∧ b = .slice none 0 0 ∧ s = 99) ∨ ∃ (j : Nat) (l : List Nat), j < q ∧ LL[j]? = some l ∧ vs[j]? = some b ∧ s = alo t (listZ l) n ∧ (∀ (i : Nat) (y : List Nat), i < q → LL[i]? = some y → s ≤ alo t (listZ y) n) ∧ ∀ (i : Nat) (y : List Nat), i < j → LL[i]? = some y → s < alo t (listZ y) n
theorem BestIn.le {t : Nat → Nat → Nat} {n : Nat} {LL : List (List Nat)} {vs : List Value} {q s : Nat} {b : Value} (h : BestIn t n LL vs q b s) (hn : ∀ l, l ∈ LL → alo t (listZ l) n ≤ 7) : s ≤ 99 := by
  rcases h with ⟨_, _, rfl⟩ | ⟨j, l, _, h1, _, h2, _⟩
  · exact Nat.le_refl _
  · have := hn l (List.mem_of_getElem? h1); omega
theorem BestIn.keep {t : Nat → Nat → Nat} {n : Nat} {LL : List (List Nat)} {vs : List Value} {q s : Nat} {b : Value} {l : List Nat} (h : BestIn t n LL vs q b s) (hl : LL[q]? = some l) (hs : ¬ alo t (listZ l) n < s) (h7 : alo t (listZ l) n ≤ 7) : BestIn t n LL vs (q + 1) b s := by
  rcases h with ⟨_, _, rfl⟩ | ⟨j, l', h1, h2, h3, h4, h5, h6⟩
  · omega
  · refine Or.inr ⟨j, l', by omega, h2, h3, h4, fun i y hi hy => ?_, h6⟩
    by_cases e : i = q
    · subst e; rw [hl] at hy; cases hy; omega
    · exact h5 i y (by omega) hy
theorem BestIn.turn {t : Nat → Nat → Nat} {n : Nat} {LL : List (List Nat)} {vs : List Value} {q s : Nat} {b x : Value} {l : List Nat} (h : BestIn t n LL vs q b s) (hl : LL[q]? = some l) (hx : vs[q]? = some x) (hs : alo t (listZ l) n < s) : BestIn t n LL vs (q + 1) x (alo t (listZ l) n) := by
  refine Or.inr ⟨q, l, by omega, hl, hx, rfl, fun i y hi hy => ?_, fun i y hi hy => ?_⟩
  · by_cases e : i = q
    · subst e; rw [hl] at hy; cases hy; exact Nat.le_refl _
    · rcases h with ⟨h0, _⟩ | ⟨j, l', _, _, _, _, h5, _⟩
      · omega
      · have := h5 i y (by omega) hy; omega
  · rcases h with ⟨h0, _⟩ | ⟨j, l', _, _, _, _, h5, _⟩
    · omega
    · have := h5 i y (by omega) hy; omega

set_option maxRecDepth 20000 in
set_option maxHeartbeats 2000000 in
theorem LayoutR_any {n : Nat} {r : Nat → Nat} {ad : Option Addr} {w : World} (G : GrAt w ad n r) (hn7 : n ≤ 7) (hr : ∀ i, i < n → r i < 2 ^ n) (cap : Nat) :
    Calls Tryd.prog 23 #[.slice ad n cap] w fun e w' => ∃ x, e = .returned (.tuple #[x, .int .i64 (rst n (tbd n r) 0 : Nat)]) ∧ Lay1 w' x (ordW n (tbd n r) (rst n (tbd n r) 0) n 0) ∧ Below w.heap.size w w' := by
  have hpos := G.pos
  have HG := Lib.hid G
  have HR := Lib.hid hr
  have hml := G.ints.1
  unfold maxLen at hml
  clear G hr
  go_enter Tryd.func23, Tryd.ntmps23
  have hord : ∀ l, l ∈ layL n n [] → l.length = n ∧ Begun n l := fun l hl => layL_mem n (Begun.nil n) (by simp) hl
  have h7l : ∀ l, l ∈ layL n n [] → alo (tbd n r) (listZ l) n ≤ 7 := fun l _ => by rw [← brd_alo]; exact Nat.le_trans (brd_le n) hn7
  have hpos2 : 0 < (layL n n []).length := lay_some (t := tbd n r) fun g v _ => szS_le _ _
  have hct := Nat.le_trans (layL_count n n []) (pow_seven hn7 hn7)
  have HFIN := Lib.hid (fun (j : Nat) (l : List Nat) => lay_first (n := n) (t := tbd n r) (fun g v _ => szS_le _ _) (j := j) (l := l))
  have hcall := layouts_any hn7 hpos w
  generalize layL n n [] = LL at *
  have HORD := Lib.hid hord
  have H7L := Lib.hid h7l
  have HCL := Lib.hid hcall
  obtain ⟨N, hN⟩ : ∃ N, N = LL.length := ⟨_, rfl⟩
  have HN := Lib.hid hN
  rw [← hN] at hpos2 hct
  clear hN hord h7l hcall
  go_wp2_with (go_at_call 55; refine HCL.out.mono ?_; rintro e w1 ⟨u, rfl, hown, hb1⟩; obtain ⟨vs, ho1, he1⟩ := id hown.2; rw [← HN.out] at ho1; obtain ⟨ub, uc, rfl, hub1, hub2⟩ := own_form' ho1 (by omega); have HB1 := Lib.hid hb1; have HO1 := Lib.hid ho1; have HE1 := Lib.hid he1; clear hb1 hown ho1 he1)
  go_loopw [4, 5, 13] (fun b s i wr => ∃ (q m : Nat), q ≤ N ∧ i = .int .i64 q ∧ s = .int .i64 m ∧ BestIn (tbd n r) n LL vs q b m ∧ Below w1.heap.size w1 wr) (fun _ _ i _ => N - (intOf i).toNat)
  case atStart => exact ⟨0, 99, Nat.zero_le _, rfl, rfl, Or.inl ⟨rfl, rfl, rfl⟩, Below.refl _ _⟩
  case round =>
    obtain ⟨q, m, hq, rfl, rfl, hbest, hbr⟩ := hrel
    have HBE := Lib.hid hbest
    have HBR := Lib.hid hbr
    have hm99 := HBE.out.le H7L.out
    clear hbest hbr
    by_cases hqn : q < N
    · have hqL : q < LL.length := by rw [← HN.out]; exact hqn
      obtain ⟨l, hl⟩ : ∃ l, LL[q]? = some l := ⟨_, List.getElem?_eq_getElem hqL⟩
      obtain ⟨x, hx, hlay⟩ := HE1.out q l hl
      have hmem := List.mem_of_getElem? hl
      obtain ⟨hln, hbg⟩ := HORD.out l hmem
      have HLAY := Lib.hid (hlay.below HBR.out)
      obtain ⟨xa, xc, hxe, hxi⟩ := HLAY.out.ints (by omega)
      rw [hln] at hxe hxi
      have cq : wr.cell? ⟨ub, q, none⟩ = some x := by
        rw [HBR.out.cell (p := ⟨ub, q, none⟩) hub2, World.ownsRow.cellAt HO1.out q (by omega)]; exact hx
      have HXI := Lib.hid hxi
      have HXE := Lib.hid hxe
      have HL := Lib.hid hl
      have HX := Lib.hid hx
      have HOB : Hid (ordB n n (listZ l) = true) := Lib.hid (ordB_good fun k hk => hbg k (by omega))
      have h7q := H7L.out l hmem
      have HBD := Lib.hid (BreadthR_any (HG.out.below ((HB1.out).trans (HBR.out.mono HB1.out.size))) hn7 HR.out cap xc HOB.out HXI.out)
      rw [brd_alo] at HBD
      subst hxe
      have HKE := Lib.hid (fun h => HBE.out.keep HL.out h h7q)
      have HTU := Lib.hid (fun h => HBE.out.turn HL.out HX.out h)
      generalize alo (tbd n r) (listZ l) n = y at *
      clear hl hx hlay hmem hln hbg hxi
      by_cases hy : y < m
      · go_wp2_with (go_at_call 26; refine HBD.out.mono ?_; rintro e w2 ⟨rfl, hb2⟩; have HB2 := Lib.hid (HBR.out.trans (hb2.mono HBR.out.size)); clear hb2)
        go_roundw
        case rel => exact ⟨q + 1, y, by omega, by go_num, rfl, HTU.out hy, HB2.out⟩
        case measure => simp [intOf]; omega
      · go_wp2_with (go_at_call 26; refine HBD.out.mono ?_; rintro e w2 ⟨rfl, hb2⟩; have HB2 := Lib.hid (HBR.out.trans (hb2.mono HBR.out.size)); clear hb2)
        go_roundw
        case rel => exact ⟨q + 1, m, by omega, by go_num, rfl, HKE.out hy, HB2.out⟩
        case measure => simp [intOf]; omega
    · have hqe : q = N := by omega
      subst hqe
      go_wp2_with fail
      rcases HBE.out with ⟨h0, _⟩ | ⟨j, l, h1, h2, h3, h4, h5, h6⟩
      · omega
      · obtain ⟨f1, f2⟩ := HFIN.out j l h2 (fun i y hy => by rw [← h4]; exact h5 i y (by have := (List.getElem?_eq_some_iff.1 hy).1; have := HN.out; omega) hy) (fun i y hi hy => by rw [← h4]; exact h6 i y hi hy)
        obtain ⟨x, hx, hlay⟩ := HE1.out j l h2
        rw [h3] at hx
        cases hx
        have HLY := Lib.hid (hlay.below HBR.out)
        have HF1 := Lib.hid f1
        have HF2 := Lib.hid (h4.trans f2)
        clear f1 f2 h1 h2 h3 h4 h5 h6 hlay
        go_ret2
        exact ⟨u4, by rw [HF2.out]; rfl, by rw [← HF1.out]; exact HLY.out, HB1.out.trans (HBR.out.mono HB1.out.size)⟩

set_option maxRecDepth 20000 in
set_option maxHeartbeats 2000000 in
theorem PathWidthR_any {n : Nat} {r : Nat → Nat} {ad : Option Addr} {w : World} (G : GrAt w ad n r) (hn7 : n ≤ 7) (hr : ∀ i, i < n → r i < 2 ^ n) (cap : Nat) :
    Calls Tryd.prog 39 #[.slice ad n cap] w fun e w' => e = .returned (.int .i64 (rst n (tbd n r) 0 : Nat)) ∧ Below w.heap.size w w' := by
  have HL := Lib.hid (LayoutR_any G hn7 hr cap)
  clear G hr
  go_enter Tryd.func39, Tryd.ntmps39
  go_wp2_with (go_at_call 23; refine HL.out.mono ?_; rintro e w1 ⟨x, rfl, -, hb1⟩; have HB1 := Lib.hid hb1; clear hb1)
  go_ret
  exact ⟨rfl, HB1.out⟩

set_option maxRecDepth 20000 in
set_option maxHeartbeats 1000000 in
theorem Least_none {n : Nat} {z : Nat → Int} {a : Option Addr} (cap : Nat) {w : World} (hI : IntsAt w a n z) (hz : InI64 z) (hT : Tab w) (hg : graphB n 7 z = false) :
    Calls Tryd.prog 43 #[.slice a n cap] w fun e w' => e = .returned (.tuple #[.int .i64 0, .int .i64 2]) ∧ Below w.heap.size w w' := by
  have HI := Lib.hid hI
  have HZ := Lib.hid hz
  have HT := Lib.hid hT
  clear hI hz hT
  go_enter Tryd.func43, Tryd.ntmps43
  go_wp2_with (go_at_call 47; refine (newTown_no cap HI.out HZ.out HT.out hg).mono ?_; rintro e w1 ⟨rfl, hb1⟩; have HB1 := Lib.hid hb1; clear hb1)
  go_ret2
  exact ⟨rfl, HB1.out⟩

theorem lst_rst {n : Nat} {r : Nat → Nat} : lst n r 0 = rst n (tbd n r) 0 := by
  unfold lst
  have : bord r 0 = 0 := by
    apply Nat.eq_of_testBit_eq
    intro i
    rw [Nat.zero_testBit, Bool.eq_false_iff]
    intro h
    obtain ⟨h1, _⟩ := (testBit_bord (n := 1) (by omega) (by omega)).1 h
    rw [Nat.zero_testBit] at h1; cases h1
  rw [this]
  have : szS n 0 = 0 := szS_zero ..
  omega

set_option maxRecDepth 200000 in
set_option maxHeartbeats 4000000 in
theorem SweepLeast_walk (n : Nat) (z : Nat → Int) (v : Value) (w : World) (hA : SliceArg w v n z) (hz : InI64 z) (hTab : HasTab w) :
    Calls Tryd.prog 10 #[v] w (LawTrue w) := by
  obtain ⟨a, cap, rfl, hI⟩ := hA.ints
  have HA := Lib.hid hA
  have HI0 := Lib.hid hI
  have HZ := Lib.hid hz
  have HT := Lib.hid (Tab.of hTab)
  clear hA hI hz hTab
  cases hg : graphB n 7 z
  · have HG0 := Lib.hid hg
    have HGM : graphB (min n 11) 7 z = false := by rw [graphB_few]; exact hg
    clear hg
    go_enter Tryd.func10, Tryd.ntmps10
    go_wp2_with fail
    go_at_call 18
    refine (Few_any n z _ _ HA.out).mono ?_
    rintro e w1 ⟨a1, c1, rfl, hi1, hb1⟩
    have HB1 := Lib.hid hb1
    have HI1 := Lib.hid hi1
    clear hb1 hi1
    go_wp2_with fail
    go_at_call 43
    refine (Least_none _ HI1.out HZ.out (HT.out.below HB1.out) HGM).mono ?_
    rintro e w3 ⟨rfl, hb3⟩
    have HB3 := Lib.hid (HB1.out.trans (hb3.mono HB1.out.size))
    clear hb3
    go_wp2_with fail
    go_at_call 21
    refine (ValidR_any n z _ _ _ (HI0.out.below HB3.out) HZ.out).mono ?_
    rintro e w4 ⟨rfl, hb4⟩
    rw [HG0.out]
    have HB4 := Lib.hid (HB3.out.trans (hb4.mono HB3.out.size))
    clear hb4
    go_wp2_with fail
    go_at_call 22
    refine (awake_any _ (HT.out.below HB4.out)).mono ?_
    rintro e w5 ⟨rfl, hb5⟩
    have HB5 := Lib.hid (HB4.out.trans (hb5.mono HB4.out.size))
    clear hb5
    go_wp2_with fail
    go_ret
    exact ⟨rfl, HB5.out⟩
  · have hP := pl_of hg
    have hn7 := hP.le
    have HM : Hid (min n 11 = n) := Lib.hid (by omega)
    have HG0 := Lib.hid hg
    have HP := Lib.hid hP
    have hrl := rst_le (n := n) (t := tbd n (natG z)) (Nat.two_pow_pos n)
    clear hg hP
    go_enter Tryd.func10, Tryd.ntmps10
    go_wp2_with fail
    go_at_call 18
    refine (Few_any n z _ _ HA.out).mono ?_
    rintro e w1 ⟨a1, c1, rfl, hi1, hb1⟩
    rw [HM.out] at hi1
    rw [HM.out]
    have HB1 := Lib.hid hb1
    have HI1 := Lib.hid hi1
    clear hb1 hi1
    go_wp2_with fail
    go_at_call 43
    refine (Least_yes _ HI1.out HZ.out (HT.out.below HB1.out) HG0.out).mono ?_
    rintro e w3 ⟨rfl, hb3⟩
    rw [lst_rst]
    have HB3 := Lib.hid (HB1.out.trans (hb3.mono HB1.out.size))
    clear hb3
    go_wp2_with fail
    go_at_call 21
    refine (ValidR_any n z _ _ _ (HI0.out.below HB3.out) HZ.out).mono ?_
    rintro e w4 ⟨rfl, hb4⟩
    rw [HG0.out]
    have HB4 := Lib.hid (HB3.out.trans (hb4.mono HB3.out.size))
    clear hb4
    go_wp2_with fail
    go_at_call 39
    refine (PathWidthR_any (GrAt.same (HI0.out.below HB4.out) HG0.out) HP.out.le HP.out.bd cap).mono ?_
    rintro e w5 ⟨rfl, hb5⟩
    have HB5 := Lib.hid (HB4.out.trans (hb5.mono HB4.out.size))
    clear hb5
    generalize rst n (tbd n (natG z)) 0 = W at *
    go_wp2_with fail
    go_at_call 22
    refine (awake_any _ (HT.out.below HB5.out)).mono ?_
    rintro e w6 ⟨rfl, hb6⟩
    have HB6 := Lib.hid (HB5.out.trans (hb6.mono HB5.out.size))
    clear hb6
    go_wp2_with fail
    go_ret
    exact ⟨rfl, HB6.out⟩

end Go.Proofs.YtgkpogaahndmoaaDoor
