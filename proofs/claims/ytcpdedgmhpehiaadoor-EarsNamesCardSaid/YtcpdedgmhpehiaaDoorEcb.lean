/- The contracts of slices.Sort and slices.Compact over numbers of one's own, of package ears' blocks. -/
import Derived.Test.YtcpdedgmhpehiaaDoorEca
import Derived.Test.YtcpdedgmhpehiaaDoorIo
import Derived.Test.YtcpdedgmhpehiaaDoorSl
import Derived.Shelf.Sort.Plain
import Derived.Shelf.Slices.In.SortNone
import Derived.Shelf.Slices.CompactI
namespace Go.Proofs.YtcpdedgmhpehiaaDoor
set_option linter.unusedSimpArgs false
set_option linter.unusedVariables false
open Go.RowKit Go.Maps Go.Shelf Go.Lib Go.Sort
attribute [local go_sem] i64_bit toNat_eq_one toNat_ne_one toNat_eq_zero toNat_ne_zero i64_and i64_or i64_andNot i64_or_pow i64_andNot_pow

/-- Numbers that a slice holds in a block that may be written. -/
def HoldsI (base : Nat) (w : World) (v : Value) (M : List Int) : Prop :=
  ∃ a c, v = .slice a M.length c ∧ (M ≠ [] → M.length ≤ c ∧ ∃ g, a = some ⟨g, 0, none⟩ ∧ base ≤ g ∧ g < w.heap.size ∧ Holds (Value.int .i64) w g 0 M.toArray)
/-- Numbers that a slice holds. -/
def IntsV (w : World) (u : Value) (K : List Int) : Prop := ∃ a c, u = .slice a K.length c ∧ IntsAt w a K.length (zListI K) ∧ K.length ≤ c
theorem IntsV.below {w w' : World} {u : Value} {K : List Int} (h : IntsV w u K) (hb : Below w.heap.size w w') : IntsV w' u K := by
  obtain ⟨a, c, h1, h2, h3⟩ := h
  exact ⟨a, c, h1, h2.below hb, h3⟩

theorem holds_ints {w : World} {base : Nat} {v : Value} {L : List Int} (h : IntsOwn w base v L) : HoldsI base w v L := by
  obtain ⟨a, c, rfl⟩ := own_form h
  refine ⟨a, c, rfl, fun hne => ?_⟩
  have hlen : L.length ≠ 0 := fun e => hne (List.length_eq_zero_iff.1 e)
  obtain ⟨g, cap, hv, hg1, hg2⟩ := own_form' h hlen
  simp only [Value.slice.injEq] at hv
  obtain ⟨rfl, _, rfl⟩ := hv
  rcases h.2 with h1 | ⟨g', cap', cur, hv, hg, hh, hc1, _⟩
  · exact absurd h1.2 hlen
  · simp only [Value.slice.injEq, Option.some.injEq, Addr.mk.injEq] at hv
    obtain ⟨⟨rfl, _⟩, _, rfl⟩ := hv
    refine ⟨hc1, g, rfl, hg1, hg2, fun j hj => ⟨?_, ?_⟩⟩
    · have hj' : j < L.length := by simpa using hj
      rw [Nat.zero_add, World.ownsRow.cellAt h j (by omega), List.getElem?_map, List.getElem?_eq_getElem hj', getElem!_pos L.toArray j hj]
      rfl
    · simp [World.frozen?, hh]

theorem below_put {base g m : Nat} {w : World} {d : Array Int} {os : Array Obj} (hb : base ≤ g) (hg : base ≤ w.heap.size) : Below base w (grow (putRow (Value.int .i64) (Go.Sort.ahead w m) g 0 d) os) := by
  refine ⟨rfl, rfl, rfl, ?_, fun k hk => ?_⟩
  · show w.heap.size ≤ ((w.heap.modify g _) ++ os).size
    simp
  · show ((w.heap.modify g _) ++ os)[k]? = w.heap[k]?
    rw [Array.getElem?_append_left (by simp; omega), Array.getElem?_modify, if_neg (by omega)]
theorem below_put0 {base g m : Nat} {w : World} {d : Array Int} (hb : base ≤ g) : Below base w (putRow (Value.int .i64) (Go.Sort.ahead w m) g 0 d) := by
  refine ⟨rfl, rfl, rfl, ?_, fun k hk => ?_⟩
  · show w.heap.size ≤ (w.heap.modify g _).size
    simp
  · show (w.heap.modify g _)[k]? = w.heap[k]?
    rw [Array.getElem?_modify, if_neg (by omega)]

abbrev sortedI (L : List Int) : List Int := L.mergeSort fun x y => decide (x ≤ y)
theorem sortInts_any {w : World} {base : Nat} {v : Value} {L : List Int} (h : IntsOwn w base v L) (hb : base ≤ w.heap.size) (hl : L.length ≤ 65536) :
    Calls Tryd.prog 94 #[v] w fun e w' => e = .returned (.tuple #[]) ∧ Below base w w' ∧ HoldsI base w' v (sortedI L) := by
  have hlS : (sortedI L).length = L.length := List.length_mergeSort ..
  have hlS2 : (sortedI L).toArray.size = L.toArray.size := by simp
  obtain ⟨a, c, rfl, hH⟩ := holds_ints h
  by_cases h0 : L = []
  · subst h0
    have hcon := Any.slices_Sort_int_none Tryd.sortI a c w
    change Calls Tryd.prog 94 _ _ _ at hcon
    refine hcon.mono ?_
    rintro e w' ⟨he, rfl⟩
    exact ⟨he, Below.refl _ _, a, c, by rw [hlS], fun hne => absurd (List.length_eq_zero_iff.1 hlS) hne⟩
  · obtain ⟨hc1, g, rfl, hg1, hg2, hHo⟩ := hH h0
    have hcon := Any.slices_Sort_int Tryd.sortI g 0 c L w hHo hg2 (by omega)
    change Calls Tryd.prog 94 _ _ _ at hcon
    refine hcon.mono ?_
    rintro e w' ⟨he, m, os, rfl⟩
    refine ⟨he, below_put hg1 hb, _, c, by rw [hlS], fun _ => ⟨by rw [hlS]; exact hc1, g, rfl, hg1, ?_, ?_⟩⟩
    · show g < ((w.heap.modify g _) ++ os).size
      simp; omega
    · exact holds_grow _ _ _ _ _ _ (by simpa using hg2) (holds_putRow _ _ _ _ L.toArray _ (holds_ahead _ _ _ _ _ _ hHo) hlS2)

theorem compact_len (M : List Int) : (Lib.compact M).length ≤ M.length := by
  unfold Lib.compact compactUpTo
  rw [List.length_map]
  exact Nat.le_trans (List.length_filter_le _ _) (by simp)
theorem compact_mem {M : List Int} {x : Int} (h : x ∈ Lib.compact M) : x ∈ M := by
  unfold Lib.compact compactUpTo at h
  obtain ⟨i, hi, rfl⟩ := List.mem_map.1 h
  have hi := List.mem_range.1 (List.mem_filter.1 hi).1
  rw [getElem!_pos M.toArray i (by simpa using hi)]
  simp
theorem compactInts_any {w : World} {base : Nat} {v : Value} {M : List Int} (h : HoldsI base w v M) (hl : M.length ≤ 65536) :
    Calls Tryd.prog 95 #[v] w fun e w' => ∃ u, e = .returned u ∧ IntsV w' u (Lib.compact M) ∧ Below base w w' := by
  obtain ⟨a, c, rfl, hH⟩ := h
  by_cases h0 : M = []
  · subst h0
    have hcon := Any.slices_Compact_int_empty Tryd.compactI a c w
    change Calls Tryd.prog 95 _ _ _ at hcon
    refine hcon.mono ?_
    rintro e w' ⟨he, rfl⟩
    exact ⟨_, he, ⟨a, c, rfl, ⟨by show 0 ≤ maxLen; exact Nat.zero_le _, fun h => absurd h (Nat.lt_irrefl 0)⟩, Nat.zero_le _⟩, Below.refl _ _⟩
  · obtain ⟨hc1, g, rfl, hg1, hg2, hHo⟩ := hH h0
    have hcon := Any.slices_Compact_int Tryd.compactI g 0 c M w hHo (by omega) hc1
    change Calls Tryd.prog 95 _ _ _ at hcon
    refine hcon.mono ?_
    rintro e w' ⟨he, q, rfl⟩
    have hcl := compact_len M
    refine ⟨_, he, ⟨_, c, rfl, ⟨by unfold maxLen; omega, fun _ => ⟨g, 0, rfl, by simpa using hg2, fun i hi => ?_⟩⟩, by omega⟩, below_put0 hg1⟩
    have hs : (Lib.compact M ++ List.replicate (M.length - (Lib.compact M).length) (0 : Int)).toArray.size = M.toArray.size := by simp; omega
    rw [cell?_putRow _ _ _ _ M.toArray _ (holds_ahead _ _ _ _ _ _ hHo) hs i (by rw [hs]; simp; omega)]
    rw [getElem!_pos _ i (by rw [hs]; simp; omega)]
    unfold zListI
    rw [List.getD_eq_getElem?_getD, List.getElem?_eq_getElem hi]
    simp [List.getElem_append_left hi]

theorem own_apart {w : World} {b1 b2 : Nat} {e1 e2 : TypeId} {s1 s2 n1 n2 : Nat} {v1 v2 : Value} {x1 x2 : List Value} (h1 : w.ownsRow b1 e1 s1 v1 n1 x1) (h2 : w.ownsRow b2 e2 s2 v2 n2 x2) (hne : e1 ≠ e2) : v1.ownBlock = none ∨ v1.ownBlock ≠ v2.ownBlock := by
  rcases h1.2 with ⟨hv, _⟩ | ⟨g, c, cur, hv, _, hg, _⟩
  · rw [hv]; exact .inl rfl
  · right
    intro e
    rw [hv] at e
    rcases h2.2 with ⟨hv2, _⟩ | ⟨g2, c2, cur2, hv2, _, hg2, _⟩
    · rw [hv2] at e; cases e
    · rw [hv2] at e
      simp only [Value.ownBlock, Option.some.injEq] at e
      subst e
      rw [hg] at hg2
      simp only [Option.some.injEq, Obj.cells.injEq] at hg2
      exact hne hg2.2.1

/-- The program's blocks. -/
def castL (M : List Nat) : List Int := M.map fun (m : Nat) => (m : Int)
theorem castL_app (M : List Nat) (x : Nat) : castL (M ++ [x]) = castL M ++ [(x : Int)] := by simp [castL]
theorem castL_len (M : List Nat) : (castL M).length = M.length := by simp [castL]
def blkP (n : Nat) (r : Nat → Nat) (k : Nat) : List Nat := isoTo r n ++ ((edgesTo r n).take k).map fun e => blkTo n r e.1 e.2 n
def blocksI (n : Nat) (r : Nat → Nat) : List Int := Lib.compact (sortedI (castL (blkL n r)))
theorem blocksI_mem {n : Nat} {r : Nat → Nat} {x : Int} (h : x ∈ blocksI n r) : ∃ m, m ∈ blkL n r ∧ x = (m : Int) := by
  have h := (List.mem_mergeSort).1 (compact_mem h)
  obtain ⟨m, h1, h2⟩ := List.mem_map.1 h
  exact ⟨m, h1, h2.symm⟩
theorem blocksI_len {n : Nat} {r : Nat → Nat} (hn : n ≤ 10) : (blocksI n r).length ≤ 200 := by
  have h1 := compact_len (sortedI (castL (blkL n r)))
  have h2 : (sortedI (castL (blkL n r))).length = (castL (blkL n r)).length := List.length_mergeSort ..
  have h3 := castL_len (blkL n r)
  have h4 := isoTo_len r n
  have h5 := edgesTo_len r n
  unfold blkL at h3
  rw [List.length_append, List.length_map] at h3
  unfold blocksI
  unfold blkL at *
  omega

theorem blkP_zero (n : Nat) (r : Nat → Nat) : blkP n r 0 = isoTo r n := by unfold blkP; rw [List.take_zero, List.map_nil, List.append_nil]
theorem blkP_succ {n : Nat} {r : Nat → Nat} {k : Nat} {p : Nat × Nat} (h : (edgesTo r n)[k]? = some p) : blkP n r (k + 1) = blkP n r k ++ [blkTo n r p.1 p.2 n] := by
  unfold blkP
  rw [List.take_add_one, h, List.map_append, List.append_assoc]
  rfl
theorem blkP_len (n : Nat) (r : Nat → Nat) (k : Nat) : (blkP n r k).length ≤ n + k := by
  unfold blkP
  have h1 := isoTo_len r n
  rw [List.length_append, List.length_map, List.length_take]
  omega

set_option maxRecDepth 20000 in
set_option maxHeartbeats 4000000 in
theorem blocks_any {n : Nat} {r : Nat → Nat} {ad : Option Addr} {w : World} (G : GrAt w ad n r) (hn10 : n ≤ 10) (hr : ∀ i, i < n → r i < 2 ^ n) (cap : Nat) (hT : Tab w) :
    Calls Tryd.prog 56 #[.slice ad n cap] w fun e w' => ∃ u, e = .returned u ∧ IntsV w' u (blocksI n r) ∧ Below w.heap.size w w' := by
  obtain ⟨hml, hI⟩ := G.ints
  obtain ⟨b, off, rfl, hlt0, hc⟩ := hI G.pos
  have h10 := pow_le10 hn10
  have hbc : ∀ wx, Below w.heap.size w wx → ∀ i, i < n → wx.cell? ⟨b, off + i, none⟩ = some (.int .i64 (r i : Nat)) := fun wx hb i hi => by rw [hb.cell (p := ⟨b, off + i, none⟩) hlt0]; exact hc i hi
  have HC := Lib.hid hbc
  have HG := Lib.hid G
  have HR := Lib.hid hr
  have HT := Lib.hid hT
  have HLT := Lib.hid (edgesTo_lt HR.out n (Nat.le_refl _))
  have HEL := Lib.hid (edgesTo_len r n)
  have HIL := Lib.hid (isoTo_len r)
  have HBI : Hid (blocksI n r = Lib.compact (sortedI (castL (blkP n r (edgesTo r n).length)))) := Lib.hid (by unfold blocksI blkL blkP; rw [List.take_length])
  unfold maxLen at hml
  clear hbc hc hI hr hT G
  go_enter Tryd.func56, Tryd.ntmps56
  go_wp2_with fail
  go_loopw [3, 10] (fun v i wr => ∃ k : Nat, k ≤ n ∧ i = .int .i64 k ∧ IntsOwn wr w.heap.size v (castL (isoTo r k)) ∧ Below w.heap.size w wr) (fun _ i _ => n - (intOf i).toNat)
  case atStart => exact ⟨0, Nat.zero_le _, rfl, IntsOwn.nil _ _, Below.refl _ _⟩
  case round =>
    obtain ⟨k, hk, rfl, hown, hbr⟩ := hrel
    have HOW := Lib.hid hown
    have HB := Lib.hid hbr
    clear hown
    by_cases hlt : k < n
    · have ck := HC.out wr hbr k hlt
      have hk64 : k < 64 := by omega
      have hpw := pow_bd k (by omega)
      have HPC := Lib.hid (pow_cast k)
      have HIS : Hid (isoTo r (k + 1) = isoTo r k ++ (if r k = 0 then [2 ^ k] else [])) := Lib.hid rfl
      have hilk := HIL.out k
      have hbsz := hbr.size
      clear hbr
      by_cases hz : r k = 0
      · have hz1 : ((r k : Int) == 0) = true := by rw [hz]; rfl
        rw [if_pos hz] at HIS
        have hlen : (castL (isoTo r k)).length ≤ 65536 := by rw [castL_len]; omega
        generalize r k = rk at *
        clear hz
        go_wp2_with (at_builtin; refine wpList_app_int w.heap.size _ _ _ rfl _ _ rfl rfl HOW.out rfl ?c1 ?c2 ?_)
        try (case c1 => exact hlen)
        try (case c2 => exact hbsz)
        intro v' w3 ho3 hb3 _
        have HO3 := Lib.hid ho3
        have HB3 := Lib.hid (HB.out.trans hb3)
        clear ho3 hb3
        go_wp2_with fail
        go_roundw
        case rel => exact ⟨k + 1, by omega, by go_num, by rw [HIS.out, castL_app, ← HPC.out]; exact HO3.out, HB3.out⟩
        case measure => simp [intOf]; omega
      · have hz1 : ((r k : Int) == 0) = false := by rw [beq_eq_false_iff_ne]; omega
        rw [if_neg hz, List.append_nil] at HIS
        generalize r k = rk at *
        clear hz
        go_wp2_with fail
        go_roundw
        case rel => exact ⟨k + 1, by omega, by go_num, by rw [HIS.out]; exact HOW.out, HB.out⟩
        case measure => simp [intOf]; omega
    · have hke : k = n := by omega
      rw [hke] at HOW
      clear hke
      have HED := Lib.hid (edges_any (HG.out.below hbr) hn10 HR.out cap (HT.out.below hbr))
      have hb0z := hbr.size
      clear hbr
      go_wp2_with (go_at_call 92; refine HED.out.mono ?_; rintro e w1 ⟨vp, rfl, hO, hb1⟩; obtain ⟨av, cv, rfl⟩ := own_form hO; have HP := Lib.hid hO; have HOW1 := Lib.hid (HOW.out.below hb1); have HB1 := Lib.hid (HB.out.trans (hb1.mono hb0z)); clear hO hb1)
      have hlm : (edgesTo r n).length ≤ 100 := by have := HEL.out; omega
      have HBS : Hid (∀ (k : Nat) (p : Nat × Nat), (edgesTo r n)[k]? = some p → blkP n r (k + 1) = blkP n r k ++ [blkTo n r p.1 p.2 n]) := Lib.hid fun k p h => blkP_succ h
      have HB0 := Lib.hid (blkP_zero n r)
      clear HED HEL HIL HC
      generalize edgesTo r n = L at *
      go_loopw [3, 26] (fun v i wx => ∃ k : Nat, k ≤ L.length ∧ i = .int .i64 k ∧ IntsOwn wx w.heap.size v (castL (blkP n r k)) ∧ PairsOwn wx wr.heap.size (.slice av L.length cv) L ∧ Below w.heap.size w wx) (fun _ i _ => L.length - (intOf i).toNat)
      case atStart => exact ⟨0, Nat.zero_le _, rfl, by rw [HB0.out]; exact HOW1.out, HP.out, HB1.out⟩
      case round =>
        obtain ⟨k, hk, rfl, hown, hpo, hbx⟩ := hrel
        obtain ⟨wo, rfl⟩ : ∃ x, x = wr := ⟨_, rfl⟩
        have HBX := Lib.hid hbx
        have hbz := hbx.size
        clear HOW HOW1 HP HB1 HB
        by_cases hlt : k < L.length
        · obtain ⟨p, hp⟩ : ∃ p, L[k]? = some p := ⟨_, List.getElem?_eq_getElem hlt⟩
          obtain ⟨p1, p2⟩ := p
          obtain ⟨g, rfl, c0, c1⟩ := hpo.cells _ (Below.refl _ _) k _ hp
          obtain ⟨hp1, hp2⟩ := HLT.out _ (List.mem_of_getElem? hp)
          have HTK := Lib.hid (HBS.out k (p1, p2) hp)
          have hlen : (castL (blkP n r k)).length ≤ 65536 := by
            rw [castL_len]
            have := blkP_len n r k
            omega
          have HOW := Lib.hid hown
          have HPO := Lib.hid hpo
          obtain ⟨wb, hwb, rb, hbb, hsz⟩ := new1 wo 66 [.int .i64 p1, .int .i64 p2]
          have hb0 := rb.cell (i := 0) rfl
          have hb1 := rb.cell (i := 1) rfl
          have HBB := Lib.hid hbb
          have HCL := Lib.hid (blockOf_any ((HG.out.below HBX.out).below (hbb.mono (by omega))) hn10 HR.out cap p1 p2 hp1 hp2 ((HT.out.below HBX.out).below (hbb.mono (by omega))))
          clear hown hpo hp hbx hbb
          go_wp2_with fail
          rw [← hwb]
          clear hwb
          go_at_call 93
          refine HCL.out.mono ?_
          rintro e w3 ⟨rfl, hb3⟩
          have hbt := HBB.out.trans (hb3.mono (by omega))
          have HO2 := Lib.hid (HOW.out.below hbt)
          have HP2 := Lib.hid (show PairsOwn w3 _ _ L from ownsRow_below HPO.out hbt (Nat.le_refl _))
          have HB2 := Lib.hid (HBX.out.trans (hbt.mono hbz))
          have hb2s := HB2.out.size
          clear hb3 hbt HOW HPO
          go_wp2_with (at_builtin; refine wpList_app_int w.heap.size _ _ _ rfl _ _ rfl rfl HO2.out rfl ?c1 ?c2 ?_)
          try (case c1 => exact hlen)
          try (case c2 => exact hb2s)
          intro v' w5 ho5 hb5 hg5
          have HO5 := Lib.hid ho5
          have HP5 := Lib.hid (show PairsOwn w5 _ _ L from World.ownsRow.kept HP2.out hg5 (own_apart HP2.out HO2.out (by decide)))
          have HB5 := Lib.hid (HB2.out.trans hb5)
          clear ho5 hb5 hg5
          go_wp2_with fail
          go_roundw
          case rel => exact ⟨k + 1, by omega, by go_num, by rw [HTK.out, castL_app]; exact HO5.out, HP5.out, HB5.out⟩
          case measure => simp [intOf]; omega
        · have hke : k = L.length := by omega
          have HSO := Lib.hid (sortInts_any hown hbz (by rw [castL_len]; have := blkP_len n r k; omega))
          rw [hke] at HSO
          clear hke hown hpo hbx
          go_wp2_with fail
          go_at_call 94
          refine HSO.out.mono ?_
          rintro e w2 ⟨rfl, hb2, hh⟩
          have hl2 : (sortedI (castL (blkP n r L.length))).length ≤ 65536 := by
            rw [show (sortedI (castL (blkP n r L.length))).length = (castL (blkP n r L.length)).length from List.length_mergeSort .., castL_len]
            have := blkP_len n r L.length
            omega
          have HCO := Lib.hid (compactInts_any hh hl2)
          have HB2 := Lib.hid (HBX.out.trans hb2)
          clear hb2 hh HSO hl2
          go_wp2_with fail
          go_at_call 95
          refine HCO.out.mono ?_
          rintro e w3 ⟨u, rfl, hu, hb3⟩
          rw [← HBI.out] at hu
          have HU := Lib.hid hu
          have HB3 := Lib.hid (HB2.out.trans hb3)
          clear hb3 hu
          go_wp2_with fail
          go_ret
          exact ⟨_, rfl, HU.out, HB3.out⟩

end Go.Proofs.YtcpdedgmhpehiaaDoor
