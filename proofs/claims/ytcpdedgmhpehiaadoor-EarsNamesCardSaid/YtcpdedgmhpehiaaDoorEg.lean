/- The contracts of the reference's without, linked, Bridges, cuts, Cuts. -/
import Derived.Test.YtcpdedgmhpehiaaDoorEf
import Derived.Test.YtcpdedgmhpehiaaDoorMi
import Derived.Deep.DeepCutAuto
import Derived.Deep.RegionHeld3
namespace Go.Proofs.YtcpdedgmhpehiaaDoor
set_option linter.unusedSimpArgs false
set_option linter.unusedVariables false
open Go.RowKit Go.Maps
attribute [local go_sem] i64_bit toNat_eq_one toNat_ne_one toNat_eq_zero toNat_ne_zero i64_and i64_or i64_andNot i64_or_pow i64_andNot_pow

theorem edgesTo_ne (r : Nat → Nat) : ∀ k, ∀ e ∈ edgesTo r k, e.1 ≠ e.2 := by
  intro k
  induction k with
  | zero => intro e he; cases he
  | succ k ih =>
    intro e he
    rcases List.mem_append.1 he with h | h
    · exact ih e h
    · unfold rowE at h
      obtain ⟨x, hx, rfl⟩ := List.mem_map.1 h
      have := (List.mem_filter.1 hx).2
      simp at this
      show k ≠ x
      omega

set_option maxRecDepth 20000 in
set_option maxHeartbeats 4000000 in
theorem withoutR_any {n : Nat} {r : Nat → Nat} {a : Option Addr} {w : World} (G : GrAt w a n r) (hn10 : n ≤ 10) (hr : ∀ i, i < n → r i < 2 ^ n) (cap x y : Nat) (hx : x < n) (hy : y < n) (hxy : x ≠ y) :
    Calls Tryd.prog 78 #[.slice a n cap, .int .i64 x, .int .i64 y] w fun e w' => ∃ a' cap', e = .returned (.slice a' n cap') ∧ GrAt w' a' n (cutN r x y) ∧ Below w.heap.size w w' := by
  obtain ⟨hml, hI⟩ := G.ints
  have hpos := G.pos
  have hsm := G.small
  obtain ⟨b, off, rfl, hlt, hc⟩ := hI G.pos
  have h10 := pow_le10 hn10
  have HR := Lib.hid hr
  obtain ⟨i0, hi0, hz1, hz2, hz3⟩ := info_parts info_int
  have hx16 : x < 16 := by omega
  have hy16 : y < 16 := by omega
  have hx64 : x < 64 := by omega
  have hy64 : y < 64 := by omega
  have hpx := pow_bd x hx16
  have hpy := pow_bd y hy16
  unfold maxLen at hml
  have HC := Lib.hid (show ∀ j u, ((List.range n).map fun i => Value.int .i64 (r i : Nat))[j]? = some u → (w.alloc (.cells #[] 3)).cell? ((⟨b, off, none⟩ : Addr).add j) = some u from fun j u hu => by
    obtain ⟨hj, he⟩ := List.getElem?_eq_some_iff.1 hu
    have hjn : j < n := by simpa using hj
    have e2 : u = .int .i64 (r j : Nat) := by rw [← he]; simp
    have e1 : (⟨b, off, none⟩ : Addr).add j = ⟨b, off + j, none⟩ := by
      unfold Addr.add
      split
      · rename_i h0; subst h0; rfl
      · simp
    rw [e1, e2, ((Below.refl w.heap.size w).alloc (Nat.le_refl _) _).cell (p := ⟨b, off + j, none⟩) hlt]
    exact hc j hjn)
  clear hc hI hr G
  go_enter Tryd.func78, Tryd.ntmps78
  go_wp2_with (at_builtin; refine wpList_append_own _ rfl _ _ 23 rfl w.heap.size 3 i0 (.int .i64 0) 1 8 Tryd.underlying23 hi0 hz1 hz2 hz3 rfl (by decide) _ _ _ rfl (World.ownsRow_made w #[] 0 (Nat.le_refl _) (Nat.zero_le _) rfl) ⟨b, off, none⟩ n cap ((List.range n).map fun i => Value.int .i64 (r i : Nat)) rfl (by simp) HC.out ?c2 ?c3 ?c4 ?c5 ?_)
  case c2 => intro u hu; obtain ⟨i, _, rfl⟩ := List.mem_map.1 hu; rfl
  case c3 => unfold maxLen; omega
  case c4 => omega
  case c5 => simp
  intro v' w1 hown hgr _
  have HB1 := Lib.hid (show Below w.heap.size w w1 from ((Below.refl w.heap.size w).alloc (Nat.le_refl _) _).grown hgr (by simp) (fun k hk => by simp [Value.ownBlock] at hk; omega))
  have ho : w1.ownsRow w.heap.size 3 1 v' n (intL (fun i => ((r i : Nat) : Int)) n) := by simpa [intL] using hown
  obtain ⟨g, cap', rfl, _, hg, hcap, hcm, hm⟩ := own_mine ho hpos
  have hrx := HR.out x hx
  have hry := HR.out y hy
  have cx := hm.cell x hx
  have cy := hm.cell y hy
  have fx := hm.free x hx
  have fy := hm.free y hy
  have lg := hm.lt
  have HM := Lib.hid hm
  have hrx16 : r x < 65536 := by omega
  have hry16 : r y < 65536 := by omega
  unfold maxLen at hcm
  have HCAP := Lib.hid hcap
  have HGE := Lib.hid hg
  clear hown hgr ho hm hcap
  have hyx : y ≠ x := fun e => hxy e.symm
  go_wp2_with fail
  refine (wpIn_wide (n := 9)).1 ?_
  refine last_round (by kernel_rfl) rfl (by kernel_rfl) (by kernel_rfl) (by kernel_rfl) ?_
  dsimp only [initOf, lastOf]
  repeat (gi_big_quiet_step ((fail)))
  refine wpQuietIn_nil ?_
  rintro _ ⟨nq, rfl⟩
  gi_wp2
  go_wp2_with fail
  have HM2 := Lib.hid ((Mine.drewN HM.out nq).set hx ((diff (r x) (2 ^ y) : Nat) : Int))
  have HB2 := Lib.hid ((below_drewN HB1.out nq).setCell (p := ⟨g, x, none⟩) HGE.out (.int .i64 ((diff (r x) (2 ^ y) : Nat) : Int)))
  have cy2 : (((w1.drewN nq).setCell ⟨g, x, none⟩ (.int .i64 ((diff (r x) (2 ^ y) : Nat) : Int)))).cell? ⟨g, y, none⟩ = some (.int .i64 (r y : Nat)) := by
    have := HM2.out.cell y hy
    rwa [if_neg hyx] at this
  have fy2 := HM2.out.free y hy
  have lg2 := HM2.out.lt
  obtain ⟨w2, hw2⟩ : ∃ w2, w2 = (w1.drewN nq).setCell ⟨g, x, none⟩ (.int .i64 ((diff (r x) (2 ^ y) : Nat) : Int)) := ⟨_, rfl⟩
  rw [← hw2] at HM2 HB2 cy2 fy2 lg2 ⊢
  clear hw2 cx cy fx fy lg HM
  refine (wpIn_wide (n := 9)).1 ?_
  refine last_round (by kernel_rfl) rfl (by kernel_rfl) (by kernel_rfl) (by kernel_rfl) ?_
  dsimp only [initOf, lastOf]
  repeat (gi_big_quiet_step ((fail)))
  refine wpQuietIn_nil ?_
  rintro _ ⟨nq, rfl⟩
  gi_wp2
  go_wp2_with fail
  go_ret
  have hm3 := (Mine.drewN HM2.out nq).set hy ((diff (r y) (2 ^ x) : Nat) : Int)
  refine ⟨_, cap', rfl, ⟨⟨by unfold maxLen; omega, fun _ => ⟨g, 0, rfl, hm3.lt, fun i hi => ?_⟩⟩, hpos, hsm, fun i hi => ?_⟩, (below_drewN HB2.out nq).setCell (p := ⟨g, y, none⟩) HGE.out _⟩
  · rw [Nat.zero_add, hm3.cell i hi]
    show some (Value.int .i64 (if i = y then ((diff (r y) (2 ^ x) : Nat) : Int) else if i = x then ((diff (r x) (2 ^ y) : Nat) : Int) else ((r i : Nat) : Int))) = some (Value.int .i64 ((cutN r x y i : Nat) : Int))
    unfold cutN
    by_cases e1 : i = y
    · subst e1; rw [if_pos rfl, if_neg hyx, if_pos rfl]
    · rw [if_neg e1]
      by_cases e2 : i = x
      · subst e2; rw [if_pos rfl, if_pos rfl]
      · rw [if_neg e2, if_neg e2, if_neg e1]
  · unfold cutN
    have h1 := HR.out i hi
    split
    · exact diff_lt hrx16
    · split
      · exact diff_lt hry16
      · omega

theorem linkedR_any {n : Nat} {r : Nat → Nat} {a : Option Addr} {w : World} (G : GrAt w a n r) (cap set x y : Nat) (hset : set < 65536) (hx : x < n) (hy : y < n) :
    Calls Tryd.prog 79 #[.slice a n cap, .int .i64 set, .int .i64 x, .int .i64 y] w fun e w' => e = .returned (.bool ((partS n r set x).testBit y)) ∧ Below w.heap.size w w' := by
  have HG := Lib.hid G
  have hn := G.small
  have hy64 : y < 64 := by omega
  have hp : partS n r set x < 65536 := metIn_lt (pow_lt16 (by omega)) G.bd n
  have HP : Hid (metIn n r set (2 ^ x) n = partS n r set x) := Lib.hid rfl
  clear G
  generalize partS n r set x = P at *
  go_enter Tryd.func79, Tryd.ntmps79
  go_wp2_with (go_at_call 40; refine (Reached_any HG.out cap set x _ _ rfl rfl hset hx).mono ?_; rintro e w1 ⟨rfl, hb1⟩; rw [HP.out]; have HB1 := Lib.hid hb1; clear hb1)
  go_ret
  exact ⟨rfl, HB1.out⟩

/-- Whether an edge is a bridge, as the reference asks it. -/
def brR (n : Nat) (r : Nat → Nat) (e : Nat × Nat) : Bool := !(partS n (cutN r e.1 e.2) (2 ^ n - 1) e.1).testBit e.2

set_option maxRecDepth 20000 in
set_option maxHeartbeats 4000000 in
theorem BridgesR_any {n : Nat} {r : Nat → Nat} {ad : Option Addr} {w : World} (G : GrAt w ad n r) (hn10 : n ≤ 10) (hr : ∀ i, i < n → r i < 2 ^ n) (cap : Nat) :
    Calls Tryd.prog 73 #[.slice ad n cap] w fun e w' => ∃ v, e = .returned v ∧ PairsOwn w' w.heap.size v ((edgesTo r n).filter (brR n r)) ∧ Below w.heap.size w w' := by
  have h10 := pow_le10 hn10
  have hn16 : n < 16 := by omega
  have HG := Lib.hid G
  have HR := Lib.hid hr
  obtain ⟨i0, hi0, hz1, hz2, hz3⟩ := info_parts info_pair
  have hml := G.ints.1
  unfold maxLen at hml
  clear G hr
  have HLT := Lib.hid (show ∀ e ∈ edgesTo r n, e.1 < n ∧ e.2 < n ∧ e.1 ≠ e.2 from fun e he => ⟨(edgesTo_lt HR.out n (Nat.le_refl _) e he).1, (edgesTo_lt HR.out n (Nat.le_refl _) e he).2, edgesTo_ne r n e he⟩)
  have hlen := edgesTo_len r n
  have HED := Lib.hid (EdgesR_any HG.out hn10 HR.out cap)
  generalize edgesTo r n = L at *
  have hlm : L.length ≤ maxLen := by unfold maxLen; omega
  unfold maxLen at hlm
  go_enter Tryd.func73, Tryd.ntmps73
  go_wp2_with (go_at_call 68; refine HED.out.mono ?_; rintro e w1 ⟨v, rfl, hO, hb1⟩; obtain ⟨av, cv, rfl⟩ := own_form hO; have HCE := Lib.hid (fun wx hb i p h => hO.cells wx hb i p h); clear hO)
  go_loopw [3, 9] (fun v i wr => ∃ k : Nat, k ≤ L.length ∧ i = .int .i64 k ∧ PairsOwn wr w1.heap.size v ((L.take k).filter (brR n r)) ∧ Below w1.heap.size w1 wr) (fun _ i _ => L.length - (intOf i).toNat)
  case atStart => exact ⟨0, Nat.zero_le _, rfl, ⟨rfl, Or.inl ⟨rfl, rfl⟩⟩, Below.refl _ _⟩
  case round =>
    obtain ⟨k, hk, rfl, hown, hbr⟩ := hrel
    by_cases hlt : k < L.length
    · obtain ⟨p, hp⟩ : ∃ p, L[k]? = some p := ⟨_, List.getElem?_eq_getElem hlt⟩
      obtain ⟨p1, p2⟩ := p
      obtain ⟨g, rfl, c0, c1⟩ := HCE.out wr hbr k _ hp
      obtain ⟨hp1, hp2, hp12⟩ := HLT.out _ (List.mem_of_getElem? hp)
      have HTK : Hid ((L.take (k + 1)).filter (brR n r) = (L.take k).filter (brR n r) ++ (if brR n r (p1, p2) then [(p1, p2)] else [])) := Lib.hid (by
        rw [List.take_add_one, hp, List.filter_append]
        simp only [Option.toList, List.filter]
        cases brR n r (p1, p2) <;> rfl)
      have hkl : ((L.take k).filter (brR n r)).length ≤ k := Nat.le_trans (List.length_filter_le _ _) (by rw [List.length_take]; omega)
      have HX : Hid (brR n r (p1, p2) = !(partS n (cutN r p1 p2) (2 ^ n - 1) p1).testBit p2) := Lib.hid rfl
      have HKL := Lib.hid hkl
      have HOW := Lib.hid hown
      have HBW := Lib.hid (hb1.trans (hbr.mono hb1.size))
      have HBR := Lib.hid hbr
      clear hown hkl hbr
      have hall16 : 2 ^ n - 1 < 65536 := by omega
      obtain ⟨wb, hwb, rb, hbb, hsz⟩ := new1 wr 66 [.int .i64 p1, .int .i64 p2]
      have HRB := Lib.hid rb
      have HBB := Lib.hid hbb
      have d0 := rb.cell (i := 0) rfl
      have d1 := rb.cell (i := 1) rfl
      go_upto_region 5 with fail
      rw [← hwb]
      clear hwb rb hbb
      have hGB : GrAt wb ad n r := HG.out.below (HBW.out.trans (HBB.out.mono HBW.out.size))
      have HGB := Lib.hid hGB
      clear hGB
      go_cut [26] (fun s wx => s = .bool (brR n r (p1, p2)) ∧ Below wb.heap.size wb wx)
      case first =>
        have B0 : Below wb.heap.size wb wb.drew := (Below.refl _ _).drew
        have r0 := HRB.out.below B0 HRB.out.lt
        have q0 := r0.cell (i := 0) rfl
        have q1 := r0.cell (i := 1) rfl
        clear r0 d0 d1
        go_region_held3 (fun w' => Below wb.heap.size wb w' ∧ w'.cell? ⟨wr.heap.size, 0, none⟩ = some (.int .i64 p1) ∧ w'.cell? ⟨wr.heap.size, 1, none⟩ = some (.int .i64 p2)) (first | (refine ⟨?_, ?_, ?_⟩ <;> assumption) | go_keep)
          (first
            | (go_at_call 78; refine (withoutR_any (HGB.out.below (And.left (by assumption))) hn10 HR.out cap p1 p2 hp1 hp2 hp12).mono ?_; rintro e w2 ⟨a2, k2, rfl, hG2, hb2⟩; have HGX := Lib.hid hG2; have hb3 := Below.trans (And.left (by assumption)) (hb2.mono (Below.size (And.left (by assumption)))); have r1 := HRB.out.below hb3 HRB.out.lt; have q0 := r1.cell (i := 0) rfl; have q1 := r1.cell (i := 1) rfl; clear r1 hG2; clear hb2)
            | (go_at_call 60; refine (allR_any _ _ _ _ hn16).mono ?_; rintro e w3 ⟨rfl, rfl⟩)
            | (go_at_call 79; refine (linkedR_any (by first | exact HGX.out | exact HGX.out.drewN 1) k2 _ p1 p2 hall16 hp1 hp2).mono ?_; rintro e w4 ⟨rfl, hb4⟩; have hb5 := Below.trans (And.left (by assumption)) (hb4.mono (Below.size (And.left (by assumption)))); have r1 := HRB.out.below hb5 HRB.out.lt; have q0 := r1.cell (i := 0) rfl; have q1 := r1.cell (i := 1) rfl; clear r1; clear hb4))
        all_goals
          go_wp2_with fail
          go_meet
          exact ⟨by rw [HX.out], by assumption⟩
      case rest =>
        obtain ⟨rfl, hba⟩ := hcut
        obtain ⟨wu, rfl⟩ : ∃ wu : World, wu = wc := ⟨_, rfl⟩
        have hbu := HBB.out.trans (hba.mono HBB.out.size)
        have HO2 := Lib.hid (show PairsOwn wu w1.heap.size u3 ((L.take k).filter (brR n r)) from ownsRow_below HOW.out hbu (Nat.le_refl _))
        have HB2 := Lib.hid (HBR.out.trans (hbu.mono HBR.out.size))
        have r1 := HRB.out.below hba HRB.out.lt
        have hcu := r1.cell (i := 0) rfl
        have hcv := r1.cell (i := 1) rfl
        clear r1 d0 d1 c0 c1
        cases hq : brR n r (p1, p2)
        · rw [hq] at HTK
          go_wp2_with fail
          go_roundw
          case rel => exact ⟨k + 1, by omega, by go_num, by rw [HTK.out, if_neg (by decide), List.append_nil]; exact HO2.out, HB2.out⟩
          case measure => simp [intOf]; omega
        · rw [hq] at HTK
          generalize (L.take k).filter (brR n r) = L0 at *
          have hbsz := HB2.out.size
          go_wp2_with (at_builtin; refine wpList_append_own _ rfl _ _ 61 rfl w1.heap.size 66 i0 (.agg #[.int .i64 0, .int .i64 0]) 2 16 Tryd.underlying61 hi0 hz1 hz2 hz3 rfl (by decide) _ _ _ rfl (HO2.out.alloc _) ⟨wu.heap.size, 0, none⟩ 1 1 [.int .i64 p1, .int .i64 p2] rfl rfl ?c1 ?c2 ?c3 ?c4 ?c5 ?_)
          case c2 => exact ⟨rfl, rfl⟩
          case c3 => have := HKL.out; unfold maxLen; omega
          case c4 => have := HKL.out; omega
          case c5 => omega
          intro v' w9 hown1 hg1 _
          have HO1 := Lib.hid hown1
          have HG1 := Lib.hid hg1
          clear hown1 hg1
          go_wp2_with fail
          go_roundw
          case rel =>
            refine ⟨k + 1, by omega, by go_num, ?_, (HB2.out.alloc (by omega) _).grown HG1.out (by simp; omega) (fun k hk => (World.ownsRow.lt HO2.out k hk).1)⟩
            rw [HTK.out]
            unfold PairsOwn
            rw [if_pos trivial, pairCells_snoc, List.length_append (bs := [(p1, p2)]), List.length_singleton]
            exact HO1.out
          case measure => simp [intOf]; omega
    · have hke : k = L.length := by omega
      subst hke
      rw [List.take_length] at hown
      go_wp2_with fail
      go_ret
      exact ⟨_, rfl, ownsRow_base hown hb1.size, hb1.trans (hbr.mono hb1.size)⟩

/-- The cut nodes of a set among the first ones, as the reference finds them. -/
def cutsRTo (n : Nat) (r : Nat → Nat) (set : Nat) : Nat → Nat
  | 0 => 0
  | k + 1 => if cutRB n r set k then cutsRTo n r set k ||| 2 ^ k else cutsRTo n r set k
theorem cutsRTo_lt {n : Nat} {r : Nat → Nat} {set : Nat} : ∀ k, k ≤ n → cutsRTo n r set k < 2 ^ n
  | 0, _ => Nat.two_pow_pos n
  | k + 1, h => by
    have ih := cutsRTo_lt (n := n) (r := r) (set := set) k (by omega)
    unfold cutsRTo
    split
    · exact Nat.or_lt_two_pow ih (pow_lt_pow (by omega))
    · exact ih

set_option maxRecDepth 20000 in
set_option maxHeartbeats 4000000 in
theorem cutsR_any {n : Nat} {r : Nat → Nat} {ad : Option Addr} {w : World} (G : GrAt w ad n r) (hn10 : n ≤ 10) (hr : ∀ i, i < n → r i < 2 ^ n) (cap set : Nat) (hset : set < 2 ^ n) :
    Calls Tryd.prog 62 #[.slice ad n cap, .int .i64 set] w fun e w' => e = .returned (.int .i64 (cutsRTo n r set n : Nat)) ∧ Below w.heap.size w w' := by
  have h10 := pow_le10 hn10
  have HG := Lib.hid G
  have HR := Lib.hid hr
  have hml := G.ints.1
  unfold maxLen at hml
  have hset16 : set < 65536 := by omega
  clear G hr
  go_enter Tryd.func62, Tryd.ntmps62
  go_wp2_with fail
  go_loopw [5, 10] (fun f i wr => ∃ k : Nat, k ≤ n ∧ i = .int .i64 k ∧ f = .int .i64 (cutsRTo n r set k : Nat) ∧ Below w.heap.size w wr) (fun _ i _ => n - (intOf i).toNat)
  case atStart => exact ⟨0, Nat.zero_le _, rfl, rfl, Below.refl _ _⟩
  case round =>
    obtain ⟨k, hk, rfl, rfl, hbr⟩ := hrel
    by_cases hlt : k < n
    · have HST : Hid (cutsRTo n r set (k + 1) = if cutRB n r set k then cutsRTo n r set k ||| 2 ^ k else cutsRTo n r set k) := Lib.hid rfl
      have hbk := cutsRTo_lt (r := r) (set := set) k (by omega : k ≤ n)
      have HCB : Hid (cutRB n r set k = (set.testBit k && othersN n r set k != 0 && !connN n r (othersN n r set k : Nat))) := Lib.hid rfl
      have hO : Hid (othersN n r set k = diff (partS n r set k) (2 ^ k)) := Lib.hid rfl
      have hpl := partS_lt (set := set) hlt HR.out
      have HP : Hid (metIn n r set (2 ^ k) n = partS n r set k) := Lib.hid rfl
      have hdl : diff (partS n r set k) (2 ^ k) < 2 ^ n := Nat.lt_of_le_of_lt (diff_le _ _) hpl
      rw [hO.out] at HCB
      clear hO
      have HGW := Lib.hid (HG.out.below hbr)
      have HBR := Lib.hid hbr
      generalize cutsRTo n r set k = B at *
      generalize cutRB n r set k = qb at *
      generalize partS n r set k = X at *
      have hB16 : B < 65536 := by omega
      have hX16 : X < 65536 := by omega
      have hD16 : diff X (2 ^ k) < 65536 := by omega
      have hk16 : k < 16 := by omega
      have hk64 : k < 64 := by omega
      have hpw := pow_bd k hk16
      clear hbr
      have hcall : ∀ u : BelowW wr.heap.size wr, Calls Tryd.prog 40 #[.slice ad n cap, .int .i64 set, .int .i64 k] u.w fun e w' => e = .returned (.int .i64 (X : Nat)) ∧ Below u.w.heap.size u.w w' := fun u => by
        have := Reached_any (HGW.out.below u.h) cap set k _ _ rfl rfl hset16 hlt
        rwa [HP.out] at this
      have HCL := Lib.hid hcall
      clear hcall
      go_wp2_with fail
      refine wp_region_below wr.heap.size wr (Below.refl _ _) (by kernel_rfl) (by kernel_rfl) ?_
      repeat (go_big_quiet_step (first | (go_at_call 40; exact calls_below (Nat.le_refl _) (HCL.out _))))
      refine wpQuiet_nil ?_
      rintro _ ⟨u, rfl⟩
      have HU := Lib.hid u.h
      have HBU := Lib.hid (HBR.out.trans (u.h.mono HBR.out.size))
      have HDX := Lib.hid (show ∀ u' : World, Below u.w.heap.size u.w u' → 0 < diff X (2 ^ k) → Calls Tryd.prog 61 #[.slice ad n cap, .int .i64 (diff X (2 ^ k) : Nat)] u' fun e w' => e = .returned (.bool (connN n r (diff X (2 ^ k) : Nat))) ∧ Below u'.heap.size u' w' from fun u' h h0 => ConnectedR_any ((HGW.out.below u.h).below h) hn10 cap _ h0 hdl)
      generalize diff X (2 ^ k) = D at *
      cases hs : set.testBit k
      · have hqf : qb = false := by rw [HCB.out, hs]; rfl
        subst hqf
        go_wp2_with fail
        go_roundw
        case rel => exact ⟨k + 1, by omega, by go_num, by rw [HST.out]; rfl, HBU.out⟩
        case measure => simp [intOf]; omega
      · by_cases hD0 : D = 0
        · subst hD0
          have hqf : qb = false := by rw [HCB.out]; simp
          subst hqf
          go_wp2_with fail
          go_roundw
          case rel => exact ⟨k + 1, by omega, by go_num, by rw [HST.out]; rfl, HBU.out⟩
          case measure => simp [intOf]; omega
        · have hne : ((D : Int) != 0) = true := by rw [bne_iff_ne]; omega
          have hDn : (D != 0) = true := by rw [bne_iff_ne]; omega
          have HCN := Lib.hid (HDX.out _ (Below.refl _ _) (by omega))
          cases hcn : connN n r (D : Nat)
          · have hqf : qb = true := by rw [HCB.out, hs, hDn, hcn]; rfl
            subst hqf
            go_wp2_with (go_at_call 61; refine HCN.out.mono ?_; rintro e w3 ⟨rfl, hb3⟩; rw [hcn]; have HB3 := Lib.hid (HBU.out.trans (hb3.mono HBU.out.size)); clear hb3)
            go_roundw
            case rel => exact ⟨k + 1, by omega, by go_num, by rw [HST.out]; rfl, HB3.out⟩
            case measure => simp [intOf]; omega
          · have hqf : qb = false := by rw [HCB.out, hcn]; simp
            subst hqf
            go_wp2_with (go_at_call 61; refine HCN.out.mono ?_; rintro e w3 ⟨rfl, hb3⟩; rw [hcn]; have HB3 := Lib.hid (HBU.out.trans (hb3.mono HBU.out.size)); clear hb3)
            go_roundw
            case rel => exact ⟨k + 1, by omega, by go_num, by rw [HST.out]; rfl, HB3.out⟩
            case measure => simp [intOf]; omega
    · have hke : k = n := by omega
      subst hke
      go_wp2_with fail
      go_ret
      exact ⟨rfl, hbr⟩

theorem CutsR_any {n : Nat} {r : Nat → Nat} {ad : Option Addr} {w : World} (G : GrAt w ad n r) (hn10 : n ≤ 10) (hr : ∀ i, i < n → r i < 2 ^ n) (cap : Nat) :
    Calls Tryd.prog 69 #[.slice ad n cap] w fun e w' => e = .returned (.int .i64 (cutsRTo n r (2 ^ n - 1) n : Nat)) ∧ Below w.heap.size w w' := by
  have HC := Lib.hid (cutsR_any G hn10 hr cap _ (all_lt n))
  have hn16 := G.small
  clear G hr
  go_enter Tryd.func69, Tryd.ntmps69
  go_wp2_with (first | (go_at_call 60; refine (allR_any _ _ _ _ hn16).mono ?_; rintro e w3 ⟨rfl, rfl⟩) | (go_at_call 62; refine HC.out.mono ?_; rintro e w4 ⟨rfl, hb⟩; have HB := Lib.hid hb; clear hb))
  go_ret
  exact ⟨rfl, HB.out⟩

/-- Both find the same cut nodes. -/
theorem cuts_same {n : Nat} {r : Nat → Nat} (h : Pl n r) : ∀ k, k ≤ n → cutsTo n r k = cutsRTo n r (2 ^ n - 1) k := by
  intro k
  induction k with
  | zero => intro _; rfl
  | succ k ih =>
    intro hk
    unfold cutsTo cutsRTo
    rw [ih (by omega), cut_is h (by omega)]
/-- Both find the same bridges. -/
theorem bridges_same {n : Nat} {r : Nat → Nat} (h : Pl n r) : (edgesTo r n).filter (brB n r) = (edgesTo r n).filter (brR n r) := by
  refine List.filter_congr fun e he => ?_
  obtain ⟨h1, h2⟩ := edgesTo_lt h.bd n (Nat.le_refl _) e he
  have hadj : ∀ k, ∀ e ∈ edgesTo r k, (r e.1).testBit e.2 = true := by
    intro k
    induction k with
    | zero => intro e he; cases he
    | succ k ih =>
      intro e he
      rcases List.mem_append.1 he with h | h
      · exact ih e h
      · unfold rowE at h
        obtain ⟨x, hx, rfl⟩ := List.mem_map.1 h
        exact (mem_bitsOf.1 (List.mem_filter.1 hx).1).2
  obtain ⟨a, b⟩ := e
  exact bridge_is h h1 h2 (edgesTo_ne r n _ he) (hadj n _ he)

end Go.Proofs.YtcpdedgmhpehiaaDoor
