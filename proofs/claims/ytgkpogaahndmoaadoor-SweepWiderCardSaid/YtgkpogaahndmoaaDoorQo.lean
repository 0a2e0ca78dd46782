/- The contract of the reference's layouts. -/
import Derived.Test.YtgkpogaahndmoaaDoorQn
import Derived.Test.YtgkpogaahndmoaaDoorQg
namespace Go.Proofs.YtgkpogaahndmoaaDoor
set_option linter.unusedSimpArgs false
set_option linter.unusedVariables false
open Go.RowKit Go.Maps

def metB (L : List Nat) (v q : Nat) : Bool := (List.range q).any fun i => listZ L i == (v : Int)
theorem metB_succ (L : List Nat) (v q : Nat) : metB L v (q + 1) = (metB L v q || listZ L q == (v : Int)) := by
  unfold metB; rw [List.range_succ, List.any_append]; simp
theorem metB_iff {L : List Nat} {v : Nat} : metB L v L.length = true ↔ v ∈ L := by
  unfold metB
  rw [List.any_eq_true]
  constructor
  · rintro ⟨i, hi, h⟩
    have hi := List.mem_range.1 hi
    have h : listZ L i = (v : Int) := eq_of_beq h
    have h2 := congrArg Int.toNat h
    rw [listZ_nat, List.getD_eq_getElem?_getD, List.getElem?_eq_getElem hi] at h2
    have h2 : L[i] = v := h2
    rw [← h2]; exact List.getElem_mem hi
  · intro h
    obtain ⟨i, h1, h2⟩ := List.getElem_of_mem h
    exact ⟨i, List.mem_range.2 h1, by unfold listZ; rw [List.getD_eq_getElem?_getD, List.getElem?_eq_getElem h1, ← h2]; simp⟩
theorem lay_pos {n k : Nat} {L : List Nat} (hB : Begun n L) (hk : L.length + k = n) : 0 < (layL n k L).length := by
  have hf := lay_find (t := fun _ _ => 0) (W := max (alo (fun _ _ => 0) (listZ L) L.length) (rst n (fun _ _ => 0) (metO (listZ L) L.length))) (fun _ _ _ => Nat.zero_le _) k L hB hk
  rw [if_pos ⟨Nat.le_max_left _ _, Nat.le_max_right _ _⟩] at hf
  exact List.length_pos_of_mem (List.mem_of_find?_eq_some hf)
theorem lay1_of {w : World} {base : Nat} {v : Value} {l : List Nat} {xs : List Value} (h : w.ownsRow base 3 1 v l.length xs) (hx : ∀ i, i < l.length → xs[i]? = some (.int .i64 (listZ l i))) (h0 : 0 < l.length) : Lay1 w v l := by
  obtain ⟨_, h1 | ⟨g, cap, cur, hv, hg, hh, hc, _⟩⟩ := id h
  · omega
  · subst hv
    refine ⟨g, cap, rfl, hc, h0, (Array.getElem?_eq_some_iff.1 hh).1, fun i hi => ?_⟩
    rw [World.ownsRow.cellAt h i (by omega)]
    exact hx i hi
def Begv (w : World) (x : Value) (l : List Nat) : Prop := (l = [] ∧ x = .slice none 0 0) ∨ Lay1 w x l
set_option maxRecDepth 20000 in
set_option maxHeartbeats 2000000 in
theorem layouts_zero {n : Nat} (hn : n ≤ 7) (h0 : 0 < n) (L : List Nat) (v : Value) (w : World) (hL : L.length = n) (hv : Lay1 w v L) :
    Calls Tryd.prog 55 #[.int .i64 n, v] w fun e w' => ∃ u, e = .returned u ∧ LaysOwn w' w.heap.size u [L] ∧ Below w.heap.size w w' := by
  obtain ⟨g, cap, rfl, hc, hl, hg, hcell⟩ := hv
  rw [hL] at hc hl ⊢
  have HC := Lib.hid hcell
  clear hcell
  go_enter Tryd.func55, Tryd.ntmps55
  go_wp2_with fail
  go_ret
  refine ⟨_, rfl, ⟨by simp, [.slice (some ⟨g, 0, none⟩) n cap], ⟨by simp, Or.inr ⟨w.heap.size, 1, _, rfl, Nat.le_refl _, heap_alloc_new w _, Nat.le_refl _, by decide, rfl, rfl⟩⟩, fun i l hl => ?_⟩, (Below.refl _ _).alloc (Nat.le_refl _) _⟩
  rw [List.getElem?_cons] at hl
  split at hl
  · rename_i hi
    subst hi
    cases hl
    exact ⟨_, rfl, Lay1.below ⟨g, cap, by rw [hL], by omega, by omega, hg, HC.out⟩ ((Below.refl _ _).alloc (Nat.le_refl _) _)⟩
  · simp at hl
set_option maxRecDepth 20000 in
set_option maxHeartbeats 2000000 in
theorem layouts_some {n : Nat} (hn : n ≤ 7) (k : Nat) (ih : ∀ (L : List Nat) (v : Value) (w : World), Begun n L → L.length + k = n → Lay1 w v L →
    Calls Tryd.prog 55 #[.int .i64 n, v] w fun e w' => ∃ u, e = .returned u ∧ LaysOwn w' w.heap.size u (layL n k L) ∧ Below w.heap.size w w')
    (L : List Nat) (v : Value) (w : World) (hB : Begun n L) (hk : L.length + (k + 1) = n) (hv : Lay1 w v L) :
    Calls Tryd.prog 55 #[.int .i64 n, v] w fun e w' => ∃ u, e = .returned u ∧ LaysOwn w' w.heap.size u (layL n (k + 1) L) ∧ Below w.heap.size w w' := by
  obtain ⟨g, cap, rfl, hc, hl, hg, hcell⟩ := hv
  obtain ⟨m, hm⟩ : ∃ m, m = L.length := ⟨_, rfl⟩
  have HC := Lib.hid hcell
  have HM := Lib.hid hm
  have HIH := Lib.hid ih
  have HBG := Lib.hid hB
  rw [← hm] at hc hl hk ⊢
  have hne : ((m : Int) == (n : Int)) = false := by simp; omega
  clear hcell ih hm hB
  go_enter Tryd.func55, Tryd.ntmps55
  go_wp2_with fail
  go_loopw [5, 17] (fun o i wr => ∃ j : Nat, j ≤ n ∧ i = .int .i64 j ∧ LaysOwn wr w.heap.size o (layP n k L j) ∧ Below w.heap.size w wr) (fun _ i _ => n - (intOf i).toNat)
  case atStart => exact ⟨0, Nat.zero_le _, rfl, LaysOwn.nil _ _, Below.refl _ _⟩
  case round =>
    obtain ⟨j, hj, rfl, hown, hbr⟩ := hrel
    have HOW := Lib.hid hown
    have HBR := Lib.hid hbr
    have hcw : ∀ i, i < m → wr.cell? ⟨g, i, none⟩ = some (.int .i64 (listZ L i)) := fun i hi => by rw [hbr.cell (p := ⟨g, i, none⟩) hg]; exact HC.out i (by rw [← HM.out]; exact hi)
    have HCW := Lib.hid hcw
    clear hown hbr hcw
    by_cases hjn : j < n
    · go_wp2_with fail
      go_loopw [7, 22] (fun b i wx => ∃ q : Nat, q ≤ m ∧ i = .int .i64 q ∧ b = .bool (metB L j q) ∧ wr = wx) (fun _ i _ => m - (intOf i).toNat)
      case atStart => exact ⟨0, Nat.zero_le _, rfl, rfl, rfl⟩
      case round =>
        obtain ⟨q, hq, rfl, rfl, rfl⟩ := hrel
        by_cases hqm : q < m
        · have cq := HCW.out q hqm
          have HS := Lib.hid (metB_succ L j q)
          generalize listZ L q = zq at *
          cases hmb : metB L j q
          · cases hz : (zq == (j : Int))
            · have HS2 : Hid (metB L j (q + 1) = false) := Lib.hid (by rw [HS.out, hmb, hz]; rfl)
              go_wp2_with fail
              go_roundw
              case rel => exact ⟨q + 1, by omega, by go_num, by rw [HS2.out], by first | trivial | rfl⟩
              case measure => simp [intOf]; omega
            · have HS2 : Hid (metB L j (q + 1) = true) := Lib.hid (by rw [HS.out, hmb, hz]; rfl)
              go_wp2_with fail
              go_roundw
              case rel => exact ⟨q + 1, by omega, by go_num, by rw [HS2.out], by first | trivial | rfl⟩
              case measure => simp [intOf]; omega
          · have HS2 : Hid (metB L j (q + 1) = true) := Lib.hid (by rw [HS.out, hmb]; rfl)
            go_wp2_with fail
            go_roundw
            case rel => exact ⟨q + 1, by omega, by go_num, by rw [HS2.out], by first | trivial | rfl⟩
            case measure => simp [intOf]; omega
        · have hqe : q = m := by omega
          subst hqe
          cases hmb : metB L j q
          · have HNI : Hid (j ∉ L) := Lib.hid fun h => by rw [HM.out, metB_iff.2 h] at hmb; cases hmb
            go_upto_region 14 with fail
            obtain ⟨i0, hi0, hz1, hz2, hz3⟩ := info_parts info_int
            obtain ⟨i1, hi1, hy1, hy2, hy3⟩ := info_parts info_ints
            have HBS := Lib.hid (HBG.out.snoc hjn HNI.out)
            have HLK : Hid ((L ++ [j]).length + k = n) := Lib.hid (by have := HM.out; simp; omega)
            have HLP := Lib.hid (lay_pos HBS.out HLK.out)
            have HCT := Lib.hid (layL_count n k (L ++ [j]))
            have HCT2 : Hid ((layP n k L j).length ≤ 823543) := Lib.hid (layP_count hn (by omega) (by omega))
            have HP7 := Lib.hid (pow_seven (k := k) hn (by omega))
            have HWR : Hid (Below wr.heap.size wr (wr.alloc (.cells #[.int .i64 j] 3))) := Lib.hid ((Below.refl _ _).alloc (Nat.le_refl _) _)
            have HGW : Hid (g < wr.heap.size) := Lib.hid (Nat.lt_of_lt_of_le hg HBR.out.size)
            go_wp2_with (first
              | (at_builtin; refine wpList_append_grows _ rfl _ _ 22 rfl 3 i0 (.int .i64 0) 1 8 Tryd.underlying22 hi0 hz1 hz2 hz3 rfl (by decide) (some ⟨g, 0, none⟩) q q ((List.range q).map fun i => Value.int .i64 (listZ L i)) rfl (fun h => by cases h) (by simp) ?c0 ⟨_, 0, none⟩ 1 1 [.int .i64 j] rfl rfl ?c1 ?c2 (by omega) ?c3 ?c4 ?_))
            case c0 =>
              intro b hb i u hu
              cases hb
              have hi : i < q := by
                have := (List.getElem?_eq_some_iff.1 hu).1
                simpa using this
              rw [map_range_get _ hi] at hu
              cases hu
              rw [Addr.add_lit, Nat.zero_add]
              rw [HWR.out.cell (p := ⟨g, i, none⟩) HGW.out]
              exact HCW.out i hi
            case c1 => exact cells_new _ _ _
            case c2 => intro u hu; simp at hu; subst hu; rfl
            case c3 => unfold maxLen; omega
            case c4 => omega
            intro v' w9 hown1 hg1
            have hl1 : Lay1 w9 v' (L ++ [j]) := by
              refine lay1_of (base := w.heap.size) (xs := (List.range q).map (fun i => Value.int .i64 (listZ L i)) ++ [.int .i64 j]) ?_ ?_ (by simp)
              · rw [List.length_append, List.length_singleton, ← HM.out]
                exact ownsRow_base hown1 (by have := HBR.out.size; simp; omega)
              · intro i hi
                rw [List.length_append, List.length_singleton, ← HM.out] at hi
                by_cases hiq : i < q
                · rw [List.getElem?_append_left (by simpa using hiq), map_range_get _ hiq, listZ_snoc_lt (by rw [← HM.out]; exact hiq)]
                · have e : i = L.length := by have := HM.out; omega
                  subst e
                  rw [listZ_snoc_at, List.getElem?_append_right (by simp; have := HM.out; omega)]
                  simp [HM.out]
            have HL1 := Lib.hid hl1
            have HB9 : Hid (Below wr.heap.size wr w9) := Lib.hid (((Below.refl _ _).alloc (Nat.le_refl _) _).grown hg1 (by simp) (fun k hk => by cases hk))
            have HOW9 := Lib.hid (HOW.out.below HB9.out)
            clear hown1 hg1 hl1
            obtain ⟨M, hM⟩ : ∃ M, M = layL n k (L ++ [j]) := ⟨_, rfl⟩
            have HMD := Lib.hid hM
            rw [← hM] at HLP HCT
            obtain ⟨ml, hml⟩ : ∃ x, x = M.length := ⟨_, rfl⟩
            rw [← hml] at HLP HCT
            have HML := Lib.hid hml
            obtain ⟨nl, hnl⟩ : ∃ x, x = (layP n k L j).length := ⟨_, rfl⟩
            rw [← hnl] at HCT2
            have HNL := Lib.hid hnl
            have hb1 := HLP.out
            have hb2 := HCT.out
            have hb3 := HCT2.out
            have hb4 := HP7.out
            clear hM hml hnl
            go_wp2_with (first
              | (go_at_call 55; refine (HIH.out (L ++ [j]) v' w9 HBS.out HLK.out HL1.out).mono ?_; rintro e w10 ⟨u, rfl, hou, hb10⟩; rw [← HMD.out] at hou; have HB10 := Lib.hid (HB9.out.trans (hb10.mono HB9.out.size)); have HOW10 := Lib.hid (HOW9.out.below hb10); obtain ⟨us, ho2, he2⟩ := id hou.2; obtain ⟨vs, ho1, he1⟩ := id HOW10.out.2; rw [← HML.out] at ho2; rw [← HNL.out] at ho1; obtain ⟨ub, uc, rfl, hub1, hub2⟩ := own_form' ho2 (by omega); have HOU := Lib.hid hou; have HO1 := Lib.hid ho1; have HO2 := Lib.hid ho2; have HE1 := Lib.hid he1; have HE2 := Lib.hid he2; clear hb10 hou ho1 ho2 he1 he2)
              | (at_builtin; refine wpList_append_own _ rfl _ _ 83 rfl w.heap.size 22 i1 (.slice none 0 0) 1 24 Tryd.underlying83 hi1 hy1 hy2 hy3 rfl (by decide) _ nl vs rfl HO1.out ⟨ub, 0, none⟩ ml uc us rfl ?d0 ?d1 ?d2 ?d3 ?d4 ?d5 ?_))
            case d0 => exact HO2.out.1
            case d1 =>
              intro i u hu
              have hi := (List.getElem?_eq_some_iff.1 hu).1
              rw [Addr.add_lit, Nat.zero_add, World.ownsRow.cellAt HO2.out i (by have := HO2.out.1; omega)]
              exact hu
            case d2 =>
              intro u hu
              obtain ⟨i, hi, rfl⟩ := List.getElem_of_mem hu
              have hiM : i < M.length := by have := HO2.out.1; have := HML.out; omega
              obtain ⟨x, hx, gx, cx, ex, _⟩ := HE2.out i _ (List.getElem?_eq_getElem hiM)
              rw [List.getElem?_eq_getElem hi] at hx
              cases hx
              rw [ex]; rfl
            case d3 => unfold maxLen; omega
            case d4 => omega
            case d5 => have := HBR.out.size; have := HB10.out.size; omega
            intro v2 w11 hown2 hg2 _
            have hap := LaysOwn.append HOW10.out HOU.out (by intro e; have := HML.out; rw [e] at this; simp at this; omega) (by rw [← HNL.out]; exact HO1.out) HE1.out (by have := HO2.out.1; have := HML.out; omega) HE2.out (by rw [← HNL.out, ← HML.out]; exact hown2) hg2
            have HAP := Lib.hid hap
            have HG2 := Lib.hid hg2
            clear hown2 hg2 hap
            go_wp2_with fail
            go_roundw
            case rel => exact ⟨j + 1, by omega, by go_num, by rw [layP_out HNI.out, ← HMD.out]; exact HAP.out, (HBR.out.trans (HB10.out.mono HBR.out.size)).grown HG2.out (by have := HBR.out.size; have := HB10.out.size; omega) (fun k hk => (World.ownsRow.lt HO1.out k hk).1)⟩
            case measure => simp [intOf]; omega
          · have HIN : Hid (j ∈ L) := Lib.hid (metB_iff.1 (by rw [← HM.out]; exact hmb))
            go_wp2_with fail
            go_roundw
            case rel => exact ⟨j + 1, by omega, by go_num, by rw [layP_in HIN.out]; exact HOW.out, HBR.out⟩
            case measure => simp [intOf]; omega
    · have hje : j = n := by omega
      subst hje
      go_wp2_with fail
      go_ret
      exact ⟨_, rfl, by rw [layL_succ]; exact HOW.out, HBR.out⟩
set_option maxRecDepth 20000 in
set_option maxHeartbeats 2000000 in
theorem layouts_nil {n : Nat} (hn : n ≤ 7) (k : Nat) (ih : ∀ (L : List Nat) (v : Value) (w : World), Begun n L → L.length + k = n → Lay1 w v L →
    Calls Tryd.prog 55 #[.int .i64 n, v] w fun e w' => ∃ u, e = .returned u ∧ LaysOwn w' w.heap.size u (layL n k L) ∧ Below w.heap.size w w')
    (w : World) (hk : k + 1 = n) :
    Calls Tryd.prog 55 #[.int .i64 n, .slice none 0 0] w fun e w' => ∃ u, e = .returned u ∧ LaysOwn w' w.heap.size u (layL n (k + 1) []) ∧ Below w.heap.size w w' := by
  have HIH := Lib.hid ih
  have hne : ((0 : Int) == (n : Int)) = false := by simp; omega
  clear ih
  go_enter Tryd.func55, Tryd.ntmps55
  go_wp2_with fail
  go_loopw [5, 17] (fun o i wr => ∃ j : Nat, j ≤ n ∧ i = .int .i64 j ∧ LaysOwn wr w.heap.size o (layP n k [] j) ∧ Below w.heap.size w wr) (fun _ i _ => n - (intOf i).toNat)
  case atStart => exact ⟨0, Nat.zero_le _, rfl, LaysOwn.nil _ _, Below.refl _ _⟩
  case round =>
    obtain ⟨j, hj, rfl, hown, hbr⟩ := hrel
    have HOW := Lib.hid hown
    have HBR := Lib.hid hbr
    clear hown hbr
    by_cases hjn : j < n
    · go_wp2_with fail
      go_loopw [7, 22] (fun b i wx => i = .int .i64 0 ∧ b = .bool false ∧ wr = wx) (fun _ i _ => 0)
      case atStart => exact ⟨rfl, rfl, rfl⟩
      case round =>
        obtain ⟨rfl, rfl, rfl⟩ := hrel
        have HNI : Hid (j ∉ ([] : List Nat)) := Lib.hid (by simp)
        go_upto_region 14 with fail
        obtain ⟨i0, hi0, hz1, hz2, hz3⟩ := info_parts info_int
        obtain ⟨i1, hi1, hy1, hy2, hy3⟩ := info_parts info_ints
        have HBS := Lib.hid ((Begun.nil n).snoc hjn HNI.out)
        have HLK : Hid (([] ++ [j]).length + k = n) := Lib.hid (by simp; omega)
        have HLP := Lib.hid (lay_pos HBS.out HLK.out)
        have HCT := Lib.hid (layL_count n k ([] ++ [j]))
        have HCT2 : Hid ((layP n k [] j).length ≤ 823543) := Lib.hid (layP_count hn (by omega) (by omega))
        have HP7 := Lib.hid (pow_seven (k := k) hn (by omega))
        have HWR : Hid (Below wr.heap.size wr (wr.alloc (.cells #[.int .i64 j] 3))) := Lib.hid ((Below.refl _ _).alloc (Nat.le_refl _) _)
        go_wp2_with (first
          | (at_builtin; refine wpList_append_grows _ rfl _ _ 22 rfl 3 i0 (.int .i64 0) 1 8 Tryd.underlying22 hi0 hz1 hz2 hz3 rfl (by decide) none 0 0 [] rfl (fun _ => ⟨rfl, rfl⟩) rfl (fun b h => by cases h) ⟨_, 0, none⟩ 1 1 [.int .i64 j] rfl rfl ?c1 ?c2 (by omega) ?c3 ?c4 ?_))
        case c1 => exact cells_new _ _ _
        case c2 => intro u hu; simp at hu; subst hu; rfl
        case c3 => unfold maxLen; omega
        case c4 => omega
        intro v' w9 hown1 hg1
        have hl1 : Lay1 w9 v' ([] ++ [j]) := by
          refine lay1_of (base := w.heap.size) (xs := [.int .i64 j]) ?_ ?_ (by simp)
          · exact ownsRow_base hown1 (by have := HBR.out.size; simp; omega)
          · intro i hi
            have e : i = 0 := by simp at hi; omega
            subst e; rfl
        have HL1 := Lib.hid hl1
        have HB9 : Hid (Below wr.heap.size wr w9) := Lib.hid (((Below.refl _ _).alloc (Nat.le_refl _) _).grown hg1 (by simp) (fun k hk => by cases hk))
        have HOW9 := Lib.hid (HOW.out.below HB9.out)
        clear hown1 hg1 hl1
        obtain ⟨M, hM⟩ : ∃ M, M = layL n k ([] ++ [j]) := ⟨_, rfl⟩
        have HMD := Lib.hid hM
        rw [← hM] at HLP HCT
        obtain ⟨ml, hml⟩ : ∃ x, x = M.length := ⟨_, rfl⟩
        rw [← hml] at HLP HCT
        have HML := Lib.hid hml
        obtain ⟨nl, hnl⟩ : ∃ x, x = (layP n k [] j).length := ⟨_, rfl⟩
        rw [← hnl] at HCT2
        have HNL := Lib.hid hnl
        have hb1 := HLP.out
        have hb2 := HCT.out
        have hb3 := HCT2.out
        have hb4 := HP7.out
        clear hM hml hnl
        go_wp2_with (first
          | (go_at_call 55; refine (HIH.out ([] ++ [j]) v' w9 HBS.out HLK.out HL1.out).mono ?_; rintro e w10 ⟨u, rfl, hou, hb10⟩; rw [← HMD.out] at hou; have HB10 := Lib.hid (HB9.out.trans (hb10.mono HB9.out.size)); have HOW10 := Lib.hid (HOW9.out.below hb10); obtain ⟨us, ho2, he2⟩ := id hou.2; obtain ⟨vs, ho1, he1⟩ := id HOW10.out.2; rw [← HML.out] at ho2; rw [← HNL.out] at ho1; obtain ⟨ub, uc, rfl, hub1, hub2⟩ := own_form' ho2 (by omega); have HOU := Lib.hid hou; have HO1 := Lib.hid ho1; have HO2 := Lib.hid ho2; have HE1 := Lib.hid he1; have HE2 := Lib.hid he2; clear hb10 hou ho1 ho2 he1 he2)
          | (at_builtin; refine wpList_append_own _ rfl _ _ 83 rfl w.heap.size 22 i1 (.slice none 0 0) 1 24 Tryd.underlying83 hi1 hy1 hy2 hy3 rfl (by decide) _ nl vs rfl HO1.out ⟨ub, 0, none⟩ ml uc us rfl ?d0 ?d1 ?d2 ?d3 ?d4 ?d5 ?_))
        case d0 => exact HO2.out.1
        case d1 =>
          intro i u hu
          have hi := (List.getElem?_eq_some_iff.1 hu).1
          rw [Addr.add_lit, Nat.zero_add, World.ownsRow.cellAt HO2.out i (by have := HO2.out.1; omega)]
          exact hu
        case d2 =>
          intro u hu
          obtain ⟨i, hi, rfl⟩ := List.getElem_of_mem hu
          have hiM : i < M.length := by have := HO2.out.1; have := HML.out; omega
          obtain ⟨x, hx, gx, cx, ex, _⟩ := HE2.out i _ (List.getElem?_eq_getElem hiM)
          rw [List.getElem?_eq_getElem hi] at hx
          cases hx
          rw [ex]; rfl
        case d3 => unfold maxLen; omega
        case d4 => omega
        case d5 => have := HBR.out.size; have := HB10.out.size; omega
        intro v2 w11 hown2 hg2 _
        have hap := LaysOwn.append HOW10.out HOU.out (by intro e; have := HML.out; rw [e] at this; simp at this; omega) (by rw [← HNL.out]; exact HO1.out) HE1.out (by have := HO2.out.1; have := HML.out; omega) HE2.out (by rw [← HNL.out, ← HML.out]; exact hown2) hg2
        have HAP := Lib.hid hap
        have HG2 := Lib.hid hg2
        clear hown2 hg2 hap
        go_wp2_with fail
        go_roundw
        case rel => exact ⟨j + 1, by omega, by go_num, by rw [layP_out HNI.out, ← HMD.out]; exact HAP.out, (HBR.out.trans (HB10.out.mono HBR.out.size)).grown HG2.out (by have := HBR.out.size; have := HB10.out.size; omega) (fun k hk => (World.ownsRow.lt HO1.out k hk).1)⟩
        case measure => simp [intOf]; omega
    · have hje : j = n := by omega
      subst hje
      go_wp2_with fail
      go_ret
      exact ⟨_, rfl, by rw [layL_succ]; exact HOW.out, HBR.out⟩

theorem layouts_one {n : Nat} (hn : n ≤ 7) (h0 : 0 < n) : ∀ k (L : List Nat) (v : Value) (w : World), Begun n L → L.length + k = n → Lay1 w v L →
    Calls Tryd.prog 55 #[.int .i64 n, v] w fun e w' => ∃ u, e = .returned u ∧ LaysOwn w' w.heap.size u (layL n k L) ∧ Below w.heap.size w w' := by
  intro k
  induction k with
  | zero => intro L v w _ hk hv; exact layouts_zero hn h0 L v w (by omega) hv
  | succ k ih => intro L v w hB hk hv; exact layouts_some hn k ih L v w hB hk hv
theorem layouts_any {n : Nat} (hn : n ≤ 7) (h0 : 0 < n) (w : World) :
    Calls Tryd.prog 55 #[.int .i64 n, .slice none 0 0] w fun e w' => ∃ u, e = .returned u ∧ LaysOwn w' w.heap.size u (layL n n []) ∧ Below w.heap.size w w' := by
  obtain ⟨k, hk⟩ : ∃ k, k + 1 = n := ⟨n - 1, by omega⟩
  have := layouts_nil hn k (layouts_one hn h0 k) w hk
  rw [hk] at this
  exact this

end Go.Proofs.YtgkpogaahndmoaaDoor
