/- Slices of acts of one's own; the contracts of the reference's Follow and of the law's own. -/
import Derived.Test.YthbhhfeiianmcaaDoorQu
import Derived.Test.YthbhhfeiianmcaaDoorQm
namespace Go.Proofs.YthbhhfeiianmcaaDoor
set_option linter.unusedSimpArgs false
set_option linter.unusedVariables false
open Go.RowKit Go.Maps
attribute [local go_sem] i64_bit toNat_eq_one toNat_ne_one toNat_eq_zero toNat_ne_zero i64_and i64_or i64_andNot i64_or_pow i64_andNot_pow

theorem info_actR : (Tryd.prog.info? 52).map (fun i => (i.zero, i.size, i.bytes)) = some (some (.agg #[.bool false, .int .i64 0]), 2, 16) := by kernel_rfl
theorem info_act : (Tryd.prog.info? 88).map (fun i => (i.zero, i.size, i.bytes)) = some (some (.agg #[.bool false, .int .i64 0]), 2, 16) := by kernel_rfl

def actCells (L : Acts) : List Value := L.flatMap fun a => [.bool a.1, .int .i64 (a.2 : Nat)]
theorem actCells_snoc (L : Acts) (p : Bool) (v : Nat) : actCells (L ++ [(p, v)]) = actCells L ++ [.bool p, .int .i64 (v : Nat)] := by simp [actCells]
theorem actCells_length (L : Acts) : (actCells L).length = L.length * 2 := by
  induction L with
  | nil => rfl
  | cons x L ih => simp [actCells] at *; omega
theorem actCells_get (L : Acts) (i : Nat) (a : Bool × Nat) (h : L[i]? = some a) : (actCells L)[i * 2]? = some (.bool a.1) ∧ (actCells L)[i * 2 + 1]? = some (.int .i64 (a.2 : Nat)) := by
  induction L generalizing i with
  | nil => simp at h
  | cons x L ih =>
    cases i with
    | zero => simp at h; subst h; exact ⟨rfl, rfl⟩
    | succ i =>
      simp at h
      have := ih i h
      have e : (i + 1) * 2 = i * 2 + 1 + 1 := by omega
      rw [e]
      exact this
/-- A slice of acts of one's own. -/
def ActsOwn (T : TypeId) (w : World) (base : Nat) (v : Value) (L : Acts) : Prop := w.ownsRow base T 2 v L.length (actCells L)
theorem ActsOwn.nil (T : TypeId) (w : World) (base : Nat) : ActsOwn T w base (.slice none 0 0) [] := World.ownsRow_nil w base T 2
theorem ActsOwn.snoc {T : TypeId} {w' : World} {base : Nat} {v' : Value} {L : Acts} {p : Bool} {x : Nat} (h : w'.ownsRow base T 2 v' (L.length + 1) (actCells L ++ [.bool p, .int .i64 (x : Nat)])) : ActsOwn T w' base v' (L ++ [(p, x)]) := by
  unfold ActsOwn
  rw [List.length_append, actCells_snoc]
  exact h

set_option maxRecDepth 20000 in
set_option maxHeartbeats 4000000 in
theorem FollowR_any {n m : Nat} {r : Nat → Nat} {z : Nat → Int} {a o : Option Addr} {w : World} (G : GrAt w a n r) (hn7 : n ≤ 7) (cap co : Nat) (hI : IntsAt w o m z) (hm1 : 1 ≤ m) (hm2 : m ≤ 30) (hz : ∀ k, k < m → 0 ≤ z k ∧ z k < 2 ^ n) :
    Calls Tryd.prog 34 #[.slice a n cap, .slice o m co] w fun e w' => ∃ v, e = .returned v ∧ ActsOwn 52 w' w.heap.size v (folL (setZ z) m (m + 1)) ∧ Below w.heap.size w w' := by
  have h7 := pow_le7 hn7
  obtain ⟨hml2, hI2⟩ := G.ints
  obtain ⟨b, off, rfl, hlt2, hc2⟩ := hI2 G.pos
  obtain ⟨ob, oo, rfl, hlt, hc⟩ := hI.2 (by omega)
  have HC := Lib.hid hc
  have HZ := Lib.hid hz
  obtain ⟨i0, hi0, hz1, hz2, hz3⟩ := info_parts info_int
  obtain ⟨i1, hi1, hy1, hy2, hy3⟩ := info_parts info_actR
  unfold maxLen at hml2
  have hbags : ∀ k, k < m → setZ z k < 2 ^ n := fun k hk => by
    have := hz k hk
    rw [pow_cast] at this
    show (z k).toNat < _
    omega
  have HBG := Lib.hid hbags
  have hnews : ∀ j u, ((List.range m).map fun i => Value.int .i64 (z i))[j]? = some u → (w.alloc (.cells #[] 3)).cell? ((⟨ob, oo, none⟩ : Addr).add j) = some u := by
    intro j u hu
    by_cases hj : j < m
    · rw [map_range_get _ hj] at hu
      cases hu
      have e1 : (⟨ob, oo, none⟩ : Addr).add j = ⟨ob, oo + j, none⟩ := by
        unfold Addr.add
        split
        · rename_i h0; subst h0; rfl
        · rfl
      rw [e1, ((Below.refl w.heap.size w).alloc (Nat.le_refl _) _).cell (p := ⟨ob, oo + j, none⟩) hlt]
      exact hc j hj
    · simp [hj] at hu
  have HNW := Lib.hid hnews
  clear hc hc2 hI2 hI G hz hbags hnews
  go_enter Tryd.func34, Tryd.ntmps34
  go_wp2_with (at_builtin; refine wpList_append_own _ rfl _ _ 22 rfl w.heap.size 3 i0 (.int .i64 0) 1 8 Tryd.underlying22 hi0 hz1 hz2 hz3 rfl (by decide) _ _ _ rfl (World.ownsRow_made w #[] 0 (Nat.le_refl _) (Nat.zero_le _) rfl) ⟨ob, oo, none⟩ m co ((List.range m).map fun i => Value.int .i64 (z i)) rfl (by simp) HNW.out ?c2 ?c3 ?c4 ?c5 ?_)
  case c2 => intro u hu; obtain ⟨i, _, rfl⟩ := List.mem_map.1 hu; rfl
  case c3 => unfold maxLen; omega
  case c4 => omega
  case c5 => simp
  intro v1 w1 hown1 hg1 _
  have hb1 : Below w.heap.size w w1 := ((Below.refl w.heap.size w).alloc (Nat.le_refl _) _).grown hg1 (by simp) (fun k hk => by simp [Value.ownBlock] at hk; omega)
  have HO1 := Lib.hid hown1
  have HB1 := Lib.hid hb1
  clear hown1 hg1 hb1
  go_wp2_with (at_builtin; refine wpList_append_own _ rfl _ _ 22 rfl w.heap.size 3 i0 (.int .i64 0) 1 8 Tryd.underlying22 hi0 hz1 hz2 hz3 rfl (by decide) _ _ _ rfl (HO1.out.alloc _) ⟨_, 0, none⟩ 1 1 [.int .i64 0] rfl rfl ?d1 ?d2 ?d3 ?d4 ?d5 ?_)
  case d1 => exact cells_new _ _ _
  case d2 => intro u hu; simp at hu; subst hu; rfl
  case d3 => unfold maxLen; omega
  case d4 => omega
  case d5 => have := HB1.out.size; simp; omega
  intro v2 w2 hown2 hg2 _
  have hb2 : Below w.heap.size w w2 := (HB1.out.alloc HB1.out.size _).grown hg2 (by have := HB1.out.size; simp; omega) (fun k hk => (World.ownsRow.lt HO1.out k hk).1)
  have HB2 := Lib.hid hb2
  obtain ⟨gb, gc, rfl, hgb1, hgb2⟩ := own_form' hown2 (by omega)
  have hbl : ∀ wx, Below w2.heap.size w2 wx → ∀ k, k < m + 1 → wx.cell? ⟨gb, k, none⟩ = some (.int .i64 (bagN (setZ z) m k : Nat)) := by
    intro wx hbx k hk
    rw [hbx.cell (p := ⟨gb, k, none⟩) hgb2, World.ownsRow.cellAt hown2 k (by omega)]
    unfold bagN
    by_cases hkm : k < m
    · rw [List.getElem?_append_left (by simpa using hkm), map_range_get _ hkm, if_pos hkm]
      have := (HZ.out k hkm).1
      rw [show z k = ((setZ z k : Nat) : Int) by show z k = ((z k).toNat : Int); omega]
    · rw [if_neg hkm, show k = m by omega, List.getElem?_append_right (by simp)]
      simp
  have HBL := Lib.hid hbl
  have HSB := Lib.hid hgb1
  clear hown2 hg2 hb2 hbl HNW HO1
  have hbn : ∀ k, bagN (setZ z) m k < 2 ^ n := fun k => by
    unfold bagN
    split
    · rename_i h; exact HBG.out k h
    · exact Nat.two_pow_pos n
  have hwn : ∀ k, wasN (setZ z) m k < 2 ^ n := fun k => by
    cases k with
    | zero => exact Nat.two_pow_pos n
    | succ k => exact hbn k
  have HBN := Lib.hid hbn
  have HWN := Lib.hid hwn
  clear hbn hwn
  go_wp2_with fail
  go_loopw [5, 6, 17] (fun ou gu i wr => ∃ k : Nat, k ≤ m + 1 ∧ i = .int .i64 k ∧ gu = .int .i64 (wasN (setZ z) m k : Nat) ∧ ActsOwn 52 wr w2.heap.size ou (folL (setZ z) m k) ∧ Below w2.heap.size w2 wr) (fun _ _ i _ => m + 1 - (intOf i).toNat)
  case atStart => exact ⟨0, Nat.zero_le _, rfl, rfl, ActsOwn.nil _ _ _, Below.refl _ _⟩
  case round =>
    obtain ⟨k, hk, rfl, rfl, hown, hbr⟩ := hrel
    have HOW := Lib.hid hown
    have HBR := Lib.hid hbr
    clear hown hbr
    by_cases hltk : k < m + 1
    · have ck := HBL.out wr HBR.out k hltk
      have dk : decide ((k : Int) < (m : Int) + 1) = true := decide_eq_true (by omega)
      have hnew := HBN.out k
      have hold := HWN.out k
      have HST : Hid (folL (setZ z) m (k + 1) = folL (setZ z) m k ++ actsOf (wasN (setZ z) m k) (bagN (setZ z) m k)) := Lib.hid rfl
      have HWS : Hid (wasN (setZ z) m (k + 1) = bagN (setZ z) m k) := Lib.hid rfl
      have hfl := fol_len (setZ z) m k
      generalize folL (setZ z) m k = L0 at *
      generalize bagN (setZ z) m k = new at *
      generalize wasN (setZ z) m k = old at *
      have hold16 : old < 65536 := by omega
      have hnew16 : new < 65536 := by omega
      have HOWN1 := HOW
      have HBEL1 := HBR
      clear HOW HBR
      have hfl1 : L0.length ≤ 20 * 31 := by omega
      go_wp2_with fail
      go_loopw [5, 23] (fun ou i wy => ∃ x : Nat, x ≤ n ∧ i = .int .i64 x ∧ ActsOwn 52 wy w2.heap.size ou (L0 ++ (bitsTo (diff old new) x).map fun v => (false, v)) ∧ Below w2.heap.size w2 wy) (fun _ i _ => n - (intOf i).toNat)
      case atStart => exact ⟨0, Nat.zero_le _, rfl, by simpa [bitsTo] using HOWN1.out, HBEL1.out⟩
      case round =>
        clear HOWN1 HBEL1
        obtain ⟨x, hx, rfl, hown, hbr⟩ := hrel
        have HOW := Lib.hid hown
        have HBR := Lib.hid hbr
        clear hown hbr
        by_cases hltx : x < n
        · have hx64 : x < 64 := by omega
          have hx16 : x < 16 := by omega
          have hbs := bitsTo_succ (diff old new) x
          have hbl := bitsTo_len (diff old new) x
          have hd16 : diff old new < 65536 := Nat.lt_of_le_of_lt (diff_le _ _) hold16
          cases hb : (diff old new).testBit x
          · rw [hb] at hbs
            have HBS : Hid (bitsTo (diff old new) (x + 1) = bitsTo (diff old new) x) := Lib.hid (by rw [hbs]; rfl)
            clear hbs
            go_wp2_with fail
            go_roundw
            case rel => exact ⟨x + 1, by omega, by go_num, by rw [HBS.out]; exact HOW.out, HBR.out⟩
            case measure => simp [intOf]; omega
          · rw [hb] at hbs
            have HBS : Hid (L0 ++ (bitsTo (diff old new) (x + 1)).map (fun v => (false, v)) = (L0 ++ (bitsTo (diff old new) x).map fun v => (false, v)) ++ [(false, x)]) := Lib.hid (by rw [hbs, if_pos rfl, List.map_append]; simp [List.append_assoc])
            have hML : (L0 ++ (bitsTo (diff old new) x).map fun v => (false, v)).length ≤ 10000 := by rw [List.length_append, List.length_map]; omega
            have hszr := HBR.out.size
            clear hbs
            generalize (L0 ++ (bitsTo (diff old new) x).map fun v => (false, v)) = M at *
            go_wp2_with (at_builtin; refine wpList_append_own _ rfl _ _ 50 rfl w2.heap.size 52 i1 (.agg #[.bool false, .int .i64 0]) 2 16 Tryd.underlying50 hi1 hy1 hy2 hy3 rfl (by decide) _ _ _ rfl (World.ownsRow.alloc (show World.ownsRow _ w2.heap.size 52 2 _ M.length (actCells M) from HOW.out) _) ⟨_, 0, none⟩ 1 1 [.bool false, .int .i64 x] rfl rfl ?c1 ?c2 ?c3 ?c4 ?c5 ?_)
            case c1 => exact cells_new _ _ _
            case c2 => intro u hu; simp at hu; rcases hu with rfl | rfl <;> rfl
            case c3 => unfold maxLen; omega
            case c4 => omega
            case c5 => simp; omega
            intro v3 w3 hown3 hg3 _
            have HO3 := Lib.hid (ActsOwn.snoc hown3)
            have HB3 := Lib.hid ((HBR.out.alloc hszr _).grown hg3 (by simp; omega) (fun k hk => (World.ownsRow.lt (show World.ownsRow _ _ _ _ _ _ _ from HOW.out) k hk).1))
            clear hown3 hg3
            go_wp2_with fail
            go_roundw
            case rel => exact ⟨x + 1, by omega, by go_num, by rw [HBS.out]; exact HO3.out, HB3.out⟩
            case measure => simp [intOf]; omega
        · have hxe : n = x := by omega
          subst hxe
          have HOWN2 : Hid (ActsOwn 52 wr w2.heap.size u5 (L0 ++ (offs old new).map fun v => (false, v))) := Lib.hid (by
            unfold offs
            rw [bits_upto (by omega) (Nat.lt_of_le_of_lt (diff_le _ _) hold)]
            exact HOW.out)
          have HBEL2 := HBR
          clear HOW HBR
          have hfl2 : (L0 ++ (offs old new).map fun v => (false, v)).length ≤ 20 * 31 + 10 := by
            have := bits_len (diff old new)
            rw [List.length_append, List.length_map]
            unfold offs
            omega
          go_wp2_with fail
          go_loopw [5, 41] (fun ou i wy => ∃ x : Nat, x ≤ n ∧ i = .int .i64 x ∧ ActsOwn 52 wy w2.heap.size ou ((L0 ++ (offs old new).map fun v => (false, v)) ++ (bitsTo (diff new old) x).map fun v => (true, v)) ∧ Below w2.heap.size w2 wy) (fun _ i _ => n - (intOf i).toNat)
          case atStart => exact ⟨0, Nat.zero_le _, rfl, by simpa [bitsTo] using HOWN2.out, HBEL2.out⟩
          case round =>
            clear HOWN2 HBEL2
            obtain ⟨x, hx, rfl, hown, hbr⟩ := hrel
            have HOW := Lib.hid hown
            have HBR := Lib.hid hbr
            clear hown hbr
            by_cases hltx : x < n
            · have hx64 : x < 64 := by omega
              have hx16 : x < 16 := by omega
              have hbs := bitsTo_succ (diff new old) x
              have hbl := bitsTo_len (diff new old) x
              have hd16 : diff new old < 65536 := Nat.lt_of_le_of_lt (diff_le _ _) hnew16
              cases hb : (diff new old).testBit x
              · rw [hb] at hbs
                have HBS : Hid (bitsTo (diff new old) (x + 1) = bitsTo (diff new old) x) := Lib.hid (by rw [hbs]; rfl)
                clear hbs
                go_wp2_with fail
                go_roundw
                case rel => exact ⟨x + 1, by omega, by go_num, by rw [HBS.out]; exact HOW.out, HBR.out⟩
                case measure => simp [intOf]; omega
              · rw [hb] at hbs
                have HBS : Hid ((L0 ++ (offs old new).map fun v => (false, v)) ++ (bitsTo (diff new old) (x + 1)).map (fun v => (true, v)) = ((L0 ++ (offs old new).map fun v => (false, v)) ++ (bitsTo (diff new old) x).map fun v => (true, v)) ++ [(true, x)]) := Lib.hid (by rw [hbs, if_pos rfl, List.map_append]; simp [List.append_assoc])
                have hML : ((L0 ++ (offs old new).map fun v => (false, v)) ++ (bitsTo (diff new old) x).map fun v => (true, v)).length ≤ 10000 := by rw [List.length_append, List.length_map]; omega
                have hszr := HBR.out.size
                clear hbs
                generalize ((L0 ++ (offs old new).map fun v => (false, v)) ++ (bitsTo (diff new old) x).map fun v => (true, v)) = M at *
                go_wp2_with (at_builtin; refine wpList_append_own _ rfl _ _ 50 rfl w2.heap.size 52 i1 (.agg #[.bool false, .int .i64 0]) 2 16 Tryd.underlying50 hi1 hy1 hy2 hy3 rfl (by decide) _ _ _ rfl (World.ownsRow.alloc (show World.ownsRow _ w2.heap.size 52 2 _ M.length (actCells M) from HOW.out) _) ⟨_, 0, none⟩ 1 1 [.bool true, .int .i64 x] rfl rfl ?c1 ?c2 ?c3 ?c4 ?c5 ?_)
                case c1 => exact cells_new _ _ _
                case c2 => intro u hu; simp at hu; rcases hu with rfl | rfl <;> rfl
                case c3 => unfold maxLen; omega
                case c4 => omega
                case c5 => simp; omega
                intro v3 w3 hown3 hg3 _
                have HO3 := Lib.hid (ActsOwn.snoc hown3)
                have HB3 := Lib.hid ((HBR.out.alloc hszr _).grown hg3 (by simp; omega) (fun k hk => (World.ownsRow.lt (show World.ownsRow _ _ _ _ _ _ _ from HOW.out) k hk).1))
                clear hown3 hg3
                go_wp2_with fail
                go_roundw
                case rel => exact ⟨x + 1, by omega, by go_num, by rw [HBS.out]; exact HO3.out, HB3.out⟩
                case measure => simp [intOf]; omega
            · have hxe : n = x := by omega
              subst hxe
              go_wp2_with fail
              go_roundw
              case rel =>
                refine ⟨k + 1, by omega, by go_num, by rw [HWS.out], ?_, HBR.out⟩
                rw [HST.out]
                unfold actsOf offs
                rw [bits_upto (by omega) (Nat.lt_of_le_of_lt (diff_le _ _) hnew), ← List.append_assoc]
                exact HOW.out
              case measure => simp [intOf]; omega
    · have hke : k = m + 1 := by omega
      subst hke
      go_wp2_with fail
      go_ret
      exact ⟨_, rfl, ownsRow_base HOW.out HB2.out.size, HB2.out.trans (HBR.out.mono HB2.out.size)⟩
end Go.Proofs.YthbhhfeiianmcaaDoor
