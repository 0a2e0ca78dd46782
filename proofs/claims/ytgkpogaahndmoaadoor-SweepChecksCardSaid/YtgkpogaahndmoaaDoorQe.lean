/- The contracts of package sweep's bagsOf and breadth, of the reference's Border, Bags, Breadth. -/
import Derived.Test.YtgkpogaahndmoaaDoorQc
import Derived.Test.YtgkpogaahndmoaaDoorQd
import Derived.Deep.RegionLaw
namespace Go.Proofs.YtgkpogaahndmoaaDoor
set_option linter.unusedSimpArgs false
set_option linter.unusedVariables false
open Go.RowKit Go.Maps
attribute [local go_sem] i64_bit toNat_eq_one toNat_ne_one toNat_eq_zero toNat_ne_zero i64_and i64_or i64_andNot i64_or_pow i64_andNot_pow

/-- A slice of numbers of one's own. -/
def IntsOwn (w : World) (base : Nat) (v : Value) (L : List Int) : Prop := w.ownsRow base 3 1 v L.length (L.map fun x => Value.int .i64 x)
def zListI (L : List Int) (i : Nat) : Int := L.getD i 0
theorem IntsOwn.ints {w : World} {base : Nat} {v : Value} {L : List Int} (h : IntsOwn w base v L) (hL : L.length ≤ 65536) : ∃ a cap, v = .slice a L.length cap ∧ IntsAt w a L.length (zListI L) := by
  by_cases h0 : L.length = 0
  · obtain ⟨a, cap, hv⟩ := own_form h
    exact ⟨a, cap, hv, by unfold maxLen; omega, fun h => by omega⟩
  · unfold IntsOwn at h
    obtain ⟨g, cap, rfl, h1, h2⟩ := own_form' h h0
    refine ⟨_, cap, rfl, by unfold maxLen; omega, fun _ => ⟨g, 0, rfl, h2, fun i hi => ?_⟩⟩
    rw [Nat.zero_add, World.ownsRow.cellAt h i (by omega)]
    unfold zListI
    rw [List.getElem?_map, List.getD_eq_getElem?_getD, List.getElem?_eq_getElem hi]
    rfl

theorem step_append_own {P : Program} {ops : Array Oper} {o : Oper} {a : Act} {w : World} {K : Act → World → Prop} {Q : Exit → Act → World → Prop} {E : Prop}
    (hg : o.guard = none) (s x : Operand) (t : TypeId) (hop : o.op = Op.call { callee := Callee.builtin Builtin.append, args := #[s, x], argTypes := #[t, t] })
    (base : Nat) (e : TypeId) (i : TypeInfo) (z : Value) (size bytes : Nat) (h1 : P.underlying t = some (.slice e)) (h2 : P.info? e = some i) (h3 : i.zero = some z) (h4 : i.size = size) (h5 : i.bytes = bytes) (h6 : z.cells.size = size) (h7 : 0 < size)
    (v : Value) (n : Nat) (olds : List Value) (hs : a.eval s = v) (hown : w.ownsRow base e size v n olds)
    (ad : Addr) (m c : Nat) (news : List Value) (hx : a.eval x = .slice (some ad) m c) (hn : news.length = m * size) (hc : ∀ j u, news[j]? = some u → w.cell? (ad.add j) = some u) (h1c : ∀ u ∈ news, u.oneCell' = true)
    (b1 : n + m ≤ maxLen) (b2 : (n + m) * bytes ≤ 140737488355328) (hbase : base ≤ w.heap.size)
    (hK : ∀ v' w', w'.ownsRow base e size v' (n + m) (olds ++ news) → w.grownBy w' v.ownBlock → K (a.put o.dst v') w') :
    if Region.wanted o (yielded ops a.tmps) = true then Oper.wp P o a w K Q else E := by
  have hw : Region.wanted o (yielded ops a.tmps) = true := by simp [Region.wanted, hg]
  rw [if_pos hw]
  obtain ⟨v', w', hrun, r1, r2, _⟩ := run_append_own (P := P) w base t o.type e i z size bytes h1 h2 h3 h4 h5 h6 h7 v n olds hown ad m c news hn hc h1c b1 b2 hbase
  unfold Oper.wp
  simp [execOp, hop, resolve, invoke, builtin, hs, hx, hrun, Result.andThen]
  exact hK v' w' r1 r2

/-- The first bags of a layout. -/
def bagL (r : Nat → Nat) (z : Nat → Int) (k : Nat) : List Int := (List.range k).map (bagZ r z)
theorem bagL_succ (r : Nat → Nat) (z : Nat → Int) (k : Nat) : bagL r z (k + 1) = bagL r z k ++ [bagZ r z k] := by
  unfold bagL; rw [List.range_succ, List.map_append]; rfl
theorem bagL_len (r : Nat → Nat) (z : Nat → Int) (k : Nat) : (bagL r z k).length = k := by simp [bagL]

set_option maxRecDepth 20000 in
set_option maxHeartbeats 4000000 in
theorem bagsOf_any {n : Nat} {r : Nat → Nat} {ad o : Option Addr} {w : World} {z : Nat → Int} (G : GrAt w ad n r) (hn7 : n ≤ 7) (hr : ∀ i, i < n → r i < 2 ^ n) (cap co : Nat) (ho : ordB n n z = true) (hI : IntsAt w o n z) (hT : Tab w) :
    Calls Tryd.prog 58 #[.slice ad n cap, .slice o n co] w fun e w' => ∃ v, e = .returned v ∧ IntsOwn w' w.heap.size v (bagL r z n) ∧ Below w.heap.size w w' := by
  have h7 := pow_le7 hn7
  have hpos := G.pos
  obtain ⟨b, off, rfl, hlt, hc⟩ := hI.2 hpos
  have hbc : ∀ wx, Below w.heap.size w wx → ∀ i, i < n → wx.cell? ⟨b, off + i, none⟩ = some (.int .i64 (z i)) := fun wx hb i hi => by rw [hb.cell (p := ⟨b, off + i, none⟩) hlt]; exact hc i hi
  have HC := Lib.hid hbc
  have HG := Lib.hid G
  have HR := Lib.hid hr
  have HT := Lib.hid hT
  have HO := Lib.hid ho
  obtain ⟨i0, hi0, hz1, hz2, hz3⟩ := info_parts info_int
  have hmk : ∀ w : World, (Instr.makeSlice 22 (.int .i64 0) (.int .i64 (n : Int))).run Tryd.prog w = .ok (.slice (some ⟨w.heap.size, 0, none⟩) 0 n) (w.alloc (.cells (madeCells #[.int .i64 0] n) 3)) := fun w => by
    have h := run_makeSlice (P := Tryd.prog) (w := w) 22 3 i0 (.int .i64 0) Tryd.underlying22 hi0 hz1 .i64 .i64 0 n (by omega) (by omega) (by rw [hz2]; simp; omega) (by rw [hz3]; omega) (by omega)
    rw [hz2, show (Value.int .i64 0).cells = #[.int .i64 0] from by unfold Value.cells; rfl, Nat.mul_one, Int.toNat_natCast] at h
    exact h
  have hml := G.ints.1
  unfold maxLen at hml
  have hwo : (w.alloc (.cells (madeCells #[.int .i64 0] n) 3)).ownsRow w.heap.size 3 1 (.slice (some ⟨w.heap.size, 0, none⟩) 0 n) 0 [] := World.ownsRow_made w _ n (Nat.le_refl _) (by unfold maxLen; omega) (by rw [size_madeCells]; simp)
  have HWO := Lib.hid hwo
  clear G hr hT hI hc hbc ho hwo
  go_enter Tryd.func58, Tryd.ntmps58
  go_wp2_with fail
  go_loopw [5, 6, 14] (fun v f i wr => ∃ k : Nat, k ≤ n ∧ i = .int .i64 k ∧ f = .int .i64 (metO z k : Nat) ∧ IntsOwn wr w.heap.size v (bagL r z k) ∧ Below w.heap.size w wr) (fun _ _ i _ => n - (intOf i).toNat)
  case atStart => exact ⟨0, Nat.zero_le _, rfl, rfl, HWO.out, (Below.refl _ _).alloc (Nat.le_refl _) _⟩
  case round =>
    obtain ⟨k, hk, rfl, rfl, hown, hbr⟩ := hrel
    have HOW := Lib.hid hown
    have HBR := Lib.hid hbr
    clear hown hbr
    by_cases hltk : k < n
    · have ck := HC.out wr HBR.out k hltk
      obtain ⟨h0, h1, h2, h3⟩ := okO_iff ((ordB_iff HO.out).2 k hltk)
      have hM := lay_met HO.out hk
      have HMS : Hid (metO z (k + 1) = metO z k ||| 2 ^ (z k).toNat) := Lib.hid rfl
      have HBS : Hid (bagZ r z k = ((bord r (metO z k) ||| 2 ^ (z k).toNat : Nat) : Int)) := Lib.hid rfl
      have HBL := Lib.hid (bagL_succ r z k)
      have hll := bagL_len r z k
      have hbl := bord_lt (r := r) hM
      have HBD := Lib.hid (border_any (HG.out.below HBR.out) hn7 HR.out cap (metO z k) hM (HT.out.below HBR.out))
      obtain ⟨s, hs⟩ : ∃ s : Nat, z k = s := ⟨(z k).toNat, by omega⟩
      rw [hs] at ck
      rw [hs, Int.toNat_natCast] at HMS HBS
      have hsn : s < n := by omega
      have hs16 : s < 16 := by omega
      have hs64 : s < 64 := by omega
      have hps := pow_bd s hs16
      generalize metO z k = M at *
      generalize bagL r z k = L0 at *
      have hM16 : M < 65536 := by omega
      have hX16 : bord r M < 65536 := by omega
      clear h0 h1 h2 h3
      go_upto_region 6 with fail
      have hsz := HBR.out.size
      have HBD' := Lib.hid (border_any (HG.out.below (HBR.out.drew)) hn7 HR.out cap M hM (HT.out.below (HBR.out.drew)))
      have hbd : Below wr.heap.size wr wr.drew := below_drewN (Below.refl _ _) 1
      go_region_law? (first | (go_simp; go_at_call 77; refine HBD'.out.mono ?_; rintro _ w5 ⟨rfl, hb5⟩; have HB5 := Lib.hid (hbd.trans (hb5.mono (by simp))); clear hb5) | (refine step_append_own rfl (.tmp 18) (.tmp 25) 22 rfl w.heap.size 3 i0 (.int .i64 0) 1 8 Tryd.underlying22 hi0 hz1 hz2 hz3 rfl (by decide) u5 L0.length _ (by simp [Act.eval, Act.put]) (World.ownsRow.alloc (ownsRow_below (show wr.ownsRow w.heap.size 3 1 u5 L0.length _ from HOW.out) HB5.out (Nat.le_refl _)) _) ⟨w5.heap.size, 0, none⟩ 1 1 [.int .i64 (bits .or .i64 (bord r M : Nat) (IntKind.i64.wrap (2 ^ s)))] (by simp [Act.eval, Act.put]) rfl (cells_new w5 _ _) (by intro u hu; simp at hu; subst hu; rfl) (by unfold maxLen; omega) (by omega) (Nat.le_trans hsz (Nat.le_trans HB5.out.size (by simp))) ?_; intro u' w3 hown1 hg1; have HO3 := Lib.hid hown1; have HG3 := Lib.hid hg1; clear hown1 hg1))
      go_wp2_with fail
      go_roundw
      case rel =>
        refine ⟨k + 1, by omega, by go_num, by rw [HMS.out], ?_, ((HBR.out.trans (HB5.out.mono HBR.out.size)).alloc (Nat.le_trans hsz HB5.out.size) _).grown HG3.out (by simp; have := HB5.out.size; omega) (fun k hk => (World.ownsRow.lt HOW.out k hk).1)⟩
        have ho := HO3.out
        unfold IntsOwn
        rw [HBL.out, HBS.out, List.length_append, List.map_append]
        rw [show IntKind.i64.wrap ((2 : Int) ^ s) = 2 ^ s from IntWalk.i64_in _ (by have := pow_cast s; omega), i64_or_pow _ _ (by omega) (by omega)] at ho
        exact ho
      case measure => simp [intOf]; omega
    · have hke : k = n := by omega
      subst hke
      go_wp2_with fail
      go_ret
      exact ⟨_, rfl, HOW.out, HBR.out⟩

end Go.Proofs.YtgkpogaahndmoaaDoor
