/- Two slices of one's own in a box; the contract of package width's treeOf. -/
import Derived.Test.YtombmfphodikjaaW41
import Derived.Test.YtombmfphodikjaaW38
import Derived.Maps.AppendAt
namespace Go.Proofs.Ytombmfphodikjaa
set_option linter.unusedSimpArgs false
set_option linter.unusedVariables false
open Go.RowKit Go.Maps

/-- 'append' onto a slice of one's own, as one step of a region that draws its order, and where it lies then. -/
theorem step_append_at {P : Program} {ops : Array Oper} {o : Oper} {a : Act} {w : World} {K : Act → World → Prop} {Q : Exit → Act → World → Prop} {E : Prop}
    (hg : o.guard = none) (s x : Operand) (t : TypeId) (hop : o.op = Op.call { callee := Callee.builtin Builtin.append, args := #[s, x], argTypes := #[t, t] })
    (base : Nat) (e : TypeId) (i : TypeInfo) (z : Value) (size bytes : Nat) (h1 : P.underlying t = some (.slice e)) (h2 : P.info? e = some i) (h3 : i.zero = some z) (h4 : i.size = size) (h5 : i.bytes = bytes) (h6 : z.cells.size = size) (h7 : 0 < size)
    (v : Value) (n : Nat) (olds : List Value) (hs : a.eval s = v) (hown : w.ownsRow base e size v n olds)
    (ad : Addr) (m c : Nat) (news : List Value) (hx : a.eval x = .slice (some ad) m c) (hn : news.length = m * size) (hc : ∀ j u, news[j]? = some u → w.cell? (ad.add j) = some u) (h1c : ∀ u ∈ news, u.oneCell' = true)
    (b1 : n + m ≤ maxLen) (b2 : (n + m) * bytes ≤ 140737488355328) (hbase : base ≤ w.heap.size)
    (hK : ∀ v' w', w'.ownsRow base e size v' (n + m) (olds ++ news) → w.grownBy w' v.ownBlock → (v'.ownBlock = v.ownBlock ∨ v'.ownBlock = some w.heap.size) → K (a.put o.dst v') w') :
    if Region.wanted o (yielded ops a.tmps) = true then Oper.wp P o a w K Q else E := by
  have hw : Region.wanted o (yielded ops a.tmps) = true := by simp [Region.wanted, hg]
  rw [if_pos hw]
  obtain ⟨v', w', hrun, r1, r2, _, r3⟩ := run_append_own_at (P := P) w base t o.type e i z size bytes h1 h2 h3 h4 h5 h6 h7 v n olds hown ad m c news hn hc h1c b1 b2 hbase
  unfold Oper.wp
  simp [execOp, hop, resolve, invoke, builtin, hs, hx, hrun, Result.andThen]
  exact hK v' w' r1 r2 r3

theorem ownsRow_set {w : World} {base : Nat} {e : TypeId} {size : Nat} {v : Value} {n : Nat} {xs : List Value} (h : w.ownsRow base e size v n xs) {bx : Nat} (hb : bx < base) (i : Nat) (u : Value) : (w.setCell ⟨bx, i, none⟩ u).ownsRow base e size v n xs := by
  refine ⟨h.1, ?_⟩
  rcases h.2 with h1 | ⟨g, cap, cur, hv, hgb, hh, r⟩
  · exact Or.inl h1
  · refine Or.inr ⟨g, cap, cur, hv, hgb, ?_, r⟩
    rw [Below.heap_setCell _ _ _ _ (show g ≠ bx by omega)]
    exact hh
theorem ownsRow_by {w w' : World} {base : Nat} {e : TypeId} {size : Nat} {v : Value} {n : Nat} {xs : List Value} {row : Option Nat} (h : w.ownsRow base e size v n xs) (hg : w.grownBy w' row) (hr : ∀ k, v.ownBlock = some k → row ≠ some k) : w'.ownsRow base e size v n xs := by
  refine ⟨h.1, ?_⟩
  rcases h.2 with h1 | ⟨g, cap, cur, hv, hgb, hh, r⟩
  · exact Or.inl h1
  · refine Or.inr ⟨g, cap, cur, hv, hgb, ?_, r⟩
    rw [hg.block g (Array.getElem?_eq_some_iff.1 hh).1 (fun e => hr g (by rw [hv]; rfl) e.symm)]
    exact hh

/-- A tree's box with two slices of one's own, and the box of the result. -/
structure TreeOwn (w : World) (bx rx base : Nat) (vb vp : Value) (nb np : Nat) (xs ys : List Value) : Prop where
  low : bx < base
  rlow : rx < base
  rne : rx ≠ bx
  size : base ≤ w.heap.size
  box : Row w bx 42 [vb, vp]
  res : Row w rx 42 [.slice none 0 0, .slice none 0 0]
  b : w.ownsRow base 3 1 vb nb xs
  p : w.ownsRow base 3 1 vp np ys
  ne : ∀ k, vb.ownBlock = some k → vp.ownBlock ≠ some k
theorem TreeOwn.below {w w' : World} {bx rx base : Nat} {vb vp : Value} {nb np : Nat} {xs ys : List Value} (h : TreeOwn w bx rx base vb vp nb np xs ys) (hb : Below w.heap.size w w') : TreeOwn w' bx rx base vb vp nb np xs ys :=
  ⟨h.low, h.rlow, h.rne, Nat.le_trans h.size hb.size, h.box.below hb h.box.lt, h.res.below hb h.res.lt, ownsRow_below h.b hb (Nat.le_refl _), ownsRow_below h.p hb (Nat.le_refl _), h.ne⟩
theorem TreeOwn.app0 {w w' : World} {bx rx base : Nat} {vb vp v' : Value} {nb np n' : Nat} {xs ys xs' : List Value} (h : TreeOwn w bx rx base vb vp nb np xs ys) (ho : w'.ownsRow base 3 1 v' n' xs') (hg : w.grownBy w' vb.ownBlock) (hd : v'.ownBlock = vb.ownBlock ∨ v'.ownBlock = some w.heap.size) :
    TreeOwn (w'.setCell ⟨bx, 0, none⟩ v') bx rx base v' vp n' np xs' ys := by
  have r1 := (h.box.grown hg (not_own h.b h.low)).set 0 v'
  have r2 := (h.res.grown hg (not_own h.b h.rlow)).other (a := ⟨bx, 0, none⟩) h.rne v'
  refine ⟨h.low, h.rlow, h.rne, by have := hg.size; have := h.size; simp [World.setCell]; omega, r1, r2, ownsRow_set ho h.low _ _, ownsRow_set (ownsRow_by h.p hg fun k hk e => h.ne k e hk) h.low _ _, fun k hk e => ?_⟩
  rcases hd with hd | hd
  · exact h.ne k (by rw [← hd]; exact hk) e
  · rw [hd] at hk
    cases hk
    have := (World.ownsRow.lt h.p _ e).2
    omega
theorem TreeOwn.app1 {w w' : World} {bx rx base : Nat} {vb vp v' : Value} {nb np n' : Nat} {xs ys ys' : List Value} (h : TreeOwn w bx rx base vb vp nb np xs ys) (ho : w'.ownsRow base 3 1 v' n' ys') (hg : w.grownBy w' vp.ownBlock) (hd : v'.ownBlock = vp.ownBlock ∨ v'.ownBlock = some w.heap.size) :
    TreeOwn (w'.setCell ⟨bx, 1, none⟩ v') bx rx base vb v' nb n' xs ys' := by
  have r1 := (h.box.grown hg (not_own h.p h.low)).set 1 v'
  have r2 := (h.res.grown hg (not_own h.p h.rlow)).other (a := ⟨bx, 1, none⟩) h.rne v'
  refine ⟨h.low, h.rlow, h.rne, by have := hg.size; have := h.size; simp [World.setCell]; omega, r1, r2, ownsRow_set (ownsRow_by h.b hg fun k hk e => h.ne k hk e) h.low _ _, ownsRow_set ho h.low _ _, fun k hk e => ?_⟩
  rcases hd with hd | hd
  · exact h.ne k hk (by rw [← hd]; exact e)
  · rw [hd] at e
    cases e
    have := (World.ownsRow.lt h.b _ hk).2
    omega

theorem own_ints {w : World} {base : Nat} {v : Value} {n : Nat} {z : Nat → Int} (h : w.ownsRow base 3 1 v n ((List.range n).map fun i => Value.int .i64 (z i))) (hn : n ≤ 65536) : ∃ a cap, v = .slice a n cap ∧ IntsAt w a n z := by
  by_cases h0 : n = 0
  · subst h0
    obtain ⟨a', cap', rfl⟩ := own_form h
    exact ⟨a', cap', rfl, ⟨by decide, fun h => absurd h (by omega)⟩⟩
  · obtain ⟨g, cap', rfl, hg1, hg2⟩ := own_form' h h0
    refine ⟨_, cap', rfl, ⟨by unfold maxLen; omega, fun _ => ⟨g, 0, rfl, hg2, fun i hi => ?_⟩⟩⟩
    rw [Nat.zero_add, World.ownsRow.cellAt h i (by omega)]
    exact map_range_get _ hi
theorem TreeOwn.cells {w : World} {bx rx base : Nat} {vb vp : Value} {nb np : Nat} {xs ys : List Value} (h : TreeOwn w bx rx base vb vp nb np xs ys) :
    w.cell? ⟨bx, 0, none⟩ = some vb ∧ w.cell? ⟨bx, 1, none⟩ = some vp ∧ w.frozen? ⟨bx, 0, none⟩ = false ∧ w.frozen? ⟨bx, 1, none⟩ = false ∧ bx < w.heap.size :=
  ⟨h.box.cell rfl, h.box.cell rfl, h.box.free 0, h.box.free 1, h.box.lt⟩

attribute [local go_sem] i64_bit toNat_eq_one toNat_ne_one toNat_eq_zero toNat_ne_zero i64_and i64_or i64_andNot i64_or_pow i64_andNot_pow

def intL (z : Nat → Int) (n : Nat) : List Value := (List.range n).map fun i => Value.int .i64 (z i)
theorem intL_succ (z : Nat → Int) (n : Nat) : intL z (n + 1) = intL z n ++ [.int .i64 (z n)] := by
  unfold intL; rw [List.range_succ, List.map_append]; rfl
theorem intL_congr {x z : Nat → Int} {n : Nat} (h : ∀ i, i < n → x i = z i) : intL x n = intL z n := by
  unfold intL
  apply List.map_congr_left
  intro i hi
  rw [h i (List.mem_range.1 hi)]

/-- What treeOf returns: a tree in memory of its own. -/
def TreePost (w : World) (n : Nat) (r : Nat → Nat) (y : Nat → Int) (e : Ending) (w' : World) : Prop :=
  ∃ vb vp p, e = .returned (.agg #[vb, vp]) ∧ w'.ownsRow w.heap.size 3 1 vb n (intL (fun i => ((bagO n r y i : Nat) : Int)) n) ∧ w'.ownsRow w.heap.size 3 1 vp n (intL p n) ∧
    (∀ k, vb.ownBlock = some k → vp.ownBlock ≠ some k) ∧ (∀ i, i < n → NextIs y (leftS n r (metO y i) (y i).toNat) n i (p i)) ∧ Below w.heap.size w w'

set_option maxRecDepth 20000 in
set_option maxHeartbeats 4000000 in
theorem treeOf_any {n : Nat} {r : Nat → Nat} {a : Option Addr} {w : World} (G : Gr w a n r) (cap : Nat) {y : Nat → Int} {o : Option Addr} (co : Nat) (hI : IntsAt w o n y) (hy : ∀ k, k < n → okO n y k = true) :
    Calls Try.prog 51 #[.slice a n cap, .slice o n co] w (TreePost w n r y) := by
  obtain ⟨i0, hi0, hz1, hz2, hz3⟩ := info_parts info_int
  have hle := G.le
  have hpos := G.at_.pos
  have hmb := hI.1
  unfold maxLen at hmb
  obtain ⟨w1, hw1, R1, HB1, hs1⟩ := new1 w 42 [.slice none 0 0, .slice none 0 0]
  have hws1 : w1.heap.size = w.heap.size + 1 := by rw [hw1]; simp
  obtain ⟨w0, hw0, R0, HB0, hs0⟩ := new1 w1 42 [.slice none 0 0, .slice none 0 0]
  have hws0 : w0.heap.size = w.heap.size + 2 := by rw [hw0]; simp; omega
  rw [hws1] at R0
  have HB := Lib.hid (HB1.trans (HB0.mono HB1.size))
  have T0 : TreeOwn w0 (w.heap.size + 1) w.heap.size w0.heap.size (.slice none 0 0) (.slice none 0 0) 0 0 [] [] :=
    ⟨by omega, by omega, by omega, Nat.le_refl _, R0, R1.below HB0 R1.lt, World.ownsRow_nil _ _ _ _, World.ownsRow_nil _ _ _ _, fun k hk => by cases hk⟩
  have HT := Lib.hid T0
  have HG := Lib.hid G
  have HI := Lib.hid hI
  have HY := Lib.hid hy
  have HW1 := Lib.hid hw1
  have HW0 := Lib.hid hw0
  clear hw1 hw0 R0 R1 HB0 HB1 T0 G hI hy
  go_enter Try.func51, Try.ntmps51
  go_wp2_with fail
  rw [← HW1.out]
  go_wp2_with fail
  rw [← HW0.out]
  go_wp2_with fail
  go_loopw [6, 13] (fun g iv wr => ∃ (i : Nat) (vb vp : Value) (p : Nat → Int), i ≤ n ∧ iv = .int .i64 i ∧ g = .int .i64 (metO y i : Nat) ∧ TreeOwn wr (w.heap.size + 1) w.heap.size w0.heap.size vb vp i i (intL (fun j => ((bagO n r y j : Nat) : Int)) i) (intL p i) ∧ (∀ j, j < i → NextIs y (leftS n r (metO y j) (y j).toNat) n j (p j)) ∧ Below w.heap.size w wr) (fun _ iv _ => n - (intOf iv).toNat)
  case atStart => exact ⟨0, _, _, fun _ => 0, Nat.zero_le _, rfl, rfl, HT.out, by omega, HB.out⟩
  case round =>
    clear HT
    obtain ⟨i, vb, vp, p, hi, rfl, rfl, hT, hp, hB⟩ := hrel
    have HT := Lib.hid hT
    have HP := Lib.hid hp
    have HBW := Lib.hid hB
    clear hT hp hB
    by_cases hlt : i < n
    · obtain ⟨b, off, rfl, hb, hc⟩ := (HI.out.below HBW.out).2 (by omega)
      have ck := hc i hlt
      obtain ⟨v, hv⟩ : ∃ v : Nat, y i = v := ⟨(y i).toNat, by have := (okO_iff (HY.out i hlt)).1; omega⟩
      have hvn : v < n := by have := (okO_iff (HY.out i hlt)).2.1; omega
      have hgl : metO y i < 2 ^ n := metO_lt i fun j hj => HY.out j (by omega)
      have HMS : Hid (metO y (i + 1) = metO y i ||| 2 ^ v) := Lib.hid (by show metO y i ||| 2 ^ (y i).toNat = _; rw [hv, Int.toNat_natCast])
      have HBG : Hid (bagO n r y i = leftS n r (metO y i) v ||| 2 ^ v) := Lib.hid (by unfold bagO; rw [hv, Int.toNat_natCast])
      have HNX : Hid (∀ x, NextIs y (leftS n r (metO y i) v) n i x → NextIs y (leftS n r (metO y i) (y i).toNat) n i x) := Lib.hid (fun x h => by rw [hv, Int.toNat_natCast]; exact h)
      have HLL : Hid (leftS n r (metO y i) v < 2 ^ n) := Lib.hid (arnd_lt _ HG.out.bd)
      rw [hv] at ck
      have HC := Lib.hid hc
      have hg16 := lt16 hle hgl
      have HGL := Lib.hid hgl
      have hl16 := lt16 hle HLL.out
      clear hc hv hgl
      generalize hgo : metO y i = gone at *
      have HGO := Lib.hid hgo
      obtain ⟨L, hL⟩ : ∃ L, L = leftS n r gone v := ⟨_, rfl⟩
      have HL := Lib.hid hL
      rw [← hL] at hl16
      clear hgo hL
      have hv64 : v < 64 := by omega
      have hv16 : v < 16 := by omega
      obtain ⟨p1, p2⟩ := pow_bd v hv16
      go_wp2_with (first
        | (go_at_call 65; refine (left_any (HG.out.below HBW.out) cap v gone hvn HGL.out).mono ?_; rintro e wb ⟨rfl, rfl⟩; rw [← HL.out]))
      obtain ⟨d0, d1, f0, f1, hlx⟩ := HT.out.cells
      have w1' : IntKind.i64.wrap ((2 : Int) ^ v) = 2 ^ v := IntWalk.i64_in _ (by omega)
      have hbd : Below wr.heap.size wr wr.drew := below_drewN (Below.refl _ _) 1
      have HT1 := Lib.hid (HT.out.below hbd)
      have HBD := Lib.hid (HBW.out.trans (hbd.mono HBW.out.size))
      have hi9 : i ≤ 9 := by omega
      have hsz : w0.heap.size ≤ wr.heap.size := HT.out.size
      have HT3 := Lib.hid (HT1.out.below ((Below.refl wr.drew.heap.size wr.drew).alloc (Nat.le_refl _) (.cells #[.int .i64 ((L ||| 2 ^ v : Nat) : Int)] 3)))
      have hm1 : i + 1 ≤ maxLen := by unfold maxLen; omega
      have hm2 : (i + 1) * 8 ≤ 140737488355328 := by omega
      have HB3 := Lib.hid (HBD.out.alloc HBD.out.size (.cells #[.int .i64 ((L ||| 2 ^ v : Nat) : Int)] 3))
      have h16 : n < 16 := by omega
      have HY9 : Hid (∀ k, k < n → 0 ≤ y k ∧ y k < 9) := Lib.hid (fun k hk => by have := okO_iff (HY.out k hk); omega)
      clear hbd
      go_region_law (refine step_append_at rfl (.tmp 23) (.tmp 28) 22 rfl w0.heap.size 3 i0 (.int .i64 0) 1 8 Try.underlying22 hi0 hz1 hz2 hz3 rfl (by decide) vb i _ (by simp [Act.eval, Act.put]) HT3.out.b ⟨wr.heap.size, 0, none⟩ 1 1 [.int .i64 ((L ||| 2 ^ v : Nat) : Int)] (by simp [Act.eval, Act.put]) rfl (cells_new wr.drew _ _) (by intro u hu; simp at hu; subst hu; rfl) hm1 hm2 HT3.out.size ?_; intro v' w3 hown1 hg1 hd1; obtain ⟨av, cv, rfl⟩ := own_form hown1; have T3 := HT3.out; have R3 := T3.box.grown hg1 (not_own T3.b T3.low); have c0 := R3.cell (i := 0) rfl; have c1 := R3.cell (i := 1) rfl; have c2 := R3.free 0; have c3 := R3.lt; have HT4 := Lib.hid (T3.app0 hown1 hg1 hd1); have HB4 := Lib.hid ((HB3.out.grown hg1 HB3.out.size (fun k hk => by have := (World.ownsRow.lt T3.b k hk).1; omega)).setCell (p := ⟨w.heap.size + 1, 0, none⟩) (Nat.le_succ _) (.slice av (i + 1) cv)); clear T3 R3 hown1 hg1 hd1)
      all_goals
        generalize w3.setCell ⟨w.heap.size + 1, 0, none⟩ (.slice av (i + 1) cv) = w4 at *
        clear d0 d1 f0 f1 hlx c0 c1 c2 c3 hsz
        go_wp2_with fail
        obtain ⟨d0, d1, f0, f1, hlx⟩ := HT4.out.cells
        have hbd : Below w4.heap.size w4 w4.drew := below_drewN (Below.refl _ _) 1
        have HT5 := Lib.hid (HT4.out.below hbd)
        have HB5 := Lib.hid (HB4.out.trans (hbd.mono HB4.out.size))
        have HI5 := Lib.hid (HI.out.below HB5.out)
        have HT6 : Hid (∀ x : Int, TreeOwn (w4.drew.alloc (.cells #[.int .i64 x] 3)) (w.heap.size + 1) w.heap.size w0.heap.size (.slice av (i + 1) cv) vp (i + 1) i (intL (fun j => ((bagO n r y j : Nat) : Int)) i ++ [.int .i64 ((L ||| 2 ^ v : Nat) : Int)]) (intL p i)) := Lib.hid (fun x => HT5.out.below ((Below.refl w4.drew.heap.size w4.drew).alloc (Nat.le_refl _) _))
        have HB6 : Hid (∀ x : Int, Below w.heap.size w (w4.drew.alloc (.cells #[.int .i64 x] 3))) := Lib.hid (fun x => HB5.out.alloc HB5.out.size _)
        clear hbd
        go_region_law (first
          | (go_simp; go_at_call 71; refine (nextOf_any co HI5.out HY9.out i L hl16 hlt h16).mono ?_; rintro e w7 ⟨x, rfl, hx, rfl⟩; have HX := Lib.hid hx; clear hx)
          | (refine step_append_at rfl (.tmp 32) (.tmp 37) 22 rfl w0.heap.size 3 i0 (.int .i64 0) 1 8 Try.underlying22 hi0 hz1 hz2 hz3 rfl (by decide) vp i _ (by simp [Act.eval, Act.put]) (HT6.out x).p ⟨w4.heap.size, 0, none⟩ 1 1 [.int .i64 x] (by simp [Act.eval, Act.put]) rfl (cells_new w4.drew _ _) (by intro u hu; simp at hu; subst hu; rfl) hm1 hm2 (HT6.out x).size ?_; intro v' w5 hown1 hg1 hd1; obtain ⟨aw, cw, rfl⟩ := own_form hown1; have T3 := HT6.out x; have R3 := T3.box.grown hg1 (not_own T3.p T3.low); have c0 := R3.cell (i := 0) rfl; have c1 := R3.cell (i := 1) rfl; have c2 := R3.free 1; have c3 := R3.lt; have HT7 := Lib.hid (T3.app1 hown1 hg1 hd1); have HB7 := Lib.hid (((HB6.out x).grown hg1 (HB6.out x).size (fun k hk => by have := (World.ownsRow.lt T3.p k hk).1; omega)).setCell (p := ⟨w.heap.size + 1, 1, none⟩) (Nat.le_succ _) (.slice aw (i + 1) cw)); clear T3 R3 hown1 hg1 hd1))
        all_goals
          generalize w5.setCell ⟨w.heap.size + 1, 1, none⟩ (.slice aw (i + 1) cw) = w6 at *
          clear d0 d1 f0 f1 hlx c0 c1 c2 c3
          go_wp2_with fail
          go_roundw
          case rel =>
            refine ⟨i + 1, .slice av (i + 1) cv, .slice aw (i + 1) cw, fun j => if j = i then x else p j, by omega, by go_num, by rw [HMS.out], ?_, ?_, HB7.out⟩
            · have h := HT7.out
              rw [intL_succ, intL_succ, HBG.out, ← HL.out]
              rw [if_pos rfl, intL_congr (x := fun j => if j = i then x else p j) (z := p) (fun j hj => if_neg (by omega))]
              exact h
            · intro j hj
              dsimp only
              by_cases e : j = i
              · rw [if_pos e, e, HGO.out]
                exact HNX.out _ (by rw [← HL.out]; exact HX.out)
              · rw [if_neg e]
                exact HP.out j (by omega)
          case measure => simp [intOf]; omega
    · have hie : i = n := by omega
      have HIE := Lib.hid hie
      obtain ⟨ab, kb, rfl⟩ := own_form HT.out.b
      obtain ⟨ap, kp, rfl⟩ := own_form HT.out.p
      obtain ⟨d0, d1, f0, f1, hlx⟩ := HT.out.cells
      have HTR := Lib.hid HT.out.res
      have e0 := HTR.out.cell (i := 0) rfl
      have e1 := HTR.out.cell (i := 1) rfl
      have e2 := HTR.out.free 0
      have e3 := HTR.out.free 1
      have e4 := HTR.out.lt
      clear hie
      have hq : decide ((i : Int) < (n : Int)) = false := decide_eq_false (by omega)
      go_wp2_with fail
      have hie := HIE.out
      subst hie
      have r2 := (HTR.out.set 0 (.slice ab i kb)).set 1 (.slice ap i kp)
      have g0 := r2.cell (i := 0) rfl
      have g1 := r2.cell (i := 1) rfl
      have o1 := ownsRow_set (ownsRow_set HT.out.b HT.out.rlow 0 (.slice ab i kb)) HT.out.rlow 1 (.slice ap i kp)
      have o2 := ownsRow_set (ownsRow_set HT.out.p HT.out.rlow 0 (.slice ab i kb)) HT.out.rlow 1 (.slice ap i kp)
      have b2 := (HBW.out.setCell (p := ⟨w.heap.size, 0, none⟩) (Nat.le_refl _) (.slice ab i kb)).setCell (p := ⟨w.heap.size, 1, none⟩) (Nat.le_refl _) (.slice ap i kp)
      exact bodyPost_ret (v := treeV ab i kb ap i kp) (by simp [results, Try.results51, go_sem, g0, g1]) rfl ⟨_, _, p, rfl, ownsRow_base o1 HB.out.size, ownsRow_base o2 HB.out.size, HT.out.ne, HP.out, b2⟩
end Go.Proofs.Ytombmfphodikjaa
