/- The contract of package width's merged. -/
import Derived.Test.YtombmfphodikjaaW43
import Derived.Test.YtombmfphodikjaaW36
namespace Go.Proofs.Ytombmfphodikjaa
set_option linter.unusedSimpArgs false
set_option linter.unusedVariables false
open Go.RowKit Go.Maps
attribute [local go_sem] i64_bit toNat_eq_one toNat_ne_one toNat_eq_zero toNat_ne_zero i64_and i64_or i64_andNot i64_or_pow i64_andNot_pow

theorem Mine.set {w : World} {g m : Nat} {z : Nat → Int} (h : Mine w g m z) {k : Nat} (hk : k < m) (v : Int) : Mine (w.setCell ⟨g, k, none⟩ (.int .i64 v)) g m (fun t => if t = k then v else z t) := by
  refine ⟨by simpa [World.setCell] using h.lt, fun t ht => ?_, fun t ht => ?_⟩
  · by_cases e : t = k
    · subst e
      rw [if_pos rfl]
      exact World.cell?_setCell_same w _ _ (h.cell t ht)
    · rw [if_neg e, World.cell?_setCell_other w ⟨g, k, none⟩ ⟨g, t, none⟩ _ (by intro e2; injection e2; omega)]
      exact h.cell t ht
  · rw [World.frozen?_setCell]; exact h.free t ht
theorem Mine.other {w : World} {g m : Nat} {z : Nat → Int} (h : Mine w g m z) {b : Nat} (hb : g ≠ b) (k : Nat) (v : Value) : Mine (w.setCell ⟨b, k, none⟩ v) g m z := by
  have hh : (w.setCell ⟨b, k, none⟩ v).heap[g]? = w.heap[g]? := Below.heap_setCell _ _ _ _ hb
  exact ⟨by simpa [World.setCell] using h.lt, fun t ht => by rw [World.cell?_of_block (a := ⟨g, t, none⟩) hh]; exact h.cell t ht, fun t ht => by rw [World.frozen?_of_block (a := ⟨g, t, none⟩) hh]; exact h.free t ht⟩
theorem Mine.below {w w' : World} {g m : Nat} {z : Nat → Int} (h : Mine w g m z) (hb : Below w.heap.size w w') : Mine w' g m z :=
  ⟨Nat.lt_of_lt_of_le h.lt hb.size, fun t ht => by rw [hb.cell (p := ⟨g, t, none⟩) h.lt]; exact h.cell t ht, fun t ht => by rw [hb.frozen (p := ⟨g, t, none⟩) h.lt]; exact h.free t ht⟩
theorem Mine.by {w w' : World} {g m : Nat} {z : Nat → Int} {row : Option Nat} (h : Mine w g m z) (hg : w.grownBy w' row) (hr : some g ≠ row) : Mine w' g m z := by
  have hh := hg.block g h.lt hr
  exact ⟨Nat.lt_of_lt_of_le h.lt hg.size, fun t ht => by rw [World.cell?_of_block (a := ⟨g, t, none⟩) hh]; exact h.cell t ht, fun t ht => by rw [World.frozen?_of_block (a := ⟨g, t, none⟩) hh]; exact h.free t ht⟩
theorem Mine.mono {w : World} {g m m' : Nat} {z z' : Nat → Int} (h : Mine w g m z) (hm : m' ≤ m) (he : ∀ i, i < m' → z' i = z i) : Mine w g m' z' :=
  ⟨h.lt, fun t ht => by rw [he t ht]; exact h.cell t (by omega), fun t ht => h.free t (by omega)⟩

/-- A tree whose slices may be written, its box, the box of the result. -/
structure Work (w : World) (bx rx gb gp m q cb cp : Nat) (z p : Nat → Int) : Prop where
  box : Row w bx 42 [.slice (some ⟨gb, 0, none⟩) m cb, .slice (some ⟨gp, 0, none⟩) q cp]
  res : Row w rx 42 [.slice none 0 0, .slice none 0 0]
  b : Mine w gb m z
  p : Mine w gp q p
  ne : gb ≠ gp ∧ gb ≠ bx ∧ gb ≠ rx ∧ gp ≠ bx ∧ gp ≠ rx ∧ rx ≠ bx
theorem Work.below {w w' : World} {bx rx gb gp m q cb cp : Nat} {z p : Nat → Int} (h : Work w bx rx gb gp m q cb cp z p) (hb : Below w.heap.size w w') : Work w' bx rx gb gp m q cb cp z p :=
  ⟨h.box.below hb h.box.lt, h.res.below hb h.res.lt, h.b.below hb, h.p.below hb, h.ne⟩
theorem Work.setB {w : World} {bx rx gb gp m q cb cp : Nat} {z p : Nat → Int} (h : Work w bx rx gb gp m q cb cp z p) {k : Nat} (hk : k < m) (v : Int) : Work (w.setCell ⟨gb, k, none⟩ (.int .i64 v)) bx rx gb gp m q cb cp (fun t => if t = k then v else z t) p :=
  ⟨h.box.other (a := ⟨gb, k, none⟩) (fun e => h.ne.2.1 e.symm) _, h.res.other (a := ⟨gb, k, none⟩) (fun e => h.ne.2.2.1 e.symm) _, h.b.set hk v, h.p.other (fun e => h.ne.1 e.symm) k _, h.ne⟩
theorem Work.setP {w : World} {bx rx gb gp m q cb cp : Nat} {z p : Nat → Int} (h : Work w bx rx gb gp m q cb cp z p) {k : Nat} (hk : k < q) (v : Int) : Work (w.setCell ⟨gp, k, none⟩ (.int .i64 v)) bx rx gb gp m q cb cp z (fun t => if t = k then v else p t) :=
  ⟨h.box.other (a := ⟨gp, k, none⟩) (fun e => h.ne.2.2.2.1 e.symm) _, h.res.other (a := ⟨gp, k, none⟩) (fun e => h.ne.2.2.2.2.1 e.symm) _, h.b.other h.ne.1 k _, h.p.set hk v, h.ne⟩
/-- Behind a deletion out of the bags, and the slice laid into the box. -/
theorem Work.cutB {w w' : World} {bx rx gb gp m q cb cp m' : Nat} {z p z' : Nat → Int} (h : Work w bx rx gb gp m q cb cp z p) (hg : w.grownBy w' (some gb)) (hm : Mine w' gb m' z') : Work (w'.setCell ⟨bx, 0, none⟩ (.slice (some ⟨gb, 0, none⟩) m' cb)) bx rx gb gp m' q cb cp z' p := by
  have n := h.ne
  have r1 := (h.box.grown hg (fun e => n.2.1 (by cases e; rfl))).set 0 (.slice (some ⟨gb, 0, none⟩) m' cb)
  exact ⟨r1, (h.res.grown hg (fun e => n.2.2.1 (by cases e; rfl))).other (a := ⟨bx, 0, none⟩) n.2.2.2.2.2 _, hm.other n.2.1 0 _, (h.p.by hg (fun e => n.1 (by cases e; rfl))).other n.2.2.2.1 0 _, n⟩
theorem Work.cutP {w w' : World} {bx rx gb gp m q cb cp q' : Nat} {z p p' : Nat → Int} (h : Work w bx rx gb gp m q cb cp z p) (hg : w.grownBy w' (some gp)) (hm : Mine w' gp q' p') : Work (w'.setCell ⟨bx, 1, none⟩ (.slice (some ⟨gp, 0, none⟩) q' cp)) bx rx gb gp m q' cb cp z p' := by
  have n := h.ne
  have r1 := (h.box.grown hg (fun e => n.2.2.2.1 (by cases e; rfl))).set 1 (.slice (some ⟨gp, 0, none⟩) q' cp)
  exact ⟨r1, (h.res.grown hg (fun e => n.2.2.2.2.1 (by cases e; rfl))).other (a := ⟨bx, 1, none⟩) n.2.2.2.2.2 _, (h.b.by hg (fun e => n.1 (by cases e; rfl))).other n.2.1 1 _, hm.other n.2.2.2.1 1 _, n⟩
theorem Work.mono {w : World} {bx rx gb gp m q cb cp : Nat} {z p z' p' : Nat → Int} (h : Work w bx rx gb gp m q cb cp z p) (hz : ∀ i, i < m → z' i = z i) (hp : ∀ i, i < q → p' i = p i) : Work w bx rx gb gp m q cb cp z' p' :=
  ⟨h.box, h.res, h.b.mono (Nat.le_refl _) hz, h.p.mono (Nat.le_refl _) hp, h.ne⟩
theorem Work.cells {w : World} {bx rx gb gp m q cb cp : Nat} {z p : Nat → Int} (h : Work w bx rx gb gp m q cb cp z p) :
    w.cell? ⟨bx, 0, none⟩ = some (.slice (some ⟨gb, 0, none⟩) m cb) ∧ w.cell? ⟨bx, 1, none⟩ = some (.slice (some ⟨gp, 0, none⟩) q cp) ∧ w.frozen? ⟨bx, 0, none⟩ = false ∧ w.frozen? ⟨bx, 1, none⟩ = false ∧ bx < w.heap.size :=
  ⟨h.box.cell rfl, h.box.cell rfl, h.box.free 0, h.box.free 1, h.box.lt⟩

/-- Two blocks may have turned, and what is new. -/
structure Two (gb gp : Nat) (w w' : World) : Prop where
  os : w'.os = w.os
  tape : w'.tape = w.tape
  output : w'.output = w.output
  size : w.heap.size ≤ w'.heap.size
  block : ∀ k, k < w.heap.size → k ≠ gb → k ≠ gp → w'.heap[k]? = w.heap[k]?
theorem Two.of_below {gb gp : Nat} {w w' : World} (h : Below w.heap.size w w') : Two gb gp w w' := ⟨h.os, h.tape, h.output, h.size, fun k hk _ _ => h.block k hk⟩
theorem Two.trans {gb gp : Nat} {a b c : World} (h1 : Two gb gp a b) (h2 : Two gb gp b c) : Two gb gp a c :=
  ⟨h2.os.trans h1.os, h2.tape.trans h1.tape, h2.output.trans h1.output, Nat.le_trans h1.size h2.size, fun k hk e1 e2 => (h2.block k (Nat.lt_of_lt_of_le hk h1.size) e1 e2).trans (h1.block k hk e1 e2)⟩
theorem Two.then_below {gb gp : Nat} {a b c : World} (h1 : Two gb gp a b) (h2 : Below b.heap.size b c) : Two gb gp a c := h1.trans (Two.of_below h2)
theorem Two.drew {gb gp : Nat} {a b : World} (h1 : Two gb gp a b) : Two gb gp a b.drew := ⟨h1.os, h1.tape, h1.output, h1.size, h1.block⟩
theorem Two.setB {gb gp : Nat} {a b : World} (h1 : Two gb gp a b) (k : Nat) (v : Value) : Two gb gp a (b.setCell ⟨gb, k, none⟩ v) :=
  h1.trans ⟨rfl, rfl, rfl, by simp [World.setCell], fun j _ e1 _ => Below.heap_setCell _ _ _ _ e1⟩
theorem Two.setP {gb gp : Nat} {a b : World} (h1 : Two gb gp a b) (k : Nat) (v : Value) : Two gb gp a (b.setCell ⟨gp, k, none⟩ v) :=
  h1.trans ⟨rfl, rfl, rfl, by simp [World.setCell], fun j _ _ e2 => Below.heap_setCell _ _ _ _ e2⟩
theorem Two.setNew {gb gp : Nat} {a b : World} (h1 : Two gb gp a b) {x : Nat} (hx : a.heap.size ≤ x) (k : Nat) (v : Value) : Two gb gp a (b.setCell ⟨x, k, none⟩ v) :=
  ⟨h1.os, h1.tape, h1.output, by have := h1.size; simpa [World.setCell] using this, fun j hj e1 e2 => (Below.heap_setCell b ⟨x, k, none⟩ v j (by show j ≠ x; omega)).trans (h1.block j hj e1 e2)⟩
theorem Two.byB {gb gp : Nat} {a b c : World} (h1 : Two gb gp a b) (h2 : b.grownBy c (some gb)) : Two gb gp a c :=
  h1.trans ⟨h2.os, h2.tape, h2.output, h2.size, fun k hk e1 _ => h2.block k hk (fun e => e1 (Option.some.inj e))⟩
theorem Two.byP {gb gp : Nat} {a b c : World} (h1 : Two gb gp a b) (h2 : b.grownBy c (some gp)) : Two gb gp a c :=
  h1.trans ⟨h2.os, h2.tape, h2.output, h2.size, fun k hk _ e2 => h2.block k hk (fun e => e2 (Option.some.inj e))⟩
theorem Two.below {gb gp B : Nat} {a b : World} (h : Two gb gp a b) (h1 : B ≤ gb) (h2 : B ≤ gp) (h3 : B ≤ a.heap.size) : Below B a b :=
  ⟨h.os, h.tape, h.output, h.size, fun k hk => h.block k (by omega) (by omega) (by omega)⟩

theorem Delete_at {g i m cap : Nat} {z : Nat → Int} {w : World} (M : Mine w g m z) (hi : i < m) (hcap : m ≤ cap) (hmax : cap ≤ maxLen) :
    Calls Try.prog 85 #[.slice (some ⟨g, 0, none⟩) m cap, .int .i64 i, .int .i64 (i+1)] w fun e w' => e = .returned (.slice (some ⟨g, 0, none⟩) (m - 1) cap) ∧ Mine w' g (m - 1) (fun k => z (unD i k)) ∧ w.grownBy w' (some g) := by
  obtain ⟨s, rfl⟩ : ∃ s, m = i + 1 + s := ⟨m - (i + 1), by omega⟩
  have := Delete_any M hcap hmax
  rwa [show i + s = i + 1 + s - 1 by omega] at this

set_option maxRecDepth 20000 in
set_option maxHeartbeats 4000000 in
theorem merged_any {n m i P gb gp cb cp : Nat} {z p : Nat → Int} {w : World} (hn : n ≤ 9) (Mb : Mine w gb m z) (Mp : Mine w gp m p) (hne : gb ≠ gp) (hi : i < m) (hP : p i = P) (hPm : P < m) (hz : BagsOK n m z) (hp : ∀ i, i < m → -1 ≤ p i ∧ p i < m) (hcb : m ≤ cb) (hcp : m ≤ cp) (hcb2 : cb ≤ maxLen) (hcp2 : cp ≤ maxLen) :
    Calls Try.prog 70 #[treeV (some ⟨gb, 0, none⟩) m cb (some ⟨gp, 0, none⟩) m cp, .int .i64 i] w fun e w' => e = .returned (treeV (some ⟨gb, 0, none⟩) (m - 1) cb (some ⟨gp, 0, none⟩) (m - 1) cp) ∧ Mine w' gb (m - 1) (mrgZ z i P) ∧ Mine w' gp (m - 1) (mrgP p i P) ∧ Two gb gp w w' := by
  obtain ⟨w1, hw1, R1, HB1, hs1⟩ := new1 w 42 [.slice (some ⟨gb, 0, none⟩) m cb, .slice (some ⟨gp, 0, none⟩) m cp]
  have hws1 : w1.heap.size = w.heap.size + 1 := by rw [hw1]; simp
  obtain ⟨w0, hw0, R0, HB0, hs0⟩ := new1 w1 42 [.slice none 0 0, .slice none 0 0]
  have hws0 : w0.heap.size = w.heap.size + 2 := by rw [hw0]; simp; omega
  rw [hws1] at R0
  have HBw := HB1.trans (HB0.mono HB1.size)
  have lb := Mb.lt
  have lp := Mp.lt
  have hmx : m ≤ maxLen := Nat.le_trans hcb hcb2
  unfold maxLen at hmx
  have T0 : Work w0 w.heap.size (w.heap.size + 1) gb gp m m cb cp z p := ⟨R1.below HB0 R1.lt, R0, Mb.below HBw, Mp.below HBw, by omega⟩
  have HT := Lib.hid T0
  have HB : Hid (Two gb gp w w0) := Lib.hid (Two.of_below HBw)
  have HZ := Lib.hid hz
  have HPA := Lib.hid hp
  have HW1 := Lib.hid hw1
  have HW0 := Lib.hid hw0
  have HP := Lib.hid hP
  obtain ⟨d0, d1, f0, f1, hlx⟩ := T0.cells
  have hPc := Mp.cell i hi
  rw [hP] at hPc
  clear hw1 hw0 R0 R1 HB0 HB1 T0 hz hp Mb Mp hP HBw
  go_enter Try.func70, Try.ntmps70
  go_wp2_with fail
  rw [← HW1.out, ← HW0.out]
  obtain ⟨s, hs, hs2⟩ := HZ.out.nat hPm
  obtain ⟨t, ht, ht2⟩ := HZ.out.nat hi
  have hs16 := lt16 hn hs2
  have ht16 := lt16 hn ht2
  have k1 := HT.out.b.cell P hPm
  have k2 := HT.out.b.cell i hi
  have k3 := HT.out.b.free P hPm
  have k4 := HT.out.b.lt
  rw [hs] at k1
  rw [ht] at k2
  have hT1 : Work (w0.setCell ⟨gb, P, none⟩ (.int .i64 ((s ||| t : Nat) : Int))) w.heap.size (w.heap.size + 1) gb gp m m cb cp (jnZ z i P) p := (HT.out.setB hPm ((s ||| t : Nat) : Int)).mono (fun j hj => by
    unfold jnZ
    rw [hs, ht, Int.toNat_natCast, Int.toNat_natCast]) (fun j hj => rfl)
  have hB1 : Two gb gp w (w0.setCell ⟨gb, P, none⟩ (.int .i64 ((s ||| t : Nat) : Int))) := HB.out.setB _ _
  have HT1 := Lib.hid (hT1.below (below_drewN (Below.refl _ _) 1))
  have HB1 := Lib.hid hB1.drew
  clear hs hs2 ht ht2 hT1 hB1
  go_region
  clear HT HB d0 d1 f0 f1 k1 k2 k3 k4 hlx hPc
  generalize hw2 : (w0.setCell ⟨gb, P, none⟩ (.int .i64 ((s ||| t : Nat) : Int))).drew = w2
  have HT2 : Hid (Work w2 w.heap.size (w.heap.size + 1) gb gp m m cb cp (jnZ z i P) p) := Lib.hid (by rw [← hw2]; exact HT1.out)
  have HB2 : Hid (Two gb gp w w2) := Lib.hid (by rw [← hw2]; exact HB1.out)
  clear HT1 HB1 hw2
  obtain ⟨d0, d1, f0, f1, hlx⟩ := HT2.out.cells
  go_wp2_with fail
  clear d0 d1 f0 f1 hlx
  go_loopw [30] (fun jv wr => ∃ j : Nat, j ≤ m ∧ jv = .int .i64 j ∧ Work wr w.heap.size (w.heap.size + 1) gb gp m m cb cp (jnZ z i P) (fun k => if k < j then jnP p i P k else p k) ∧ Two gb gp w wr) (fun jv _ => m - (intOf jv).toNat)
  case atStart => exact ⟨0, Nat.zero_le _, rfl, HT2.out, HB2.out⟩
  case round =>
    clear HT2 HB2
    obtain ⟨j, hj, rfl, hT, hB2⟩ := hrel
    have HT := Lib.hid hT
    have HBB := Lib.hid hB2
    clear hT hB2
    obtain ⟨d0, d1, f0, f1, hlx⟩ := HT.out.cells
    by_cases hlt : j < m
    · have cj := HT.out.p.cell j hlt
      rw [if_neg (Nat.lt_irrefl j)] at cj
      have fj := HT.out.p.free j hlt
      have lj := HT.out.p.lt
      by_cases hq : p j = i
      · have HJ : Hid (jnP p i P j = P) := Lib.hid (by unfold jnP; rw [if_pos hq])
        rw [hq] at cj
        clear hq
        go_wp2_with fail
        go_roundw
        case rel =>
          refine ⟨j + 1, by omega, by go_num, (HT.out.setP hlt (P : Int)).mono (fun _ _ => rfl) (fun k hk => ?_), HBB.out.setP _ _⟩
          by_cases e : k = j
          · subst e; rw [if_pos (by omega), if_pos rfl, HJ.out]
          · rw [if_neg e]
            by_cases e2 : k < j
            · rw [if_pos (by omega), if_pos e2]
            · rw [if_neg (by omega), if_neg e2]
        case measure => simp [intOf]; omega
      · have HJ : Hid (jnP p i P j = p j) := Lib.hid (by unfold jnP; rw [if_neg hq])
        have hqf : (p j == (i : Int)) = false := beq_eq_false_iff_ne.2 hq
        clear hq
        go_wp2_with fail
        go_roundw
        case rel =>
          refine ⟨j + 1, by omega, by go_num, HT.out.mono (fun _ _ => rfl) (fun k hk => ?_), HBB.out⟩
          by_cases e : k = j
          · subst e; rw [if_pos (by omega), if_neg (by omega), HJ.out]
          · by_cases e2 : k < j
            · rw [if_pos (by omega), if_pos e2]
            · rw [if_neg (by omega), if_neg e2]
        case measure => simp [intOf]; omega
    · have hje : j = m := by omega
      subst hje
      have HT3 : Hid (Work wr w.heap.size (w.heap.size + 1) gb gp j j cb cp (jnZ z i P) (jnP p i P)) := Lib.hid (HT.out.mono (fun _ _ => rfl) (fun k hk => by rw [if_pos hk]))
      have hqq : decide ((j : Int) < (j : Int)) = false := by simp
      clear HT
      go_wp2_with fail
      go_at_call 85
      refine (Delete_at HT3.out.b hi hcb hcb2).mono ?_
      rintro e w3 ⟨rfl, hm3, hg3⟩
      have R3 := HT3.out.box.grown hg3 (fun e => HT3.out.ne.2.1 (Option.some.inj e).symm)
      have c0 := R3.cell (i := 0) rfl
      have c1 := R3.cell (i := 1) rfl
      have c2 := R3.free 0
      have c3 := R3.lt
      have HT4 := Lib.hid (HT3.out.cutB hg3 hm3)
      have HB4 := Lib.hid ((HBB.out.byB hg3).setNew (Nat.le_refl _) 0 (.slice (some ⟨gb, 0, none⟩) (j - 1) cb))
      clear R3 hm3 hg3 d0 d1 f0 f1 hlx HT3
      go_wp2_with fail
      go_at_call 85
      generalize w3.setCell ⟨w.heap.size, 0, none⟩ (.slice (some ⟨gb, 0, none⟩) (j - 1) cb) = w4 at *
      clear c0 c1 c2 c3
      refine (Delete_at HT4.out.p hi hcp hcp2).mono ?_
      rintro e w5 ⟨rfl, hm5, hg5⟩
      have R5 := HT4.out.box.grown hg5 (fun e => HT4.out.ne.2.2.2.1 (Option.some.inj e).symm)
      have c0 := R5.cell (i := 0) rfl
      have c1 := R5.cell (i := 1) rfl
      have c2 := R5.free 1
      have c3 := R5.lt
      have HT6 := Lib.hid (HT4.out.cutP hg5 hm5)
      have HB6 := Lib.hid ((HB4.out.byP hg5).setNew (Nat.le_refl _) 1 (.slice (some ⟨gp, 0, none⟩) (j - 1) cp))
      have HJB : Hid (∀ k, k < j - 1 → -1 ≤ jnP p i P (unD i k) ∧ jnP p i P (unD i k) < j) := Lib.hid (fun k hk => by
        have := HPA.out (unD i k) (unD_lt hk)
        unfold jnP
        split <;> omega)
      clear R5 hm5 hg5 HT4 HB4
      generalize hM : j - 1 = M at *
      go_wp2_with fail
      generalize w5.setCell ⟨w.heap.size, 1, none⟩ (.slice (some ⟨gp, 0, none⟩) M cp) = w6 at *
      clear c0 c1 c2 c3
      go_loopw [61] (fun kv wx => ∃ k : Nat, k ≤ M ∧ kv = .int .i64 k ∧ Work wx w.heap.size (w.heap.size + 1) gb gp M M cb cp (fun k => jnZ z i P (unD i k)) (fun t => if t < k then mrgP p i P t else jnP p i P (unD i t)) ∧ Two gb gp w wx) (fun kv _ => M - (intOf kv).toNat)
      case atStart => exact ⟨0, Nat.zero_le _, rfl, HT6.out, HB6.out⟩
      case round =>
        clear HT6 HB6
        obtain ⟨k, hk, rfl, hT, hB2⟩ := hrel
        have HT := Lib.hid hT
        have HBC := Lib.hid hB2
        clear hT hB2
        obtain ⟨d0, d1, f0, f1, hlx⟩ := HT.out.cells
        by_cases hltk : k < M
        · have cj := HT.out.p.cell k hltk
          rw [if_neg (Nat.lt_irrefl k)] at cj
          have fj := HT.out.p.free k hltk
          have lj := HT.out.p.lt
          obtain ⟨b1, b2⟩ := HJB.out k hltk
          have HK : Hid (mrgP p i P k = if jnP p i P (unD i k) > i then jnP p i P (unD i k) - 1 else jnP p i P (unD i k)) := Lib.hid rfl
          generalize hx : jnP p i P (unD i k) = x at *
          have HNX : Hid (x = jnP p i P (unD i k)) := Lib.hid hx.symm
          clear hx
          by_cases hq : x > i
          · have HX : Hid (mrgP p i P k = x - 1) := Lib.hid (by rw [HK.out, if_pos hq])
            go_wp2_with fail
            go_roundw
            case rel =>
              refine ⟨k + 1, by omega, by go_num, (HT.out.setP hltk (x - 1)).mono (fun _ _ => rfl) (fun t ht => ?_), HBC.out.setP _ _⟩
              by_cases e : t = k
              · subst e; rw [if_pos (by omega), if_pos rfl, HX.out]
              · rw [if_neg e]
                by_cases e2 : t < k
                · rw [if_pos (by omega), if_pos e2]
                · rw [if_neg (by omega), if_neg e2]
            case measure => simp [intOf]; omega
          · have HX : Hid (mrgP p i P k = x) := Lib.hid (by rw [HK.out, if_neg hq])
            go_wp2_with fail
            go_roundw
            case rel =>
              refine ⟨k + 1, by omega, by go_num, HT.out.mono (fun _ _ => rfl) (fun t ht => ?_), HBC.out⟩
              by_cases e : t = k
              · subst e; rw [if_pos (by omega), if_neg (by omega), HX.out]; exact HNX.out
              · by_cases e2 : t < k
                · rw [if_pos (by omega), if_pos e2]
                · rw [if_neg (by omega), if_neg e2]
            case measure => simp [intOf]; omega
        · have hke : k = M := by omega
          have HT7 : Hid (Work wr w.heap.size (w.heap.size + 1) gb gp M M cb cp (mrgZ z i P) (mrgP p i P)) := Lib.hid (HT.out.mono (fun _ _ => rfl) (fun t ht => by rw [if_pos (by omega)]))
          have hqk : decide ((k : Int) < (M : Int)) = false := decide_eq_false (by omega)
          have R7 := HT7.out.res
          have e0 := R7.cell (i := 0) rfl
          have e1 := R7.cell (i := 1) rfl
          have e2 := R7.free 0
          have e3 := R7.free 1
          have e4 := R7.lt
          clear HT hke R7
          go_wp2_with fail
          have w7 := HT7.out
          have r2 := (w7.res.set 0 (.slice (some ⟨gb, 0, none⟩) M cb)).set 1 (.slice (some ⟨gp, 0, none⟩) M cp)
          have g0 := r2.cell (i := 0) rfl
          have g1 := r2.cell (i := 1) rfl
          have m1 := (w7.b.other w7.ne.2.2.1 0 (.slice (some ⟨gb, 0, none⟩) M cb)).other w7.ne.2.2.1 1 (.slice (some ⟨gp, 0, none⟩) M cp)
          have m2 := (w7.p.other w7.ne.2.2.2.2.1 0 (.slice (some ⟨gb, 0, none⟩) M cb)).other w7.ne.2.2.2.2.1 1 (.slice (some ⟨gp, 0, none⟩) M cp)
          have b2 := (HBC.out.setNew (Nat.le_succ _) 0 (.slice (some ⟨gb, 0, none⟩) M cb)).setNew (Nat.le_succ _) 1 (.slice (some ⟨gp, 0, none⟩) M cp)
          exact bodyPost_ret (v := treeV (some ⟨gb, 0, none⟩) M cb (some ⟨gp, 0, none⟩) M cp) (by simp [results, Try.results70, go_sem, g0, g1]) rfl ⟨by rw [hM], by rw [hM]; exact m1, by rw [hM]; exact m2, b2⟩
end Go.Proofs.Ytombmfphodikjaa
