/- The contract of package width's narrowed. -/
import Derived.Test.YtombmfphodikjaaW44
namespace Go.Proofs.Ytombmfphodikjaa
set_option linter.unusedSimpArgs false
set_option linter.unusedVariables false
open Go.RowKit Go.Maps

/-- What is left where nothing can be merged any more. -/
structure Narrowed (n : Nat) (r : Nat → Nat) (m : Nat) (z : Nat → Int) (M : Nat) (z' p' : Nat → Int) : Prop where
  dec : Dec n r M z' p'
  old : ∀ k, k < M → ∃ j, j < m ∧ z' k = z j
  width : mxTo n z' M = mxTo n z m
  le : M ≤ m
theorem Narrowed.refl {n : Nat} {r : Nat → Nat} {m : Nat} {z p : Nat → Int} (D : Dec n r m z p) : Narrowed n r m z m z p := ⟨D, fun k hk => ⟨k, hk, rfl⟩, rfl, Nat.le_refl _⟩
theorem mrgB_iff {z p : Nat → Int} {i : Nat} : mrgB z p i = true ↔ p i ≠ -1 ∧ Parts2 z i (p i).toNat := by
  unfold mrgB Parts2
  simp
theorem Narrowed.step {n : Nat} {r : Nat → Nat} {m : Nat} {z : Nat → Int} {M : Nat} {z' p' : Nat → Int} (N : Narrowed n r m z M z' p') {i P : Nat} (hi : i < M) (hP : p' i = P) (h : Parts2 z' i P) : Narrowed n r m z (M - 1) (mrgZ z' i P) (mrgP p' i P) := by
  have hPm : P < M := by have := (N.dec.par i hi).2; omega
  have hne : P ≠ i := by
    obtain ⟨d, hd⟩ := N.dec.rank
    have := hd i hi (by omega)
    intro e
    rw [hP, Int.toNat_natCast, e] at this
    omega
  refine ⟨N.dec.merge hi hP, fun k hk => ?_, by rw [merge_width N.dec.bags hi hPm hne h, N.width], by have := N.le; omega⟩
  obtain ⟨j, hj, e⟩ := merge_old N.dec.bags hi hPm h hk
  obtain ⟨j2, hj2, e2⟩ := N.old j hj
  exact ⟨j2, hj2, by rw [e, e2]⟩

theorem Row.two {w w' : World} {b gb gp : Nat} {e : TypeId} {xs : List Value} (h : Row w b e xs) (ht : Two gb gp w w') (h1 : b ≠ gb) (h2 : b ≠ gp) : Row w' b e xs := by
  have := h.lt
  unfold Row at *; rw [ht.block b this h1 h2]; exact h
theorem Mine.ints {w : World} {g m : Nat} {z : Nat → Int} (h : Mine w g m z) (hm : m ≤ maxLen) : IntsAt w (some ⟨g, 0, none⟩) m z :=
  ⟨hm, fun _ => ⟨g, 0, rfl, h.lt, fun i hi => by rw [Nat.zero_add]; exact h.cell i hi⟩⟩

def boxLen : Option Value → Nat
  | some (.slice _ n _) => n
  | _ => 0

set_option maxRecDepth 20000 in
set_option maxHeartbeats 4000000 in
theorem narrowed_any {n : Nat} {r : Nat → Nat} {m gb gp cb cp : Nat} {z p : Nat → Int} {w : World} (hn : n ≤ 9) (D : Dec n r m z p) (Mb : Mine w gb m z) (Mp : Mine w gp m p) (hne : gb ≠ gp) (hcb : m ≤ cb) (hcp : m ≤ cp) (hcb2 : cb ≤ maxLen) (hcp2 : cp ≤ maxLen) :
    Calls Try.prog 50 #[treeV (some ⟨gb, 0, none⟩) m cb (some ⟨gp, 0, none⟩) m cp] w fun e w' => ∃ M z' p', e = .returned (treeV (some ⟨gb, 0, none⟩) M cb (some ⟨gp, 0, none⟩) M cp) ∧ Mine w' gb M z' ∧ Mine w' gp M p' ∧ Narrowed n r m z M z' p' ∧ (∀ i, i < M → p' i ≠ -1 → ¬ Parts2 z' i (p' i).toNat) ∧ Two gb gp w w' := by
  obtain ⟨w1, hw1, R1, HB1, hs1⟩ := new1 w 42 [.slice (some ⟨gb, 0, none⟩) m cb, .slice (some ⟨gp, 0, none⟩) m cp]
  have hws1 : w1.heap.size = w.heap.size + 1 := by rw [hw1]; simp
  obtain ⟨w0, hw0, R0, HB0, hs0⟩ := new1 w1 42 [.slice none 0 0, .slice none 0 0]
  have hws0 : w0.heap.size = w.heap.size + 2 := by rw [hw0]; simp; omega
  rw [hws1] at R0
  have HBw := HB1.trans (HB0.mono HB1.size)
  have lb := Mb.lt
  have lp := Mp.lt
  have T0 : Work w0 w.heap.size (w.heap.size + 1) gb gp m m cb cp z p := ⟨R1.below HB0 R1.lt, R0, Mb.below HBw, Mp.below HBw, by omega⟩
  have HT := Lib.hid T0
  have HB : Hid (Two gb gp w w0) := Lib.hid (Two.of_below HBw)
  have HW1 := Lib.hid hw1
  have HW0 := Lib.hid hw0
  have HN := Lib.hid (Narrowed.refl D)
  clear hw1 hw0 R0 R1 HB0 HB1 T0 D Mb Mp HBw
  go_enter Try.func50, Try.ntmps50
  go_wp2_with fail
  rw [← HW1.out, ← HW0.out]
  go_loopw [3] (fun _ wr => ∃ M z' p', Work wr w.heap.size (w.heap.size + 1) gb gp M M cb cp z' p' ∧ Narrowed n r m z M z' p' ∧ Two gb gp w wr) (fun _ wr => boxLen (wr.cell? ⟨w.heap.size, 0, none⟩))
  case atStart => exact ⟨m, z, p, HT.out, HN.out, HB.out⟩
  case round =>
    clear HT HB HN
    obtain ⟨M, z', p', hT, hN, hB⟩ := hrel
    have HT := Lib.hid hT
    have HN := Lib.hid hN
    have HB := Lib.hid hB
    obtain ⟨d0, d1, f0, f1, hlx⟩ := hT.cells
    have hMm := hN.le
    have HTA : Hid (TreeAt wr (some ⟨gb, 0, none⟩) (some ⟨gp, 0, none⟩) M M z' p') := Lib.hid ⟨hT.b.ints (by omega), hT.p.ints (by omega)⟩
    have HBL : Hid (boxLen (wr.cell? ⟨w.heap.size, 0, none⟩) = M) := Lib.hid (by rw [d0]; rfl)
    clear hT hN hB
    go_wp2_with fail
    go_at_call 69
    refine (mergeable_any hn cb cp HTA.out HN.out.dec.bags HN.out.dec.par).mono ?_
    rintro e w3 ⟨x, rfl, hx, hb3⟩
    have HT3 := Lib.hid (HT.out.below hb3)
    have HB3 := Lib.hid (HB.out.then_below hb3)
    clear d0 d1 f0 f1 hlx HT HB hb3
    obtain ⟨d0, d1, f0, f1, hlx⟩ := HT3.out.cells
    rcases hx with ⟨i, hi, rfl, hyes, -⟩ | ⟨hno, rfl⟩
    · have hmg := mrgB_iff.1 hyes
      obtain ⟨P, hP⟩ : ∃ P : Nat, p' i = P := ⟨(p' i).toNat, by have := (HN.out.dec.par i hi).1; have := hmg.1; omega⟩
      have hPm : P < M := by have := (HN.out.dec.par i hi).2; omega
      have HPP : Hid (Parts2 z' i P) := Lib.hid (by have := hmg.2; rwa [hP, Int.toNat_natCast] at this)
      have HP := Lib.hid hP
      have hq : ((i : Int) == -1) = false := beq_eq_false_iff_ne.2 (by omega)
      clear hyes hmg hP
      go_wp2_with fail
      go_at_call 70
      refine (merged_any hn HT3.out.b HT3.out.p hne hi HP.out hPm HN.out.dec.bags HN.out.dec.par (by omega) (by omega) hcb2 hcp2).mono ?_
      rintro e w4 ⟨rfl, m1, m2, t4⟩
      have n4 := HT3.out.ne
      have R4 := HT3.out.box.two t4 n4.2.1.symm n4.2.2.2.1.symm
      have S4 := HT3.out.res.two t4 n4.2.2.1.symm n4.2.2.2.2.1.symm
      have HT5 : Hid (Work ((w4.setCell ⟨w.heap.size, 0, none⟩ (.slice (some ⟨gb, 0, none⟩) (M - 1) cb)).setCell ⟨w.heap.size, 1, none⟩ (.slice (some ⟨gp, 0, none⟩) (M - 1) cp)) w.heap.size (w.heap.size + 1) gb gp (M - 1) (M - 1) cb cp (mrgZ z' i P) (mrgP p' i P)) :=
        Lib.hid ⟨(R4.set 0 _).set 1 _, (S4.other (a := ⟨w.heap.size, 0, none⟩) n4.2.2.2.2.2 _).other (a := ⟨w.heap.size, 1, none⟩) n4.2.2.2.2.2 _, (m1.other n4.2.1 0 _).other n4.2.1 1 _, (m2.other n4.2.2.2.1 0 _).other n4.2.2.2.1 1 _, n4⟩
      have HB5 := Lib.hid (((HB3.out.trans t4).setNew (Nat.le_refl _) 0 (.slice (some ⟨gb, 0, none⟩) (M - 1) cb)).setNew (Nat.le_refl _) 1 (.slice (some ⟨gp, 0, none⟩) (M - 1) cp))
      have c0 := R4.cell (i := 0) rfl
      have c1 := R4.cell (i := 1) rfl
      have c2 := R4.free 0
      have c3 := R4.free 1
      have c4 := R4.lt
      clear R4 S4 m1 m2 t4 n4 d0 d1 f0 f1 hlx HT3 HB3
      go_wp2_with fail
      go_roundw
      case rel => exact ⟨M - 1, _, _, HT5.out, HN.out.step hi HP.out HPP.out, HB5.out⟩
      case measure =>
        rw [HBL.out, HT5.out.cells.1]
        show M - 1 < M
        omega
    · have R7 := HT3.out.res
      have e0 := R7.cell (i := 0) rfl
      have e1 := R7.cell (i := 1) rfl
      have e2 := R7.free 0
      have e3 := R7.free 1
      have e4 := R7.lt
      have HNO := Lib.hid hno
      clear R7 hno
      go_wp2_with fail
      have w7 := HT3.out
      have r2 := (w7.res.set 0 (.slice (some ⟨gb, 0, none⟩) M cb)).set 1 (.slice (some ⟨gp, 0, none⟩) M cp)
      have g0 := r2.cell (i := 0) rfl
      have g1 := r2.cell (i := 1) rfl
      have m1 := (w7.b.other w7.ne.2.2.1 0 (.slice (some ⟨gb, 0, none⟩) M cb)).other w7.ne.2.2.1 1 (.slice (some ⟨gp, 0, none⟩) M cp)
      have m2 := (w7.p.other w7.ne.2.2.2.2.1 0 (.slice (some ⟨gb, 0, none⟩) M cb)).other w7.ne.2.2.2.2.1 1 (.slice (some ⟨gp, 0, none⟩) M cp)
      have b2 := (HB3.out.setNew (Nat.le_succ _) 0 (.slice (some ⟨gb, 0, none⟩) M cb)).setNew (Nat.le_succ _) 1 (.slice (some ⟨gp, 0, none⟩) M cp)
      exact bodyPost_ret (v := treeV (some ⟨gb, 0, none⟩) M cb (some ⟨gp, 0, none⟩) M cp) (by simp [results, Try.results50, go_sem, g0, g1]) rfl ⟨M, z', p', rfl, m1, m2, HN.out, fun i hi hr hp => (by have := HNO.out i hi; rw [mrgB_iff.2 ⟨hr, hp⟩] at this; cases this), b2⟩

end Go.Proofs.Ytombmfphodikjaa
