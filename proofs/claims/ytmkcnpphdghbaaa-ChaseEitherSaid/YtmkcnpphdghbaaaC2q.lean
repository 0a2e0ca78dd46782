/- The contracts of the program's CheckSafe and of the law's places. -/
import Derived.Test.YtmkcnpphdghbaaaC2p
namespace Go.Proofs.Ytmkcnpphdghbaaa
set_option linter.unusedSimpArgs false
set_option linter.unusedVariables false
open Go.RowKit Go.Maps
attribute [local go_sem] i64_bit toNat_eq_one toNat_ne_one toNat_eq_zero toNat_ne_zero i64_and i64_or i64_andNot i64_or_pow i64_andNot_pow

/-- What CheckSafe returns. -/
def CheckPost (n : Nat) (z : Nat → Int) (kI : Int) (P : List PI) (w : World) (e : Ending) (w' : World) : Prop :=
  Below w.heap.size w w' ∧ (okGame n z kI → e = .returned (.tuple #[.bool (areB n (reachOf z) (chs n kI.toNat) P), .int .i64 0])) ∧ (¬ okGame n z kI → e = .returned (.tuple #[.bool false, .int .i64 2]))

set_option maxRecDepth 20000 in
set_option maxHeartbeats 1000000 in
theorem CheckSafe_any (n : Nat) (z : Nat → Int) (kI : Int) (a pa : Option Addr) (cap pc : Nat) (P : List PI) (w : World) (hT : IntsAt w a n z) (hP : PlsAt w pa P) :
    Calls Try.prog 28 #[.slice a n cap, .int .i64 kI, .slice pa P.length pc] w (CheckPost n z kI P w) := by
  have HT := Lib.hid hT
  have HP := Lib.hid hP
  clear hT hP
  by_cases h : okGame n z kI
  · have H := Lib.hid h
    have hn := townB_le h.1
    clear h
    go_enter Try.func28, Try.ntmps28
    go_wp2_with fail
    go_at_call 52
    refine (newGame_yes n z kI a cap _ HT.out H.out.1 H.out.2).mono ?_
    rintro e w1 ⟨hb1, hyes, _⟩
    obtain ⟨gp, b, cb, cc, mb, hmb, rfl, m1, m2, m3, G⟩ := hyes H.out
    have HB1 := Lib.hid hb1
    have HG := Lib.hid G
    clear hb1 hyes G
    go_wp2_with fail
    go_at_call 53
    refine (areSafe_any HG.out (HP.out.below HB1.out) pc hn.1).mono ?_
    rintro e w2 ⟨rfl, hb2⟩
    have HB2 := Lib.hid (HB1.out.trans (hb2.mono HB1.out.size))
    clear hb2
    go_wp2_with fail
    go_ret2
    exact ⟨HB2.out, fun _ => rfl, fun h => absurd H.out h⟩
  · have H := Lib.hid h
    clear h
    go_enter Try.func28, Try.ntmps28
    go_wp2_with fail
    go_at_call 52
    refine (newGame_no n z kI a cap _ HT.out H.out (fun _ _ => none)).mono ?_
    rintro e w1 ⟨hb1, _, hno⟩
    obtain rfl := hno H.out
    have HB1 := Lib.hid hb1
    clear hb1 hno
    go_wp2_with fail
    go_ret2
    exact ⟨HB1.out, fun h => absurd h H.out, fun _ => rfl⟩

/-- A slice of Places as an argument. -/
def PlArg (w : World) (v : Value) (P : List PI) : Prop :=
  (v = .slice none 0 0 ∧ P = []) ∨ ∃ x cap, v = .slice (some x) P.length cap ∧ P.length ≤ cap ∧ cap ≤ maxLen ∧
    (P ≠ [] → ∃ b off, x = ⟨b, off, none⟩ ∧ b < w.heap.size ∧ ∀ i p, P[i]? = some p → w.cell? ⟨b, off + i * 3, none⟩ = some (.int .i64 p.1) ∧ w.cell? ⟨b, off + i * 3 + 1, none⟩ = some (.int .i64 p.2.1) ∧ w.cell? ⟨b, off + i * 3 + 2, none⟩ = some (.int .i64 p.2.2))
theorem PlArg.below {w w' : World} {v : Value} {P : List PI} (h : PlArg w v P) (hb : Below w.heap.size w w') : PlArg w' v P := by
  rcases h with h | ⟨x, cap, hv, h1, h2, h3⟩
  · exact Or.inl h
  · refine Or.inr ⟨x, cap, hv, h1, h2, fun hne => ?_⟩
    obtain ⟨b, off, hx, hl, hc⟩ := h3 hne
    refine ⟨b, off, hx, Nat.lt_of_lt_of_le hl hb.size, fun i p hi => ?_⟩
    rw [hb.cell (p := ⟨b, off + i * 3, none⟩) hl, hb.cell (p := ⟨b, off + i * 3 + 1, none⟩) hl, hb.cell (p := ⟨b, off + i * 3 + 2, none⟩) hl]
    exact hc i p hi

def piCells (L : List PI) : List Value := L.flatMap fun p => [.int .i64 p.1, .int .i64 p.2.1, .int .i64 p.2.2]
theorem piCells_snoc (L : List PI) (p : PI) : piCells (L ++ [p]) = piCells L ++ [.int .i64 p.1, .int .i64 p.2.1, .int .i64 p.2.2] := by simp [piCells]
theorem piCells_length (L : List PI) : (piCells L).length = L.length * 3 := by
  induction L with
  | nil => rfl
  | cons x L ih => simp [piCells] at *; omega
theorem piCells_get (L : List PI) (i : Nat) (p : PI) (h : L[i]? = some p) : (piCells L)[i * 3]? = some (.int .i64 p.1) ∧ (piCells L)[i * 3 + 1]? = some (.int .i64 p.2.1) ∧ (piCells L)[i * 3 + 2]? = some (.int .i64 p.2.2) := by
  induction L generalizing i with
  | nil => simp at h
  | cons x L ih =>
    cases i with
    | zero => simp at h; subst h; exact ⟨rfl, rfl, rfl⟩
    | succ i =>
      simp at h
      have := ih i h
      have e : (i + 1) * 3 = i * 3 + 1 + 1 + 1 := by omega
      rw [e]
      exact this
def PiOwn (w : World) (base : Nat) (v : Value) (L : List PI) : Prop := w.ownsRow base 30 3 v L.length (piCells L)
theorem PiOwn.plsAt {w : World} {base cap : Nat} {a : Option Addr} {L : List PI} (h : PiOwn w base (.slice a L.length cap) L) (hL : L.length ≤ 1000000) : PlsAt w a L := by
  refine ⟨hL, fun hne => ?_⟩
  have hl0 : L.length ≠ 0 := fun e => hne (List.eq_nil_of_length_eq_zero e)
  obtain ⟨b, c, hv, hb, hl⟩ := own_form' h hl0
  simp only [Value.slice.injEq] at hv
  obtain ⟨rfl, -, rfl⟩ := hv
  refine ⟨b, 0, rfl, hl, fun i p hi => ?_⟩
  have hil := (List.getElem?_eq_some_iff.1 hi).1
  obtain ⟨p1, p2, p3⟩ := piCells_get L i p hi
  rw [Nat.zero_add]
  refine ⟨?_, ?_, ?_⟩
  · rw [World.ownsRow.cellAt h (i * 3) (by omega)]; exact p1
  · rw [World.ownsRow.cellAt h (i * 3 + 1) (by omega)]; exact p2
  · rw [World.ownsRow.cellAt h (i * 3 + 2) (by omega)]; exact p3

set_option maxHeartbeats 400000 in
theorem placeL_any (x y d : Int) (w : World) :
    Calls Try.prog 14 #[.agg #[.int .i64 x, .int .i64 y, .int .i64 d]] w fun e w' => e = .returned (.agg #[.int .i64 x, .int .i64 y, .int .i64 d]) ∧ Below w.heap.size w w' := by
  go_enter Try.func14, Try.ntmps14
  go_wp2
  exact bodyPost_ret (v := .agg #[.int .i64 x, .int .i64 y, .int .i64 d]) (by simp [results, Try.results14, go_sem]) rfl ⟨rfl, ((Below.refl _ _).alloc (Nat.le_refl _) _).alloc (by simp) _⟩

theorem take_more {P : List PI} {j : Nat} (h : 700 ≤ j) : P.take (min j 700) = P.take (min (j + 1) 700) := by
  rw [show min j 700 = 700 by omega, show min (j + 1) 700 = 700 by omega]

set_option maxRecDepth 20000 in
set_option maxHeartbeats 2000000 in
theorem placesL_any {w : World} {v : Value} {P : List PI} (h : PlArg w v P) :
    Calls Try.prog 29 #[v] w fun e w' => (∃ v', e = .returned v' ∧ PiOwn w' w.heap.size v' (P.take 700)) ∧ Below w.heap.size w w' := by
  obtain ⟨i0, hi0, hz1, hz2, hz3⟩ := info_parts info_place
  have HA := Lib.hid h
  obtain ⟨a, cap, rfl, hm⟩ : ∃ a cap, v = .slice a P.length cap ∧ P.length ≤ maxLen := by
    rcases h with ⟨rfl, rfl⟩ | ⟨x, cap, rfl, h1, h2, -⟩
    · exact ⟨none, 0, rfl, by decide⟩
    · exact ⟨_, cap, rfl, Nat.le_trans h1 h2⟩
  unfold maxLen at hm
  have HCELL : Hid (∀ wx, Below w.heap.size w wx → ∀ i p, P[i]? = some p → ∃ b off, a = some ⟨b, off, none⟩ ∧ wx.cell? ⟨b, off + i * 3, none⟩ = some (.int .i64 p.1) ∧ wx.cell? ⟨b, off + i * 3 + 1, none⟩ = some (.int .i64 p.2.1) ∧ wx.cell? ⟨b, off + i * 3 + 2, none⟩ = some (.int .i64 p.2.2)) := Lib.hid (fun wx hb i p hi => by
    rcases HA.out with ⟨-, rfl⟩ | ⟨x, cap', hv, h1, h2, h3⟩
    · simp at hi
    · obtain ⟨b, off, rfl, hl, hc⟩ := h3 (fun e => by rw [e] at hi; simp at hi)
      simp only [Value.slice.injEq] at hv
      obtain ⟨rfl, -, -⟩ := hv
      refine ⟨b, off, rfl, ?_⟩
      rw [hb.cell (p := ⟨b, off + i * 3, none⟩) hl, hb.cell (p := ⟨b, off + i * 3 + 1, none⟩) hl, hb.cell (p := ⟨b, off + i * 3 + 2, none⟩) hl]
      exact hc i p hi)
  clear h
  go_enter Try.func29, Try.ntmps29
  go_wp2_with fail
  go_loopw [3, 8] (fun u i wr => ∃ j : Nat, j ≤ P.length ∧ i = .int .i64 j ∧ PiOwn wr w.heap.size u (P.take (min j 700)) ∧ Below w.heap.size w wr) (fun _ i _ => P.length - (intOf i).toNat)
  case atStart => exact ⟨0, Nat.zero_le _, rfl, ⟨rfl, Or.inl ⟨rfl, rfl⟩⟩, Below.refl _ _⟩
  case round =>
    obtain ⟨j, hj, rfl, hown, hbel⟩ := hrel
    have HO := Lib.hid hown
    have HBE := Lib.hid hbel
    have hwl := hbel.size
    by_cases hlt : j < P.length
    · obtain ⟨⟨x, y, z⟩, hp⟩ : ∃ p, P[j]? = some p := ⟨P[j], by simp [hlt]⟩
      obtain ⟨pb, off, rfl, e0, e1, e2⟩ := HCELL.out wr hbel j _ hp
      dsimp only at e0 e1 e2
      have HX := Lib.hid hp
      clear hown hbel hp
      by_cases h7 : j < 700
      · have HSN : Hid (P.take (min (j + 1) 700) = P.take (min j 700) ++ [(x, y, z)]) := Lib.hid (by rw [show min (j + 1) 700 = j + 1 by omega, show min j 700 = j by omega, take_snoc' P j _ HX.out])
        have htl : (P.take (min j 700)).length ≤ 700 := by rw [List.length_take]; omega
        generalize P.take (min j 700) = M at *
        go_wp2_with fail
        go_at_call 14
        refine (placeL_any x y z _).mono ?_
        rintro e w2 ⟨rfl, hb2⟩
        have HB2 := Lib.hid (((Below.refl wr.heap.size wr).alloc (Nat.le_refl _) _).trans (hb2.mono (by simp)))
        have HO2 := Lib.hid (ownsRow_below HO.out HB2.out (Nat.le_refl _))
        have hs2 := HB2.out.size
        have HBW2 := Lib.hid (HBE.out.trans (HB2.out.mono hwl))
        clear hb2 e0 e1 e2
        go_wp2_with (at_builtin; refine wpList_append_own _ rfl _ _ 47 rfl w.heap.size 30 i0 (.agg #[.int .i64 0, .int .i64 0, .int .i64 0]) 3 24 Try.underlying47 hi0 hz1 hz2 hz3 rfl (by decide) _ _ _ rfl (HO2.out.alloc _) ⟨w2.heap.size, 0, none⟩ 1 1 [.int .i64 x, .int .i64 y, .int .i64 z] rfl rfl ?c1 ?c2 ?c3 ?c4 ?c5 ?_)
        case c1 => exact cells_new _ _ _
        case c2 => intro u hu; simp at hu; rcases hu with rfl | rfl | rfl <;> rfl
        case c3 => unfold maxLen; omega
        case c4 => omega
        case c5 => simp; omega
        intro v' w3 hown1 hg1 _
        have HO3 := Lib.hid hown1
        have HG3 := Lib.hid hg1
        clear hown1 hg1
        go_wp2_with fail
        go_roundw
        case rel =>
          refine ⟨j + 1, by omega, by go_num, ?_, (HBW2.out.alloc HBW2.out.size _).grown HG3.out (by simp; omega) (fun k hk => (World.ownsRow.lt HO2.out k hk).1)⟩
          rw [HSN.out]
          unfold PiOwn
          rw [piCells_snoc, List.length_append (bs := [(x, y, z)]), List.length_singleton]
          exact HO3.out
        case measure => simp [intOf]; omega
      · have HSN : Hid (P.take (min j 700) = P.take (min (j + 1) 700)) := Lib.hid (take_more (by omega))
        go_wp2_with fail
        go_roundw
        case rel => exact ⟨j + 1, by omega, by go_num, by rw [← HSN.out]; exact HO.out.alloc _, HBE.out.alloc hwl _⟩
        case measure => simp [intOf]; omega
    · have hje : j = P.length := by omega
      subst hje
      have HE : Hid (P.take (min P.length 700) = P.take 700) := Lib.hid (by
        by_cases h : P.length ≤ 700
        · rw [show min P.length 700 = P.length by omega, List.take_length, List.take_of_length_le h]
        · rw [show min P.length 700 = 700 by omega])
      clear hown hbel
      go_wp2_with fail
      go_ret
      exact ⟨⟨_, rfl, by rw [← HE.out]; exact HO.out⟩, HBE.out⟩

end Go.Proofs.Ytmkcnpphdghbaaa
