/- Package minor: the contract of Model; the law's awake. -/
import Derived.Test.YtfmppncefbjicaaDoorMf
namespace Go.Proofs.YtfmppncefbjicaaDoor
set_option linter.unusedSimpArgs false
set_option linter.unusedVariables false
open Go.RowKit Go.Maps
attribute [local go_sem] i64_bit toNat_eq_one toNat_ne_one toNat_eq_zero toNat_ne_zero i64_and i64_or i64_andNot i64_or_pow i64_andNot_pow

theorem graph_nine {n : Nat} {z : Nat → Int} (h : graphB n 8 z = true) : graphB n 9 z = true := by
  unfold graphB at h ⊢
  simp only [Bool.and_eq_true, decide_eq_true_eq] at h ⊢
  exact ⟨⟨h.1.1, by omega⟩, h.2⟩
theorem graph_eight {n : Nat} {z : Nat → Int} (h : graphB n 6 z = true) : graphB n 8 z = true := by
  unfold graphB at h ⊢
  simp only [Bool.and_eq_true, decide_eq_true_eq] at h ⊢
  exact ⟨⟨h.1.1, by omega⟩, h.2⟩
/-- The code that Model returns, and its model. -/
def codE (o : Option (List Nat)) : Int := match o with | some _ => 0 | none => 4
def modG (n q : Nat) (z y : Nat → Int) : Option (List Nat) := modL n q (natG z) (natG y) (Wd.widthG n z) (Wd.widthG q y)
set_option maxRecDepth 20000 in
set_option maxHeartbeats 1000000 in
theorem Model_yes {n q : Nat} {z y : Nat → Int} {a b : Option Addr} (ca cb : Nat) {w : World} (hI : IntsAt w a n z) (hJ : IntsAt w b q y) (hz : InI64 z) (hy : InI64 y) (hT : Tab w) (hg : graphB n 8 z = true) (hp : graphB q 6 y = true) :
    Calls Tryd.prog 15 #[.slice a n ca, .slice b q cb] w fun e w' => ∃ v, e = .returned (.tuple #[v, .int .i64 (codE (modG n q z y))]) ∧ IntsOwn w' w.heap.size v (castL ((modG n q z y).getD [])) ∧ Below w.heap.size w w' := by
  have HI := Lib.hid hI
  have HJ := Lib.hid hJ
  have HZ := Lib.hid hz
  have HY := Lib.hid hy
  have HT := Lib.hid hT
  have HG := Lib.hid hg
  have HP := Lib.hid hp
  have hq1 := (graphB_le hp).1
  clear hI hJ hz hy hT hg hp
  go_enter Tryd.func15, Tryd.ntmps15
  go_wp2_with fail
  go_at_call 58
  refine (newPair_yes _ _ HI.out HJ.out HZ.out HY.out HT.out HG.out HP.out).mono ?_
  rintro e w1 ⟨rfl, hb1⟩
  have HB1 := Lib.hid hb1
  have HI1 := Lib.hid (HI.out.below hb1)
  have HJ1 := Lib.hid (HJ.out.below hb1)
  have HT1 := Lib.hid (HT.out.below hb1)
  clear hb1
  have HMO := Lib.hid (model_any (wt := Wd.widthG n z) (wp := Wd.widthG q y) (Tn.of_graph HI1.out HG.out) (Tn.of_graph HJ1.out (graph_eight HP.out)) ca cb HT1.out hq1 (fun w' hw => minorWidth_any ca (HI1.out.below hw) HZ.out (graph_nine HG.out)) (fun w' hw => minorWidth_any cb (HJ1.out.below hw) HY.out (graph_nine (graph_eight HP.out))))
  rw [show modL n q (natG z) (natG y) (Wd.widthG n z) (Wd.widthG q y) = modG n q z y from rfl] at HMO
  cases hres : modG n q z y with
  | none =>
    rw [hres] at HMO
    have HRES := Lib.hid hres
    clear hres
    go_wp2_with fail
    go_at_call 59
    refine (HMO.out).mono ?_
    rintro e w2 ⟨v, rfl, ho, hb2⟩
    obtain ⟨av, cv, rfl⟩ := own_form ho
    have HO := Lib.hid ho
    clear ho
    have HB2 := Lib.hid (HB1.out.trans (hb2.mono HB1.out.size))
    clear hb2
    go_wp2_with fail
    go_ret2
    rw [HRES.out]
    exact ⟨_, rfl, IntsOwn.nil _ _, HB2.out⟩
  | some B2 =>
    rw [hres] at HMO
    have HRES := Lib.hid hres
    clear hres
    go_wp2_with fail
    go_at_call 59
    refine (HMO.out).mono ?_
    rintro e w2 ⟨v, rfl, ho, hb2⟩
    have HO := Lib.hid ho
    clear ho
    have HB2 := Lib.hid (HB1.out.trans (hb2.mono HB1.out.size))
    clear hb2
    have hs1 := HB1.out.size
    go_wp2_with fail
    go_ret2
    rw [HRES.out]
    exact ⟨_, rfl, ownsRow_base HO.out hs1, HB2.out⟩

def zTwo (i : Nat) : Int := if i = 0 then 2 else 1
theorem graph_two : graphB 2 8 zTwo = true := by decide
theorem graph_two6 : graphB 2 6 zTwo = true := by decide
theorem model_two : modG 2 2 zTwo zTwo = some [1, 2] := by decide +kernel

set_option maxRecDepth 20000 in
set_option maxHeartbeats 1000000 in
theorem awake_any (w : World) (hT : Tab w) : Calls Tryd.prog 21 #[] w fun e w' => e = .returned (.bool true) ∧ Below w.heap.size w w' := by
  have HT := Lib.hid hT
  have HZ := Lib.hid (show InI64 zTwo from fun i => by unfold zTwo; split <;> omega)
  have two : ∀ (w : World), IntsAt (w.alloc (.cells #[.int .i64 2, .int .i64 1] 3)) (some ⟨w.heap.size, 0, none⟩) 2 zTwo := fun w => ⟨by decide, fun _ => ⟨w.heap.size, 0, rfl, by simp, fun i hi => by
    have hr := Row.new w 3 [.int .i64 2, .int .i64 1]
    rw [Nat.zero_add]
    have : i = 0 ∨ i = 1 := by omega
    rcases this with rfl | rfl
    · exact hr.cell rfl
    · exact hr.cell rfl⟩⟩
  obtain ⟨wa, hwa⟩ : ∃ x, x = w.alloc (.cells #[.int .i64 2, .int .i64 1] 3) := ⟨_, rfl⟩
  obtain ⟨wb, hwb⟩ : ∃ x, x = wa.alloc (.cells #[.int .i64 2, .int .i64 1] 3) := ⟨_, rfl⟩
  have hba : Below w.heap.size w wa := by rw [hwa]; exact (Below.refl _ _).alloc (Nat.le_refl _) _
  have hbb : Below wa.heap.size wa wb := by rw [hwb]; exact (Below.refl _ _).alloc (Nat.le_refl _) _
  have hsa : wa.heap.size = w.heap.size + 1 := by rw [hwa]; simp
  have HI : Hid (IntsAt wb (some ⟨w.heap.size, 0, none⟩) 2 zTwo) := Lib.hid ((show IntsAt wa _ 2 zTwo by rw [hwa]; exact two w).below hbb)
  have HJ : Hid (IntsAt wb (some ⟨w.heap.size + 1, 0, none⟩) 2 zTwo) := Lib.hid (by rw [hwb, ← hsa]; exact two wa)
  have HBB := Lib.hid (hba.trans (hbb.mono hba.size))
  have HTB := Lib.hid (hT.below HBB.out)
  clear hT two hba hbb
  go_enter Tryd.func21, Tryd.ntmps21
  go_wp2_with fail
  rw [← hwa, ← hwb]
  clear hwa hwb
  go_at_call 15
  have HMY := Lib.hid (Model_yes 2 2 HI.out HJ.out HZ.out HZ.out HTB.out graph_two graph_two6)
  rw [model_two] at HMY
  refine HMY.out.mono ?_
  rintro e w1 ⟨v, rfl, ho, hb1⟩
  have HB1 := Lib.hid (HBB.out.trans (hb1.mono HBB.out.size))
  obtain ⟨av, cv, hv, hI1⟩ := IntsOwn.at_ ho (by decide)
  subst hv
  obtain ⟨wc, hwc⟩ : ∃ x, x = w1.alloc (.cells #[.int .i64 1, .int .i64 2] 3) := ⟨_, rfl⟩
  have hbc : Below w1.heap.size w1 wc := by rw [hwc]; exact (Below.refl _ _).alloc (Nat.le_refl _) _
  have HIC := Lib.hid (hI1.below hbc)
  have HID : Hid (IntsAt wc (some ⟨w1.heap.size, 0, none⟩) 2 (natL [1, 2])) := Lib.hid (by
    rw [hwc]
    exact ⟨by decide, fun _ => ⟨w1.heap.size, 0, rfl, by simp, fun i hi => by
      have hr := Row.new w1 3 [.int .i64 1, .int .i64 2]
      rw [Nat.zero_add]
      have : i = 0 ∨ i = 1 := by omega
      rcases this with rfl | rfl
      · exact hr.cell rfl
      · exact hr.cell rfl⟩⟩)
  have HBC := Lib.hid (HB1.out.trans (hbc.mono HB1.out.size))
  have hcod : codE (some [1, 2]) = 0 := rfl
  rw [hcod]
  clear ho hb1 hI1 hbc
  go_wp2_with fail
  rw [← hwc]
  clear hwc
  go_at_call 23
  refine (EqualI_true cv 2 HIC.out HID.out).mono ?_
  rintro e w2 ⟨rfl, hb2⟩
  have HB2 := Lib.hid (HBC.out.trans (hb2.mono HBC.out.size))
  clear hb2
  go_wp2_with fail
  go_ret
  exact ⟨rfl, HB2.out⟩

/-- What a law returns: true, and nothing that was there has turned. -/
def LawTrue (w : World) (e : Ending) (w' : World) : Prop := e = .returned (.bool true) ∧ Below w.heap.size w w'

end Go.Proofs.YtfmppncefbjicaaDoor
