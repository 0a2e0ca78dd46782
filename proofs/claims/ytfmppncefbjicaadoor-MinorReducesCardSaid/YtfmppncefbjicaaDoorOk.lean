/- Package minor: the reference's reduced. Package minor: the reference's Reduces. -/
import Derived.Test.YtfmppncefbjicaaDoorOf
import Derived.Test.YtfmppncefbjicaaDoorOh
namespace Go.Proofs.YtfmppncefbjicaaDoor
set_option linter.unusedSimpArgs false
set_option linter.unusedVariables false
open Go.RowKit Go.Maps
attribute [local go_sem] i64_bit toNat_eq_one toNat_ne_one toNat_eq_zero toNat_ne_zero i64_and i64_or i64_andNot i64_or_pow i64_andNot_pow

/-- The first bit of a set, and the last one behind it, among the first k. -/
def aTo (s : Nat) : Nat → Int
  | 0 => -1
  | k + 1 => if s.testBit k && decide (aTo s k < 0) then (k : Int) else aTo s k
def bTo (s : Nat) : Nat → Int
  | 0 => -1
  | k + 1 => if s.testBit k && decide (0 ≤ aTo s k) then (k : Int) else bTo s k
theorem ab_is : ∀ n, n < 9 → ∀ s, s < 2 ^ n → szS n s ≤ 2 → aTo s n = (if szS n s = 0 then (-1 : Int) else ((lowN s : Nat) : Int)) ∧ bTo s n = (if szS n s = 2 then ((lowN (diff s (2 ^ lowN s)) : Nat) : Int) else (-1 : Int)) := by decide +kernel
/-- What reduced answers. -/
def rdP (n : Nat) (r : Nat → Nat) (left v : Nat) : Bool := left.testBit v && decide (szS n (r v &&& left) ≤ 2)
def rdZ (n : Nat) (r : Nat → Nat) (left v : Nat) : StZ := ((szS n (r v &&& left) : Nat), (v : Nat), aTo (r v &&& left) n, bTo (r v &&& left) n)
def rdF (n : Nat) (r : Nat → Nat) (left v : Nat) : Nat → Nat := if szS n (r v &&& left) = 2 then lnkF r (aTo (r v &&& left) n).toNat (bTo (r v &&& left) n).toNat else r
theorem results_cell_two {fn : Func} {p u t : Tmp} {ty : TypeId} (h : fn.results = #[.cell p ty, .tmp u, .tmp t]) (tmps : Array Value) (P : Program) (w : World) :
    (results fn tmps).run P w =
      ((asAddr (tmps.getD p undef)).run P w).andThen fun a w₁ => ((loadVar ty a).run P w₁).andThen fun v w₂ => .ok (.tuple #[v, tmps.getD u undef, tmps.getD t undef]) w₂ := by
  simp only [results, h]
  simp [Sem.run_bind, Result.andThen]
theorem results_reduced {tmps : Array Value} {W : World} {g : Nat} {q : List Value} {u t : Value} (hp : tmps.getD 6 undef = ptrV g) (hg : Row W g 51 q) (hq : q.length = 4) (hu : tmps.getD 7 undef = u) (ht : tmps.getD 8 undef = t) :
    (results Tryd.f71 tmps).run Tryd.prog W = .ok (.tuple #[.agg q.toArray, u, t]) W := by
  rw [results_cell_two (p := 6) (u := 7) (t := 8) (ty := 51) rfl, hp, hu, ht]
  have h := run_loadVar_row (P := Tryd.prog) W g 51 51 q.toArray (0, 0) _ hg Tryd.underlying51 rfl (by rw [show q.toArray.size = 4 by simp [hq]]; kernel_rfl)
  generalize loadVar 51 = L at h
  simp [asAddr, Result.andThen, h]

set_option maxRecDepth 100000 in
set_option maxHeartbeats 4000000 in
theorem reducedR_any {n left v b off cap : Nat} {r : Nat → Nat} {w : World} (hn0 : 0 < n) (hn8 : n ≤ 8) (hb : b < w.heap.size) (hc : ∀ i, i < n → w.cell? ⟨b, off + i, none⟩ = some (.int .i64 (r i : Nat))) (hbd : ∀ i, i < n → r i < 2 ^ n) (hl : left < 2 ^ n) (hv : v < n) :
    Calls Tryd.prog 71 #[.slice (some ⟨b, off, none⟩) n cap, .int .i64 left, .int .i64 v] w fun e w' =>
      (if rdP n r left v then ∃ g c, e = .returned (.tuple #[.agg (stC (rdZ n r left v)).toArray, .slice (some ⟨g, 0, none⟩) n c, .bool true]) ∧ GOwn w' w.heap.size (.slice (some ⟨g, 0, none⟩) n c) n (rdF n r left v)
       else e = .returned (.tuple #[.agg zeroV.toArray, .slice (some ⟨b, off, none⟩) n cap, .bool false])) ∧ Below w.heap.size w w' := by
  have h8 := pow_le8 hn8
  have hrv := hbd v hv
  have cv := hc v hv
  have hrv16 : r v < 65536 := by omega
  have hl16 : left < 65536 := by omega
  have hsl : r v &&& left < 2 ^ n := Nat.lt_of_le_of_lt Nat.and_le_left hrv
  have hv64 : v < 64 := by omega
  obtain ⟨s, hs⟩ : ∃ s, s = r v &&& left := ⟨_, rfl⟩
  have HP : Hid (rdP n r left v = (left.testBit v && decide (szS n s ≤ 2))) := Lib.hid (by rw [hs]; rfl)
  have HZ : Hid (rdZ n r left v = (((szS n s : Nat) : Int), ((v : Nat) : Int), aTo s n, bTo s n)) := Lib.hid (by rw [hs]; rfl)
  have HF : Hid (rdF n r left v = if szS n s = 2 then lnkF r (aTo s n).toNat (bTo s n).toNat else r) := Lib.hid (by rw [hs]; rfl)
  have hand := i64_and (r v) left hrv16 hl16
  rw [← hs] at hand hsl
  have HSZ := Lib.hid (fun w' => Size_any (n := n) (by omega) s hsl w')
  have hsz := szS_le n s
  obtain ⟨w0, hw0, r0, hb0, hs0⟩ := new1 w 51 [.int .i64 0, .int .i64 0, .int .i64 0, .int .i64 0]
  have c0 := (hb0.cell (p := ⟨b, off + v, none⟩) hb).trans cv
  obtain ⟨w1, hw1, r1, hb1, hs1⟩ := new1 w0 51 [.int .i64 (szS n s : Nat), .int .i64 (v : Nat), .int .i64 (-1), .int .i64 (-1)]
  have e0 : w0.heap.size = w.heap.size + 1 := by rw [hw0]; simp
  rw [e0] at r1 hs1
  have HW0 := hw0.symm
  have HW1 := hw1.symm
  have k1 := r1.cell (i := 0) rfl
  have q0 := r0.below hb1 r0.lt
  have hb01 := hb0.trans (hb1.mono hb0.size)
  have HR0 := Lib.hid q0
  have HR1 := Lib.hid r1
  have HB1 := Lib.hid hb01
  have HCN := Lib.hid hc
  have HBD := Lib.hid hbd
  clear hw0 hw1 hb0 hb1 hb01 r0 q0 r1 hc hbd hs
  cases hP : (left.testBit v && decide (szS n s ≤ 2))
  · rw [hP] at HP
    simp only [HP.out, Bool.false_eq_true, if_false]
    obtain ⟨x0, x1, x2, x3, ⟨g0, g1, g2, g3⟩, ⟨j0, j1, j2, j3⟩, ⟨u0, u1, u2, u3⟩, ⟨l0, l1, l2, l3⟩, hq, hbq, hoq, hkq⟩ := put4 HR0.out (.int .i64 0) (.int .i64 0) (.int .i64 0) (.int .i64 0)
    have HQ := Lib.hid hq
    have HBQ := Lib.hid (hbq w.heap.size w (Nat.le_refl _) HB1.out)
    clear hq hbq hoq hkq
    cases hlv : left.testBit v
    · clear hP
      go_enter Tryd.func71, Tryd.ntmps71
      go_wp2_with (go_at_call 51; refine (HSZ.out _).mono ?_; rintro e z1 ⟨rfl, rfl⟩)
      exact bodyPost_ret (results_reduced rfl HQ.out rfl rfl rfl) rfl ⟨rfl, HBQ.out⟩
    · have hgt : ¬ szS n s ≤ 2 := by
        rw [hlv, Bool.true_and, decide_eq_false_iff_not] at hP
        exact hP
      clear hP
      generalize szS n s = k at *
      have d1 : decide ((k : Int) > 2) = true := decide_eq_true (by omega)
      have d2 : decide ((2 : Int) < (k : Int)) = true := decide_eq_true (by omega)
      have d3 : decide (2 < k) = true := decide_eq_true (by omega)
      go_enter Tryd.func71, Tryd.ntmps71
      go_wp2_with (go_at_call 51; refine (HSZ.out _).mono ?_; rintro e z1 ⟨rfl, rfl⟩)
      exact bodyPost_ret (results_reduced rfl HQ.out rfl rfl rfl) rfl ⟨rfl, HBQ.out⟩
  · rw [hP] at HP
    simp only [HP.out, if_true]
    rw [Bool.and_eq_true, decide_eq_true_eq] at hP
    obtain ⟨hlv, hle⟩ := hP
    obtain ⟨i0, hi0, hz1, hz2, hz3⟩ := info_parts info_int
    have HAB := Lib.hid (ab_is n (by omega) s hsl hle)
    have HST : Hid (∀ k, (aTo s (k + 1) = if s.testBit k && decide (aTo s k < 0) then (k : Int) else aTo s k) ∧ (bTo s (k + 1) = if s.testBit k && decide (0 ≤ aTo s k) then (k : Int) else bTo s k)) := Lib.hid fun k => ⟨rfl, rfl⟩
    obtain ⟨k, hke⟩ : ∃ k, k = szS n s := ⟨_, rfl⟩
    have HKE := Lib.hid hke
    rw [← hke] at HSZ HF HZ HR1 hle k1 HW1
    have d1 : decide ((k : Int) > 2) = false := decide_eq_false (by omega)
    have d2 : decide ((2 : Int) < (k : Int)) = false := decide_eq_false (by omega)
    have d3 : decide (2 < k) = false := decide_eq_false (by omega)
    clear hke hsz
    go_enter Tryd.func71, Tryd.ntmps71
    go_wp2_with (go_at_call 51; refine (HSZ.out _).mono ?_; rintro e z1 ⟨rfl, rfl⟩)
    clear k1 c0 cv HW0 HW1
    have hs64 : s < 65536 := by omega
    go_loopw [35] (fun i wr => ∃ x : Nat, x ≤ n ∧ i = .int .i64 x ∧ Row wr w.heap.size 51 [.int .i64 0, .int .i64 0, .int .i64 0, .int .i64 0] ∧ Row wr (w.heap.size + 1) 51 [.int .i64 k, .int .i64 v, .int .i64 (aTo s x), .int .i64 (bTo s x)] ∧ Below w.heap.size w wr) (fun i _ => n - (intOf i).toNat)
    case atStart => exact ⟨0, Nat.zero_le _, rfl, HR0.out, HR1.out, HB1.out⟩
    case round =>
      obtain ⟨x, hx, rfl, q0, q1, hbel⟩ := hrel
      have Q0 := Lib.hid q0
      have Q1 := Lib.hid q1
      have HB := Lib.hid hbel
      obtain ⟨hsa, hsb⟩ := HST.out x
      clear HR0 HR1 HB1 hbel
      by_cases hlt : x < n
      · have cv := (HB.out.cell (p := ⟨b, off + v, none⟩) hb).trans (HCN.out v hv)
        have hx64 : x < 64 := by omega
        have hx16 : x < 16 := by omega
        obtain ⟨A, hA⟩ : ∃ A, A = aTo s x := ⟨_, rfl⟩
        obtain ⟨D, hD⟩ : ∃ D, D = bTo s x := ⟨_, rfl⟩
        rw [← hA] at hsa hsb q1 Q1
        rw [← hD] at hsb q1 Q1
        have cA := q1.cell (i := 2) rfl
        have cD := q1.cell (i := 3) rfl
        have fA := q1.free 2
        have fD := q1.free 3
        have l1 := q1.lt
        cases hbx : s.testBit x
        · have HSA : Hid (aTo s (x + 1) = A) := Lib.hid (by rw [hsa, hbx]; rfl)
          have HSB : Hid (bTo s (x + 1) = D) := Lib.hid (by rw [hsb, hbx]; rfl)
          clear hsa hsb hA hD q0 q1
          go_wp2_with fail
          go_roundw
          case rel => exact ⟨x + 1, by omega, by go_num, Q0.out, by rw [HSA.out, HSB.out]; exact Q1.out, HB.out⟩
          case measure => simp [intOf]; omega
        · by_cases hA0 : A < 0
          · have HSA : Hid (aTo s (x + 1) = x) := Lib.hid (by rw [hsa, hbx, decide_eq_true hA0]; rfl)
            have HSB : Hid (bTo s (x + 1) = D) := Lib.hid (by rw [hsb, hbx, decide_eq_false (by omega)]; rfl)
            clear hsa hsb hA hD q0 q1
            go_wp2_with fail
            go_roundw
            case rel => exact ⟨x + 1, by omega, by go_num, Q0.out.other (by simp) _, by rw [HSA.out, HSB.out]; exact Q1.out.set 2 _, HB.out.setCell (p := ⟨w.heap.size + 1, 2, none⟩) (by simp) _⟩
            case measure => simp [intOf]; omega
          · have HSA : Hid (aTo s (x + 1) = A) := Lib.hid (by rw [hsa, hbx, decide_eq_false hA0]; rfl)
            have HSB : Hid (bTo s (x + 1) = x) := Lib.hid (by rw [hsb, hbx, decide_eq_true (by omega)]; rfl)
            clear hsa hsb hA hD q0 q1
            go_wp2_with fail
            go_roundw
            case rel => exact ⟨x + 1, by omega, by go_num, Q0.out.other (by simp) _, by rw [HSA.out, HSB.out]; exact Q1.out.set 3 _, HB.out.setCell (p := ⟨w.heap.size + 1, 3, none⟩) (by simp) _⟩
            case measure => simp [intOf]; omega
      · have hxe : x = n := by omega
        subst hxe
        have hsr := HB.out.size
        have HC := Lib.hid (show ∀ j u, ((List.range x).map fun i => Value.int .i64 (r i : Nat))[j]? = some u → (wr.alloc (.cells #[] 3)).cell? ((⟨b, off, none⟩ : Addr).add j) = some u from fun j u hu => by
          obtain ⟨hj, he⟩ := List.getElem?_eq_some_iff.1 hu
          have hjn : j < x := by simpa using hj
          have e2 : u = .int .i64 (r j : Nat) := by rw [← he]; simp
          have e1 : (⟨b, off, none⟩ : Addr).add j = ⟨b, off + j, none⟩ := by
            unfold Addr.add
            split
            · rename_i h0; subst h0; rfl
            · simp
          rw [e1, e2, (HB.out.alloc HB.out.size _).cell (p := ⟨b, off + j, none⟩) hb]
          exact HCN.out j hjn)
        have hx0 : x ≠ 0 := by omega
        clear hsa hsb q0 q1
        go_wp2_with (at_builtin; refine wpList_append_own _ rfl _ _ 23 rfl wr.heap.size 3 i0 (.int .i64 0) 1 8 Tryd.underlying23 hi0 hz1 hz2 hz3 rfl (by decide) _ _ _ rfl (World.ownsRow_made wr #[] 0 (Nat.le_refl _) (Nat.zero_le _) rfl) ⟨b, off, none⟩ x cap ((List.range x).map fun i => Value.int .i64 (r i : Nat)) rfl (by simp) HC.out ?c2 ?c3 ?c4 ?c5 ?_)
        case c2 => first | (intro u hu; obtain ⟨i, _, rfl⟩ := List.mem_map.1 hu; rfl) | (intro u hu; rfl) | (intros; rfl)
        case c3 => unfold maxLen; omega
        case c4 => omega
        try (case c5 => simp)
        intro v' w5 hown hgr _
        have hb5 : Below wr.heap.size wr w5 := ((Below.refl wr.heap.size wr).alloc (Nat.le_refl _) _).grown hgr (by simp) (fun k hk => by simp [Value.ownBlock] at hk; omega)
        have ho : GOwn w5 wr.heap.size v' x r := by simpa [GOwn] using hown
        obtain ⟨g, c1, rfl, hg1, hg2⟩ := own_form' ho hx0
        have Q05 := Lib.hid (Q0.out.below hb5 Q0.out.lt)
        have q15 := Q1.out.below hb5 Q1.out.lt
        have HB5 := Lib.hid (HB.out.trans (hb5.mono HB.out.size))
        have HO := Lib.hid (show GOwn w5 w.heap.size (.slice (some ⟨g, 0, none⟩) c1 c1) x r ∨ True from Or.inr trivial)
        have HO5 := Lib.hid (ownsRow_low ho hsr)
        have hgr0 := Q0.out.lt
        have hgr1 := Q1.out.lt
        clear hown hgr ho Q0 Q1 hb5 HO HC
        by_cases h2 : k = 2
        · subst h2
          obtain ⟨xa, xd, ea, ed, hne, han, hdn, _⟩ := two_bits hn8 hsl HKE.out.symm
          have hA : aTo s x = xa := by rw [HAB.out.1, ← HKE.out, if_neg (by omega), ea]
          have hD : bTo s x = xd := by rw [HAB.out.2, ← HKE.out, if_pos rfl, ed]
          rw [hA, hD] at q15 HF HZ
          have HJ := Lib.hid (join_own (B := w.heap.size) HO5.out (fun i hi => Nat.lt_of_lt_of_le (HBD.out i hi) h8) hn8 han hdn (Nat.le_refl _))
          have q0' := q15.cell (i := 0) rfl
          have q2' := q15.cell (i := 2) rfl
          have q3' := q15.cell (i := 3) rfl
          have H15 := Lib.hid q15
          clear q15 hA hD ea ed
          go_wp2_with (go_at_call 67; refine HJ.out.mono ?_; rintro e w6 ⟨rfl, ho6, hb6, _, hw6⟩; have r1' := hw6 _ _ _ (by omega) H15.out; have r0' := hw6 _ _ _ (by omega) Q05.out; obtain ⟨x0, x1, x2, x3, ⟨g0, g1', g2', g3⟩, ⟨j0, j1, j2, j3⟩, ⟨u0, u1, u2, u3⟩, ⟨l0, l1, l2, l3⟩, hq, hbq, hoq, hkq⟩ := put4 r0' (.int .i64 2) (.int .i64 v) (.int .i64 xa) (.int .i64 xd); have m0 := r1'.cell (i := 0) rfl; have m1 := r1'.cell (i := 1) rfl; have m2 := r1'.cell (i := 2) rfl; have m3 := r1'.cell (i := 3) rfl; have HQ := Lib.hid hq; have HBQ := Lib.hid (hbq w.heap.size w (Nat.le_refl _) (HB5.out.trans hb6)); have HO6 := Lib.hid (show GOwn x3 w.heap.size (.slice (some ⟨g, 0, none⟩) x c1) x (lnkF r xa xd) by rw [← g3, ← g2', ← g1', ← g0]; exact (((GOwn.other ho6 (by omega) 0 _).other (by omega) 1 _).other (by omega) 2 _).other (by omega) 3 _); clear hq hbq hoq hkq ho6 hb6 hw6 r1' r0')
          exact bodyPost_ret (results_reduced rfl HQ.out rfl rfl rfl) rfl ⟨⟨g, c1, by rw [HZ.out]; rfl, by rw [HF.out]; simp only [if_true, Int.toNat_natCast]; exact HO6.out⟩, HBQ.out⟩
        · have e1 : ((k : Int) == 2) = false := by simp; omega
          have e2 : (k == 2) = false := by simp; omega
          have e3 : ¬ (k : Int) = 2 := by omega
          obtain ⟨A, hA⟩ : ∃ A, A = aTo s x := ⟨_, rfl⟩
          obtain ⟨D, hD⟩ : ∃ D, D = bTo s x := ⟨_, rfl⟩
          rw [← hA, ← hD] at q15 HZ
          have m0 := q15.cell (i := 0) rfl
          have m1 := q15.cell (i := 1) rfl
          have m2 := q15.cell (i := 2) rfl
          have m3 := q15.cell (i := 3) rfl
          obtain ⟨x0, x1, x2, x3, ⟨g0, g1', g2', g3⟩, ⟨j0, j1, j2, j3⟩, ⟨u0, u1, u2, u3⟩, ⟨l0, l1, l2, l3⟩, hq, hbq, hoq, hkq⟩ := put4 Q05.out (.int .i64 k) (.int .i64 v) (.int .i64 A) (.int .i64 D)
          have HQ := Lib.hid hq
          have HBQ := Lib.hid (hbq w.heap.size w (Nat.le_refl _) HB5.out)
          have HO6 := Lib.hid (show GOwn x3 w.heap.size (.slice (some ⟨g, 0, none⟩) x c1) x r by
            rw [← g3, ← g2', ← g1', ← g0]
            exact (((GOwn.other HO5.out (by omega) 0 _).other (by omega) 1 _).other (by omega) 2 _).other (by omega) 3 _)
          clear hq hbq hoq hkq q15 hA hD
          go_wp2_with fail
          exact bodyPost_ret (results_reduced rfl HQ.out rfl rfl rfl) rfl ⟨⟨g, c1, by rw [HZ.out]; rfl, by rw [HF.out, if_neg h2]; exact HO6.out⟩, HBQ.out⟩

end Go.Proofs.YtfmppncefbjicaaDoor

namespace Go.Proofs.YtfmppncefbjicaaDoor
open Go.RowKit Go.Maps
attribute [local go_sem] i64_bit toNat_eq_one toNat_ne_one toNat_eq_zero toNat_ne_zero i64_and i64_or i64_andNot i64_or_pow i64_andNot_pow

theorem rdF_lt {n left v : Nat} {r : Nat → Nat} (hn8 : n ≤ 8) (hbd : ∀ i, i < n → r i < 2 ^ n) (hv : v < n) : ∀ i, i < n → rdF n r left v i < 2 ^ n := by
  unfold rdF
  split
  · rename_i h2
    have hs : r v &&& left < 2 ^ n := Nat.lt_of_le_of_lt Nat.and_le_left (hbd v hv)
    obtain ⟨a, b, ea, eb, _, ha, hb, _⟩ := two_bits hn8 hs h2
    obtain ⟨h3, h4⟩ := ab_is n (by omega) _ hs (by omega)
    rw [h3, h4, if_neg (by omega), if_pos h2, Int.toNat_natCast, Int.toNat_natCast, ← eb, ← ea]
    exact lnkF_lt hbd ha hb
  · exact hbd
/-- Whether reductions are the reference's in turn, and leave nothing. -/
def refA (n : Nat) : (Nat → Nat) → Nat → List StZ → Bool
  | _, left, [] => left == 0
  | r, left, x :: L => inB x.2.1 n && (rdP n r left x.2.1.toNat && (decide (rdZ n r left x.2.1.toNat = x) && refA n (rdF n r left x.2.1.toNat) (diff left (2 ^ x.2.1.toNat)) L))
/-- Reductions that stand somewhere. -/
def StepsAt (w : World) (a : Option Addr) (L : List StZ) : Prop :=
  L ≠ [] → ∃ g off, a = some ⟨g, off, none⟩ ∧ g < w.heap.size ∧ ∀ i x, L[i]? = some x → ∀ j u, (stC x)[j]? = some u → w.cell? ⟨g, off + i * 4 + j, none⟩ = some u
theorem plain_int' : Tryd.prog.plainKey 3 = true := by kernel_rfl
theorem run_eq_stepR (w : World) (d : Nat) (x y : StZ) : (Op.equalIn (d + 2) 51 (stV x) (stV y)).run Tryd.prog w = .ok (decide (x = y)) w := by
  obtain ⟨a1, a2, a3, a4⟩ := x
  obtain ⟨b1, b2, b3, b4⟩ := y
  unfold stV stC
  rw [run_equalIn_struct w (d + 1) 51 _ _ (by kernel_rfl) (by kernel_rfl)]
  have hp : ∀ (xs : Array Value) (o : Nat) (v : Value), xs[o]? = some v → (part 3 xs o).run Tryd.prog w = .ok v w := fun xs o v h => run_part_plain w plain_int' h
  have q1 : ∀ x y : Int, (Op.equalIn (d + 1) 3 (.int .i64 x) (.int .i64 y)).run Tryd.prog w = .ok (x == y) w := fun x y => run_equalIn_int w d _ _ _ x y Tryd.underlying3
  have hf : (Tryd.prog.fieldsOf 51).toList.map (fun f => (f.name, f.type, f.offset)) = [("Kind", 3, 0), ("Node", 3, 1), ("A", 3, 2), ("B", 3, 3)] := by kernel_rfl
  generalize (Tryd.prog.fieldsOf 51).toList = fs at *
  have hlen : fs.length = 4 := by simpa using congrArg List.length hf
  obtain ⟨f, g, h, k, rfl⟩ : ∃ f g h k, fs = [f, g, h, k] := by
    match fs, hlen with
    | [f, g, h, k], _ => exact ⟨f, g, h, k, rfl⟩
  simp only [List.map_cons, List.map_nil, List.cons.injEq, Prod.mk.injEq, and_true] at hf
  obtain ⟨⟨f1, f2, f3⟩, ⟨g1, g2, g3⟩, ⟨h1, h2, h3⟩, k1, k2, k3⟩ := hf
  have n1 : f.name ≠ "_" := by rw [f1]; decide
  have n2 : g.name ≠ "_" := by rw [g1]; decide
  have n3 : h.name ≠ "_" := by rw [h1]; decide
  have n4 : k.name ≠ "_" := by rw [k1]; decide
  have p0 : ∀ a b c e : Int, (part 3 #[.int .i64 a, .int .i64 b, .int .i64 c, .int .i64 e] 0).run Tryd.prog w = .ok (.int .i64 a) w := fun a b c e => hp _ 0 _ rfl
  have p1 : ∀ a b c e : Int, (part 3 #[.int .i64 a, .int .i64 b, .int .i64 c, .int .i64 e] 1).run Tryd.prog w = .ok (.int .i64 b) w := fun a b c e => hp _ 1 _ rfl
  have p2 : ∀ a b c e : Int, (part 3 #[.int .i64 a, .int .i64 b, .int .i64 c, .int .i64 e] 2).run Tryd.prog w = .ok (.int .i64 c) w := fun a b c e => hp _ 2 _ rfl
  have p3 : ∀ a b c e : Int, (part 3 #[.int .i64 a, .int .i64 b, .int .i64 c, .int .i64 e] 3).run Tryd.prog w = .ok (.int .i64 e) w := fun a b c e => hp _ 3 _ rfl
  simp only [Op.eqFields, n1, n2, n3, n4, ne_eq, not_false_eq_true, if_true, f2, f3, g2, g3, h2, h3, k2, k3, Sem.run_bind, p0, q1, Result.andThen_ok]
  by_cases e1 : a1 = b1
  · subst e1
    simp only [beq_self_eq_true, Bool.not_true, Bool.false_eq_true, if_false, Sem.run_bind, p1, q1, Result.andThen_ok]
    by_cases e2 : a2 = b2
    · subst e2
      simp only [beq_self_eq_true, Bool.not_true, Bool.false_eq_true, if_false, Sem.run_bind, p2, q1, Result.andThen_ok]
      by_cases e3 : a3 = b3
      · subst e3
        simp only [beq_self_eq_true, Bool.not_true, Bool.false_eq_true, if_false, Sem.run_bind, p3, q1, Result.andThen_ok]
        by_cases e4 : a4 = b4
        · subst e4; simp
        · simp [e4]
      · simp [e3]
    · simp [e2]
  · simp [e1]
theorem run_neq_stepR (w : World) (x y : StZ) : (binOp .neq 51 (stV x) (stV y)).run Tryd.prog w = .ok (.bool (!decide (x = y))) w := by
  rw [show stV x = .agg (stC x).toArray from rfl, show stV y = .agg (stC y).toArray from rfl, run_neq_struct]
  have h := run_eq_stepR w 9998 x y
  unfold stV at h
  rw [h]
  rfl
theorem rdZ_form (n : Nat) (r : Nat → Nat) (left v : Nat) : ∃ k a b : Int, rdZ n r left v = (k, ((v : Nat) : Int), a, b) := ⟨_, _, _, rfl⟩

set_option maxRecDepth 100000 in
set_option maxHeartbeats 4000000 in
theorem ReducesR_any {n : Nat} {r : Nat → Nat} {a : Option Addr} {w : World} {al : Option Addr} {cl : Nat} {L : List StZ} (T : Tn w a n r) (cap : Nat) (hL : StepsAt w al L) (hlen : L.length ≤ maxLen) :
    Calls Tryd.prog 38 #[.slice a n cap, .slice al L.length cl] w fun e w' => e = .returned (.bool (refA n r (2 ^ n - 1) L)) ∧ Below w.heap.size w w' := by
  have hn8 := T.le
  have hn1 := T.at_.pos
  have h8 := pow_le8 hn8
  have hbd := T.bd
  obtain ⟨bt, ot, rfl, hbt, hct⟩ := T.at_.ints.2 hn1
  have HL := Lib.hid hL
  unfold maxLen at hlen
  have hpp := pow_pred n
  have h2n := Nat.two_pow_pos n
  have hpb := pow_bd n (by omega)
  have HBD := Lib.hid hbd
  have HCT := Lib.hid hct
  obtain ⟨P, hP⟩ : ∃ P, P = 2 ^ n - 1 := ⟨_, rfl⟩
  have hPn : P < 2 ^ n := by omega
  rw [← hP] at hpp ⊢
  clear T hL hbd hct hP
  go_enter Tryd.func38, Tryd.ntmps38
  go_wp2_with fail
  go_loopw [0, 5, 17] (fun gv lv i wr => ∃ (k b off c left : Nat) (q : Nat → Nat), k ≤ L.length ∧ i = .int .i64 k ∧ gv = .slice (some ⟨b, off, none⟩) n c ∧ lv = .int .i64 left ∧ refA n q left (L.drop k) = refA n r P L ∧ (∀ i, i < n → q i < 2 ^ n) ∧ left < 2 ^ n ∧ b < wr.heap.size ∧ (∀ i, i < n → wr.cell? ⟨b, off + i, none⟩ = some (.int .i64 (q i : Nat))) ∧ Below w.heap.size w wr) (fun _ _ i _ => L.length - (intOf i).toNat)
  case atStart => exact ⟨0, bt, ot, cap, P, r, Nat.zero_le _, rfl, rfl, by first | rfl | (rw [← hpp]; try rfl) | (go_num), rfl, HBD.out, hPn, hbt, HCT.out, Below.refl _ _⟩
  case round =>
    obtain ⟨k, b, off, c, left, q, hk, rfl, rfl, rfl, hare, hq, hl, hb, hcq, hB⟩ := hrel
    have HB := Lib.hid hB
    have HQ := Lib.hid hq
    have HCQ := Lib.hid hcq
    clear hB hq hcq HCT HBD
    by_cases hlt : k < L.length
    · obtain ⟨x, hx⟩ : ∃ x, L[k]? = some x := ⟨L[k], by simp [hlt]⟩
      have hdr : L.drop k = x :: L.drop (k + 1) := by rw [List.drop_eq_getElem_cons hlt]; rw [List.getElem?_eq_getElem hlt] at hx; simp at hx; rw [hx]
      rw [hdr] at hare
      obtain ⟨gl, ol, rfl, hgl, hce⟩ := HL.out (by rintro rfl; simp at hlt)
      obtain ⟨x1, x2, x3, x4⟩ := x
      have y0 : wr.cell? ⟨gl, ol + k * 4, none⟩ = some (.int .i64 x1) := (HB.out.cell (p := ⟨gl, ol + k * 4, none⟩) hgl).trans (hce k _ hx 0 _ rfl)
      have y1 : wr.cell? ⟨gl, ol + k * 4 + 1, none⟩ = some (.int .i64 x2) := (HB.out.cell (p := ⟨gl, ol + k * 4 + 1, none⟩) hgl).trans (hce k _ hx 1 _ rfl)
      have y2 : wr.cell? ⟨gl, ol + k * 4 + 2, none⟩ = some (.int .i64 x3) := (HB.out.cell (p := ⟨gl, ol + k * 4 + 2, none⟩) hgl).trans (hce k _ hx 2 _ rfl)
      have y3 : wr.cell? ⟨gl, ol + k * 4 + 3, none⟩ = some (.int .i64 x4) := (HB.out.cell (p := ⟨gl, ol + k * 4 + 3, none⟩) hgl).trans (hce k _ hx 3 _ rfl)
      have HARE : Hid ((inB x2 n && (rdP n q left x2.toNat && (decide (rdZ n q left x2.toNat = (x1, x2, x3, x4)) && refA n (rdF n q left x2.toNat) (diff left (2 ^ x2.toNat)) (L.drop (k + 1))))) = refA n r P L) := Lib.hid hare
      clear hce hx hdr hare
      obtain ⟨w2, hw2, r2, hb2, hs2⟩ := new1 wr 51 [.int .i64 x1, .int .i64 x2, .int .i64 x3, .int .i64 x4]
      have hW2 := hw2.symm
      have m0 := r2.cell (i := 0) rfl
      have m1 := r2.cell (i := 1) rfl
      have m2 := r2.cell (i := 2) rfl
      have m3 := r2.cell (i := 3) rfl
      have HR2 := Lib.hid r2
      have HB2 := Lib.hid hb2
      clear hw2 r2 hb2
      cases hin : inB x2 n
      · rw [hin] at HARE
        have hno : ¬ (0 ≤ x2 ∧ x2 < n) := fun h => by rw [inB_iff.2 h] at hin; cases hin
        by_cases h0 : x2 < 0
        · clear hin
          go_wp2_with fail
          exact bodyPost_ret (results_tmp rfl _ _ _) rfl ⟨by rw [← HARE.out]; rfl, HB.out.trans (HB2.out.mono HB.out.size)⟩
        · have h1 : (n : Int) ≤ x2 := by omega
          clear hin
          go_wp2_with fail
          exact bodyPost_ret (results_tmp rfl _ _ _) rfl ⟨by rw [← HARE.out]; rfl, HB.out.trans (HB2.out.mono HB.out.size)⟩
      · obtain ⟨h0, h1⟩ := inB_iff.1 hin
        obtain ⟨v, rfl⟩ : ∃ v : Nat, x2 = v := ⟨x2.toNat, by omega⟩
        have hvn : v < n := by omega
        rw [hin, Bool.true_and, Int.toNat_natCast] at HARE
        clear hin
        have HRD := Lib.hid (reducedR_any (cap := c) (w := w2) hn1 hn8 (Nat.lt_of_lt_of_le hb HB2.out.size) (fun i hi => (HB2.out.cell (p := ⟨b, off + i, none⟩) hb).trans (HCQ.out i hi)) HQ.out hl hvn)
        have hl16 : left < 65536 := by omega
        have hv16 : v < 16 := by omega
        have hpv := pow_bd v hv16
        have han := i64_andNot_pow left v hl16 hv16
        have HAN2 : Hid (bits .andNot .i64 ((left : Nat) : Int) (IntKind.i64.wrap ((2 : Int) ^ v)) = ((diff left (2 ^ v) : Nat) : Int)) := Lib.hid (by rw [IntWalk.i64_in ((2 : Int) ^ v) (by omega)]; exact han)
        have han2 := HAN2.out
        cases hrd : rdP n q left v
        · rw [hrd, Bool.false_and] at HARE
          have HR1 : Hid (Calls Tryd.prog 71 #[.slice (some ⟨b, off, none⟩) n c, .int .i64 left, .int .i64 v] w2 fun e w' => e = .returned (.tuple #[.agg #[.int .i64 0, .int .i64 0, .int .i64 0, .int .i64 0], .slice (some ⟨b, off, none⟩) n c, .bool false]) ∧ Below w2.heap.size w2 w') := Lib.hid (HRD.out.mono fun e w' ⟨h, hb⟩ => ⟨by simp only [hrd, Bool.false_eq_true, if_false] at h; exact h, hb⟩)
          clear hrd HRD
          go_wp2_with (go_at_call 71; refine HR1.out.mono ?_; rintro e w3 ⟨rfl, hb3⟩; have HB3 := Lib.hid (HB.out.trans ((HB2.out.trans (hb3.mono HB2.out.size)).mono HB.out.size)); clear hb3)
          exact bodyPost_ret (results_tmp rfl _ _ _) rfl ⟨by rw [← HARE.out]; rfl, HB3.out.alloc HB3.out.size _⟩
        · rw [hrd, Bool.true_and] at HARE
          obtain ⟨kz, az, bz, hz⟩ := rdZ_form n q left v
          rw [hz] at HARE
          have HR1 : Hid (Calls Tryd.prog 71 #[.slice (some ⟨b, off, none⟩) n c, .int .i64 left, .int .i64 v] w2 fun e w' => ∃ g c', e = .returned (.tuple #[.agg #[.int .i64 kz, .int .i64 (v : Nat), .int .i64 az, .int .i64 bz], .slice (some ⟨g, 0, none⟩) n c', .bool true]) ∧ GOwn w' w2.heap.size (.slice (some ⟨g, 0, none⟩) n c') n (rdF n q left v) ∧ Below w2.heap.size w2 w') := Lib.hid (HRD.out.mono fun e w' ⟨h, hb⟩ => by
            simp only [hrd, if_true] at h
            obtain ⟨g, c', h1, h2⟩ := h
            rw [hz] at h1
            exact ⟨g, c', h1, h2, hb⟩)
          have HFB := Lib.hid (rdF_lt (left := left) hn8 HQ.out hvn)
          have hneq : ∀ W : World, (binOp .neq 51 (.agg #[.int .i64 kz, .int .i64 (v : Nat), .int .i64 az, .int .i64 bz]) (.agg #[.int .i64 x1, .int .i64 (v : Nat), .int .i64 x3, .int .i64 x4])).run Tryd.prog W = .ok (.bool (!decide ((kz, ((v : Nat) : Int), az, bz) = (x1, ((v : Nat) : Int), x3, x4)))) W := fun W => run_neq_stepR W (kz, ((v : Nat) : Int), az, bz) (x1, ((v : Nat) : Int), x3, x4)
          clear hrd HRD hz
          cases hd : decide ((kz, ((v : Nat) : Int), az, bz) = (x1, ((v : Nat) : Int), x3, x4))
          all_goals
            rw [hd] at HARE
            simp only [hd, Bool.not_true, Bool.not_false] at hneq
            clear hd
            go_wp2_with (go_at_call 71; refine HR1.out.mono ?_; rintro e w3 ⟨g, c', rfl, ho3, hb3⟩; obtain ⟨w4, hw4, r4, hb4, hs4⟩ := new1 w3 51 [.int .i64 kz, .int .i64 (v : Nat), .int .i64 az, .int .i64 bz]; have hW4 := hw4.symm; have z0 := r4.cell (i := 0) rfl; have z1 := r4.cell (i := 1) rfl; have z2 := r4.cell (i := 2) rfl; have z3 := r4.cell (i := 3) rfl; have hb24 := hb3.trans (hb4.mono hb3.size); have t2 := HR2.out.below hb24 HR2.out.lt; have n0 := t2.cell (i := 0) rfl; have n1 := t2.cell (i := 1) rfl; have n2 := t2.cell (i := 2) rfl; have n3 := t2.cell (i := 3) rfl; have HO4 : Hid (GOwn w4 w2.heap.size (.slice (some ⟨g, 0, none⟩) n c') n (rdF n q left v)) := Lib.hid (ownsRow_below ho3 hb4 (Nat.le_refl _)); have HB4 := Lib.hid (HB.out.trans ((HB2.out.trans (hb24.mono HB2.out.size)).mono HB.out.size)); clear ho3 hb3 hb4 hw4 r4 t2 hb24)
          · exact bodyPost_ret (results_tmp rfl _ _ _) rfl ⟨by rw [← HARE.out]; rfl, HB4.out⟩
          · go_roundw
            case rel => exact ⟨k + 1, g, 0, c', diff left (2 ^ v), rdF n q left v, by omega, by go_num, rfl, by first | rfl | (rw [HAN2.out]) | (rw [han]), HARE.out, HFB.out, Nat.lt_of_le_of_lt (diff_le _ _) hl, (World.ownsRow.lt HO4.out g rfl).2, fun i hi => by rw [Nat.zero_add]; exact HO4.out.at_ hi, HB4.out⟩
            case measure => simp [intOf]; omega
    · have hke : k = L.length := by omega
      subst hke
      have HARE : Hid ((left == 0) = refA n r P L) := Lib.hid (by rw [← hare, List.drop_length]; rfl)
      clear hare
      go_wp2_with fail
      refine bodyPost_ret (results_tmp rfl _ _ _) rfl ⟨?_, HB.out⟩
      rw [← HARE.out]
      have e : (((left : Nat) : Int) == 0) = (left == 0) := by rw [Bool.eq_iff_iff, beq_iff_eq, beq_iff_eq]; omega
      show Ending.returned (.bool (((left : Nat) : Int) == 0)) = _
      rw [e]

end Go.Proofs.YtfmppncefbjicaaDoor
