/- The contract of package ears' isNumbering. -/
import Derived.Test.YtcpdedgmhpehiaaDoorEi
import Derived.Test.YtcpdedgmhpehiaaDoorEj
import Derived.Test.YtcpdedgmhpehiaaDoorW2
namespace Go.Proofs.YtcpdedgmhpehiaaDoor
set_option linter.unusedSimpArgs false
set_option linter.unusedVariables false
open Go.RowKit Go.Maps
attribute [local go_sem] i64_bit toNat_eq_one toNat_ne_one toNat_eq_zero toNat_ne_zero i64_and i64_or i64_andNot i64_or_pow i64_andNot_pow

/-- Whether place k of a numbering is right. -/
def okN (n : Nat) (r : Nat → Nat) (z : Nat → Int) (k : Nat) : Bool :=
  okO n z k && (!(decide (0 < k) && decide (k < n - 1)) || (r (z k).toNat &&& metO z k != 0 && !(diff (r (z k).toNat) (metO z k) == 0)))
/-- Whether numbers are a numbering, as the program asks it. -/
def numB (n : Nat) (r : Nat → Nat) (m : Nat) (z : Nat → Int) : Bool := m == n && nbB n r (z 0) (z (n - 1)) && (List.range n).all (okN n r z)
theorem numB_bad {n m : Nat} {r : Nat → Nat} {z : Nat → Int} {k : Nat} (hk : k < n) (h : okN n r z k = false) : numB n r m z = false := by
  unfold numB
  have hf : (List.range n).all (okN n r z) = false := by
    rw [Bool.eq_false_iff]
    intro ha
    rw [List.all_eq_true.1 ha k (List.mem_range.2 hk)] at h
    cases h
  rw [hf, Bool.and_false]

theorem okN_okO {n : Nat} {r : Nat → Nat} {z : Nat → Int} {k : Nat} (h : okN n r z k = true) : okO n z k = true := by
  unfold okN at h
  rw [Bool.and_eq_true] at h
  exact h.1

set_option maxRecDepth 20000 in
set_option maxHeartbeats 4000000 in
theorem isNumbering_any {n m : Nat} {r : Nat → Nat} {z : Nat → Int} {ad o : Option Addr} {w : World} (G : GrAt w ad n r) (hn10 : n ≤ 10) (hr : ∀ i, i < n → r i < 2 ^ n) (cap co : Nat) (hI : IntsAt w o m z) :
    Calls Tryd.prog 82 #[.slice ad n cap, .slice o m co] w fun e w' => e = .returned (.bool (numB n r m z)) ∧ Below w.heap.size w w' := by
  have hpos := G.pos
  have hn16 : n < 16 := by omega
  have h10 := pow_le10 hn10
  have hml := hI.1
  unfold maxLen at hml
  have hml2 := G.ints.1
  unfold maxLen at hml2
  by_cases hmn : m = n
  rotate_left
  · have HX : Hid (numB n r m z = false) := Lib.hid (by unfold numB; rw [show (m == n) = false from beq_eq_false_iff_ne.2 hmn]; rfl)
    have d1 : ((m : Int) != (n : Int)) = true := by rw [bne_iff_ne]; omega
    clear G hr hI
    go_enter Tryd.func82, Tryd.ntmps82
    go_wp2_with fail
    go_quiet (fail)
    go_wp2_with fail
    go_ret
    exact ⟨by rw [HX.out]; rfl, below_drewN (Below.refl _ _) _⟩
  subst hmn
  obtain ⟨ob, oo, rfl, hlt, hc⟩ := hI.2 hpos
  have HC := Lib.hid hc
  have c0 := hc 0 hpos
  rw [Nat.add_zero] at c0
  have cl := hc (m - 1) (by omega)
  have hix : ((m : Int) - 1).toNat = m - 1 := by omega
  have HNB : Hid (∀ nq, Calls Tryd.prog 76 #[.slice ad m cap, .int .i64 (z 0), .int .i64 (z (m - 1))] (w.drewN nq) fun e w' => e = .returned (.bool (nbB m r (z 0) (z (m - 1)))) ∧ w' = w.drewN nq) := Lib.hid fun nq => (areNeighbours_any (G.below (below_drewN (Below.refl _ _) nq)) hn10 hr cap (z 0) (z (m - 1))).mono fun _ _ ⟨h1, h2⟩ => ⟨h1, h2.symm⟩
  have HG := Lib.hid G
  have HR := Lib.hid hr
  obtain ⟨_, hI2⟩ := G.ints
  obtain ⟨b, off, rfl, hlt2, hc2⟩ := hI2 hpos
  have HC2 := Lib.hid hc2
  have d1 : ((m : Int) != (m : Int)) = false := by simp
  cases hnb : nbB m r (z 0) (z (m - 1))
  · have HX : Hid (numB m r m z = false) := Lib.hid (by unfold numB; rw [hnb]; simp)
    rw [hnb] at HNB
    generalize z 0 = z0 at *
    generalize z (m - 1) = z1 at *
    clear G hr hI hc hc2 hI2 hnb
    go_enter Tryd.func82, Tryd.ntmps82
    go_wp2_with fail
    go_quiet ((go_at_call 76; exact Calls.quiet_of_same (HNB.out _)))
    go_wp2_with fail
    go_ret
    exact ⟨by rw [HX.out]; rfl, below_drewN (Below.refl _ _) _⟩
  · have HNN := Lib.hid hnb
    rw [hnb] at HNB
    clear G hr hI hc hc2 hI2 hnb
    go_enter Tryd.func82, Tryd.ntmps82
    go_wp2_with fail
    go_quiet ((go_at_call 76; exact Calls.quiet_of_same (HNB.out _)))
    have HD0 := Lib.hid (⟨nq, rfl⟩ : ∃ c, w.drewN nq = w.drewN c)
    generalize w.drewN nq = wq at *
    clear HNB c0 cl
    go_wp2_with fail
    go_loopw [6, 32] (fun f i wr => ∃ k : Nat, k ≤ m ∧ i = .int .i64 k ∧ f = .int .i64 (metO z k : Nat) ∧ (∀ i, i < k → okN m r z i = true) ∧ ∃ c, wr = w.drewN c) (fun _ i _ => m - (intOf i).toNat)
    case atStart => exact ⟨0, Nat.zero_le _, rfl, rfl, by omega, HD0.out⟩
    case round =>
      obtain ⟨k, hk, rfl, rfl, hok, c, rfl⟩ := hrel
      have HOK := Lib.hid hok
      have hmet := metO_lt k fun i hi => okN_okO (hok i hi)
      have HBW : Hid (∀ j, Below w.heap.size w (w.drewN j)) := Lib.hid fun j => below_drewN (Below.refl _ _) j
      clear hok HD0
      by_cases hltk : k < m
      · have ck : (w.drewN c).cell? ⟨ob, oo + k, none⟩ = some (.int .i64 (z k)) := HC.out k hltk
        cases g1 : inB (z k) m
        · have HF := Lib.hid (numB_bad (r := r) (m := m) hltk (show okN m r z k = false by unfold okN okO; rw [g1]; rfl))
          have G1 := Lib.hid g1
          generalize z k = zk at *
          clear g1
          go_wp2_with (go_at_call 108; refine (isNode_any _ _ _ _ _ hn16).mono ?_; rintro e w1 ⟨rfl, rfl⟩; rw [G1.out])
          go_ret
          exact ⟨by rw [HF.out]; rfl, HBW.out _⟩
        · have G1 := Lib.hid g1
          have hin := inB_iff.1 g1
          obtain ⟨s, hs⟩ : ∃ s : Nat, z k = s := ⟨(z k).toNat, by omega⟩
          have hsm : s < m := by omega
          have cs : (w.drewN c).cell? ⟨b, off + s, none⟩ = some (.int .i64 (r s : Nat)) := HC2.out s hsm
          have hrs := HR.out s hsm
          have HKN : Hid (okN m r z k = (!(metO z k).testBit s && (!(decide (0 < k) && decide (k < m - 1)) || (r s &&& metO z k != 0 && !(diff (r s) (metO z k) == 0))))) := Lib.hid (by unfold okN okO; rw [g1, hs, Int.toNat_natCast]; rfl)
          have HST : Hid (metO z (k + 1) = metO z k ||| 2 ^ s) := Lib.hid (by show _ ||| 2 ^ (z k).toNat = _; rw [hs, Int.toNat_natCast])
          rw [hs] at ck G1
          clear g1 hin
          generalize metO z k = M at *
          have hM16 : M < 65536 := by omega
          have hs16 : s < 16 := by omega
          have hs64 : s < 64 := by omega
          have hps := pow_bd s hs16
          have hr16 : r s < 65536 := by omega
          have hi1 : decide (0 < (k : Int)) = decide (0 < k) := by apply decide_eq_decide.2; omega
          have hi2 : decide ((k : Int) < (m : Int) - 1) = decide (k < m - 1) := by apply decide_eq_decide.2; omega
          cases g3 : M.testBit s
          rotate_left
          · have HF := Lib.hid (numB_bad (r := r) (m := m) hltk (by rw [HKN.out, g3]; rfl))
            have G3 := Lib.hid g3
            clear g3
            go_wp2_with (first
              | (go_at_call 108; refine (isNode_any _ _ _ _ _ hn16).mono ?_; rintro e w1 ⟨rfl, rfl⟩; rw [G1.out])
              | (go_at_call 90; refine (has_any _ _ _ hM16 hs64).mono ?_; rintro e w1 ⟨rfl, rfl⟩; rw [G3.out]))
            go_ret
            exact ⟨by rw [HF.out]; rfl, HBW.out _⟩
          · have G3 := Lib.hid g3
            rw [g3] at HKN
            clear g3
            have hext : okN m r z k = true → ∀ i, i < k + 1 → okN m r z i = true := fun h i hi => by
              rcases Nat.lt_succ_iff_lt_or_eq.1 hi with h2 | h2
              · exact HOK.out i h2
              · rw [h2]; exact h
            have HEX := Lib.hid hext
            clear hext
            by_cases hin : 0 < k ∧ k < m - 1
            · rw [decide_eq_true hin.1, decide_eq_true hin.2] at HKN
              have hk0 : 0 < k := hin.1
              have hki : (k : Int) < (m : Int) - 1 := by omega
              clear hi1 hi2
              have hand : r s &&& M < 65536 := Nat.lt_of_le_of_lt Nat.and_le_left hr16
              clear hin
              by_cases hX : r s &&& M = 0
              · have HF := Lib.hid (numB_bad (r := r) (m := m) hltk (by rw [HKN.out, hX]; rfl))
                have HD : Hid (True = True) := Lib.hid rfl
                have hx : (((r s &&& M : Nat) : Int) == 0) = true := by rw [hX]; rfl
                clear hX
                go_wp2_with (first
                  | (go_at_call 108; refine (isNode_any _ _ _ _ _ hn16).mono ?_; rintro e w1 ⟨rfl, rfl⟩; rw [G1.out])
                  | (go_at_call 90; refine (has_any _ _ _ hM16 hs64).mono ?_; rintro e w1 ⟨rfl, rfl⟩; rw [G3.out])
                  | (go_at_call 117; refine (isPart_any _ _ _ hr16 hM16).mono ?_; rintro e w1 ⟨rfl, rfl⟩; rw [HD.out]))
                all_goals first
                  | (exfalso; omega)
                  | (go_ret; exact ⟨by rw [HF.out]; rfl, HBW.out _⟩)
              · have hx : (((r s &&& M : Nat) : Int) == 0) = false := by rw [beq_eq_false_iff_ne]; omega
                cases hd : diff (r s) M == 0
                · have HD := Lib.hid hd
                  have HOK2 := Lib.hid (HEX.out (by rw [HKN.out, hd, bne_iff_ne.2 hX]; rfl))
                  clear hd hX
                  go_wp2_with (first
                    | (go_at_call 108; refine (isNode_any _ _ _ _ _ hn16).mono ?_; rintro e w1 ⟨rfl, rfl⟩; rw [G1.out])
                    | (go_at_call 90; refine (has_any _ _ _ hM16 hs64).mono ?_; rintro e w1 ⟨rfl, rfl⟩; rw [G3.out])
                    | (go_at_call 117; refine (isPart_any _ _ _ hr16 hM16).mono ?_; rintro e w1 ⟨rfl, rfl⟩; rw [HD.out]))
                  all_goals
                    first
                      | (exfalso; omega)
                      | (go_roundw; (case rel => exact ⟨k + 1, by omega, by go_num, by rw [HST.out], HOK2.out, ⟨_, rfl⟩⟩); (case measure => simp [intOf]; omega))
                · have HD := Lib.hid hd
                  have HF := Lib.hid (numB_bad (r := r) (m := m) hltk (by rw [HKN.out, hd]; simp))
                  clear hd hX
                  go_wp2_with (first
                    | (go_at_call 108; refine (isNode_any _ _ _ _ _ hn16).mono ?_; rintro e w1 ⟨rfl, rfl⟩; rw [G1.out])
                    | (go_at_call 90; refine (has_any _ _ _ hM16 hs64).mono ?_; rintro e w1 ⟨rfl, rfl⟩; rw [G3.out])
                    | (go_at_call 117; refine (isPart_any _ _ _ hr16 hM16).mono ?_; rintro e w1 ⟨rfl, rfl⟩; rw [HD.out]))
                  all_goals first
                    | (exfalso; omega)
                    | (go_ret; exact ⟨by rw [HF.out]; rfl, HBW.out _⟩)
            · have HD : Hid (True = True) := Lib.hid rfl
              have hno : (decide (0 < k) && decide (k < m - 1)) = false := by
                rw [Bool.and_eq_false_iff, decide_eq_false_iff_not, decide_eq_false_iff_not]; omega
              have HOK2 := Lib.hid (HEX.out (by rw [HKN.out, hno]; rfl))
              by_cases hk0 : 0 < k
              · have hk1 : ¬ k < m - 1 := fun h => hin ⟨hk0, h⟩
                have hki : ¬ (k : Int) < (m : Int) - 1 := by omega
                clear hin hno hk1 hi1 hi2
                go_wp2_with (first
                  | (go_at_call 108; refine (isNode_any _ _ _ _ _ hn16).mono ?_; rintro e w1 ⟨rfl, rfl⟩; rw [G1.out])
                  | (go_at_call 90; refine (has_any _ _ _ hM16 hs64).mono ?_; rintro e w1 ⟨rfl, rfl⟩; rw [G3.out])
                  | (go_at_call 117; refine (isPart_any _ _ _ hr16 hM16).mono ?_; rintro e w1 ⟨rfl, rfl⟩; rw [HD.out]))
                all_goals
                  first
                    | (exfalso; omega)
                    | (go_roundw; (case rel => exact ⟨k + 1, by omega, by go_num, by rw [HST.out], HOK2.out, ⟨_, rfl⟩⟩); (case measure => simp [intOf]; omega))
              · clear hin hno hi1 hi2
                go_wp2_with (first
                  | (go_at_call 108; refine (isNode_any _ _ _ _ _ hn16).mono ?_; rintro e w1 ⟨rfl, rfl⟩; rw [G1.out])
                  | (go_at_call 90; refine (has_any _ _ _ hM16 hs64).mono ?_; rintro e w1 ⟨rfl, rfl⟩; rw [G3.out])
                  | (go_at_call 117; refine (isPart_any _ _ _ hr16 hM16).mono ?_; rintro e w1 ⟨rfl, rfl⟩; rw [HD.out]))
                all_goals
                  first
                    | (exfalso; omega)
                    | (go_roundw; (case rel => exact ⟨k + 1, by omega, by go_num, by rw [HST.out], HOK2.out, ⟨_, rfl⟩⟩); (case measure => simp [intOf]; omega))
      · have hke : k = m := by omega
        have HX : Hid (numB m r m z = true) := Lib.hid (by
          unfold numB
          rw [HNN.out, show (m == m) = true from beq_self_eq_true m, List.all_eq_true.2 (fun i hi => HOK.out i (by rw [hke]; exact List.mem_range.1 hi))]
          rfl)
        subst hke
        go_wp2_with fail
        go_ret
        exact ⟨by rw [HX.out]; rfl, HBW.out _⟩

end Go.Proofs.YtcpdedgmhpehiaaDoor
