/- The contracts of the law's fine and of the reference's IsNarrow. -/
import Derived.Test.YtombmfphodikjaaL4a
namespace Go.Proofs.Ytombmfphodikjaa
set_option linter.unusedSimpArgs false
set_option linter.unusedVariables false
open Go.RowKit Go.Maps

attribute [local go_sem] i64_bit toNat_eq_one toNat_ne_one toNat_eq_zero toNat_ne_zero i64_and i64_or i64_andNot i64_or_pow i64_andNot_pow

set_option maxRecDepth 20000 in
set_option maxHeartbeats 2000000 in
theorem fine_any {n m q : Nat} {z y p : Nat → Int} {a ba pa : Option Addr} (cap ca cb : Nat) {w : World} (hI : IntsAt w a n z) (hz : InI64 z) (T : TreeAt w ba pa m q y p) :
    Calls Try.prog 31 #[.slice a n cap, treeV ba m ca pa q cb] w fun e w' => e = .returned (.bool (graphB n 9 z && decB n (natG z) m q y p)) ∧ Below w.heap.size w w' := by
  obtain ⟨w0, hw0, R0, hb0, hs0⟩ := new1 w 41 [.slice ba m ca, .slice pa q cb]
  have HI := Lib.hid (hI.below hb0)
  have HT := Lib.hid (T.below hb0)
  have HZ := Lib.hid hz
  have HW0 := Lib.hid hw0
  have HB := Lib.hid hb0
  have HR := Lib.hid R0
  cases hg : graphB n 9 z
  · clear hI hz T hw0 hb0 R0
    go_enter Try.func31, Try.ntmps31
    go_wp2_with fail
    rw [← HW0.out]
    go_at_call 17
    refine (ValidR_any n z _ _ _ HI.out HZ.out).mono ?_
    rintro e w1 ⟨rfl, hb1⟩
    rw [hg]
    have HB1 := Lib.hid (HB.out.trans (hb1.mono HB.out.size))
    go_wp2_with fail
    go_ret
    exact ⟨rfl, HB1.out⟩
  · have HGR := Lib.hid (graph_gr (hI.below hb0) hg)
    obtain ⟨bb, hbb⟩ : ∃ b, b = decB n (natG z) m q y p := ⟨_, rfl⟩
    rw [← hbb, Bool.true_and]
    have HBB := Lib.hid hbb
    clear hI hz T hw0 hb0 R0 hbb
    go_enter Try.func31, Try.ntmps31
    go_wp2_with fail
    rw [← HW0.out]
    go_at_call 17
    refine (ValidR_any n z _ _ _ HI.out HZ.out).mono ?_
    rintro e w1 ⟨rfl, hb1⟩
    rw [hg]
    have HB1 := Lib.hid (HB.out.trans (hb1.mono HB.out.size))
    have HR1 := Lib.hid (HR.out.below hb1 HR.out.lt)
    have HG1 := Lib.hid (HGR.out.below hb1)
    have HT1 := Lib.hid (HT.out.below hb1)
    have d0 := HR1.out.cell (i := 0) rfl
    have d1 := HR1.out.cell (i := 1) rfl
    go_wp2_with fail
    go_at_call 28
    refine (IsTreeR_any HG1.out _ _ _ HT1.out).mono ?_
    rintro e w2 ⟨he, hb2⟩
    rw [← HBB.out] at he
    have HB2 := Lib.hid (HB1.out.trans (hb2.mono HB1.out.size))
    cases bb
    all_goals
      dsimp only [treeRes] at he
      subst he
      go_wp2_with fail
      go_ret
      exact ⟨rfl, HB2.out⟩

set_option maxRecDepth 20000 in
set_option maxHeartbeats 2000000 in
theorem IsNarrow_true {n m q M : Nat} {r : Nat → Nat} {z p z' p' : Nat → Int} {a ba pa ta tp : Option Addr} (cap ca cb ka kp : Nat) {w : World} (G : Gr w a n r) (T : TreeAt w ba pa M M z' p') (O : TreeAt w ta tp m q z p) (hd : decB n r M M z' p' = true)
    (hold : ∀ k, k < M → ∃ j, j < m ∧ z' k = z j) (hap : ∀ i j, i < M → j < M → i ≠ j → diff (z' i).toNat (z' j).toNat ≠ 0) :
    Calls Try.prog 32 #[.slice a n cap, treeV ba M ca pa M cb, treeV ta m ka tp q kp] w fun e w' => e = .returned (.bool true) ∧ Below w.heap.size w w' := by
  obtain ⟨w1, hw1, R1, HB1, hs1⟩ := new1 w 41 [.slice ba M ca, .slice pa M cb]
  have hws1 : w1.heap.size = w.heap.size + 1 := by rw [hw1]; simp
  obtain ⟨w0, hw0, R0, HB0, hs0⟩ := new1 w1 41 [.slice ta m ka, .slice tp q kp]
  rw [hws1] at R0
  have HBw := HB1.trans (HB0.mono HB1.size)
  have HR1 := Lib.hid (R1.below HB0 R1.lt)
  have HR2 := Lib.hid R0
  have HG := Lib.hid (G.below HBw)
  have HT := Lib.hid (T.below HBw)
  have HO := Lib.hid (O.below HBw)
  have HD := Lib.hid (dec_iff.1 hd).2
  have HDB := Lib.hid hd
  have HOLD := Lib.hid hold
  have HAP := Lib.hid hap
  have HW1 := Lib.hid hw1
  have HW0 := Lib.hid hw0
  have HB := Lib.hid HBw
  have hle := G.le
  have hM30 := (dec_iff.1 hd).2.most
  have hmb := O.bags.1
  unfold maxLen at hmb
  clear hw0 hw1 HB0 HB1 R0 R1 T O hd hold hap HBw G
  have e0 := HR1.out.cell (i := 0) rfl
  have e1 := HR1.out.cell (i := 1) rfl
  have e2 := HR2.out.cell (i := 0) rfl
  have e3 := HR2.out.cell (i := 1) rfl
  go_enter Try.func32, Try.ntmps32
  go_wp2_with fail
  rw [← HW1.out, ← HW0.out]
  go_loopw [19] (fun iv wr => ∃ i : Nat, i ≤ M ∧ iv = .int .i64 i ∧ Below w0.heap.size w0 wr) (fun iv _ => M - (intOf iv).toNat)
  case atStart => exact ⟨0, Nat.zero_le _, rfl, Below.refl _ _⟩
  case round =>
    obtain ⟨i, hi, rfl, hbel⟩ := hrel
    have HBL := Lib.hid hbel
    have HRa := Lib.hid (HR1.out.below hbel HR1.out.lt)
    have HRb := Lib.hid (HR2.out.below hbel HR2.out.lt)
    clear e0 e1 e2 e3 hbel
    have e0 := HRa.out.cell (i := 0) rfl
    have e1 := HRa.out.cell (i := 1) rfl
    have e2 := HRb.out.cell (i := 0) rfl
    have e3 := HRb.out.cell (i := 1) rfl
    by_cases hlt : i < M
    · obtain ⟨b, off, rfl, hb, hc⟩ := (HT.out.below HBL.out).bags.2 (by omega)
      have ck := hc i hlt
      obtain ⟨s, hs, hs2⟩ := HD.out.bags.nat hlt
      have hs16 := lt16 hle hs2
      have HS := Lib.hid hs
      rw [hs] at ck
      clear hs hs2 hc hb
      go_wp2_with fail
      go_loopw [9, 27] (fun f jv wx => ∃ (j : Nat) (fb : Bool), j ≤ m ∧ jv = .int .i64 j ∧ f = .bool fb ∧ (fb = true ↔ ∃ t, t < j ∧ (s : Int) = z t) ∧ Below w0.heap.size w0 wx) (fun _ jv _ => m - (intOf jv).toNat)
      case atStart => exact ⟨0, false, Nat.zero_le _, rfl, rfl, ⟨fun h => (by cases h), fun ⟨t, ht, _⟩ => (by omega)⟩, HBL.out⟩
      case round =>
        clear e0 e1 e2 e3 ck
        obtain ⟨j, fb, hj, rfl, rfl, hfb, hbel⟩ := hrel
        have HFB := Lib.hid hfb
        have HBX := Lib.hid hbel
        have HRc := Lib.hid (HR1.out.below hbel HR1.out.lt)
        have e0 := HRc.out.cell (i := 0) rfl
        have e1 := HRc.out.cell (i := 1) rfl
        clear hfb hbel
        by_cases hlj : j < m
        · obtain ⟨b2, off2, rfl, hb2, hc2⟩ := (HO.out.below HBX.out).bags.2 (by omega)
          have cj := hc2 j hlj
          clear hc2 hb2
          have HZJ : Hid (∀ x, x = z j → (x = (s : Int) ↔ (s : Int) = z j)) := Lib.hid (fun x hx => by subst hx; exact ⟨fun h => h.symm, fun h => h.symm⟩)
          obtain ⟨x, hx⟩ : ∃ x, x = z j := ⟨_, rfl⟩
          rw [← hx] at cj
          have HX := Lib.hid hx
          clear hx
          cases hq : ((s : Int) == x)
          · cases fb
            all_goals
              go_wp2_with fail
              go_roundw
              case rel =>
                refine ⟨j + 1, _, by omega, by go_num, rfl, ?_, HBX.out⟩
                rw [HFB.out]
                constructor
                · rintro ⟨t, ht, e⟩; exact ⟨t, by omega, e⟩
                · rintro ⟨t, ht, e⟩
                  rcases Nat.lt_succ_iff_lt_or_eq.1 ht with h | h
                  · exact ⟨t, h, e⟩
                  · exfalso
                    subst h
                    rw [HX.out, ← e] at hq
                    simp at hq
              case measure => simp [intOf]; omega
          · cases fb
            all_goals
              go_wp2_with fail
              go_roundw
              case rel =>
                refine ⟨j + 1, true, by omega, by go_num, rfl, ⟨fun _ => ⟨j, by omega, ?_⟩, fun _ => rfl⟩, HBX.out⟩
                rw [← HX.out]
                exact of_decide_eq_true (by simpa using hq)
              case measure => simp [intOf]; omega
        · have hje : j = m := by omega
          have hfb1 : fb = true := HFB.out.2 (by
            obtain ⟨t, t1, t2⟩ := HOLD.out i hlt
            exact ⟨t, by omega, by rw [← t2, HS.out]⟩)
          subst hfb1
          have hq : decide ((j : Int) < (m : Int)) = false := decide_eq_false (by omega)
          go_wp2_with fail
          go_loopw [41] (fun jv wx => ∃ j : Nat, j ≤ M ∧ jv = .int .i64 j ∧ Below w0.heap.size w0 wx) (fun jv _ => M - (intOf jv).toNat)
          case atStart => exact ⟨0, Nat.zero_le _, rfl, HBX.out⟩
          case round =>
            clear e0 e1 HRc
            obtain ⟨k, hk, rfl, hbel⟩ := hrel
            have HBY := Lib.hid hbel
            clear hbel
            by_cases hlk : k < M
            · obtain ⟨b3, off3, hbo, hb3, hc3⟩ := (HT.out.below HBY.out).bags.2 (by omega)
              cases hbo
              have c3 := hc3 k hlk
              obtain ⟨t, ht, ht2⟩ := HD.out.bags.nat hlk
              have ht16 := lt16 hle ht2
              have HTT := Lib.hid ht
              rw [ht] at c3
              clear hc3 hb3 ht ht2
              by_cases hik : i = k
              · have hq2 : ((i : Int) != (k : Int)) = false := by subst hik; simp
                go_wp2_with fail
                go_roundw
                case rel => exact ⟨k + 1, by omega, by go_num, HBY.out⟩
                case measure => simp [intOf]; omega
              · have hq2 : ((i : Int) != (k : Int)) = true := by simp; omega
                have hd2 : diff s t ≠ 0 := by
                  have := HAP.out i k hlt hlk hik
                  rwa [HS.out, HTT.out, Int.toNat_natCast, Int.toNat_natCast] at this
                have hd3 : (((diff s t : Nat) : Int) == 0) = false := beq_eq_false_iff_ne.2 (by omega)
                clear hd2
                go_wp2_with fail
                go_roundw
                case rel => exact ⟨k + 1, by omega, by go_num, HBY.out⟩
                case measure => simp [intOf]; omega
            · have hqk : decide ((k : Int) < (M : Int)) = false := decide_eq_false (by omega)
              go_wp2_with fail
              go_roundw
              case rel => exact ⟨i + 1, by omega, by go_num, HBY.out⟩
              case measure => simp [intOf]; omega
    · have hqi : decide ((i : Int) < (M : Int)) = false := decide_eq_false (by omega)
      go_wp2_with fail
      go_at_call 28
      refine (IsTreeR_any (HG.out.below HBL.out) _ _ _ (HT.out.below HBL.out)).mono ?_
      rintro e w5 ⟨he, hb5⟩
      rw [HDB.out] at he
      dsimp only [treeRes] at he
      subst he
      have HB5 := Lib.hid ((HB.out.trans (HBL.out.mono HB.out.size)).trans (hb5.mono (Nat.le_trans HB.out.size HBL.out.size)))
      go_wp2_with fail
      go_ret
      exact ⟨rfl, HB5.out⟩

end Go.Proofs.Ytombmfphodikjaa
