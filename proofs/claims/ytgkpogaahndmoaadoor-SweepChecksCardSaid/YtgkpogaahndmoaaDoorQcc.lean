/- The contract of the reference's IsBlockage. -/
import Derived.Test.YtgkpogaahndmoaaDoorQcb
namespace Go.Proofs.YtgkpogaahndmoaaDoor
set_option linter.unusedSimpArgs false
set_option linter.unusedVariables false
open Go.RowKit Go.Maps
attribute [local go_sem] i64_bit toNat_eq_one toNat_ne_one toNat_eq_zero toNat_ne_zero i64_and i64_or i64_andNot i64_or_pow i64_andNot_pow

theorem info_bool : (Tryd.prog.info? 4).map (fun i => (i.zero, i.size, i.bytes)) = some (some (.bool false), 1, 1) := by kernel_rfl
theorem bol_zero (N : Nat) : (bol N (fun _ => false)).toArray = madeCells #[.bool false] N := by
  have h : bol N (fun _ => false) = (madeCells #[.bool false] N).toList := by
    unfold bol madeCells
    simp [Nat.mod_one]
  rw [h]
theorem blkR_bad {n K m x y : Nat} {r : Nat → Nat} {z : Nat → Int} (hx : x < 2 ^ n) (hy : y < 2 ^ n) (h : badR n r K m z x y = true) : blkR n r K m z = false := by
  unfold blkR
  rw [Bool.eq_false_iff]
  intro ha
  rw [Bool.and_eq_true, List.all_eq_true] at ha
  have := List.all_eq_true.1 (ha.2 x (List.mem_range.2 hx)) y (List.mem_range.2 hy)
  rw [h] at this; cases this
theorem BorderR_q {n : Nat} {r : Nat → Nat} {ad : Option Addr} {w : World} (G : GrAt w ad n r) (hn7 : n ≤ 7) (hr : ∀ i, i < n → r i < 2 ^ n) (cap s : Nat) (hs : s < 2 ^ n) :
    Calls Tryd.prog 57 #[.slice ad n cap, .int .i64 s] w fun e w' => e = .returned (.int .i64 (bord r s : Nat)) ∧ w' = w := (BorderR_any G hn7 hr cap s hs).mono fun _ _ ⟨h1, h2⟩ => ⟨h1, h2.symm⟩
theorem SizeR_q {n : Nat} (hn : n ≤ 9) (T : Nat) (hT : T < 2 ^ n) (w : World) :
    Calls Tryd.prog 56 #[.int .i64 T] w fun e w' => e = .returned (.int .i64 (szS n T : Nat)) ∧ w' = w := (Size_any hn T hT w).mono fun _ _ ⟨h1, h2⟩ => ⟨h1, h2.symm⟩

set_option maxRecDepth 40000 in
set_option maxHeartbeats 16000000 in
theorem IsBlockageR_any {n m : Nat} {r : Nat → Nat} {z : Nat → Int} {ad o : Option Addr} {w : World} (G : GrAt w ad n r) (hP : Pl n r) (cap co K : Nat) (hK : K ≤ 7) (hI : IntsAt w o m z) :
    Calls Tryd.prog 41 #[.slice ad n cap, .int .i64 K, .slice o m co] w fun e w' => e = .returned (.bool (blkR n r K m z)) ∧ Below w.heap.size w w' := by
  have hn7 := hP.le
  have hn16 : n < 16 := by omega
  have h7 := pow_le7 hn7
  have hml2 := G.ints.1
  unfold maxLen at hml2
  have HG := Lib.hid G
  have HPL := Lib.hid hP
  have HI := Lib.hid hI
  have hml := hI.1
  unfold maxLen at hml
  have hpn := pow_bd n hn16
  obtain ⟨N, hN⟩ : ∃ N : Nat, N = 2 ^ n := ⟨_, rfl⟩
  have hcast : (2 : Int) ^ n = (N : Int) := by rw [hN]; exact pow_cast n
  have hmk : ∀ w : World, (Instr.makeSlice 99 (.int .i64 (N : Int)) (.int .i64 (N : Int))).run Tryd.prog w = .ok (.slice (some ⟨w.heap.size, 0, none⟩) N N) (w.alloc (.cells (bol N (fun _ => false)).toArray 4)) := by
    have h := run_make_row' (P := Tryd.prog) 99 4 (.bool false) 1 Tryd.underlying99 info_bool rfl .i64 .i64 N (by omega) (by omega)
    rw [bol_zero]; exact h
  rw [← hcast] at hmk
  have HBK : Hid (blkR n r K m z = (okAll n r K m z && (List.range N).all fun x => (List.range N).all fun y => !badR n r K m z x y)) := Lib.hid (by rw [hN]; rfl)
  have HN := Lib.hid hN
  have HC := Lib.hid hcast
  have hN128 : N ≤ 128 := by omega
  have hN1 : 1 ≤ N := by have := Nat.two_pow_pos n; omega
  obtain ⟨w0, hw0, R0, HB0, hsz0⟩ := new1 w 4 (bol N (fun _ => false))
  have HW0 := Lib.hid hw0
  have HR0 := Lib.hid R0
  have HB0' := Lib.hid HB0
  clear G hP hI hN hcast hw0 R0 HB0
  go_enter Tryd.func41, Tryd.ntmps41
  go_wp2_with fail
  rw [← HW0.out, HC.out]
  clear hmk hpn
  go_loopw [22] (fun i wr => ∃ k : Nat, k ≤ m ∧ i = .int .i64 k ∧ Row wr w.heap.size 4 (bol N (inZ k z)) ∧ (∀ i, i < k → okBl n r K z i = true) ∧ Below w.heap.size w wr) (fun i _ => m - (intOf i).toNat)
  case atStart => exact ⟨0, Nat.zero_le _, rfl, HR0.out, by omega, HB0'.out⟩
  case round =>
    obtain ⟨k, hk, rfl, hrow, hok, hbr⟩ := hrel
    have HRW := Lib.hid hrow
    have HOK := Lib.hid hok
    have HBR := Lib.hid hbr
    have hbsz := hbr.size
    clear hrow hok hbr HR0 HB0'
    by_cases hlt : k < m
    · obtain ⟨ob, oo, rfl, hlb, hc⟩ := (HI.out.below HBR.out).2 (by omega)
      have ck := hc k hlt
      have HOB : Hid (okBl n r K z k = (decide (lastZ z k < z k) && (inB (z k) (2 ^ n) && thinB n r K (z k).toNat))) := Lib.hid rfl
      have HIS : Hid (∀ x : Nat, inZ (k + 1) z x = (inZ k z x || z k == (x : Int))) := Lib.hid fun x => inZ_succ k z x
      have HFB : Hid (okBl n r K z k = false → blkR n r K m z = false) := Lib.hid fun h => by rw [HBK.out, okAll_bad hlt h]; rfl
      have HEX : Hid (okBl n r K z k = true → ∀ i, i < k + 1 → okBl n r K z i = true) := Lib.hid fun h i hi => by
        rcases Nat.lt_succ_iff_lt_or_eq.1 hi with h2 | h2
        · exact HOK.out i h2
        · rw [h2]; exact h
      cases g2 : inB (z k) (2 ^ n)
      · have HF := Lib.hid (HFB.out (by rw [HOB.out, g2]; simp))
        have G2 := Lib.hid g2
        have hzk : z k < 0 ∨ (N : Int) - 1 < z k := by
          rw [HC.out] at g2
          unfold inB at g2
          rw [decide_eq_false_iff_not] at g2
          omega
        clear g2 hc
        generalize z k = zk at *
        by_cases h0 : zk < 0
        · clear hzk
          go_wp2_with fail
          go_ret
          exact ⟨by rw [HF.out]; rfl, HBR.out⟩
        · have h1 : (N : Int) - 1 < zk := by omega
          clear hzk
          go_wp2_with fail
          go_ret
          exact ⟨by rw [HF.out]; rfl, HBR.out⟩
      · obtain ⟨q1, q2⟩ := inB_iff.1 g2
        have hs2 := nat_pow_cast q2 q1
        obtain ⟨s, hs⟩ : ∃ s : Nat, z k = s := ⟨(z k).toNat, by omega⟩
        rw [hs, Int.toNat_natCast] at hs2
        rw [hs] at ck
        rw [g2, hs, Int.toNat_natCast] at HOB
        have hs128 : s < N := by have := HN.out; omega
        have HTB : Hid (thinB n r K s = decide (szS n (bord r s) ≤ K)) := Lib.hid rfl
        have hbl := bord_lt (r := r) hs2
        have HSL := szS_le n (bord r s)
        have HBO := Lib.hid (fun (wx : World) (hb : Below w.heap.size w wx) => BorderR_any (HG.out.below hb) hn7 HPL.out.bd cap s hs2)
        have HCO := Lib.hid (fun w => Size_any (n := n) (by omega) (bord r s) hbl w)
        have HLZ : Hid (lastZ z k = if k = 0 then -1 else z (k - 1)) := Lib.hid rfl
        rw [hs] at HIS
        have cl : 0 < k → wr.cell? ⟨ob, oo + (k - 1), none⟩ = some (.int .i64 (z (k - 1))) := fun _ => hc (k - 1) (by omega)
        generalize bord r s = X at *
        generalize szS n X = Y at *
        have HSET : Hid (∀ W, Row W w.heap.size 4 (bol N (inZ k z)) → Row (W.setCell ⟨w.heap.size, s, none⟩ (.bool true)) w.heap.size 4 (bol N (inZ (k + 1) z))) := Lib.hid fun W h => by
          have hr := h.set s (.bool true)
          rw [bol_set] at hr
          rw [bol_congr (G := fun j => if j = s then true else inZ k z j)]
          · exact hr
          · intro j _
            rw [HIS.out]
            by_cases e : j = s
            · subst e; simp
            · rw [if_neg e, show ((s : Int) == (j : Int)) = false from by rw [beq_eq_false_iff_ne]; omega, Bool.or_false]
        have c2 := HRW.out.cell (i := s) (bol_get hs128)
        have f2 := HRW.out.free s
        have l2 := HRW.out.lt
        have hsN : (s : Int) ≤ (N : Int) - 1 := by omega
        have hix : 0 < k → ((k : Int) - 1).toNat = k - 1 := fun _ => by omega
        clear g2 q1 q2 hc hs HIS
        by_cases hk0 : k = 0
        · rw [if_pos hk0] at HLZ
          have hki : ¬ 0 < (k : Int) := by omega
          clear cl hix
          by_cases hY : Y ≤ K
          · have d1 : decide ((K : Int) < (Y : Int)) = false := by simp; omega
            have HOKK := Lib.hid (HEX.out (by rw [HOB.out, HTB.out, decide_eq_true hY, HLZ.out, decide_eq_true (show (-1 : Int) < s by omega)]; rfl))
            clear hk0
            go_wp2_with (first | (go_at_call 57; refine (HBO.out _ HBR.out).mono ?_; rintro e w1 ⟨rfl, rfl⟩) | (go_at_call 56; refine (HCO.out _).mono ?_; rintro e w1 ⟨rfl, rfl⟩))
            all_goals first
              | (exfalso; omega)
              | (go_roundw; (case rel => exact ⟨k + 1, by omega, by go_num, HSET.out _ HRW.out, HOKK.out, HBR.out.setCell (p := ⟨w.heap.size, s, none⟩) (Nat.le_refl _) _⟩); (case measure => simp [intOf]; omega))
          · have d1 : decide ((K : Int) < (Y : Int)) = true := by simp; omega
            have HF := Lib.hid (HFB.out (by rw [HOB.out, HTB.out, decide_eq_false hY]; simp))
            clear hk0
            go_wp2_with (first | (go_at_call 57; refine (HBO.out _ HBR.out).mono ?_; rintro e w1 ⟨rfl, rfl⟩) | (go_at_call 56; refine (HCO.out _).mono ?_; rintro e w1 ⟨rfl, rfl⟩))
            all_goals first
              | (exfalso; omega)
              | (go_ret; exact ⟨by rw [HF.out]; rfl, HBR.out⟩)
        · rw [if_neg hk0] at HLZ
          have hki : 0 < (k : Int) := by omega
          have cl' := cl (by omega)
          have hix' := hix (by omega)
          clear cl hix
          generalize z (k - 1) = lz at *
          by_cases g1 : lz < s
          · rw [HLZ.out, decide_eq_true g1] at HOB
            by_cases hY : Y ≤ K
            · have d1 : decide ((K : Int) < (Y : Int)) = false := by simp; omega
              have HOKK := Lib.hid (HEX.out (by rw [HOB.out, HTB.out, decide_eq_true hY]; rfl))
              clear hk0
              go_wp2_with (first | (go_at_call 57; refine (HBO.out _ HBR.out).mono ?_; rintro e w1 ⟨rfl, rfl⟩) | (go_at_call 56; refine (HCO.out _).mono ?_; rintro e w1 ⟨rfl, rfl⟩))
              all_goals first
                | (exfalso; omega)
                | (go_roundw; (case rel => exact ⟨k + 1, by omega, by go_num, HSET.out _ HRW.out, HOKK.out, HBR.out.setCell (p := ⟨w.heap.size, s, none⟩) (Nat.le_refl _) _⟩); (case measure => simp [intOf]; omega))
            · have d1 : decide ((K : Int) < (Y : Int)) = true := by simp; omega
              have HF := Lib.hid (HFB.out (by rw [HOB.out, HTB.out, decide_eq_false hY]; simp))
              clear hk0
              go_wp2_with (first | (go_at_call 57; refine (HBO.out _ HBR.out).mono ?_; rintro e w1 ⟨rfl, rfl⟩) | (go_at_call 56; refine (HCO.out _).mono ?_; rintro e w1 ⟨rfl, rfl⟩))
              all_goals first
                | (exfalso; omega)
                | (go_ret; exact ⟨by rw [HF.out]; rfl, HBR.out⟩)
          · have HF := Lib.hid (HFB.out (by rw [HOB.out, HLZ.out, decide_eq_false g1]; rfl))
            clear hk0
            go_wp2_with fail
            all_goals first
              | (exfalso; omega)
              | (go_ret; exact ⟨by rw [HF.out]; rfl, HBR.out⟩)
    · have hke : k = m := by omega
      rw [hke] at HRW HOK
      have HALL := Lib.hid (okAll_good HOK.out)
      rw [HALL.out, Bool.true_and] at HBK
      have HBAD : Hid (∀ x y, x < N → y < N → badR n r K m z x y = true → blkR n r K m z = false) := Lib.hid fun x y hx hy h => blkR_bad (by rw [← HN.out]; exact hx) (by rw [← HN.out]; exact hy) h
      have hki : ¬ (k : Int) < (m : Int) := by omega
      clear hke hlt hk HOK
      go_wp2_with fail
      go_loopw [61] (fun i wr => ∃ x : Nat, x ≤ N ∧ i = .int .i64 x ∧ Row wr w.heap.size 4 (bol N (inZ m z)) ∧ (∀ a, a < x → ∀ y, y < N → badR n r K m z a y = false) ∧ Below w.heap.size w wr) (fun i _ => N - (intOf i).toNat)
      case atStart => exact ⟨0, Nat.zero_le _, rfl, HRW.out, by omega, HBR.out⟩
      case round =>
        obtain ⟨x, hx, rfl, hrow, hdone, hbr⟩ := hrel
        have HD := Lib.hid hdone
        have HBX := Lib.hid hbr
        have HRX := Lib.hid hrow
        clear hdone hbr hrow HRW HBR
        by_cases hxN : x < N
        · have hxi : (x : Int) < (N : Int) - 1 + 1 := by omega
          go_wp2_with fail
          go_loopw [66] (fun i wr => ∃ y : Nat, y ≤ N ∧ i = .int .i64 y ∧ Row wr w.heap.size 4 (bol N (inZ m z)) ∧ (∀ a, a < y → badR n r K m z x a = false) ∧ Below w.heap.size w wr) (fun i _ => N - (intOf i).toNat)
          case atStart => exact ⟨0, Nat.zero_le _, rfl, HRX.out, by omega, HBX.out⟩
          case round =>
            clear HRX HBX
            obtain ⟨y, hy, rfl, hrow, hdq, hbr⟩ := hrel
            have HDQ := Lib.hid hdq
            have HBQ := Lib.hid hbr
            have HRQ := Lib.hid hrow
            clear hdq hbr hrow
            by_cases hyN : y < N
            · have hyi : (y : Int) < (N : Int) - 1 + 1 := by omega
              have hx2 : x < 2 ^ n := by rw [← HN.out]; exact hxN
              have hy2 : y < 2 ^ n := by rw [← HN.out]; exact hyN
              have hxy : x &&& y < 2 ^ n := Nat.lt_of_le_of_lt Nat.and_le_left hx2
              have hbx := bord_lt (r := r) hx2
              have hby := bord_lt (r := r) hy2
              have hx16 : x < 65536 := by omega
              have hy16 : y < 65536 := by omega
              have hbx16 : bord r x < 65536 := by omega
              have hor := or_lt hx16 hy16
              have hand : x &&& y < 65536 := and_lt hx16
              have hd1 : diff y x < 65536 := diff_lt hy16
              have hd2 : diff (bord r x) y < 65536 := diff_lt hbx16
              have HBP : Hid (badR n r K m z x y = ((inZ m z x && (diff y x == 0 && (thinB n r K y && !inZ m z y))) || (inZ m z x == inZ m z y && ((x ||| y == 2 ^ n - 1) && (decide (szS n (x &&& y) ≤ K) && diff (bord r x) y == 0))))) := Lib.hid rfl
              have HTB : Hid (thinB n r K y = decide (szS n (bord r y) ≤ K)) := Lib.hid rfl
              have HFB : Hid (badR n r K m z x y = true → blkR n r K m z = false) := Lib.hid fun h => HBAD.out x y hxN hyN h
              have HNX : Hid (badR n r K m z x y = false → ∀ a, a < y + 1 → badR n r K m z x a = false) := Lib.hid fun h a ha => by
                rcases Nat.lt_succ_iff_lt_or_eq.1 ha with h2 | h2
                · exact HDQ.out a h2
                · subst h2; exact h
              have HBOX : Hid (∀ wx, Below w.heap.size w wx → Calls Tryd.prog 57 #[.slice ad n cap, .int .i64 x] wx fun e w' => e = .returned (.int .i64 (bord r x : Nat)) ∧ w' = wx) := Lib.hid fun wx hb => BorderR_q (HG.out.below hb) hn7 HPL.out.bd cap x hx2
              have HBOY : Hid (∀ wx, Below w.heap.size w wx → Calls Tryd.prog 57 #[.slice ad n cap, .int .i64 y] wx fun e w' => e = .returned (.int .i64 (bord r y : Nat)) ∧ w' = wx) := Lib.hid fun wx hb => BorderR_q (HG.out.below hb) hn7 HPL.out.bd cap y hy2
              have HSY : Hid (∀ wx, Calls Tryd.prog 56 #[.int .i64 (bord r y : Nat)] wx fun e w' => e = .returned (.int .i64 (szS n (bord r y) : Nat)) ∧ w' = wx) := Lib.hid fun wx => SizeR_q (by omega) _ hby wx
              have HSX : Hid (∀ wx, Calls Tryd.prog 56 #[.int .i64 (x &&& y : Nat)] wx fun e w' => e = .returned (.int .i64 (szS n (x &&& y) : Nat)) ∧ w' = wx) := Lib.hid fun wx => SizeR_q (by omega) _ hxy wx
              have q1 : (((x ||| y : Nat) : Int) == (N : Int) - 1) = (x ||| y == 2 ^ n - 1) := by
                rw [show (N : Int) - 1 = ((2 ^ n - 1 : Nat) : Int) by have := HN.out; omega]; exact cast_beq _ _
              have q2 : (((diff y x : Nat) : Int) == 0) = (diff y x == 0) := cast_beq0 _
              have q3 : (((diff (bord r x) y : Nat) : Int) == 0) = (diff (bord r x) y == 0) := cast_beq0 _
              have cx := HRQ.out.cell (i := x) (bol_get hxN)
              have cy := HRQ.out.cell (i := y) (bol_get hyN)
              have hb1 := szS_le n (bord r y)
              have hb2 := szS_le n (x &&& y)
              have HQN : Hid (∀ c, Row (wr.drewN c) w.heap.size 4 (bol N (inZ m z))) := Lib.hid fun c => HRQ.out.drewN c
              have HBD : Hid (∀ c, Below w.heap.size w (wr.drewN c)) := Lib.hid fun c => below_drewN HBQ.out c
              generalize (x ||| y == 2 ^ n - 1) = o at *
              generalize (diff y x == 0) = pt at *
              generalize (diff (bord r x) y == 0) = bd at *
              generalize szS n (bord r y) = A at *
              generalize szS n (x &&& y) = B at *
              generalize badR n r K m z x y = bp at *
              generalize thinB n r K y = th at *
              generalize inZ m z x = ix at *
              generalize inZ m z y = iy at *
              have s1 : decide ((A : Int) ≤ (K : Int)) = th := by rw [HTB.out]; apply decide_eq_decide.2; omega
              have s2 : decide ((B : Int) ≤ (K : Int)) = decide (B ≤ K) := decide_eq_decide.2 (by omega)
              generalize decide (B ≤ K) = sz at *
              have HQ1 := Lib.hid q1
              have HQ2 := Lib.hid q2
              have HQ3 := Lib.hid q3
              have HS1 := Lib.hid s1
              have HS2 := Lib.hid s2
              have HCX := Lib.hid cx
              have HCY := Lib.hid cy
              clear q1 q2 q3 s1 s2 cx cy HTB hb1 hb2
              cases ix
              · cases o
                · have HV := Lib.hid (show bp = false by rw [HBP.out]; cases iy <;> cases th <;> cases pt <;> cases bd <;> cases sz <;> rfl)
                  have f_HCX := HCX.out
                  have f_HQ1 := HQ1.out
                  go_wp2_with (first | (go_at_call 57; refine (HBOY.out _ HBQ.out).mono ?_; rintro e w1 ⟨rfl, rfl⟩) | (go_at_call 56; refine (HSY.out _).mono ?_; rintro e w1 ⟨rfl, rfl⟩))
                  refine wp_region_quiet_lit (by kernel_rfl) (by kernel_rfl) ?_
                  repeat (any_goals (first | go_big_quiet_step ((first | (go_at_call 57; exact Calls.quiet_of_same (HBOX.out _ (HBD.out _))) | (go_at_call 56; exact Calls.quiet_of_same (HSX.out _)))) | quiet_step (fail)))
                  all_goals (refine wpQuiet_nil ?_; intro _ hw'; obtain ⟨nq, hw''⟩ := hw'; subst hw'')
                  go_wp2_with fail
                  go_roundw
                  case rel => exact ⟨y + 1, by omega, by go_num, HQN.out _, HNX.out HV.out, HBD.out _⟩
                  case measure => simp [intOf]; omega
                · cases bd
                  · have HV := Lib.hid (show bp = false by rw [HBP.out]; cases iy <;> cases th <;> cases pt <;> cases sz <;> rfl)
                    have f_HCX := HCX.out
                    have f_HQ1 := HQ1.out
                    have f_HQ3 := HQ3.out
                    go_wp2_with (first | (go_at_call 57; refine (HBOY.out _ HBQ.out).mono ?_; rintro e w1 ⟨rfl, rfl⟩) | (go_at_call 56; refine (HSY.out _).mono ?_; rintro e w1 ⟨rfl, rfl⟩))
                    refine wp_region_quiet_lit (by kernel_rfl) (by kernel_rfl) ?_
                    repeat (any_goals (first | go_big_quiet_step ((first | (go_at_call 57; exact Calls.quiet_of_same (HBOX.out _ (HBD.out _))) | (go_at_call 56; exact Calls.quiet_of_same (HSX.out _)))) | quiet_step (fail)))
                    all_goals (refine wpQuiet_nil ?_; intro _ hw'; obtain ⟨nq, hw''⟩ := hw'; subst hw'')
                    go_wp2_with fail
                    go_roundw
                    case rel => exact ⟨y + 1, by omega, by go_num, HQN.out _, HNX.out HV.out, HBD.out _⟩
                    case measure => simp [intOf]; omega
                  · cases sz
                    · have HV := Lib.hid (show bp = false by rw [HBP.out]; cases iy <;> cases th <;> cases pt <;> rfl)
                      have f_HCX := HCX.out
                      have f_HQ1 := HQ1.out
                      have f_HQ3 := HQ3.out
                      have f_HS2 := HS2.out
                      have g_HS2 := of_decide_eq_false f_HS2
                      simp only [Int.not_le] at g_HS2
                      have n_HS2 : decide (B ≤ K) = false := decide_eq_false (by omega)
                      go_wp2_with (first | (go_at_call 57; refine (HBOY.out _ HBQ.out).mono ?_; rintro e w1 ⟨rfl, rfl⟩) | (go_at_call 56; refine (HSY.out _).mono ?_; rintro e w1 ⟨rfl, rfl⟩))
                      refine wp_region_quiet_lit (by kernel_rfl) (by kernel_rfl) ?_
                      repeat (any_goals (first | go_big_quiet_step ((first | (go_at_call 57; exact Calls.quiet_of_same (HBOX.out _ (HBD.out _))) | (go_at_call 56; exact Calls.quiet_of_same (HSX.out _)))) | quiet_step (fail)))
                      all_goals (refine wpQuiet_nil ?_; intro _ hw'; obtain ⟨nq, hw''⟩ := hw'; subst hw'')
                      go_wp2_with fail
                      go_roundw
                      case rel => exact ⟨y + 1, by omega, by go_num, HQN.out _, HNX.out HV.out, HBD.out _⟩
                      case measure => simp [intOf]; omega
                    · cases iy
                      · have HV := Lib.hid (show bp = true by rw [HBP.out]; cases th <;> cases pt <;> rfl)
                        have f_HCX := HCX.out
                        have f_HCY := HCY.out
                        have f_HQ1 := HQ1.out
                        have f_HQ3 := HQ3.out
                        have f_HS2 := HS2.out
                        have g_HS2 := of_decide_eq_true f_HS2
                        go_wp2_with (first | (go_at_call 57; refine (HBOY.out _ HBQ.out).mono ?_; rintro e w1 ⟨rfl, rfl⟩) | (go_at_call 56; refine (HSY.out _).mono ?_; rintro e w1 ⟨rfl, rfl⟩))
                        refine wp_region_quiet_lit (by kernel_rfl) (by kernel_rfl) ?_
                        repeat (any_goals (first | go_big_quiet_step ((first | (go_at_call 57; exact Calls.quiet_of_same (HBOX.out _ (HBD.out _))) | (go_at_call 56; exact Calls.quiet_of_same (HSX.out _)))) | quiet_step (fail)))
                        all_goals (refine wpQuiet_nil ?_; intro _ hw'; obtain ⟨nq, hw''⟩ := hw'; subst hw'')
                        go_wp2_with fail
                        go_ret
                        exact ⟨by rw [HFB.out HV.out]; rfl, HBD.out _⟩
                      · have HV := Lib.hid (show bp = false by rw [HBP.out]; cases th <;> cases pt <;> rfl)
                        have f_HCX := HCX.out
                        have f_HCY := HCY.out
                        have f_HQ1 := HQ1.out
                        have f_HQ3 := HQ3.out
                        have f_HS2 := HS2.out
                        have g_HS2 := of_decide_eq_true f_HS2
                        go_wp2_with (first | (go_at_call 57; refine (HBOY.out _ HBQ.out).mono ?_; rintro e w1 ⟨rfl, rfl⟩) | (go_at_call 56; refine (HSY.out _).mono ?_; rintro e w1 ⟨rfl, rfl⟩))
                        refine wp_region_quiet_lit (by kernel_rfl) (by kernel_rfl) ?_
                        repeat (any_goals (first | go_big_quiet_step ((first | (go_at_call 57; exact Calls.quiet_of_same (HBOX.out _ (HBD.out _))) | (go_at_call 56; exact Calls.quiet_of_same (HSX.out _)))) | quiet_step (fail)))
                        all_goals (refine wpQuiet_nil ?_; intro _ hw'; obtain ⟨nq, hw''⟩ := hw'; subst hw'')
                        go_wp2_with fail
                        go_roundw
                        case rel => exact ⟨y + 1, by omega, by go_num, HQN.out _, HNX.out HV.out, HBD.out _⟩
                        case measure => simp [intOf]; omega
              · cases pt
                · cases o
                  · have HV := Lib.hid (show bp = false by rw [HBP.out]; cases iy <;> cases th <;> cases bd <;> cases sz <;> rfl)
                    have f_HCX := HCX.out
                    have f_HQ2 := HQ2.out
                    have f_HQ1 := HQ1.out
                    go_wp2_with (first | (go_at_call 57; refine (HBOY.out _ HBQ.out).mono ?_; rintro e w1 ⟨rfl, rfl⟩) | (go_at_call 56; refine (HSY.out _).mono ?_; rintro e w1 ⟨rfl, rfl⟩))
                    refine wp_region_quiet_lit (by kernel_rfl) (by kernel_rfl) ?_
                    repeat (any_goals (first | go_big_quiet_step ((first | (go_at_call 57; exact Calls.quiet_of_same (HBOX.out _ (HBD.out _))) | (go_at_call 56; exact Calls.quiet_of_same (HSX.out _)))) | quiet_step (fail)))
                    all_goals (refine wpQuiet_nil ?_; intro _ hw'; obtain ⟨nq, hw''⟩ := hw'; subst hw'')
                    go_wp2_with fail
                    go_roundw
                    case rel => exact ⟨y + 1, by omega, by go_num, HQN.out _, HNX.out HV.out, HBD.out _⟩
                    case measure => simp [intOf]; omega
                  · cases bd
                    · have HV := Lib.hid (show bp = false by rw [HBP.out]; cases iy <;> cases th <;> cases sz <;> rfl)
                      have f_HCX := HCX.out
                      have f_HQ2 := HQ2.out
                      have f_HQ1 := HQ1.out
                      have f_HQ3 := HQ3.out
                      go_wp2_with (first | (go_at_call 57; refine (HBOY.out _ HBQ.out).mono ?_; rintro e w1 ⟨rfl, rfl⟩) | (go_at_call 56; refine (HSY.out _).mono ?_; rintro e w1 ⟨rfl, rfl⟩))
                      refine wp_region_quiet_lit (by kernel_rfl) (by kernel_rfl) ?_
                      repeat (any_goals (first | go_big_quiet_step ((first | (go_at_call 57; exact Calls.quiet_of_same (HBOX.out _ (HBD.out _))) | (go_at_call 56; exact Calls.quiet_of_same (HSX.out _)))) | quiet_step (fail)))
                      all_goals (refine wpQuiet_nil ?_; intro _ hw'; obtain ⟨nq, hw''⟩ := hw'; subst hw'')
                      go_wp2_with fail
                      go_roundw
                      case rel => exact ⟨y + 1, by omega, by go_num, HQN.out _, HNX.out HV.out, HBD.out _⟩
                      case measure => simp [intOf]; omega
                    · cases sz
                      · have HV := Lib.hid (show bp = false by rw [HBP.out]; cases iy <;> cases th <;> rfl)
                        have f_HCX := HCX.out
                        have f_HQ2 := HQ2.out
                        have f_HQ1 := HQ1.out
                        have f_HQ3 := HQ3.out
                        have f_HS2 := HS2.out
                        have g_HS2 := of_decide_eq_false f_HS2
                        simp only [Int.not_le] at g_HS2
                        have n_HS2 : decide (B ≤ K) = false := decide_eq_false (by omega)
                        go_wp2_with (first | (go_at_call 57; refine (HBOY.out _ HBQ.out).mono ?_; rintro e w1 ⟨rfl, rfl⟩) | (go_at_call 56; refine (HSY.out _).mono ?_; rintro e w1 ⟨rfl, rfl⟩))
                        refine wp_region_quiet_lit (by kernel_rfl) (by kernel_rfl) ?_
                        repeat (any_goals (first | go_big_quiet_step ((first | (go_at_call 57; exact Calls.quiet_of_same (HBOX.out _ (HBD.out _))) | (go_at_call 56; exact Calls.quiet_of_same (HSX.out _)))) | quiet_step (fail)))
                        all_goals (refine wpQuiet_nil ?_; intro _ hw'; obtain ⟨nq, hw''⟩ := hw'; subst hw'')
                        go_wp2_with fail
                        go_roundw
                        case rel => exact ⟨y + 1, by omega, by go_num, HQN.out _, HNX.out HV.out, HBD.out _⟩
                        case measure => simp [intOf]; omega
                      · cases iy
                        · have HV := Lib.hid (show bp = false by rw [HBP.out]; cases th <;> rfl)
                          have f_HCX := HCX.out
                          have f_HQ2 := HQ2.out
                          have f_HCY := HCY.out
                          have f_HQ1 := HQ1.out
                          have f_HQ3 := HQ3.out
                          have f_HS2 := HS2.out
                          have g_HS2 := of_decide_eq_true f_HS2
                          go_wp2_with (first | (go_at_call 57; refine (HBOY.out _ HBQ.out).mono ?_; rintro e w1 ⟨rfl, rfl⟩) | (go_at_call 56; refine (HSY.out _).mono ?_; rintro e w1 ⟨rfl, rfl⟩))
                          refine wp_region_quiet_lit (by kernel_rfl) (by kernel_rfl) ?_
                          repeat (any_goals (first | go_big_quiet_step ((first | (go_at_call 57; exact Calls.quiet_of_same (HBOX.out _ (HBD.out _))) | (go_at_call 56; exact Calls.quiet_of_same (HSX.out _)))) | quiet_step (fail)))
                          all_goals (refine wpQuiet_nil ?_; intro _ hw'; obtain ⟨nq, hw''⟩ := hw'; subst hw'')
                          go_wp2_with fail
                          go_roundw
                          case rel => exact ⟨y + 1, by omega, by go_num, HQN.out _, HNX.out HV.out, HBD.out _⟩
                          case measure => simp [intOf]; omega
                        · have HV := Lib.hid (show bp = true by rw [HBP.out]; cases th <;> rfl)
                          have f_HCX := HCX.out
                          have f_HQ2 := HQ2.out
                          have f_HCY := HCY.out
                          have f_HQ1 := HQ1.out
                          have f_HQ3 := HQ3.out
                          have f_HS2 := HS2.out
                          have g_HS2 := of_decide_eq_true f_HS2
                          go_wp2_with (first | (go_at_call 57; refine (HBOY.out _ HBQ.out).mono ?_; rintro e w1 ⟨rfl, rfl⟩) | (go_at_call 56; refine (HSY.out _).mono ?_; rintro e w1 ⟨rfl, rfl⟩))
                          refine wp_region_quiet_lit (by kernel_rfl) (by kernel_rfl) ?_
                          repeat (any_goals (first | go_big_quiet_step ((first | (go_at_call 57; exact Calls.quiet_of_same (HBOX.out _ (HBD.out _))) | (go_at_call 56; exact Calls.quiet_of_same (HSX.out _)))) | quiet_step (fail)))
                          all_goals (refine wpQuiet_nil ?_; intro _ hw'; obtain ⟨nq, hw''⟩ := hw'; subst hw'')
                          go_wp2_with fail
                          go_ret
                          exact ⟨by rw [HFB.out HV.out]; rfl, HBD.out _⟩
                · cases th
                  · cases o
                    · have HV := Lib.hid (show bp = false by rw [HBP.out]; cases iy <;> cases bd <;> cases sz <;> rfl)
                      have f_HCX := HCX.out
                      have f_HQ2 := HQ2.out
                      have f_HS1 := HS1.out
                      have g_HS1 := of_decide_eq_false f_HS1
                      have f_HQ1 := HQ1.out
                      simp only [Int.not_le] at g_HS1
                      go_wp2_with (first | (go_at_call 57; refine (HBOY.out _ HBQ.out).mono ?_; rintro e w1 ⟨rfl, rfl⟩) | (go_at_call 56; refine (HSY.out _).mono ?_; rintro e w1 ⟨rfl, rfl⟩))
                      refine wp_region_quiet_lit (by kernel_rfl) (by kernel_rfl) ?_
                      repeat (any_goals (first | go_big_quiet_step ((first | (go_at_call 57; exact Calls.quiet_of_same (HBOX.out _ (HBD.out _))) | (go_at_call 56; exact Calls.quiet_of_same (HSX.out _)))) | quiet_step (fail)))
                      all_goals (refine wpQuiet_nil ?_; intro _ hw'; obtain ⟨nq, hw''⟩ := hw'; subst hw'')
                      go_wp2_with fail
                      go_roundw
                      case rel => exact ⟨y + 1, by omega, by go_num, HQN.out _, HNX.out HV.out, HBD.out _⟩
                      case measure => simp [intOf]; omega
                    · cases bd
                      · have HV := Lib.hid (show bp = false by rw [HBP.out]; cases iy <;> cases sz <;> rfl)
                        have f_HCX := HCX.out
                        have f_HQ2 := HQ2.out
                        have f_HS1 := HS1.out
                        have g_HS1 := of_decide_eq_false f_HS1
                        have f_HQ1 := HQ1.out
                        have f_HQ3 := HQ3.out
                        simp only [Int.not_le] at g_HS1
                        go_wp2_with (first | (go_at_call 57; refine (HBOY.out _ HBQ.out).mono ?_; rintro e w1 ⟨rfl, rfl⟩) | (go_at_call 56; refine (HSY.out _).mono ?_; rintro e w1 ⟨rfl, rfl⟩))
                        refine wp_region_quiet_lit (by kernel_rfl) (by kernel_rfl) ?_
                        repeat (any_goals (first | go_big_quiet_step ((first | (go_at_call 57; exact Calls.quiet_of_same (HBOX.out _ (HBD.out _))) | (go_at_call 56; exact Calls.quiet_of_same (HSX.out _)))) | quiet_step (fail)))
                        all_goals (refine wpQuiet_nil ?_; intro _ hw'; obtain ⟨nq, hw''⟩ := hw'; subst hw'')
                        go_wp2_with fail
                        go_roundw
                        case rel => exact ⟨y + 1, by omega, by go_num, HQN.out _, HNX.out HV.out, HBD.out _⟩
                        case measure => simp [intOf]; omega
                      · cases sz
                        · have HV := Lib.hid (show bp = false by rw [HBP.out]; cases iy <;> rfl)
                          have f_HCX := HCX.out
                          have f_HQ2 := HQ2.out
                          have f_HS1 := HS1.out
                          have g_HS1 := of_decide_eq_false f_HS1
                          have f_HQ1 := HQ1.out
                          have f_HQ3 := HQ3.out
                          have f_HS2 := HS2.out
                          have g_HS2 := of_decide_eq_false f_HS2
                          simp only [Int.not_le] at g_HS2
                          have n_HS2 : decide (B ≤ K) = false := decide_eq_false (by omega)
                          simp only [Int.not_le] at g_HS1
                          go_wp2_with (first | (go_at_call 57; refine (HBOY.out _ HBQ.out).mono ?_; rintro e w1 ⟨rfl, rfl⟩) | (go_at_call 56; refine (HSY.out _).mono ?_; rintro e w1 ⟨rfl, rfl⟩))
                          refine wp_region_quiet_lit (by kernel_rfl) (by kernel_rfl) ?_
                          repeat (any_goals (first | go_big_quiet_step ((first | (go_at_call 57; exact Calls.quiet_of_same (HBOX.out _ (HBD.out _))) | (go_at_call 56; exact Calls.quiet_of_same (HSX.out _)))) | quiet_step (fail)))
                          all_goals (refine wpQuiet_nil ?_; intro _ hw'; obtain ⟨nq, hw''⟩ := hw'; subst hw'')
                          go_wp2_with fail
                          go_roundw
                          case rel => exact ⟨y + 1, by omega, by go_num, HQN.out _, HNX.out HV.out, HBD.out _⟩
                          case measure => simp [intOf]; omega
                        · cases iy
                          · have HV := Lib.hid (show bp = false by rw [HBP.out]; rfl)
                            have f_HCX := HCX.out
                            have f_HQ2 := HQ2.out
                            have f_HS1 := HS1.out
                            have g_HS1 := of_decide_eq_false f_HS1
                            have f_HCY := HCY.out
                            have f_HQ1 := HQ1.out
                            have f_HQ3 := HQ3.out
                            have f_HS2 := HS2.out
                            have g_HS2 := of_decide_eq_true f_HS2
                            simp only [Int.not_le] at g_HS1
                            go_wp2_with (first | (go_at_call 57; refine (HBOY.out _ HBQ.out).mono ?_; rintro e w1 ⟨rfl, rfl⟩) | (go_at_call 56; refine (HSY.out _).mono ?_; rintro e w1 ⟨rfl, rfl⟩))
                            refine wp_region_quiet_lit (by kernel_rfl) (by kernel_rfl) ?_
                            repeat (any_goals (first | go_big_quiet_step ((first | (go_at_call 57; exact Calls.quiet_of_same (HBOX.out _ (HBD.out _))) | (go_at_call 56; exact Calls.quiet_of_same (HSX.out _)))) | quiet_step (fail)))
                            all_goals (refine wpQuiet_nil ?_; intro _ hw'; obtain ⟨nq, hw''⟩ := hw'; subst hw'')
                            go_wp2_with fail
                            go_roundw
                            case rel => exact ⟨y + 1, by omega, by go_num, HQN.out _, HNX.out HV.out, HBD.out _⟩
                            case measure => simp [intOf]; omega
                          · have HV := Lib.hid (show bp = true by rw [HBP.out]; rfl)
                            have f_HCX := HCX.out
                            have f_HQ2 := HQ2.out
                            have f_HS1 := HS1.out
                            have g_HS1 := of_decide_eq_false f_HS1
                            have f_HCY := HCY.out
                            have f_HQ1 := HQ1.out
                            have f_HQ3 := HQ3.out
                            have f_HS2 := HS2.out
                            have g_HS2 := of_decide_eq_true f_HS2
                            simp only [Int.not_le] at g_HS1
                            go_wp2_with (first | (go_at_call 57; refine (HBOY.out _ HBQ.out).mono ?_; rintro e w1 ⟨rfl, rfl⟩) | (go_at_call 56; refine (HSY.out _).mono ?_; rintro e w1 ⟨rfl, rfl⟩))
                            refine wp_region_quiet_lit (by kernel_rfl) (by kernel_rfl) ?_
                            repeat (any_goals (first | go_big_quiet_step ((first | (go_at_call 57; exact Calls.quiet_of_same (HBOX.out _ (HBD.out _))) | (go_at_call 56; exact Calls.quiet_of_same (HSX.out _)))) | quiet_step (fail)))
                            all_goals (refine wpQuiet_nil ?_; intro _ hw'; obtain ⟨nq, hw''⟩ := hw'; subst hw'')
                            go_wp2_with fail
                            go_ret
                            exact ⟨by rw [HFB.out HV.out]; rfl, HBD.out _⟩
                  · cases iy
                    · have HV := Lib.hid (show bp = true by rw [HBP.out]; cases bd <;> cases sz <;> cases o <;> rfl)
                      have f_HCX := HCX.out
                      have f_HQ2 := HQ2.out
                      have f_HS1 := HS1.out
                      have g_HS1 := of_decide_eq_true f_HS1
                      have f_HCY := HCY.out
                      go_wp2_with (first | (go_at_call 57; refine (HBOY.out _ HBQ.out).mono ?_; rintro e w1 ⟨rfl, rfl⟩) | (go_at_call 56; refine (HSY.out _).mono ?_; rintro e w1 ⟨rfl, rfl⟩))
                      go_ret
                      exact ⟨by rw [HFB.out HV.out]; rfl, HBQ.out⟩
                    · cases o
                      · have HV := Lib.hid (show bp = false by rw [HBP.out]; cases bd <;> cases sz <;> rfl)
                        have f_HCX := HCX.out
                        have f_HQ2 := HQ2.out
                        have f_HS1 := HS1.out
                        have g_HS1 := of_decide_eq_true f_HS1
                        have f_HCY := HCY.out
                        have f_HQ1 := HQ1.out
                        go_wp2_with (first | (go_at_call 57; refine (HBOY.out _ HBQ.out).mono ?_; rintro e w1 ⟨rfl, rfl⟩) | (go_at_call 56; refine (HSY.out _).mono ?_; rintro e w1 ⟨rfl, rfl⟩))
                        refine wp_region_quiet_lit (by kernel_rfl) (by kernel_rfl) ?_
                        repeat (any_goals (first | go_big_quiet_step ((first | (go_at_call 57; exact Calls.quiet_of_same (HBOX.out _ (HBD.out _))) | (go_at_call 56; exact Calls.quiet_of_same (HSX.out _)))) | quiet_step (fail)))
                        all_goals (refine wpQuiet_nil ?_; intro _ hw'; obtain ⟨nq, hw''⟩ := hw'; subst hw'')
                        go_wp2_with fail
                        go_roundw
                        case rel => exact ⟨y + 1, by omega, by go_num, HQN.out _, HNX.out HV.out, HBD.out _⟩
                        case measure => simp [intOf]; omega
                      · cases bd
                        · have HV := Lib.hid (show bp = false by rw [HBP.out]; cases sz <;> rfl)
                          have f_HCX := HCX.out
                          have f_HQ2 := HQ2.out
                          have f_HS1 := HS1.out
                          have g_HS1 := of_decide_eq_true f_HS1
                          have f_HCY := HCY.out
                          have f_HQ1 := HQ1.out
                          have f_HQ3 := HQ3.out
                          go_wp2_with (first | (go_at_call 57; refine (HBOY.out _ HBQ.out).mono ?_; rintro e w1 ⟨rfl, rfl⟩) | (go_at_call 56; refine (HSY.out _).mono ?_; rintro e w1 ⟨rfl, rfl⟩))
                          refine wp_region_quiet_lit (by kernel_rfl) (by kernel_rfl) ?_
                          repeat (any_goals (first | go_big_quiet_step ((first | (go_at_call 57; exact Calls.quiet_of_same (HBOX.out _ (HBD.out _))) | (go_at_call 56; exact Calls.quiet_of_same (HSX.out _)))) | quiet_step (fail)))
                          all_goals (refine wpQuiet_nil ?_; intro _ hw'; obtain ⟨nq, hw''⟩ := hw'; subst hw'')
                          go_wp2_with fail
                          go_roundw
                          case rel => exact ⟨y + 1, by omega, by go_num, HQN.out _, HNX.out HV.out, HBD.out _⟩
                          case measure => simp [intOf]; omega
                        · cases sz
                          · have HV := Lib.hid (show bp = false by rw [HBP.out]; rfl)
                            have f_HCX := HCX.out
                            have f_HQ2 := HQ2.out
                            have f_HS1 := HS1.out
                            have g_HS1 := of_decide_eq_true f_HS1
                            have f_HCY := HCY.out
                            have f_HQ1 := HQ1.out
                            have f_HQ3 := HQ3.out
                            have f_HS2 := HS2.out
                            have g_HS2 := of_decide_eq_false f_HS2
                            simp only [Int.not_le] at g_HS2
                            have n_HS2 : decide (B ≤ K) = false := decide_eq_false (by omega)
                            go_wp2_with (first | (go_at_call 57; refine (HBOY.out _ HBQ.out).mono ?_; rintro e w1 ⟨rfl, rfl⟩) | (go_at_call 56; refine (HSY.out _).mono ?_; rintro e w1 ⟨rfl, rfl⟩))
                            refine wp_region_quiet_lit (by kernel_rfl) (by kernel_rfl) ?_
                            repeat (any_goals (first | go_big_quiet_step ((first | (go_at_call 57; exact Calls.quiet_of_same (HBOX.out _ (HBD.out _))) | (go_at_call 56; exact Calls.quiet_of_same (HSX.out _)))) | quiet_step (fail)))
                            all_goals (refine wpQuiet_nil ?_; intro _ hw'; obtain ⟨nq, hw''⟩ := hw'; subst hw'')
                            go_wp2_with fail
                            go_roundw
                            case rel => exact ⟨y + 1, by omega, by go_num, HQN.out _, HNX.out HV.out, HBD.out _⟩
                            case measure => simp [intOf]; omega
                          · have HV := Lib.hid (show bp = true by rw [HBP.out]; rfl)
                            have f_HCX := HCX.out
                            have f_HQ2 := HQ2.out
                            have f_HS1 := HS1.out
                            have g_HS1 := of_decide_eq_true f_HS1
                            have f_HCY := HCY.out
                            have f_HQ1 := HQ1.out
                            have f_HQ3 := HQ3.out
                            have f_HS2 := HS2.out
                            have g_HS2 := of_decide_eq_true f_HS2
                            go_wp2_with (first | (go_at_call 57; refine (HBOY.out _ HBQ.out).mono ?_; rintro e w1 ⟨rfl, rfl⟩) | (go_at_call 56; refine (HSY.out _).mono ?_; rintro e w1 ⟨rfl, rfl⟩))
                            refine wp_region_quiet_lit (by kernel_rfl) (by kernel_rfl) ?_
                            repeat (any_goals (first | go_big_quiet_step ((first | (go_at_call 57; exact Calls.quiet_of_same (HBOX.out _ (HBD.out _))) | (go_at_call 56; exact Calls.quiet_of_same (HSX.out _)))) | quiet_step (fail)))
                            all_goals (refine wpQuiet_nil ?_; intro _ hw'; obtain ⟨nq, hw''⟩ := hw'; subst hw'')
                            go_wp2_with fail
                            go_ret
                            exact ⟨by rw [HFB.out HV.out]; rfl, HBD.out _⟩
            · have hye : y = N := by omega
              have HDX : Hid (∀ a, a < x + 1 → ∀ y, y < N → badR n r K m z a y = false) := Lib.hid fun a ha y' hy' => by
                rcases Nat.lt_succ_iff_lt_or_eq.1 ha with h2 | h2
                · exact HD.out a h2 y' hy'
                · subst h2; exact HDQ.out y' (by omega)
              have hyi : ¬ (y : Int) < (N : Int) - 1 + 1 := by omega
              clear hye
              go_wp2_with fail
              go_roundw
              case rel => exact ⟨x + 1, by omega, by go_num, HRQ.out, HDX.out, HBQ.out⟩
              case measure => simp [intOf]; omega
        · have hxe : x = N := by omega
          have HX : Hid (blkR n r K m z = true) := Lib.hid (by
            rw [HBK.out]
            refine List.all_eq_true.2 fun a ha => List.all_eq_true.2 fun b hb => ?_
            rw [HD.out a (by rw [hxe]; exact List.mem_range.1 ha) b (List.mem_range.1 hb)]; rfl)
          have hxi : ¬ (x : Int) < (N : Int) - 1 + 1 := by omega
          clear hxe
          go_wp2_with fail
          go_ret
          exact ⟨by rw [HX.out]; rfl, HBX.out⟩

end Go.Proofs.YtgkpogaahndmoaaDoor
