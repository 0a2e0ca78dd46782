/- The contracts of the reference's Width, Order, IsOrder, Along and Valid. (Made by gen_w15.py.) -/
import Derived.Test.YtombmfphodikjaaW14
import Derived.Test.YtombmfphodikjaaW9
namespace Go.Proofs.Ytombmfphodikjaa
set_option linter.unusedSimpArgs false
set_option linter.unusedVariables false
open Go.RowKit Go.Maps
attribute [local go_sem] i64_bit toNat_eq_one toNat_ne_one toNat_eq_zero toNat_ne_zero i64_and i64_or i64_andNot i64_or_pow i64_andNot_pow

theorem alo_le9 {n : Nat} {r : Nat → Nat} {z : Nat → Int} (k : Nat) : alo (tn n r) z k ≤ n := by
  induction k with
  | zero => exact Nat.zero_le _
  | succ k ih => show max _ _ ≤ n; have := tn_le n r (metO z k) (z k).toNat; omega

set_option maxRecDepth 20000 in
set_option maxHeartbeats 1000000 in
theorem ValidR_any (n : Nat) (z : Nat → Int) (a : Option Addr) (cap : Nat) (w : World) (hI : IntsAt w a n z) (hz : ∀ i, -9223372036854775808 ≤ z i ∧ z i ≤ 9223372036854775807) :
    Calls Try.prog 17 #[.slice a n cap] w fun e w' => e = .returned (.bool (graphB n 9 z)) ∧ Below w.heap.size w w' := by
  have HI := Lib.hid hI
  have HZ := Lib.hid hz
  clear hI hz
  go_enter Try.func17, Try.ntmps17
  go_wp2_with (go_at_call 47; refine (IsGraph_any n 9 9 rfl z a cap _ HI.out HZ.out (by omega)).mono ?_; rintro e w1 ⟨rfl, hb1⟩; have HB1 := Lib.hid hb1; clear hb1)
  go_ret
  exact ⟨rfl, HB1.out⟩

set_option maxRecDepth 20000 in
set_option maxHeartbeats 1000000 in
theorem WidthR_any {n : Nat} {r : Nat → Nat} {a : Option Addr} {w : World} (G : Gr w a n r) (cap : Nat) :
    Calls Try.prog 19 #[.slice a n cap] w fun e w' => e = .returned (.int .i64 (rst n (tn n r) 0 : Nat)) ∧ Below w.heap.size w w' := by
  have HG := Lib.hid G
  have h2 := Nat.two_pow_pos n
  obtain ⟨N, hN⟩ : ∃ N : Nat, N = 2 ^ n := ⟨_, rfl⟩
  have HN := Lib.hid hN
  have hN0 : 0 < N := by omega
  clear G hN h2
  go_enter Try.func19, Try.ntmps19
  go_wp2_with (go_at_call 48; refine (rest_any HG.out cap).mono ?_; rintro e w1 ⟨tb, rfl, hR, htb, hb1⟩; rw [← HN.out] at hR; rw [← HN.out]; have c0 := hR.cell (tabL_get (G := rst n (tn n r)) hN0); have HB1 := Lib.hid hb1; have hl := hR.lt; clear hb1 hR)
  go_ret
  exact ⟨rfl, HB1.out⟩

set_option maxRecDepth 20000 in
set_option maxHeartbeats 2000000 in
theorem IsOrderR_any {n m : Nat} {z : Nat → Int} {o : Option Addr} {w : World} (hn : n ≤ 9) (co : Nat) (hI : IntsAt w o m z) :
    Calls Try.prog 22 #[.slice o m co, .int .i64 n] w fun e w' => e = .returned (.bool (ordB n m z)) ∧ w = w' := by
  have hml := hI.1
  unfold maxLen at hml
  have HI := Lib.hid hI
  clear hI
  go_enter Try.func22, Try.ntmps22
  go_wp2_with fail
  go_loopw [5, 10] (fun f i wr => ∃ k : Nat, k ≤ m ∧ i = .int .i64 k ∧ f = .int .i64 (metO z k : Nat) ∧ (∀ i, i < k → okO n z i = true) ∧ w = wr) (fun _ i _ => m - (intOf i).toNat)
  case atStart => exact ⟨0, Nat.zero_le _, rfl, rfl, by omega, rfl⟩
  case round =>
    obtain ⟨k, hk, rfl, rfl, hok, rfl⟩ := hrel
    have HOK := Lib.hid hok
    have hmet := lt16 hn (metO_lt k hok)
    have HST : Hid (metO z (k + 1) = metO z k ||| 2 ^ (z k).toNat) := Lib.hid rfl
    clear hok
    by_cases hlt : k < m
    · obtain ⟨b, off, rfl, hb, hc⟩ := HI.out.2 (by omega)
      have ck := hc k hlt
      clear hc
      by_cases hr0 : 0 ≤ z k
      · by_cases hr1 : z k < n
        · have hin := inB_true hr0 hr1
          obtain ⟨s, hs⟩ : ∃ s : Nat, z k = s := ⟨(z k).toNat, by omega⟩
          have hsm : s < n := by omega
          have hs64 : s < 64 := by omega
          have hs16 : s < 16 := by omega
          have hps := pow_bd s hs16
          rw [hs] at ck hin
          rw [hs, Int.toNat_natCast] at HST
          have HMB : Hid (okO n z k = (true && !(metO z k).testBit s)) := Lib.hid (by unfold okO; rw [hs, hin, Int.toNat_natCast])
          clear hr0 hr1 hs
          generalize metO z k = M at *
          cases hq : M.testBit s
          · have HQ := Lib.hid (show okO n z k = true by rw [HMB.out, hq]; rfl)
            go_wp2_with fail
            go_roundw
            case rel => exact ⟨k + 1, by omega, by go_num, by rw [HST.out], fun i hi => by rcases Nat.lt_succ_iff_lt_or_eq.1 hi with h | h; exact HOK.out i h; rw [h]; exact HQ.out, by trivial⟩
            case measure => simp [intOf]; omega
          · have HQ := Lib.hid (show okO n z k = false by rw [HMB.out, hq]; rfl)
            go_wp2_with fail
            go_ret
            exact ⟨by rw [ordB_bad hlt HQ.out]; rfl, rfl⟩
        · have HQ := Lib.hid (show okO n z k = false by unfold okO; rw [inB_false (by omega)]; rfl)
          generalize z k = x at ck hr0 hr1
          go_wp2_with fail
          go_ret
          exact ⟨by rw [ordB_bad hlt HQ.out]; rfl, rfl⟩
      · have HQ := Lib.hid (show okO n z k = false by unfold okO; rw [inB_false (by omega)]; rfl)
        generalize z k = x at ck hr0
        go_wp2_with fail
        go_ret
        exact ⟨by rw [ordB_bad hlt HQ.out]; rfl, rfl⟩
    · have hke : k = m := by omega
      subst hke
      go_wp2_with fail
      go_ret
      refine ⟨?_, rfl⟩
      show Ending.returned (Value.bool ((k : Int) == (n : Int))) = _
      rw [cast_beq]
      by_cases hkn : k = n
      · subst hkn; rw [ordB_good HOK.out]; simp
      · rw [ordB_len hkn, beq_eq_false_iff_ne.2 hkn]

set_option maxRecDepth 20000 in
set_option maxHeartbeats 2000000 in
theorem AlongR_any {n : Nat} {r : Nat → Nat} {a : Option Addr} {w : World} (G : Gr w a n r) (cap : Nat) {z : Nat → Int} {o : Option Addr} (co : Nat) (hI : IntsAt w o n z) (hok : ∀ k, k < n → okO n z k = true) :
    Calls Try.prog 23 #[.slice a n cap, .slice o n co] w fun e w' => e = .returned (.int .i64 (alo (tn n r) z n : Nat)) ∧ Below w.heap.size w w' := by
  have hle := G.le
  have HG := Lib.hid G
  have HOK := Lib.hid hok
  have HI := Lib.hid hI
  clear G hok hI
  go_enter Try.func23, Try.ntmps23
  go_wp2_with fail
  go_loopw [5, 6, 11] (fun b f i wr => ∃ k : Nat, k ≤ n ∧ i = .int .i64 k ∧ f = .int .i64 (metO z k : Nat) ∧ b = .int .i64 (alo (tn n r) z k : Nat) ∧ Below w.heap.size w wr) (fun _ _ i _ => n - (intOf i).toNat)
  case atStart => exact ⟨0, Nat.zero_le _, rfl, rfl, rfl, Below.refl _ _⟩
  case round =>
    obtain ⟨k, hk, rfl, rfl, rfl, hbel⟩ := hrel
    have HB := Lib.hid hbel
    have HGW := Lib.hid (HG.out.below hbel)
    have HIW := Lib.hid (HI.out.below hbel)
    clear hbel
    by_cases hlt : k < n
    · obtain ⟨b, off, rfl, hb, hc⟩ := HIW.out.2 (by omega)
      have ck := hc k hlt
      clear hc
      have hmet2 := metO_lt k (fun i hi => HOK.out i (by omega))
      have hmet := lt16 hle hmet2
      obtain ⟨h0, h1, h2, h3⟩ := okO_iff (HOK.out k hlt)
      obtain ⟨s, hs⟩ : ∃ s : Nat, z k = s := ⟨(z k).toNat, by omega⟩
      have hsn : s < n := by omega
      have hs64 : s < 64 := by omega
      have hs16 : s < 16 := by omega
      have hps := pow_bd s hs16
      rw [hs] at ck
      have HST : Hid (metO z (k + 1) = metO z k ||| 2 ^ s) := Lib.hid (by show metO z k ||| 2 ^ (z k).toNat = _; rw [hs, Int.toNat_natCast])
      have HAL : Hid (alo (tn n r) z (k + 1) = max (alo (tn n r) z k) (tn n r (metO z k) s)) := Lib.hid (by show max _ (tn n r (metO z k) (z k).toNat) = _; rw [hs, Int.toNat_natCast])
      have hal : alo (tn n r) z k ≤ 9 := Nat.le_trans (alo_le9 k) hle
      have htl := tn_le n r (metO z k) s
      have HM2 := Lib.hid hmet2
      clear h0 h1 h2 h3 hs hmet2
      generalize metO z k = M at *
      generalize alo (tn n r) z k = A at *
      generalize htt : tn n r M s = T at *
      have HTT := Lib.hid htt
      clear htt
      go_wp2_with (go_at_call 49; refine (turn_any HGW.out cap M s hsn HM2.out).mono ?_; rintro e w3 ⟨rfl, hb3⟩; rw [HTT.out]; have HB3 := Lib.hid hb3; clear hb3)
      go_roundw
      case rel => exact ⟨k + 1, by omega, by go_num, by rw [HST.out], by rw [HAL.out]; first | rfl | (congr 1; omega), HB.out.trans (HB3.out.mono HB.out.size)⟩
      case measure => simp [intOf]; omega
    · have hke : k = n := by omega
      subst hke
      go_wp2_with fail
      go_ret
      exact ⟨rfl, HB.out⟩

set_option maxRecDepth 20000 in
set_option maxHeartbeats 4000000 in
theorem OrderR_any {n : Nat} {r : Nat → Nat} {a : Option Addr} {w : World} (G : Gr w a n r) (cap : Nat) :
    Calls Try.prog 21 #[.slice a n cap] w fun e w' => ∃ v, e = .returned v ∧ NatsOwn w' w.heap.size v (ordW n (tn n r) (rst n (tn n r) 0) n 0) ∧ Below w.heap.size w w' := by
  obtain ⟨i0, hi0, hz1, hz2, hz3⟩ := info_parts info_int
  have hle := G.le
  have hn16 : n < 16 := by omega
  have HG := Lib.hid G
  have h2 := Nat.two_pow_pos n
  have h9 := pow_le9 hle
  obtain ⟨N, hN⟩ : ∃ N : Nat, N = 2 ^ n := ⟨_, rfl⟩
  have HN := Lib.hid hN
  have hN0 : 0 < N := by omega
  have hN9 : N ≤ 512 := by omega
  have hrle := rst_le (n := n) (t := tn n r) h2
  have HGO : Hid (Going n (tn n r) (rst n (tn n r) 0) [] 0) := Lib.hid (Going.start (Nat.le_refl _))
  clear G hN h2 h9
  generalize hW : rst n (tn n r) 0 = W at *
  have HW := Lib.hid hW
  clear hW
  go_enter Try.func21, Try.ntmps21
  go_wp2_with (go_at_call 48; refine (rest_any HG.out cap).mono ?_; rintro e w1 ⟨tb, rfl, hR, htb, hb1⟩; rw [← HN.out] at hR; rw [← HN.out]; have HB1 := Lib.hid hb1; have HR := Lib.hid hR; clear hb1 hR)
  go_loopw [4, 5, 11] (fun o g i wr => ∃ (k : Nat) (ov : Value) (L : List Nat) (gone : Nat), k ≤ n ∧ ov = o ∧ NatsOwn wr w1.heap.size ov L ∧ i = .int .i64 k ∧ L.length = k ∧ g = .int .i64 (gone : Nat) ∧ Going n (tn n r) W L gone ∧ Below w1.heap.size w1 wr) (fun _ _ i _ => n - (intOf i).toNat)
  case atStart => exact ⟨0, _, [], 0, Nat.zero_le _, rfl, ⟨rfl, Or.inl ⟨rfl, rfl⟩⟩, rfl, rfl, rfl, HGO.out, Below.refl _ _⟩
  case round =>
    clear HGO
    obtain ⟨k, ov, L, gone, hk, rfl, hown, rfl, hLn, rfl, hgo, hbel⟩ := hrel
    have hglt := hgo.lt
    have hg16 := lt16 hle hglt
    have hlen := hgo.len
    have HOW := Lib.hid hown
    have HGO := Lib.hid hgo
    have HBL := Lib.hid hbel
    have HLN := Lib.hid hLn
    clear hown hgo hbel hLn
    by_cases hlt : k < n
    · have hne : gone ≠ 2 ^ n - 1 := fun e => by
        have := HGO.out.sz
        rw [e, sz_all, HLN.out] at this
        omega
      have HNEX := Lib.hid (HGO.out.next hne (fun v hv => tn_le _ _ _ _))
      clear hne
      go_wp2_with fail
      go_loopw [4, 5, 15] (fun o g i wx => ∃ j : Nat, j ≤ n ∧ i = .int .i64 j ∧ ov = o ∧ g = .int .i64 (gone : Nat) ∧ (∀ u, u < j → nxtB n (tn n r) W gone u = false) ∧ NatsOwn wx w1.heap.size ov L ∧ Below w1.heap.size w1 wx) (fun _ _ i _ => n - (intOf i).toNat)
      case atStart => exact ⟨0, Nat.zero_le _, rfl, rfl, rfl, by omega, HOW.out, HBL.out⟩
      case round =>
        clear HOW HBL
        obtain ⟨j, hj, rfl, rfl, rfl, hno, hown, hbel⟩ := hrel
        have HNO := Lib.hid hno
        have HOW := Lib.hid hown
        have HBL := Lib.hid hbel
        have hsz := hbel.size
        clear hno hown hbel
        by_cases hlj : j < n
        · have hj16 : j < 16 := by omega
          have hj64 : j < 64 := by omega
          have hpj := pow_bd j hj16
          have wp1 : IntKind.i64.wrap ((2 : Int) ^ j) = 2 ^ j := IntWalk.i64_in _ (by omega)
          have wp2 : wrap64 ((2 : Int) ^ j) = 2 ^ j := IntWalk.wrap64_in _ (by omega)
          have HRW := Lib.hid (HR.out.below HBL.out HR.out.lt)
          have c0 : ∀ u : BelowW wr.heap.size wr, u.w.cell? ⟨tb, 0, none⟩ = some (.int .i64 (W : Nat)) := fun u => by
            rw [← HW.out]; exact (HRW.out.below u.h HRW.out.lt).cell (tabL_get (G := rst n (tn n r)) hN0)
          cases hq : gone.testBit j
          · have hlt2 : gone ||| 2 ^ j < 2 ^ n := Nat.or_lt_two_pow hglt (pow_lt_pow hlj)
            have hg2 : gone ||| 2 ^ j < N := by rw [HN.out]; exact hlt2
            obtain ⟨g2, hg2e⟩ : ∃ g2, g2 = gone ||| 2 ^ j := ⟨_, rfl⟩
            have hor : bits .or .i64 (gone : Int) ((2 : Int) ^ j) = (g2 : Int) := by rw [hg2e]; exact i64_or_pow gone j hg16 hj16
            have hgor : gone ||| 2 ^ j = g2 := hg2e.symm
            rw [← hg2e] at hg2 hlt2
            have c1 : ∀ u : BelowW wr.heap.size wr, u.w.cell? ⟨tb, g2, none⟩ = some (.int .i64 (rst n (tn n r) g2 : Nat)) := fun u =>
              (HRW.out.below u.h HRW.out.lt).cell (tabL_get (G := rst n (tn n r)) hg2)
            have hr9 : rst n (tn n r) g2 ≤ 9 := Nat.le_trans (rst_le hlt2) hle
            have ht9 : tn n r gone j ≤ 9 := Nat.le_trans (tn_le _ _ _ _) hle
            have htc : ∀ wz, Below wr.heap.size wr wz → Calls Try.prog 49 #[.slice a n cap, .int .i64 gone, .int .i64 j] wz fun e w' => e = .returned (.int .i64 (tn n r gone j : Nat)) ∧ Below wz.heap.size wz w' := fun wz hb =>
              turn_any (((HG.out.below HB1.out).below HBL.out).below hb) cap gone j hlj hglt
            have HRJ : Hid (rst n (tn n r) (gone ||| 2 ^ j) = rst n (tn n r) g2) := Lib.hid (by rw [hgor])
            obtain ⟨rj, hrj⟩ : ∃ x, x = rst n (tn n r) g2 := ⟨_, rfl⟩
            obtain ⟨tj, htj⟩ : ∃ x, x = tn n r gone j := ⟨_, rfl⟩
            rw [← hrj] at hr9 HRJ c1
            rw [← htj] at ht9 htc
            have HTJ : Hid (tn n r gone j = tj) := Lib.hid htj.symm
            have HTC := Lib.hid htc
            clear hrj htj htc hg2e hlt2
            rcases (by omega : (tj < rj ∧ rj ≤ W) ∨ (¬ tj < rj ∧ tj ≤ W) ∨ (tj < rj ∧ W < rj) ∨ (¬ tj < rj ∧ W < tj)) with ⟨m1, m2⟩ | ⟨m1, m2⟩ | ⟨m1, m2⟩ | ⟨m1, m2⟩
            ·
              have HYES : Hid (nxtB n (tn n r) W gone j = true) := Lib.hid (nxtB_iff.2 ⟨hq, by rw [HTJ.out]; omega, by rw [HRJ.out]; omega⟩)
              go_wp2_with fail
              refine wp_region_below wr.heap.size wr (Below.refl _ _) (by kernel_rfl) (by kernel_rfl) ?_
              repeat (go_big_quiet_step ((go_at_call 49; exact calls_below (Nat.le_refl _) (HTC.out _ (BelowW.h _)))))
              refine wpQuiet_nil ?_
              rintro _ ⟨uw, rfl⟩
              have HU := Lib.hid uw.h
              have HOU := Lib.hid (ownsRow_below HOW.out uw.h (Nat.le_refl _))
              go_wp2_with (at_builtin; refine wpList_append_own _ rfl _ _ 22 rfl w1.heap.size 3 i0 (.int .i64 0) 1 8 Try.underlying22 hi0 hz1 hz2 hz3 rfl (by decide) _ _ _ rfl (World.ownsRow.alloc HOU.out _) ⟨_, 0, none⟩ 1 1 [.int .i64 j] rfl rfl ?c1 ?c2 ?c3 ?c4 ?c5 ?_)
              case c1 => exact cells_new _ _ _
              case c2 => intro u hu; simp at hu; subst hu; rfl
              case c3 => unfold maxLen; omega
              case c4 => omega
              case c5 => simp; have := HU.out.size; omega
              intro v' w9 hown1 hg1 _
              have HO9 : Hid (NatsOwn w9 w1.heap.size v' (L ++ [j])) := Lib.hid (by
                unfold NatsOwn
                rw [List.length_append, List.map_append]
                exact hown1)
              have hrow : ∀ k, ov.ownBlock = some k → w1.heap.size ≤ k := fun k hk => (World.ownsRow.lt HOU.out k hk).1
              have hU0 : Below w1.heap.size w1 uw.w := HBL.out.trans (uw.h.mono hsz)
              have HB9 : Hid (Below w1.heap.size w1 w9) := Lib.hid ((hU0.alloc hU0.size _).grown hg1 (by simp; have := hU0.size; omega) hrow)
              clear hown1 hg1 hrow
              go_wp2_with fail
              go_roundw
              case rel => exact ⟨k + 1, v', L ++ [j], gone ||| 2 ^ j, by omega, rfl, HO9.out, by go_num, by simp [HLN.out], by rw [hgor], HGO.out.step hlj HYES.out HNO.out, HB9.out⟩
              case measure => simp [intOf]; omega
            ·
              have HYES : Hid (nxtB n (tn n r) W gone j = true) := Lib.hid (nxtB_iff.2 ⟨hq, by rw [HTJ.out]; omega, by rw [HRJ.out]; omega⟩)
              go_wp2_with fail
              refine wp_region_below wr.heap.size wr (Below.refl _ _) (by kernel_rfl) (by kernel_rfl) ?_
              repeat (go_big_quiet_step ((go_at_call 49; exact calls_below (Nat.le_refl _) (HTC.out _ (BelowW.h _)))))
              refine wpQuiet_nil ?_
              rintro _ ⟨uw, rfl⟩
              have HU := Lib.hid uw.h
              have HOU := Lib.hid (ownsRow_below HOW.out uw.h (Nat.le_refl _))
              go_wp2_with (at_builtin; refine wpList_append_own _ rfl _ _ 22 rfl w1.heap.size 3 i0 (.int .i64 0) 1 8 Try.underlying22 hi0 hz1 hz2 hz3 rfl (by decide) _ _ _ rfl (World.ownsRow.alloc HOU.out _) ⟨_, 0, none⟩ 1 1 [.int .i64 j] rfl rfl ?c1 ?c2 ?c3 ?c4 ?c5 ?_)
              case c1 => exact cells_new _ _ _
              case c2 => intro u hu; simp at hu; subst hu; rfl
              case c3 => unfold maxLen; omega
              case c4 => omega
              case c5 => simp; have := HU.out.size; omega
              intro v' w9 hown1 hg1 _
              have HO9 : Hid (NatsOwn w9 w1.heap.size v' (L ++ [j])) := Lib.hid (by
                unfold NatsOwn
                rw [List.length_append, List.map_append]
                exact hown1)
              have hrow : ∀ k, ov.ownBlock = some k → w1.heap.size ≤ k := fun k hk => (World.ownsRow.lt HOU.out k hk).1
              have hU0 : Below w1.heap.size w1 uw.w := HBL.out.trans (uw.h.mono hsz)
              have HB9 : Hid (Below w1.heap.size w1 w9) := Lib.hid ((hU0.alloc hU0.size _).grown hg1 (by simp; have := hU0.size; omega) hrow)
              clear hown1 hg1 hrow
              go_wp2_with fail
              go_roundw
              case rel => exact ⟨k + 1, v', L ++ [j], gone ||| 2 ^ j, by omega, rfl, HO9.out, by go_num, by simp [HLN.out], by rw [hgor], HGO.out.step hlj HYES.out HNO.out, HB9.out⟩
              case measure => simp [intOf]; omega
            ·
              have HNOT : Hid (nxtB n (tn n r) W gone j = false) := Lib.hid (Bool.eq_false_iff.2 fun h => by
                obtain ⟨_, h1, h2⟩ := nxtB_iff.1 h
                rw [HTJ.out] at h1
                rw [HRJ.out] at h2
                omega)
              go_wp2_with fail
              refine wp_region_below wr.heap.size wr (Below.refl _ _) (by kernel_rfl) (by kernel_rfl) ?_
              repeat (go_big_quiet_step ((go_at_call 49; exact calls_below (Nat.le_refl _) (HTC.out _ (BelowW.h _)))))
              refine wpQuiet_nil ?_
              rintro _ ⟨uw, rfl⟩
              have HU := Lib.hid uw.h
              go_wp2_with fail
              go_roundw
              case rel => exact ⟨j + 1, by omega, by go_num, rfl, rfl, fun u hu => by rcases Nat.lt_succ_iff_lt_or_eq.1 hu with h | h; exact HNO.out u h; rw [h]; exact HNOT.out, ownsRow_below HOW.out HU.out (Nat.le_refl _), HBL.out.trans (HU.out.mono hsz)⟩
              case measure => simp [intOf]; omega
            ·
              have HNOT : Hid (nxtB n (tn n r) W gone j = false) := Lib.hid (Bool.eq_false_iff.2 fun h => by
                obtain ⟨_, h1, h2⟩ := nxtB_iff.1 h
                rw [HTJ.out] at h1
                rw [HRJ.out] at h2
                omega)
              go_wp2_with fail
              refine wp_region_below wr.heap.size wr (Below.refl _ _) (by kernel_rfl) (by kernel_rfl) ?_
              repeat (go_big_quiet_step ((go_at_call 49; exact calls_below (Nat.le_refl _) (HTC.out _ (BelowW.h _)))))
              refine wpQuiet_nil ?_
              rintro _ ⟨uw, rfl⟩
              have HU := Lib.hid uw.h
              go_wp2_with fail
              go_roundw
              case rel => exact ⟨j + 1, by omega, by go_num, rfl, rfl, fun u hu => by rcases Nat.lt_succ_iff_lt_or_eq.1 hu with h | h; exact HNO.out u h; rw [h]; exact HNOT.out, ownsRow_below HOW.out HU.out (Nat.le_refl _), HBL.out.trans (HU.out.mono hsz)⟩
              case measure => simp [intOf]; omega
          · have HNOT : Hid (nxtB n (tn n r) W gone j = false) := Lib.hid (Bool.eq_false_iff.2 fun h => by have := (nxtB_iff.1 h).1; rw [hq] at this; cases this)
            go_wp2_with fail
            refine wp_region_below wr.heap.size wr (Below.refl _ _) (by kernel_rfl) (by kernel_rfl) ?_
            repeat (go_big_quiet_step (fail))
            refine wpQuiet_nil ?_
            rintro _ ⟨uw, rfl⟩
            have HU := Lib.hid uw.h
            go_wp2_with fail
            go_roundw
            case rel => exact ⟨j + 1, by omega, by go_num, rfl, rfl, fun u hu => by rcases Nat.lt_succ_iff_lt_or_eq.1 hu with h | h; exact HNO.out u h; rw [h]; exact HNOT.out, ownsRow_below HOW.out HU.out (Nat.le_refl _), HBL.out.trans (HU.out.mono hsz)⟩
            case measure => simp [intOf]; omega
        · exfalso
          obtain ⟨v, hv, hb⟩ := HNEX.out
          rw [HNO.out v (by omega)] at hb
          cases hb
    · have hke : k = n := by omega
      subst hke
      go_wp2_with fail
      go_ret
      have hd := HGO.out
      have hf := sz_full hd.lt (hd.sz.trans HLN.out)
      rw [hf] at hd
      exact ⟨_, rfl, by rw [← hd.done.1]; exact ownsRow_base HOW.out HB1.out.size, HB1.out.trans (HBL.out.mono HB1.out.size)⟩

end Go.Proofs.Ytombmfphodikjaa
