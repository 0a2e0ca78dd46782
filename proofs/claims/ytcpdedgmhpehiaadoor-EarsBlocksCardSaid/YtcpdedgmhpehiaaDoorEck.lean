/- The contracts of the reference's Blocks and Cactus; the walk of the law EarsBlocks. -/
import Derived.Test.YtcpdedgmhpehiaaDoorEcc
import Derived.Test.YtcpdedgmhpehiaaDoorEt10
namespace Go.Proofs.YtcpdedgmhpehiaaDoor
set_option linter.unusedSimpArgs false
set_option linter.unusedVariables false
open Go.RowKit Go.Maps
attribute [local go_sem] i64_bit toNat_eq_one toNat_ne_one toNat_eq_zero toNat_ne_zero i64_and i64_or i64_andNot i64_or_pow i64_andNot_pow

theorem zList_cast {F : List Nat} {k : Nat} (h : k < F.length) : zListI (castL F) k = ((F[k] : Nat) : Int) := by
  rw [zListI_at (by rw [castL_len]; exact h)]
  simp [castL]
/-- Whether a set is a part of one of the first that were found. -/
def partTo (F : List Nat) (s : Nat) (k : Nat) : Bool := (F.take k).any fun x => diff s x == 0
theorem partTo_succ {F : List Nat} {s k : Nat} (h : k < F.length) : partTo F s (k + 1) = (partTo F s k || diff s F[k] == 0) := by
  unfold partTo
  rw [List.take_add_one, List.getElem?_eq_getElem h, List.any_append]
  simp
theorem partTo_all {F : List Nat} {s : Nat} : (partTo F s F.length = true → ∃ x, x ∈ F ∧ diff s x = 0) ∧ (partTo F s F.length = false → ∀ x, x ∈ F → diff s x ≠ 0) := by
  unfold partTo
  rw [List.take_length]
  constructor
  · intro h
    obtain ⟨x, h1, h2⟩ := List.any_eq_true.1 h
    exact ⟨x, h1, by simpa using h2⟩
  · intro h x hx e
    have := List.any_eq_false.1 h x hx
    rw [e] at this; exact this rfl
/-- The list while one set is looked for in what was found. -/
def outIn (G : List Nat) (j k : Nat) : List Nat := outTo G j ++ (if j ∈ G.take k then [j] else [])
theorem outIn_zero (G : List Nat) (j : Nat) : outIn G j 0 = outTo G j := by unfold outIn; simp
theorem outIn_all (G : List Nat) (j : Nat) : outIn G j G.length = outTo G (j + 1) := by unfold outIn; rw [List.take_length, outTo_succ]
theorem outIn_hit {G : List Nat} {j k : Nat} (hd : G.Nodup) (h : k < G.length) (e : G[k] = j) : outIn G j (k + 1) = outIn G j k ++ [j] := by
  have h1 : j ∈ G.take (k + 1) := by rw [List.take_add_one, List.getElem?_eq_getElem h, e]; simp
  have h2 : j ∉ G.take k := fun hm => by
    obtain ⟨i, hi, he⟩ := List.mem_take_iff_getElem.1 hm
    have hi' := Nat.lt_min.1 hi
    have := (List.getElem_inj (xs := G) (h₀ := hi'.2) (h₁ := h) hd).1 (by rw [he]; exact e.symm)
    omega
  unfold outIn
  rw [if_pos h1, if_neg h2, List.append_nil]
theorem outIn_miss {G : List Nat} {j k : Nat} (h : k < G.length) (e : G[k] ≠ j) : outIn G j (k + 1) = outIn G j k := by
  have : (j ∈ G.take (k + 1)) ↔ (j ∈ G.take k) := by
    rw [List.take_add_one, List.getElem?_eq_getElem h, List.mem_append]
    simp only [Option.toList_some, List.mem_singleton]
    exact ⟨fun h => h.resolve_right fun h => e h.symm, .inl⟩
  unfold outIn
  simp only [this]
theorem outIn_len {G : List Nat} {j k : Nat} : (outIn G j k).length ≤ G.length + 1 := by
  unfold outIn
  have := outTo_len (F := G) (j := j)
  rw [List.length_append]
  split <;> simp <;> omega

set_option maxRecDepth 20000 in
set_option maxHeartbeats 4000000 in
theorem BlocksR_any {n : Nat} {r : Nat → Nat} {ad : Option Addr} {w : World} (G : GrAt w ad n r) (hP : Pl n r) (cap : Nat) :
    Calls Tryd.prog 19 #[.slice ad n cap] w fun e w' => ∃ u, e = .returned u ∧ IntsOwn w' w.heap.size u (blocksI n r) ∧ Below w.heap.size w w' := by
  have hn10 := hP.le
  have hn1 := hP.one
  have hn16 : n < 16 := by omega
  have h10 := pow_le10 hn10
  obtain ⟨hml, hI⟩ := G.ints
  obtain ⟨b, off, rfl, hlt0, hc⟩ := hI G.pos
  have hbc : ∀ wx, Below w.heap.size w wx → ∀ i, i < n → wx.cell? ⟨b, off + i, none⟩ = some (.int .i64 (r i : Nat)) := fun wx hb i hi => by rw [hb.cell (p := ⟨b, off + i, none⟩) hlt0]; exact hc i hi
  have HC := Lib.hid hbc
  have HG := Lib.hid G
  have HPL := Lib.hid hP
  obtain ⟨M, hM⟩ : ∃ M, M + 1 = 2 ^ n := ⟨2 ^ n - 1, by have := Nat.two_pow_pos n; omega⟩
  have HM := Lib.hid hM
  have hM10 : M ≤ 1023 := by omega
  have HAL : Hid (∀ w : World, Calls Tryd.prog 60 #[.slice (some ⟨b, off, none⟩) n cap] w fun e w' => e = .returned (.int .i64 (M : Nat)) ∧ w = w') := Lib.hid fun w => by
    have := allR_any (some ⟨b, off, none⟩) n cap w hn16
    rwa [show 2 ^ n - 1 = M by omega] at this
  have HISO : Hid (∀ k, isoTo r (k + 1) = isoTo r k ++ (if r k = 0 then [2 ^ k] else [])) := Lib.hid fun _ => rfl
  unfold maxLen at hml
  clear hbc hc hI G hP hM
  go_enter Tryd.func19, Tryd.ntmps19
  go_wp2_with fail
  go_loopw [3, 4] (fun v x wr => ∃ (m : Nat) (F : List Nat), 1 ≤ m ∧ m ≤ n ∧ x = .int .i64 m ∧ Fnd n r m 0 F ∧ IntsOwn wr w.heap.size v (castL F) ∧ Below w.heap.size w wr) (fun _ x _ => (intOf x).toNat)
  case atStart => exact ⟨n, [], hn1, Nat.le_refl _, rfl, Fnd.start, IntsOwn.nil _ _, Below.refl _ _⟩
  case round =>
    obtain ⟨m, F, hm1, hmn, rfl, hF, hown, hbr⟩ := hrel
    have HF := Lib.hid hF
    have HOW := Lib.hid hown
    have HB := Lib.hid hbr
    clear hF hown hbr
    by_cases hm2 : 2 ≤ m
    · go_wp2_with (go_at_call 60; refine (HAL.out _).mono ?_; rintro e w1 ⟨rfl, rfl⟩)
      go_loopw [3, 24] (fun v x wx => ∃ (j : Nat) (F : List Nat), j ≤ M + 1 ∧ x = .int .i64 j ∧ Fnd n r m j F ∧ IntsOwn wx w.heap.size v (castL F) ∧ Below w.heap.size w wx) (fun _ x _ => M + 1 - (intOf x).toNat)
      case atStart => exact ⟨0, F, Nat.zero_le _, rfl, HF.out, HOW.out, HB.out⟩
      case round =>
        clear HF HOW HB
        obtain ⟨j, F, hj, rfl, hF, hown, hbr⟩ := hrel
        obtain ⟨av, cv, rfl⟩ := own_form hown
        have HF := Lib.hid hF
        have HOW := Lib.hid hown
        have HB := Lib.hid hbr
        clear hF hown hbr
        by_cases hlt : j < M + 1
        · have hj2 : j < 2 ^ n := by have := HM.out; omega
          have HSZ := Lib.hid (fun w => Size_any hn10 j hj2 w)
          have HJ2 := Lib.hid hj2
          have hj16 : j < 65536 := by omega
          by_cases hsz : szS n j = m
          · have hj0 : 0 < j := Nat.pos_of_ne_zero fun e => by
              subst e
              have := szS_none (n := n) (T := 0) fun i _ => Nat.zero_testBit i
              omega
            have HCO := Lib.hid (ConnectedR_any (HG.out.below HB.out) hn10 cap j hj0 hj2)
            rw [hsz] at HSZ
            have HSM := Lib.hid hsz
            have hq : ((m : Int) != (m : Int)) = false := by simp
            clear hsz hj2
            cases hcn : connN n r (j : Int)
            · rw [hcn] at HCO
              have HBAD := Lib.hid (HF.out.bad HPL.out fun _ => by unfold okB; rw [hcn, Bool.false_and])
              clear hcn
              go_wp2_with (first
                | (go_at_call 44; refine (HSZ.out _).mono ?_; rintro e w2 ⟨rfl, rfl⟩)
                | (go_at_call 61; refine HCO.out.mono ?_; rintro e w3 ⟨rfl, hb3⟩; have HB3 := Lib.hid (HB.out.trans (hb3.mono HB.out.size)); have HOW3 := Lib.hid (HOW.out.below hb3); clear hb3))
              go_roundw
              case rel => exact ⟨j + 1, F, by omega, by go_num, HBAD.out, HOW3.out, HB3.out⟩
              case measure => simp [intOf]; omega
            · rw [hcn] at HCO
              have HCN := Lib.hid hcn
              clear hcn
              have HCU : Hid (∀ wx, Below w.heap.size w wx → Calls Tryd.prog 62 #[.slice (some ⟨b, off, none⟩) n cap, .int .i64 j] wx fun e w' => e = .returned (.int .i64 (cutsRTo n r j n : Nat)) ∧ Below wx.heap.size wx w') := Lib.hid fun wx hx => cutsR_any (HG.out.below hx) hn10 HPL.out.bd cap j HJ2.out
              by_cases hcu : cutsRTo n r j n = 0
              · rw [hcu] at HCU
                have HOK : Hid (okB n r j = true) := Lib.hid (by unfold okB; rw [HCN.out, hcu]; rfl)
                clear hcu
                go_wp2_with (first
                  | (go_at_call 44; refine (HSZ.out _).mono ?_; rintro e w2 ⟨rfl, rfl⟩)
                  | (go_at_call 61; refine HCO.out.mono ?_; rintro e w3 ⟨rfl, hb3⟩; have HB3 := Lib.hid (HB.out.trans (hb3.mono HB.out.size)); have HOW3 := Lib.hid (HOW.out.below hb3); clear hb3)
                  | (go_at_call 62; refine (HCU.out _ HB3.out).mono ?_; rintro e w4 ⟨rfl, hb4⟩; have HB4 := Lib.hid (HB3.out.trans (hb4.mono HB3.out.size)); have HOW4 := Lib.hid (HOW3.out.below hb4); clear hb4))
                clear HSZ HCO HCU HOW HB HOW3 HB3
                have hFl := HF.out.len HPL.out
                obtain ⟨w5, rfl⟩ : ∃ x, x = w4 := ⟨_, rfl⟩
                obtain ⟨ai, ci, hvi, hai⟩ := HOW4.out.ints (by rw [castL_len]; omega)
                simp only [Value.slice.injEq] at hvi
                obtain ⟨rfl, _, rfl⟩ := hvi
                rw [castL_len] at hai
                have HAI := Lib.hid hai
                have HOW5 : Hid (IntsOwn w5 w.heap.size (.slice av F.length cv) (castL F)) := Lib.hid (by have h := HOW4.out; rw [castL_len] at h; exact h)
                clear HOW4
                have hlen : (castL F).length = F.length := castL_len F
                rw [hlen]
                clear hai hlen
                go_wp2_with fail
                go_loopw [6, 45] (fun p i wy => ∃ k : Nat, k ≤ F.length ∧ i = .int .i64 k ∧ p = .bool (partTo F j k) ∧ w5 = wy) (fun _ i _ => F.length - (intOf i).toNat)
                case atStart => exact ⟨0, Nat.zero_le _, rfl, rfl, rfl⟩
                case round =>
                  obtain ⟨k, hk, rfl, rfl, rfl⟩ := hrel
                  by_cases hkl : k < F.length
                  · obtain ⟨bF, oF, rfl, hbF, hcF⟩ := HAI.out.2 (by omega)
                    have ck := hcF k hkl
                    rw [zList_cast hkl] at ck
                    have HST := Lib.hid (partTo_succ (s := j) hkl)
                    have hx16 : F[k] < 65536 := by
                      have := edgeB_lt ((HF.out.mem F[k]).1 (List.getElem_mem hkl)).1
                      omega
                    generalize F[k] = x at *
                    generalize partTo F j k = p0 at *
                    clear hcF
                    have hdi := cast_beq0 (diff j x)
                    generalize (diff j x == 0) = q0 at *
                    cases p0
                    all_goals
                      go_wp2_with fail
                      go_roundw
                      case rel => exact ⟨k + 1, by omega, by go_num, by rw [HST.out]; first | rfl | simp [hdi], by first | trivial | rfl⟩
                      case measure => simp [intOf]; omega
                  · have hke : k = F.length := by omega
                    rw [hke]
                    clear hke hk hkl
                    have hpt := partTo_all (F := F) (s := j)
                    cases hp : partTo F j F.length
                    · have HTK := Lib.hid (HF.out.take HPL.out hm2 HJ2.out HSM.out HOK.out (hpt.2 hp))
                      have hl2 : (castL F).length ≤ 65536 := by rw [castL_len]; omega
                      have hbz := HB4.out.size
                      clear hp hpt
                      go_wp2_with (at_builtin; refine wpList_app_int w.heap.size _ _ _ rfl _ _ rfl rfl HOW5.out rfl ?c1 ?c2 ?_)
                      try (case c1 => exact hl2)
                      try (case c2 => exact hbz)
                      intro v' w6 ho6 hb6 _
                      have HO6 := Lib.hid ho6
                      have HB6 := Lib.hid (HB4.out.trans hb6)
                      clear ho6 hb6
                      go_wp2_with fail
                      go_roundw
                      case rel => exact ⟨j + 1, F ++ [j], by omega, by go_num, HTK.out, by rw [castL_app]; exact HO6.out, HB6.out⟩
                      case measure => simp [intOf]; omega
                    · obtain ⟨x, hx, hd⟩ := hpt.1 hp
                      have HTK := Lib.hid (HF.out.part HPL.out hm2 HJ2.out hx hd)
                      clear hp hpt hd hx
                      go_wp2_with fail
                      go_roundw
                      case rel => exact ⟨j + 1, F, by omega, by go_num, HTK.out, HOW5.out, HB4.out⟩
                      case measure => simp [intOf]; omega
              · have hcc : ((cutsRTo n r j n : Int) != 0) = true := by rw [bne_iff_ne]; omega
                have HBAD := Lib.hid (HF.out.bad HPL.out fun _ => by unfold okB; rw [HCN.out, Bool.true_and, beq_eq_false_iff_ne]; exact hcu)
                clear hcu
                generalize cutsRTo n r j n = X at *
                go_wp2_with (first
                  | (go_at_call 44; refine (HSZ.out _).mono ?_; rintro e w2 ⟨rfl, rfl⟩)
                  | (go_at_call 61; refine HCO.out.mono ?_; rintro e w3 ⟨rfl, hb3⟩; have HB3 := Lib.hid (HB.out.trans (hb3.mono HB.out.size)); have HOW3 := Lib.hid (HOW.out.below hb3); clear hb3)
                  | (go_at_call 62; refine (HCU.out _ HB3.out).mono ?_; rintro e w4 ⟨rfl, hb4⟩; have HB4 := Lib.hid (HB3.out.trans (hb4.mono HB3.out.size)); have HOW4 := Lib.hid (HOW3.out.below hb4); clear hb4))
                go_roundw
                case rel => exact ⟨j + 1, F, by omega, by go_num, HBAD.out, HOW4.out, HB4.out⟩
                case measure => simp [intOf]; omega
          · have hq : ((szS n j : Int) != (m : Int)) = true := by rw [bne_iff_ne]; omega
            have HBAD := Lib.hid (HF.out.skip fun h => hsz h.2)
            clear hsz hj2
            generalize szS n j = S at *
            go_wp2_with (go_at_call 44; refine (HSZ.out _).mono ?_; rintro e w2 ⟨rfl, rfl⟩)
            go_roundw
            case rel => exact ⟨j + 1, F, by omega, by go_num, HBAD.out, HOW.out, HB.out⟩
            case measure => simp [intOf]; omega
        · have hje : j = M + 1 := by omega
          have HNX := Lib.hid ((show Fnd n r m (2 ^ n) F by rw [← HM.out, ← hje]; exact HF.out).next hm1)
          clear hje HF
          go_wp2_with fail
          go_roundw
          case rel => exact ⟨m - 1, F, by omega, by omega, by go_num, HNX.out, HOW.out, HB.out⟩
          case measure => simp [intOf]; omega
    · have hm : m = 1 := by omega
      have HALL := Lib.hid ((show Fnd n r 1 0 F by rw [← hm]; exact HF.out).all HPL.out)
      have hdd : decide ((2 : Int) ≤ (m : Int)) = false := decide_eq_false (by omega)
      have hdg : decide ((m : Int) ≥ 2) = false := decide_eq_false (by omega)
      have hFl := HF.out.len HPL.out
      have HIL := Lib.hid (isoTo_len r)
      obtain ⟨w2, rfl⟩ : ∃ x, x = wr := ⟨_, rfl⟩
      clear HF hm
      go_wp2_with fail
      go_loopw [3, 66] (fun v x wx => ∃ k : Nat, k ≤ n ∧ x = .int .i64 k ∧ IntsOwn wx w.heap.size v (castL (F ++ isoTo r k)) ∧ Below w.heap.size w wx) (fun _ x _ => n - (intOf x).toNat)
      case atStart => exact ⟨0, Nat.zero_le _, rfl, by simpa [isoTo] using HOW.out, HB.out⟩
      case round =>
        clear HOW HB
        obtain ⟨k, hk, rfl, hown, hbr⟩ := hrel
        have HOW := Lib.hid hown
        have HB := Lib.hid hbr
        clear hown
        by_cases hlt : k < n
        · have ck := HC.out wr hbr k hlt
          have hk64 : k < 64 := by omega
          have hpw := pow_bd k (by omega)
          have HPC := Lib.hid (pow_cast k)
          have HIS := Lib.hid (HISO.out k)
          have hilk := HIL.out k
          have hbsz := hbr.size
          clear hbr
          by_cases hz : r k = 0
          · have hz1 : ((r k : Int) == 0) = true := by rw [hz]; rfl
            rw [if_pos hz] at HIS
            have hlen : (castL (F ++ isoTo r k)).length ≤ 65536 := by rw [castL_len, List.length_append]; omega
            generalize r k = rk at *
            clear hz
            go_wp2_with (at_builtin; refine wpList_app_int w.heap.size _ _ _ rfl _ _ rfl rfl HOW.out rfl ?c1 ?c2 ?_)
            try (case c1 => exact hlen)
            try (case c2 => exact hbsz)
            intro v' w3 ho3 hb3 _
            have HO3 := Lib.hid ho3
            have HB3 := Lib.hid (HB.out.trans hb3)
            clear ho3 hb3
            go_wp2_with fail
            go_roundw
            case rel => exact ⟨k + 1, by omega, by go_num, by rw [HIS.out, ← List.append_assoc, castL_app, ← HPC.out]; exact HO3.out, HB3.out⟩
            case measure => simp [intOf]; omega
          · have hz1 : ((r k : Int) == 0) = false := by rw [beq_eq_false_iff_ne]; omega
            rw [if_neg hz, List.append_nil] at HIS
            generalize r k = rk at *
            clear hz
            go_wp2_with fail
            go_roundw
            case rel => exact ⟨k + 1, by omega, by go_num, by rw [HIS.out]; exact HOW.out, HB.out⟩
            case measure => simp [intOf]; omega
        · have hke : k = n := by omega
          rw [hke] at HOW
          clear hke hbr
          obtain ⟨wo, rfl⟩ : ∃ x, x = wr := ⟨_, rfl⟩
          have hin := HIL.out n
          have hGl : (F ++ isoTo r n).length ≤ 300 := by rw [List.length_append]; omega
          have HOB := Lib.hid (out_blocks (n := n) (r := r) HALL.out.2)
          have HLT : Hid (∀ x, x ∈ F ++ isoTo r n → x < 2 ^ n) := Lib.hid fun x hx => blkL_lt ((HALL.out.2 x).1 hx)
          have HND := Lib.hid HALL.out.1
          clear HALL HIL HISO
          generalize F ++ isoTo r n = G at *
          obtain ⟨av, cv, hai⟩ : ∃ a c, _ ∧ _ := HOW.out.ints (by rw [castL_len]; omega)
          obtain ⟨hvi, hai⟩ := hai
          subst hvi
          rw [castL_len] at hai
          have HAI := Lib.hid hai
          have hlen : (castL G).length = G.length := castL_len G
          rw [hlen]
          clear hai hlen HOW
          go_wp2_with (go_at_call 60; refine (HAL.out _).mono ?_; rintro e w1 ⟨rfl, rfl⟩)
          go_loopw [11, 82] (fun v x wx => ∃ j : Nat, j ≤ M + 1 ∧ x = .int .i64 j ∧ IntsOwn wx wo.heap.size v (castL (outTo G j)) ∧ Below wo.heap.size wo wx) (fun _ x _ => M + 1 - (intOf x).toNat)
          case atStart => exact ⟨0, Nat.zero_le _, rfl, IntsOwn.nil _ _, Below.refl _ _⟩
          case round =>
            obtain ⟨j, hj, rfl, hown, hbr⟩ := hrel
            have HOW := Lib.hid hown
            have HBO := Lib.hid hbr
            clear hown hbr
            by_cases hlt : j < M + 1
            · have hdl : decide ((j : Int) < (M : Int) + 1) = true := decide_eq_true (by omega)
              go_wp2_with fail
              go_loopw [11, 87] (fun v x wx => ∃ k : Nat, k ≤ G.length ∧ x = .int .i64 k ∧ IntsOwn wx wo.heap.size v (castL (outIn G j k)) ∧ Below wo.heap.size wo wx) (fun _ x _ => G.length - (intOf x).toNat)
              case atStart => exact ⟨0, Nat.zero_le _, rfl, by rw [outIn_zero]; exact HOW.out, HBO.out⟩
              case round =>
                clear HOW HBO
                obtain ⟨k, hk, rfl, hown, hbr⟩ := hrel
                have HOW := Lib.hid hown
                have HBO := Lib.hid hbr
                have hbz := hbr.size
                clear hown hbr
                by_cases hkl : k < G.length
                · obtain ⟨bF, oF, rfl, hbF, hcF⟩ := (HAI.out.below HBO.out).2 (by omega)
                  have ck := hcF k hkl
                  rw [zList_cast hkl] at ck
                  have hcb := cast_beq G[k] j
                  have hx16 : G[k] < 65536 := by
                    have := HLT.out G[k] (List.getElem_mem hkl)
                    omega
                  clear hcF
                  by_cases he : G[k] = j
                  · have HST := Lib.hid (outIn_hit HND.out hkl he)
                    rw [beq_iff_eq.2 he] at hcb
                    have hol : (castL (outIn G j k)).length ≤ 65536 := by
                      rw [castL_len]
                      have := outIn_len (G := G) (j := j) (k := k)
                      omega
                    rw [he] at ck
                    clear he hx16 hcb
                    go_wp2_with (at_builtin; refine wpList_app_int wo.heap.size _ _ _ rfl _ _ rfl rfl HOW.out rfl ?c1 ?c2 ?_)
                    try (case c1 => exact hol)
                    try (case c2 => exact hbz)
                    intro v' w6 ho6 hb6 _
                    have HO6 := Lib.hid ho6
                    have HB6 := Lib.hid (HBO.out.trans hb6)
                    clear ho6 hb6
                    go_wp2_with fail
                    go_roundw
                    case rel => exact ⟨k + 1, by omega, by go_num, by rw [HST.out, castL_app]; exact HO6.out, HB6.out⟩
                    case measure => simp [intOf]; omega
                  · have HST := Lib.hid (outIn_miss hkl he)
                    rw [beq_eq_false_iff_ne.2 he] at hcb
                    generalize G[k] = x at *
                    clear he
                    go_wp2_with fail
                    go_roundw
                    case rel => exact ⟨k + 1, by omega, by go_num, by rw [HST.out]; exact HOW.out, HBO.out⟩
                    case measure => simp [intOf]; omega
                · have hke : k = G.length := by omega
                  rw [hke, outIn_all] at HOW
                  clear hke
                  go_wp2_with fail
                  go_roundw
                  case rel => exact ⟨j + 1, by omega, by go_num, HOW.out, HBO.out⟩
                  case measure => simp [intOf]; omega
            · have hje : j = 2 ^ n := by have := HM.out; omega
              rw [hje, HOB.out] at HOW
              clear hje
              go_wp2_with fail
              go_ret
              exact ⟨_, rfl, ownsRow_base HOW.out HB.out.size, HB.out.trans (HBO.out.mono HB.out.size)⟩

end Go.Proofs.YtcpdedgmhpehiaaDoor
