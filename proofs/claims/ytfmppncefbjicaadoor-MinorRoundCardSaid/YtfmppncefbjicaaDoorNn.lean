/- Package minor: the reference's search for an outer order. -/
import Derived.Test.YtfmppncefbjicaaDoorNm
import Derived.Test.YtfmppncefbjicaaDoorMv
import Derived.ArgAppend
namespace Go.Proofs.YtfmppncefbjicaaDoor
set_option linter.unusedSimpArgs false
set_option linter.unusedVariables false
open Go.RowKit Go.Maps
attribute [local go_sem] i64_bit toNat_eq_one toNat_ne_one toNat_eq_zero toNat_ne_zero i64_and i64_or i64_andNot i64_or_pow i64_andNot_pow

/-- Whether the last node's edges cross one; the first outer order that goes on. -/
def crE (r : Nat → Nat) (B : List Nat) : Bool := decide (0 < B.length) && crB r (atN B) (B.length - 1)
def outR (n : Nat) (r : Nat → Nat) (k : Nat) (B : List Nat) : Option (List Nat) := if crE r B then none else outL n r k B
theorem stpO_outR {n k v : Nat} {r : Nat → Nat} {B : List Nat} (h : B.contains v = false) : stpO n r k B v = outR n r k (B ++ [v]) := by
  unfold stpO okU outR crE
  rw [h, List.length_append, List.length_singleton, decide_eq_true (by omega), Nat.add_sub_cancel]
  cases crB r (atN (B ++ [v])) B.length <;> rfl
theorem stpO_met {n k v : Nat} {r : Nat → Nat} {B : List Nat} (h : B.contains v = true) : stpO n r k B v = none := by
  unfold stpO okU
  rw [h]; rfl
theorem take_contains {B : List Nat} {c v : Nat} (h : c < B.length) : (B.take (c + 1)).contains v = ((B.take c).contains v || atN B c == v) := by
  rw [List.take_add_one, List.getElem?_eq_getElem h, show atN B c = B[c] by simp [atN, List.getD_eq_getElem?_getD, List.getElem?_eq_getElem h]]
  rw [Bool.eq_iff_iff]
  simp only [List.contains_eq_mem, Option.toList_some, List.mem_append, List.mem_singleton, decide_eq_true_eq, Bool.or_eq_true, beq_iff_eq]
  constructor
  · rintro (h | h)
    · exact Or.inl h
    · exact Or.inr h.symm
  · rintro (h | h)
    · exact Or.inl h
    · exact Or.inr h.symm
/-- One pair of edges. -/
def prO (r g : Nat → Nat) (m i j k : Nat) : Bool := (r (g i)).testBit (g k) && (r (g j)).testBit (g m)
theorem crB_pr {r g : Nat → Nat} {m i j k : Nat} (h1 : i < j) (h2 : j < k) (h3 : k < m) (h : prO r g m i j k = true) : crB r g m = true := by
  unfold prO at h
  rw [Bool.and_eq_true] at h
  exact crB_iff.2 ⟨i, j, k, h1, h2, h3, h.1, h.2⟩
theorem crB_none {r g : Nat → Nat} {m : Nat} (h : ∀ k, k < m → ∀ j, j < k → ∀ i, i < j → prO r g m i j k = false) : crB r g m = false := by
  rw [Bool.eq_false_iff]
  intro hc
  obtain ⟨i, j, k, h1, h2, h3, h4, h5⟩ := crB_iff.1 hc
  have := h k h3 j h2 i h1
  unfold prO at this
  rw [h4, h5] at this
  cases this

set_option maxRecDepth 100000 in
set_option maxHeartbeats 4000000 in
theorem outer_rec {n : Nat} {r : Nat → Nat} {a : Option Addr} {wB : World} (T : Tn wB a n r) (ca : Nat) :
    ∀ (k : Nat) (B : List Nat), k + B.length = n → (∀ i, i < B.length → atN B i < n) → ∀ (w : World) (am : Option Addr) (cm : Nat), (am = none → B.length = 0 ∧ cm = 0) → B.length ≤ cm → IntsAt w am B.length (natL B) → Below wB.heap.size wB w →
      Calls Tryd.prog 74 #[.slice a n ca, .slice am B.length cm] w (RefPost w (outR n r k B)) := by
  have hn8 := T.le
  have h8 := pow_le8 hn8
  have hn1 := T.at_.pos
  have HTT := Lib.hid T
  obtain ⟨bt, ot, hat, hbt, hct⟩ := T.at_.ints.2 hn1
  subst hat
  have HBD := Lib.hid T.bd
  have HCT := Lib.hid hct
  clear T hct
  obtain ⟨i0, hi0, hz1, hz2, hz3⟩ := info_parts info_int
  intro k
  induction k using Nat.strongRecOn with
  | _ k ih =>
  intro B hk hB w am cm hnone hcm hM hb
  have HIH := Lib.hid ih
  have HM := Lib.hid hM
  have HB := Lib.hid hB
  have HNON := Lib.hid hnone
  have HWB := Lib.hid hb
  have hbs := hb.size
  obtain ⟨L, hLd⟩ : ∃ L, L = B.length := ⟨_, rfl⟩
  have HLD := Lib.hid hLd
  rw [← hLd] at hk hcm ⊢
  have hL8 : L ≤ 8 := by omega
  have HCR1 : Hid (crE r B = (decide (0 < L) && crB r (atN B) (L - 1))) := Lib.hid (by unfold crE; rw [← hLd])
  have HGB : Hid (∀ i, i < L → atN B i < n) := Lib.hid (by rw [hLd]; exact hB)
  have HR0 : Hid (outR n r k B = if crE r B then none else outL n r k B) := Lib.hid rfl
  obtain ⟨R, hR⟩ : ∃ R, R = outR n r k B := ⟨_, rfl⟩
  rw [← hR] at HR0 ⊢
  have HMC : Hid (0 < L → ∃ bm om, am = some ⟨bm, om, none⟩ ∧ ∀ wx, Below w.heap.size w wx → ∀ i, i < L → wx.cell? ⟨bm, om + i, none⟩ = some (.int .i64 (atN B i : Nat))) := Lib.hid fun h => by
    obtain ⟨bm, om, h1, h2, h3⟩ := HM.out.2 (by have := HLD.out; omega)
    exact ⟨bm, om, h1, fun wx hw i hi => by rw [hw.cell (p := ⟨bm, om + i, none⟩) h2]; exact h3 i (by have := HLD.out; omega)⟩
  clear ih hM hB hnone hb hLd hR
  go_enter Tryd.func74, Tryd.ntmps74
  go_wp2_with fail
  go_loopw [18] (fun ix wr => ∃ x : Nat, ix = .int .i64 x ∧ (∀ k, k < x → ∀ j, j < k → ∀ i, i < j → prO r (atN B) (L - 1) i j k = false) ∧ x ≤ L ∧ Below w.heap.size w wr) (fun ix _ => L - (intOf ix).toNat)
  case atStart => exact ⟨0, rfl, fun k hk => by omega, Nat.zero_le _, Below.refl _ _⟩
  case round =>
    obtain ⟨x, rfl, hno, hxL, hbr⟩ := hrel
    have HNO := Lib.hid hno
    have HBR := Lib.hid hbr
    clear hno hbr
    by_cases hlt : x + 1 < L
    · have dx : decide ((x : Int) < (L : Int) - 1) = true := decide_eq_true (by omega)
      go_wp2_with fail
      go_loopw [22] (fun iy wy => ∃ y : Nat, y ≤ x ∧ iy = .int .i64 y ∧ (∀ j, j < y → ∀ i, i < j → prO r (atN B) (L - 1) i j x = false) ∧ Below w.heap.size w wy) (fun iy _ => x - (intOf iy).toNat)
      case atStart => exact ⟨0, Nat.zero_le _, rfl, fun j hj => by omega, HBR.out⟩
      case round =>
        obtain ⟨y, hyx, rfl, hno2, hbr2⟩ := hrel
        have HNO2 := Lib.hid hno2
        have HBR2 := Lib.hid hbr2
        clear hno2 hbr2 HBR
        by_cases hyl : y < x
        · have dy : decide ((y : Int) < (x : Int)) = true := decide_eq_true (by omega)
          have dy2 : decide (y < x) = true := decide_eq_true hyl
          go_wp2_with fail
          go_loopw [26] (fun iz wz => ∃ z : Nat, z ≤ y ∧ iz = .int .i64 z ∧ (∀ i, i < z → prO r (atN B) (L - 1) i y x = false) ∧ Below w.heap.size w wz) (fun iz _ => y - (intOf iz).toNat)
          case atStart => exact ⟨0, Nat.zero_le _, rfl, fun j hj => by omega, HBR2.out⟩
          case round =>
            obtain ⟨z, hzy, rfl, hno3, hbr3⟩ := hrel
            obtain ⟨wz, rfl⟩ : ∃ x, x = wr := ⟨_, rfl⟩
            have HNO3 := Lib.hid hno3
            have HBR3 := Lib.hid hbr3
            clear hno3 hbr3 HBR2
            by_cases hzl : z < y
            · have dz : decide ((z : Int) < (y : Int)) = true := decide_eq_true (by omega)
              have dz2 : decide (z < y) = true := decide_eq_true hzl
              obtain ⟨bm, om, rfl, hcM⟩ := HMC.out (by omega)
              have HUB : Hid (∀ u : BelowW wz.heap.size wz, Below w.heap.size w u.w) := Lib.hid fun u => HBR3.out.trans (u.h.mono HBR3.out.size)
              have gx := HGB.out x (by omega)
              have gy := HGB.out y (by omega)
              have gz := HGB.out z (by omega)
              have gm := HGB.out (L - 1) (by omega)
              have cX : ∀ u : BelowW wz.heap.size wz, u.w.cell? ⟨bm, om + x, none⟩ = some (.int .i64 (atN B x : Nat)) := fun u => hcM u.w (HUB.out u) x (by omega)
              have cY : ∀ u : BelowW wz.heap.size wz, u.w.cell? ⟨bm, om + y, none⟩ = some (.int .i64 (atN B y : Nat)) := fun u => hcM u.w (HUB.out u) y (by omega)
              have cZ : ∀ u : BelowW wz.heap.size wz, u.w.cell? ⟨bm, om + z, none⟩ = some (.int .i64 (atN B z : Nat)) := fun u => hcM u.w (HUB.out u) z (by omega)
              have cM : ∀ u : BelowW wz.heap.size wz, u.w.cell? ⟨bm, om + (L - 1), none⟩ = some (.int .i64 (atN B (L - 1) : Nat)) := fun u => hcM u.w (HUB.out u) (L - 1) (by omega)
              have cTz : ∀ u : BelowW wz.heap.size wz, u.w.cell? ⟨bt, ot + atN B z, none⟩ = some (.int .i64 (r (atN B z) : Nat)) := fun u => by
                rw [(HWB.out.trans ((HUB.out u).mono hbs)).cell (p := ⟨bt, ot + atN B z, none⟩) hbt]; exact HCT.out _ gz
              have cTy : ∀ u : BelowW wz.heap.size wz, u.w.cell? ⟨bt, ot + atN B y, none⟩ = some (.int .i64 (r (atN B y) : Nat)) := fun u => by
                rw [(HWB.out.trans ((HUB.out u).mono hbs)).cell (p := ⟨bt, ot + atN B y, none⟩) hbt]; exact HCT.out _ gy
              have rz16 : r (atN B z) < 65536 := by have := HBD.out _ gz; omega
              have ry16 : r (atN B y) < 65536 := by have := HBD.out _ gy; omega
              have HPR : Hid (prO r (atN B) (L - 1) z y x = ((r (atN B z)).testBit (atN B x) && (r (atN B y)).testBit (atN B (L - 1)))) := Lib.hid rfl
              have hm1 : ((L : Int) - 1).toNat = L - 1 := by omega
              have hm2 : decide ((L : Int) - 1 < 0) = false := decide_eq_false (by omega)
              have hm3 : decide ((L : Int) ≤ (L : Int) - 1) = false := decide_eq_false (by omega)
              have hm4 : (0 : Int) ≤ (L : Int) - 1 := by omega
              have hm5 : (L : Int) - 1 < (L : Int) := by omega
              have HYES : Hid (prO r (atN B) (L - 1) z y x = true → R = none) := Lib.hid fun h => by
                rw [HR0.out, HCR1.out, decide_eq_true (show 0 < L by omega), crB_pr hzl hyl (by omega) h]; rfl
              have HNXT : Hid (prO r (atN B) (L - 1) z y x = false → ∀ i, i < z + 1 → prO r (atN B) (L - 1) i y x = false) := Lib.hid fun h i hi => by
                by_cases e : i = z
                · subst e; exact h
                · exact HNO3.out i (by omega)
              have gx16 : atN B x < 16 := by omega
              have gm16 : atN B (L - 1) < 16 := by omega
              have gx64 : atN B x < 64 := by omega
              have gm64 : atN B (L - 1) < 64 := by omega
              clear hcM
              generalize atN B (L - 1) = vm at *
              generalize r (atN B z) = rz at *
              generalize r (atN B y) = ry at *
              generalize atN B x = vx at *
              generalize atN B y = vy at *
              generalize atN B z = vz at *
              cases hb1 : rz.testBit vx
              · have HN1 := Lib.hid (HNXT.out (by rw [HPR.out, hb1]; rfl))
                go_wp2_with fail
                refine wp_region_below wz.heap.size wz (Below.refl _ _) (by kernel_rfl) (by kernel_rfl) ?_
                repeat (go_big_quiet_step (fail))
                refine wpQuiet_nil ?_
                rintro _ ⟨u, rfl⟩
                have HU := Lib.hid (HUB.out u)
                go_wp2_with fail
                go_roundw
                case rel => exact ⟨z + 1, by omega, by go_num, HN1.out, HU.out⟩
                case measure => simp [intOf]; omega
              · cases hb2 : ry.testBit vm
                · have HN1 := Lib.hid (HNXT.out (by rw [HPR.out, hb1, hb2]; rfl))
                  go_wp2_with fail
                  refine wp_region_below wz.heap.size wz (Below.refl _ _) (by kernel_rfl) (by kernel_rfl) ?_
                  repeat (go_big_quiet_step (fail))
                  refine wpQuiet_nil ?_
                  rintro _ ⟨u, rfl⟩
                  have HU := Lib.hid (HUB.out u)
                  go_wp2_with fail
                  go_roundw
                  case rel => exact ⟨z + 1, by omega, by go_num, HN1.out, HU.out⟩
                  case measure => simp [intOf]; omega
                · have HN1 := Lib.hid (HYES.out (by rw [HPR.out, hb1, hb2]; rfl))
                  go_wp2_with fail
                  refine wp_region_below wz.heap.size wz (Below.refl _ _) (by kernel_rfl) (by kernel_rfl) ?_
                  repeat (go_big_quiet_step (fail))
                  refine wpQuiet_nil ?_
                  rintro _ ⟨u, rfl⟩
                  have HU := Lib.hid (HUB.out u)
                  go_wp2_with fail
                  go_ret
                  unfold RefPost
                  rw [HN1.out]
                  exact ⟨HU.out, rfl⟩
            · have hze : z = y := by omega
              have HN1 := Lib.hid (show ∀ j, j < y + 1 → ∀ i, i < j → prO r (atN B) (L - 1) i j x = false from fun j hj i hi => by
                by_cases e : j = y
                · subst e; exact HNO3.out i (by omega)
                · exact HNO2.out j (by omega) i hi)
              clear hze
              go_wp2_with fail
              go_roundw
              case rel => exact ⟨y + 1, by omega, by go_num, HN1.out, HBR3.out⟩
              case measure => simp [intOf]; omega
        · have hye : y = x := by omega
          have HN1 := Lib.hid (show ∀ k, k < x + 1 → ∀ j, j < k → ∀ i, i < j → prO r (atN B) (L - 1) i j k = false from fun k hk j hj i hi => by
            by_cases e : k = x
            · subst e; exact HNO2.out j (by omega) i hi
            · exact HNO.out k (by omega) j hj i hi)
          clear hye
          go_wp2_with fail
          go_roundw
          case rel => exact ⟨x + 1, by go_num, HN1.out, by omega, HBR2.out⟩
          case measure => simp [intOf]; omega
    · have dx : decide ((x : Int) < (L : Int) - 1) = false := decide_eq_false (by omega)
      have HCE : Hid (crE r B = false) := Lib.hid (by
        rw [HCR1.out]
        by_cases h0 : 0 < L
        · rw [decide_eq_true h0, Bool.true_and]
          exact crB_none fun k hk j hj i hi => HNO.out k (by omega) j hj i hi
        · rw [decide_eq_false h0]; rfl)
      have HRR : Hid (R = outL n r k B) := Lib.hid (by rw [HR0.out, HCE.out]; rfl)
      clear HR0 HCR1 HCE HNO
      by_cases hk0 : k = 0
      · subst hk0
        have hLn : L = n := by omega
        have hq : ((L : Int) == (n : Int)) = true := by rw [hLn]; simp
        have hq2 : (L == n) = true := by rw [hLn]; simp
        obtain ⟨x0, rfl⟩ : ∃ x, am = some x := by
          cases am with
          | none => have := (HNON.out rfl).1; have := HLD.out; omega
          | some x => exact ⟨x, rfl⟩
        have HRES : Hid (R = some B) := Lib.hid (by rw [HRR.out]; rfl)
        clear hLn hk
        go_wp2_with fail
        go_ret
        unfold RefPost
        rw [HRES.out]
        exact ⟨HBR.out, x0, cm, by rw [← HLD.out]; rfl, HM.out.below HBR.out⟩
      · obtain ⟨k', hk'⟩ : ∃ k', k = k' + 1 := ⟨k - 1, by omega⟩
        subst hk'
        have hLn : L < n := by omega
        have hq : ((L : Int) == (n : Int)) = false := by rw [beq_eq_false_iff_ne]; omega
        have hq2 : (L == n) = false := by rw [beq_eq_false_iff_ne]; omega
        have HNN := Lib.hid (outL_none (n := n) (r := r) (k := k') (B := B))
        have HSS := Lib.hid (fun (B' : List Nat) (v : Nat) => outL_some (n := n) (r := r) (k := k') (B := B) (B' := B') (v := v))
        rw [← HRR.out] at HNN HSS
        clear HRR hk0
        go_wp2_with fail
        go_loopw [70] (fun ix wv => ∃ v : Nat, v ≤ n ∧ ix = .int .i64 v ∧ (∀ u, u < v → stpO n r k' B u = none) ∧ Below w.heap.size w wv) (fun ix _ => n - (intOf ix).toNat)
        case atStart => exact ⟨0, Nat.zero_le _, rfl, fun u hu => by omega, HBR.out⟩
        case round =>
          obtain ⟨v, hv, rfl, hall, hbv⟩ := hrel
          obtain ⟨wv, rfl⟩ : ∃ x, x = wr := ⟨_, rfl⟩
          have HALL := Lib.hid hall
          have HBV := Lib.hid hbv
          clear hall hbv HBR
          by_cases hvl : v < n
          · have dv : decide ((v : Int) < (n : Int)) = true := decide_eq_true (by omega)
            have dv2 : decide (v < n) = true := decide_eq_true hvl
            have HNX : Hid (stpO n r k' B v = none → ∀ u, u < v + 1 → stpO n r k' B u = none) := Lib.hid fun h u hu => by
              by_cases e : u = v
              · subst e; exact h
              · exact HALL.out u (by omega)
            go_wp2_with fail
            go_loopw [10, 75] (fun mt ic wc => ∃ c : Nat, c ≤ L ∧ ic = .int .i64 c ∧ mt = .bool ((B.take c).contains v) ∧ wv = wc) (fun _ ic _ => L - (intOf ic).toNat)
            case atStart => exact ⟨0, Nat.zero_le _, rfl, rfl, rfl⟩
            case round =>
              obtain ⟨c, hc, rfl, rfl, rfl⟩ := hrel
              by_cases hcl : c < L
              · obtain ⟨bm, om, rfl, hcM⟩ := HMC.out (by omega)
                have cc := hcM wv HBV.out c hcl
                have HST := Lib.hid (take_contains (v := v) (show c < B.length by have := HLD.out; omega))
                have hceq : ((atN B c : Int) == (v : Int)) = (atN B c == v) := by rw [Bool.eq_iff_iff, beq_iff_eq, beq_iff_eq]; omega
                clear hcM
                generalize (B.take c).contains v = mt at *
                generalize atN B c = t at *
                cases mt
                · go_wp2_with fail
                  go_roundw
                  case rel => exact ⟨c + 1, by omega, by go_num, by rw [HST.out, Bool.false_or, ← hceq], by first | trivial | rfl⟩
                  case measure => simp [intOf]; omega
                · go_wp2_with fail
                  go_roundw
                  case rel => exact ⟨c + 1, by omega, by go_num, by rw [HST.out, Bool.true_or], by first | trivial | rfl⟩
                  case measure => simp [intOf]; omega
              · have hce : c = L := by omega
                have hct : (B.take c).contains v = B.contains v := by rw [hce, HLD.out, List.take_length]
                rw [hct]
                have dc : decide ((c : Int) < (L : Int)) = false := decide_eq_false (by omega)
                have dc2 : decide (c < L) = false := decide_eq_false hcl
                clear hce hct
                cases hct : B.contains v
                · have HSV := Lib.hid (stpO_outR (n := n) (k := k') (r := r) hct)
                  clear hct
                  go_wp2_with (at_builtin; refine wpList_append_grows (wv.alloc (.cells #[.int .i64 v] 3)) rfl _ _ 22 rfl 3 i0 (.int .i64 0) 1 8 Tryd.underlying22 hi0 hz1 hz2 hz3 rfl (by decide) am L L ((castL B).map fun x => Value.int .i64 x) rfl (fun h => by obtain ⟨h1, _⟩ := HNON.out h; have := HLD.out; omega) (by rw [List.length_map, castL_len]; have := HLD.out; omega) ?hold ⟨wv.heap.size, 0, none⟩ 1 1 [.int .i64 v] rfl rfl (cells_new _ _ _) (by intro u hu; simp at hu; subst hu; rfl) (by omega) (by unfold maxLen; omega) (by omega) ?_)
                  case hold =>
                    intro bb hbb j u hju
                    obtain ⟨hj1, hj2⟩ := List.getElem?_eq_some_iff.1 hju
                    have hjB : j < B.length := by simpa [castL] using hj1
                    have hju2 : u = .int .i64 (natL B j) := by
                      rw [← hj2]
                      simp [castL, natL, List.getD_eq_getElem?_getD, hjB]
                    obtain ⟨b5, o5, hbo, hl5, hc5⟩ := (HM.out.below HBV.out).2 (by omega)
                    rw [hbb] at hbo
                    cases hbo
                    rw [Addr.add_lit, ((Below.refl wv.heap.size wv).alloc (Nat.le_refl _) _).cell (p := ⟨b5, o5 + j, none⟩) hl5, hju2]
                    exact hc5 j hjB
                  intro v4 w4 hown4 hgr4
                  have hb34 : Below wv.heap.size wv w4 := ((Below.refl _ _).alloc (Nat.le_refl _) (.cells #[.int .i64 v] 3)).grown hgr4 (by simp) (fun k hk => by simp at hk)
                  have HB4 := Lib.hid (HBV.out.trans (hb34.mono HBV.out.size))
                  have hI4 : IntsOwn w4 0 v4 (castL (B ++ [v])) := by
                    unfold IntsOwn
                    rw [castL_len, List.length_append, ← HLD.out]
                    have := ownsRow_low hown4 (Nat.zero_le _)
                    rw [show (castL (B ++ [v])).map (fun x => Value.int .i64 x) = (castL B).map (fun x => Value.int .i64 x) ++ [Value.int .i64 v] by simp [castL]]
                    exact this
                  have hl5 : (B ++ [v]).length = L + 1 := by rw [List.length_append, ← HLD.out]; rfl
                  have hlen4 : (B ++ [v]).length ≤ 65536 := by omega
                  obtain ⟨a5, c5, e5, hc4, hat⟩ := hI4.atC hlen4
                  obtain ⟨g4, c4, e4, _, _⟩ := own_form' hown4 (by omega)
                  rw [hl5] at e5 hc4
                  rw [e4] at e5
                  simp only [Value.slice.injEq] at e5
                  obtain ⟨rfl, e6, rfl⟩ := e5
                  subst e4
                  clear e6
                  have hrec := HIH.out k' (by omega) (B ++ [v]) (by omega) (fun i hi => by
                    rw [hl5] at hi
                    by_cases e : i = B.length
                    · subst e; rw [atN_new]; exact hvl
                    · rw [atN_old (by have := HLD.out; omega)]; exact HB.out i (by have := HLD.out; omega)) w4 (some ⟨g4, 0, none⟩) c4 (fun h => by cases h) (by omega) hat (HWB.out.trans (HB4.out.mono hbs))
                  rw [hl5] at hrec
                  obtain ⟨O, hO⟩ : ∃ O, O = outR n r k' (B ++ [v]) := ⟨_, rfl⟩
                  rw [← hO] at hrec HSV
                  have HREC := Lib.hid hrec
                  clear hrec hO hat hl5 hlen4 hI4 hown4 hgr4 hb34 hc4
                  go_wp2_with fail
                  go_at_call 74
                  refine HREC.out.mono ?_
                  rintro e w5 ⟨hb5, hp5⟩
                  have HB5 := Lib.hid (HB4.out.trans (hb5.mono HB4.out.size))
                  clear hb5
                  cases O with
                  | none =>
                    subst hp5
                    have HX := Lib.hid (HNX.out HSV.out)
                    go_wp2_with fail
                    go_roundw
                    case rel => exact ⟨v + 1, by omega, by go_num, HX.out, HB5.out⟩
                    case measure => simp [intOf]; omega
                  | some B' =>
                    obtain ⟨x5, c5, rfl, hat5⟩ := hp5
                    have HRX := Lib.hid (HSS.out B' v HALL.out HSV.out hvl)
                    have HA5 := Lib.hid hat5
                    clear hat5
                    go_wp2_with fail
                    go_ret
                    unfold RefPost
                    rw [HRX.out]
                    exact ⟨HB5.out, x5, c5, rfl, HA5.out⟩
                · have HX := Lib.hid (HNX.out (stpO_met hct))
                  clear hct
                  go_wp2_with fail
                  go_roundw
                  case rel => exact ⟨v + 1, by omega, by go_num, HX.out, HBV.out⟩
                  case measure => simp [intOf]; omega
          · have dv : decide ((v : Int) < (n : Int)) = false := decide_eq_false (by omega)
            have dv2 : decide (v < n) = false := decide_eq_false hvl
            have HX := Lib.hid (HNN.out fun u hu => HALL.out u (by omega))
            go_wp2_with fail
            go_ret
            unfold RefPost
            rw [HX.out]
            exact ⟨HBV.out, rfl⟩

end Go.Proofs.YtfmppncefbjicaaDoor
