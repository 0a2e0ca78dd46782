/- The contract of package chase's nextPlaces. -/
import Derived.Test.YtbkbliieappkdaaDoorChC1f
namespace Go.Proofs.YtbkbliieappkdaaDoor.Ch
set_option linter.unusedSimpArgs false
set_option linter.unusedVariables false
open Go.RowKit Go.Maps
attribute [local go_sem] i64_bit toNat_eq_one toNat_ne_one toNat_eq_zero toNat_ne_zero i64_and i64_or i64_andNot i64_or_pow i64_andNot_pow

theorem info_place : (Tryd.prog.info? 114).map (fun i => (i.zero, i.size, i.bytes)) = some (some (.agg #[.int .i64 0, .int .i64 0, .int .i64 0]), 3, 24) := by kernel_rfl

/-- The cells of a slice of Places. -/
def plCells (L : List Pl) : List Value := L.flatMap fun p => [.int .i64 p.1, .int .i64 p.2.1, .int .i64 p.2.2]
theorem plCells_snoc (L : List Pl) (p : Pl) : plCells (L ++ [p]) = plCells L ++ [.int .i64 p.1, .int .i64 p.2.1, .int .i64 p.2.2] := by
  simp [plCells]
theorem plCells_get (L : List Pl) (i : Nat) (p : Pl) (h : L[i]? = some p) : (plCells L)[i * 3]? = some (.int .i64 p.1) ∧ (plCells L)[i * 3 + 1]? = some (.int .i64 p.2.1) ∧ (plCells L)[i * 3 + 2]? = some (.int .i64 p.2.2) := by
  induction L generalizing i with
  | nil => simp at h
  | cons x L ih =>
    cases i with
    | zero => simp at h; subst h; exact ⟨rfl, rfl, rfl⟩
    | succ i =>
      simp at h
      have := ih i h
      have e : (i + 1) * 3 = i * 3 + 1 + 1 + 1 := by omega
      rw [e]
      exact this
def PlacesOwn (w : World) (base : Nat) (v : Value) (L : List Pl) : Prop := w.ownsRow base 114 3 v L.length (plCells L)

/-- The slice of lost cats while it is filled. -/
def lostRow (n : Nat) (r : Nat → Nat) (F : Pl → Option Nat) (C : List (Nat × Nat)) (k : Nat) : List Value := (List.range C.length).map fun i => if i < k then .int .i64 (lostS n r F (C.getD i (0, 0))) else .int .i64 0
theorem lostRow_zero (n : Nat) (r : Nat → Nat) (F : Pl → Option Nat) (C : List (Nat × Nat)) : lostRow n r F C 0 = (madeCells #[.int .i64 0] C.length).toList := by
  unfold lostRow madeCells
  simp [Nat.mod_one]
theorem lostRow_set (n : Nat) (r : Nat → Nat) (F : Pl → Option Nat) (C : List (Nat × Nat)) (k : Nat) (ab : Nat × Nat) (hk : C[k]? = some ab) : (lostRow n r F C k).set k (.int .i64 (lostS n r F ab)) = lostRow n r F C (k + 1) := by
  unfold lostRow
  rw [map_range_set]
  apply List.map_congr_left
  intro i _
  by_cases h : i = k
  · subst h; simp [List.getD, hk]
  · by_cases h2 : i < k
    · simp [h, h2]; omega
    · have : ¬ i < k + 1 := by omega
      simp [h, h2, this]
theorem lostRow_get (n : Nat) (r : Nat → Nat) (F : Pl → Option Nat) (C : List (Nat × Nat)) (k : Nat) (ab : Nat × Nat) (hk : C[k]? = some ab) : (lostRow n r F C C.length)[k]? = some (.int .i64 (lostS n r F ab)) := by
  have h := (List.getElem?_eq_some_iff.1 hk).1
  unfold lostRow
  rw [map_range_get _ h, if_pos h]
  simp [List.getD, hk]
theorem lostS_lt (n : Nat) (r : Nat → Nat) (F : Pl → Option Nat) (ab : Nat × Nat) (hn : n < 16) : lostS n r F ab < 65536 := bitsOf_lt _ (by omega)
theorem catsS_snoc (n : Nat) (r : Nat → Nat) (F : Pl → Option Nat) (f t : Nat × Nat) : ∀ (C : List (Nat × Nat)) (acc : Nat), catsS n r F f (C ++ [t]) acc = if canM r f t then catsS n r F f C acc ||| lostS n r F t else catsS n r F f C acc
  | [], _ => rfl
  | _ :: C, _ => catsS_snoc n r F f t C _
theorem catsS_lt (n : Nat) (r : Nat → Nat) (F : Pl → Option Nat) (f : Nat × Nat) (hn : n < 16) : ∀ (C : List (Nat × Nat)) (acc : Nat), acc < 65536 → catsS n r F f C acc < 65536
  | [], _, h => h
  | t :: C, acc, h => by
    unfold catsS
    apply catsS_lt n r F f hn C
    split
    · exact or_lt h (lostS_lt n r F t hn)
    · exact h
/-- The places found from a choice among the first cats. -/
def foundTo (cats : Nat) (F : Pl → Option Nat) (ab : Nat × Nat) (c : Nat) : List Pl := foundOf c cats F ab
theorem foundTo_succ (cats : Nat) (F : Pl → Option Nat) (ab : Nat × Nat) (c : Nat) : foundTo cats F ab (c + 1) = if cats.testBit c && (F (ab.1, ab.2, c)).isNone then foundTo cats F ab c ++ [(ab.1, ab.2, c)] else foundTo cats F ab c := by
  unfold foundTo foundOf
  rw [List.range_succ, List.filter_append]
  simp only [List.filter_cons, List.filter_nil]
  split <;> simp
theorem foundTo_len (cats : Nat) (F : Pl → Option Nat) (ab : Nat × Nat) (c : Nat) : (foundTo cats F ab c).length ≤ c := by
  unfold foundTo foundOf
  rw [List.length_map]
  exact Nat.le_trans (List.length_filter_le _ _) (by simp)
theorem nextL_len (n : Nat) (r : Nat → Nat) (F : Pl → Option Nat) (C D : List (Nat × Nat)) : (D.flatMap fun ab => foundOf n (catsS n r F ab C 0) F ab).length ≤ D.length * n := by
  induction D with
  | nil => simp
  | cons ab D ih =>
    have := foundTo_len (catsS n r F ab C 0) F ab n
    unfold foundTo at this
    simp only [List.flatMap_cons, List.length_append, List.length_cons]
    rw [Nat.succ_mul]; omega
theorem rankV_eq (F : Pl → Option Nat) (p : Pl) : (rankV F p == -1) = (F p).isNone := by
  unfold rankV
  cases F p with
  | none => rfl
  | some v => simp

set_option maxRecDepth 20000 in
set_option maxHeartbeats 4000000 in
theorem nextPlaces_any {w : World} {gp n b cb cc mb : Nat} {r : Nat → Nat} {C : List (Nat × Nat)} {F : Pl → Option Nat} (G : GameAt w gp n b cb cc mb r C F) (hC : C.length ≤ 256) :
    Calls Tryd.prog 109 #[.pointer (some ⟨gp, 0, none⟩)] w fun e w' => (∃ v, e = .returned v ∧ PlacesOwn w' w.heap.size v (nextL n r F C)) ∧ Below w.heap.size w w' := by
  have hmk : ∀ w : World, (Instr.makeSlice 22 (.int .i64 (C.length : Int)) (.int .i64 (C.length : Int))).run Tryd.prog w = .ok (.slice (some ⟨w.heap.size, 0, none⟩) C.length C.length) (w.alloc (.cells (lostRow n r F C 0).toArray 3)) := by
    have h := run_make_row' (P := Tryd.prog) 22 3 (.int .i64 0) 8 Tryd.underlying22 info_int rfl .i64 .i64 C.length (by omega) (by omega)
    rw [lostRow_zero]; exact h
  obtain ⟨i0, hi0, hz1, hz2, hz3⟩ := info_parts info_place
  obtain ⟨w0, hw0, R0, HB, hsz⟩ := new1 w 3 (lostRow n r F C 0)
  obtain ⟨c0, c1, c2, c3, cr, hgp, hb, hn⟩ := (G.below HB).facts
  have c2' := G.g2
  have hgp' := G.gl
  have HR0 := Lib.hid R0
  have HW := Lib.hid hw0
  have hfew := G.few
  clear hw0 R0
  go_enter Tryd.func109, Tryd.ntmps109
  go_wp2_with fail
  rw [← HW.out]
  clear HW c2' hmk
  go_loopw [24] (fun i wr => ∃ k : Nat, k ≤ C.length ∧ i = .int .i64 k ∧ Row wr w.heap.size 3 (lostRow n r F C k) ∧ Below w.heap.size w wr) (fun i _ => C.length - (intOf i).toNat)
  case atStart => exact ⟨0, Nat.zero_le _, rfl, HR0.out, HB⟩
  case round =>
    clear HR0 c0 c1 c2 c3 cr hgp hb hsz HB
    obtain ⟨k, hk, rfl, r0, hbel⟩ := hrel
    have hsz := r0.lt
    have HR0 := Lib.hid r0
    have HBE := Lib.hid hbel
    have g1 := G.below hbel
    have HG := Lib.hid g1
    obtain ⟨c0, c1, c2, c3, cr, hgp, hb, _⟩ := g1.facts
    clear r0 hbel g1
    by_cases hlt : k < C.length
    · obtain ⟨ab, hab⟩ : ∃ ab, C[k]? = some ab := ⟨C[k], by simp [hlt]⟩
      have hset := lostRow_set n r F C k ab hab
      have HSET := Lib.hid hset
      clear hset
      obtain ⟨x, y⟩ := ab
      have hin := G.inC (x, y) (List.mem_of_getElem? hab)
      dsimp only at hin
      obtain ⟨hx, hy⟩ := hin
      have hcell := HG.out.ch k (x, y) hab
      dsimp only at hcell
      obtain ⟨e0, e1⟩ := hcell
      have hrk : (lostRow n r F C k)[k]? = some (.int .i64 0) := by unfold lostRow; rw [map_range_get _ hlt, if_neg (by omega)]
      have HRK := Lib.hid hrk
      clear hrk hab
      go_wp2_with (go_at_call 114; refine (lostCats_any (HG.out.below ((Below.refl _ _).alloc (Nat.le_refl _) _)) (x, y) (by omega)).mono ?_; rintro e w2 ⟨rfl, hb2⟩; have HB2 := Lib.hid hb2; have r1 := (HR0.out.alloc _).below hb2 (HR0.out.alloc _).lt; have q0 := r1.cell HRK.out; have f0 := r1.free k; have HR1 := Lib.hid r1; clear hb2 r1)
      go_roundw
      case rel =>
        refine ⟨k + 1, by omega, by go_num, by rw [← HSET.out]; exact HR1.out.set k _, ((HBE.out.alloc HBE.out.size _).trans (HB2.out.mono (by simp; omega))).setCell (Nat.le_refl _) _⟩
      case measure => simp [intOf]; omega
    · have hke : k = C.length := by omega
      subst hke
      go_wp2_with fail
      clear hk hlt
      go_loopw [6, 41] (fun v i wx => ∃ k : Nat, k ≤ C.length ∧ i = .int .i64 k ∧ Row wx w.heap.size 3 (lostRow n r F C C.length) ∧ PlacesOwn wx w.heap.size v ((C.take k).flatMap fun ab => foundOf n (catsS n r F ab C 0) F ab) ∧ Below w.heap.size w wx) (fun _ i _ => C.length - (intOf i).toNat)
      case atStart => exact ⟨0, Nat.zero_le _, rfl, HR0.out, ⟨rfl, Or.inl ⟨rfl, rfl⟩⟩, HBE.out⟩
      case round =>
        clear HR0 HBE HG c0 c1 c2 c3 cr hgp hb hsz
        obtain ⟨k, hk, rfl, r0, hown, hbel⟩ := hrel
        have hsz := r0.lt
        have HR0 := Lib.hid r0
        have HBE := Lib.hid hbel
        have HO := Lib.hid hown
        have g1 := G.below hbel
        have HG := Lib.hid g1
        obtain ⟨c0, c1, c2, c3, cr, hgp, hb, _⟩ := g1.facts
        clear r0 hbel g1 hown
        by_cases hlt : k < C.length
        · obtain ⟨ab, hab⟩ : ∃ ab, C[k]? = some ab := ⟨C[k], by simp [hlt]⟩
          have htk := take_snoc' C k ab hab
          have HTK := Lib.hid htk
          clear htk
          have hLn := nextL_len n r F C (C.take k)
          have hmul : (C.take k).length * n ≤ 256 * 16 := Nat.mul_le_mul (by rw [List.length_take]; omega) (by omega)
          obtain ⟨x, y⟩ := ab
          have hin := G.inC (x, y) (List.mem_of_getElem? hab)
          dsimp only at hin
          obtain ⟨hx, hy⟩ := hin
          have hcell := HG.out.ch k (x, y) hab
          dsimp only at hcell
          obtain ⟨e0, e1⟩ := hcell
          clear hab
          generalize hLg : ((C.take k).flatMap fun ab => foundOf n (catsS n r F ab C 0) F ab) = L at *
          have HLG := Lib.hid hLg
          have hLl : L.length ≤ 4096 := by omega
          clear hLg hLn hmul
          obtain ⟨wb, hwb, R8, HB8, hsz8⟩ := new1 _ 74 [.int .i64 x, .int .i64 y]
          have HW8 := Lib.hid hwb
          have HR8 := Lib.hid R8
          have g8 := (HG.out.below HB8).g2
          rw [hwb] at g8
          clear hwb R8
          have hwrlt := HR0.out.lt
          obtain ⟨wo, rfl⟩ : ∃ wo : World, wo = wr := ⟨_, rfl⟩
          go_wp2_with fail
          rw [← HW8.out]
          go_loopw [9, 50] (fun f i wy => ∃ j : Nat, j ≤ C.length ∧ i = .int .i64 j ∧ f = .int .i64 (catsS n r F (x, y) (C.take j) 0) ∧ Row wy w.heap.size 3 (lostRow n r F C C.length) ∧ Row wy wo.heap.size 74 [.int .i64 x, .int .i64 y] ∧ PlacesOwn wy w.heap.size u6 L ∧ Below w.heap.size w wy) (fun _ i _ => C.length - (intOf i).toNat)
          case atStart => exact ⟨0, Nat.zero_le _, rfl, rfl, HR0.out.below HB8 hwrlt, HR8.out, ownsRow_below HO.out HB8 (Nat.le_refl _), HBE.out.trans (HB8.mono HBE.out.size)⟩
          case round =>
            clear c0 c1 c2 c3 cr hgp hb hsz e0 e1 HB8 hsz8 HW8 HR8 g8 HO HBE HG HR0 wb
            obtain ⟨j, hj, rfl, rfl, r0, r8, hown, hbel⟩ := hrel
            have HRY := Lib.hid r0
            have HR8 := Lib.hid r8
            have HOY := Lib.hid hown
            have HBY := Lib.hid hbel
            have g1 := G.below hbel
            have HGY := Lib.hid g1
            obtain ⟨c0, c1, c2, c3, cr, hgp, hb, _⟩ := g1.facts
            have s0 := r8.cell (i := 0) rfl
            have s1 := r8.cell (i := 1) rfl
            have hl8 := r8.lt
            have hl0 := r0.lt
            have hcl := catsS_lt n r F (x, y) hn (C.take j) 0 (by omega)
            clear r0 r8 hown hbel g1
            by_cases hlj : j < C.length
            · obtain ⟨ab2, hab⟩ : ∃ ab2, C[j]? = some ab2 := ⟨C[j], by simp [hlj]⟩
              have hst := catsS_snoc n r F (x, y) ab2 (C.take j) 0
              rw [← take_snoc' C j ab2 hab] at hst
              have HST := Lib.hid hst
              have HRK := Lib.hid (lostRow_get n r F C j ab2 hab)
              obtain ⟨x2, y2⟩ := ab2
              have hin := G.inC (x2, y2) (List.mem_of_getElem? hab)
              dsimp only at hin
              obtain ⟨hx2, hy2⟩ := hin
              have hcell := HGY.out.ch j (x2, y2) hab
              dsimp only at hcell
              obtain ⟨e0, e1⟩ := hcell
              have hll := lostS_lt n r F (x2, y2) hn
              clear hab hst
              generalize catsS n r F (x, y) (C.take j) 0 = f at *
              cases hcm : canM r (x, y) (x2, y2)
              all_goals
                go_wp2_with (go_at_call 115; refine (canMove_any (G.below (HBY.out.alloc HBY.out.size _)) (x, y) (x2, y2) (by dsimp only; omega) (by dsimp only; omega)).mono ?_; rintro e w2 ⟨rfl, hb2⟩; have r1 := (HRY.out.alloc _).below hb2 (HRY.out.alloc _).lt; have q0 := r1.cell HRK.out; have HR2 := Lib.hid r1; have HB2 := Lib.hid hb2; clear hb2 r1)
                go_roundw
                case rel =>
                  have B3 := (HBY.out.alloc HBY.out.size (.cells #[.int .i64 x2, .int .i64 y2] 74)).trans (HB2.out.mono (by simp; have := HBY.out.size; omega))
                  exact ⟨j + 1, by omega, by go_num, by rw [HST.out, hcm]; rfl, HR2.out, (HR8.out.alloc _).below HB2.out (HR8.out.alloc _).lt, ownsRow_below (World.ownsRow.alloc HOY.out _) HB2.out (Nat.le_refl _), B3⟩
                case measure => simp [intOf]; omega
            · have hje : j = C.length := by omega
              subst hje
              rw [List.take_length] at hcl
              simp only [List.take_length]
              have hnx : foundOf n (catsS n r F (x, y) C 0) F (x, y) = foundTo (catsS n r F (x, y) C 0) F (x, y) n := rfl
              have HNX := Lib.hid hnx
              clear hnx hlj hj
              generalize hcats : catsS n r F (x, y) C 0 = cats at *
              have HCATS := Lib.hid hcats
              clear hcats
              go_wp2_with fail
              go_loopw [6, 71] (fun v i wz => ∃ c : Nat, c ≤ n ∧ i = .int .i64 c ∧ Row wz w.heap.size 3 (lostRow n r F C C.length) ∧ Row wz wo.heap.size 74 [.int .i64 x, .int .i64 y] ∧ PlacesOwn wz w.heap.size v (L ++ foundTo cats F (x, y) c) ∧ Below w.heap.size w wz) (fun _ i _ => n - (intOf i).toNat)
              case atStart => exact ⟨0, Nat.zero_le _, rfl, HRY.out, HR8.out, (by rw [show foundTo cats F (x, y) 0 = [] from rfl, List.append_nil]; exact HOY.out), HBY.out⟩
              case round =>
                clear HRY HR8 HOY HBY HGY c0 c1 c2 c3 cr hgp hb s0 s1 hl8 hl0
                obtain ⟨c, hc, rfl, r0, r8, hown, hbel⟩ := hrel
                have HRZ := Lib.hid r0
                have HRZ8 := Lib.hid r8
                have HOZ := Lib.hid hown
                have HBZ := Lib.hid hbel
                have g1 := G.below hbel
                obtain ⟨c0, c1, c2, c3, cr, hgp, hb, _⟩ := g1.facts
                have s0 := r8.cell (i := 0) rfl
                have s1 := r8.cell (i := 1) rfl
                have hl8 := r8.lt
                have hl0 := r0.lt
                clear r0 r8 hown hbel g1
                have HST := Lib.hid (foundTo_succ cats F (x, y) c)
                have hfl := foundTo_len cats F (x, y) c
                by_cases hlc : c < n
                · generalize hM : foundTo cats F (x, y) c = M at *
                  have HMM := Lib.hid hM
                  clear hM
                  cases hT : cats.testBit c
                  · go_wp2_with (go_at_call 90; refine (has_any _ _ _ (by assumption) (by omega)).mono ?_; rintro e w1 ⟨rfl, rfl⟩)
                    go_roundw
                    case rel => exact ⟨c + 1, by omega, by go_num, HRZ.out, HRZ8.out, by rw [HST.out, hT]; exact HOZ.out, HBZ.out⟩
                    case measure => simp [intOf]; omega
                  · have hrv := rankV_eq F (x, y, c)
                    cases hN : (F (x, y, c)).isNone
                    · rw [hN] at hrv
                      have HN := Lib.hid hN
                      clear hN
                      go_wp2_with (first | (go_at_call 90; refine (has_any _ _ _ (by assumption) (by omega)).mono ?_; rintro e w1 ⟨rfl, rfl⟩) | (go_at_call 108; refine (at_any _ _ _ _).mono ?_; rintro e w1 ⟨rfl, hb1⟩; have HB1 := Lib.hid hb1; clear hb1) | (go_at_call 110; refine (rank_any ((G.below HBZ.out).below HB1.out) (x, y, c) (by dsimp only; omega)).mono ?_; rintro e w2 ⟨rfl, hb2⟩; have hb3 := HB1.out.trans (hb2.mono HB1.out.size); have HB2 := Lib.hid hb3; have u0 := (HRZ8.out.below hb3 HRZ8.out.lt).cell (i := 0) rfl; have u1 := (HRZ8.out.below hb3 HRZ8.out.lt).cell (i := 1) rfl; clear hb2 hb3))
                      go_roundw
                      case rel => exact ⟨c + 1, by omega, by go_num, HRZ.out.below HB2.out HRZ.out.lt, HRZ8.out.below HB2.out HRZ8.out.lt, by rw [HST.out, hT]; simp only [HN.out, Bool.and_false, Bool.false_eq_true, if_false]; exact ownsRow_below HOZ.out HB2.out (Nat.le_refl _), HBZ.out.trans (HB2.out.mono HBZ.out.size)⟩
                      case measure => simp [intOf]; omega
                    · rw [hN] at hrv
                      have HN := Lib.hid hN
                      clear hN
                      go_wp2_with (first | (at_builtin; refine wpList_append_own _ rfl _ _ 116 rfl w.heap.size 114 i0 (.agg #[.int .i64 0, .int .i64 0, .int .i64 0]) 3 24 Tryd.underlying116 hi0 hz1 hz2 hz3 rfl (by decide) _ _ _ rfl (World.ownsRow.alloc (ownsRow_below (ownsRow_below HOZ.out HB2.out (Nat.le_refl _)) HB1.out (Nat.le_refl _)) _) ⟨_, 0, none⟩ 1 1 [.int .i64 x, .int .i64 y, .int .i64 c] rfl rfl ?c1 ?c2 ?c3 ?c4 ?c5 ?_) | (go_at_call 90; refine (has_any _ _ _ (by assumption) (by omega)).mono ?_; rintro e w1 ⟨rfl, rfl⟩) | (go_at_call 108; refine (at_any _ _ _ _).mono ?_; rintro e w1 ⟨rfl, hb1⟩; have HB1 := Lib.hid hb1; clear hb1) | (go_at_call 110; refine (rank_any ((G.below HBZ.out).below HB1.out) (x, y, c) (by dsimp only; omega)).mono ?_; rintro e w2 ⟨rfl, hb2⟩; have hb3 := HB1.out.trans (hb2.mono HB1.out.size); have HB2 := Lib.hid hb3; have u0 := (HRZ8.out.below hb3 HRZ8.out.lt).cell (i := 0) rfl; have u1 := (HRZ8.out.below hb3 HRZ8.out.lt).cell (i := 1) rfl; clear hb2 hb3))
                      case c1 => exact cells_new _ _ _
                      case c2 => intro u hu; simp at hu; rcases hu with rfl | rfl | rfl <;> rfl
                      case c3 => rw [List.length_append]; unfold maxLen; omega
                      case c4 => rw [List.length_append]; omega
                      case c5 => simp; have := HBZ.out.size; have := HB2.out.size; have := HB1.out.size; omega
                      intro v' w9 hown1 hg1 _
                      have HO1 := Lib.hid hown1
                      have HG1 := Lib.hid hg1
                      clear hown1 hg1
                      go_wp2_with fail
                      go_roundw
                      case rel =>
                        have O1 := ownsRow_below (ownsRow_below HOZ.out HB2.out (Nat.le_refl _)) HB1.out (Nat.le_refl _)
                        have r0 := (HRZ.out.below HB2.out HRZ.out.lt).below HB1.out (HRZ.out.below HB2.out HRZ.out.lt).lt
                        have r8 := (HRZ8.out.below HB2.out HRZ8.out.lt).below HB1.out (HRZ8.out.below HB2.out HRZ8.out.lt).lt
                        have B9 := (HBZ.out.trans (HB2.out.mono HBZ.out.size)).trans (HB1.out.mono (Nat.le_trans HBZ.out.size HB2.out.size))
                        refine ⟨c + 1, by omega, by go_num, (r0.alloc _).grown HG1.out (not_own_type O1 r0 (by decide)), (r8.alloc _).grown HG1.out (not_own_type O1 r8 (by decide)), ?_, (B9.alloc B9.size _).grown HG1.out (by simp; have := B9.size; omega) (fun k hk => (World.ownsRow.lt O1 k hk).1)⟩
                        rw [HST.out, hT]
                        simp only [HN.out, Bool.and_true, if_true]
                        have h3 := HO1.out
                        unfold PlacesOwn
                        rw [← List.append_assoc, plCells_snoc, List.length_append (bs := [(x, y, c)]), List.length_append]
                        exact h3
                      case measure => simp [intOf]; omega
                · have hce : c = n := by omega
                  subst hce
                  go_wp2_with fail
                  go_roundw
                  case rel =>
                    refine ⟨k + 1, by omega, by go_num, HRZ.out, ?_, HBZ.out⟩
                    rw [HTK.out, List.flatMap_append, HLG.out]
                    simp only [List.flatMap_cons, List.flatMap_nil, List.append_nil]
                    rw [HCATS.out]
                    exact HOZ.out
                  case measure => simp [intOf]; omega
        · have hke : k = C.length := by omega
          subst hke
          go_wp2_with fail
          go_ret
          exact ⟨⟨_, rfl, by have := HO.out; rw [List.take_length] at this; exact this⟩, HBE.out⟩

end Go.Proofs.YtbkbliieappkdaaDoor.Ch
