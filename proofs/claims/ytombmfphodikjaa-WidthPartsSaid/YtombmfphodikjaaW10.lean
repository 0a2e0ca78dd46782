/- The contract of package width's firstOrder. -/
import Derived.Test.YtombmfphodikjaaW9
namespace Go.Proofs.Ytombmfphodikjaa
set_option linter.unusedSimpArgs false
set_option linter.unusedVariables false
open Go.RowKit Go.Maps
attribute [local go_sem] i64_bit toNat_eq_one toNat_ne_one toNat_eq_zero toNat_ne_zero i64_and i64_or i64_andNot i64_or_pow i64_andNot_pow

def FirstPost (w : World) (n : Nat) (r : Nat → Nat) (e : Ending) (w' : World) : Prop :=
  ∃ v, e = .returned v ∧ NatsOwn w' w.heap.size v (ordW n (tn n r) (rst n (tn n r) 0) n 0) ∧ Below w.heap.size w w'

set_option maxRecDepth 20000 in
set_option maxHeartbeats 4000000 in
theorem firstOrder_any {n : Nat} {r : Nat → Nat} {a : Option Addr} {w : World} (G : Gr w a n r) (cap : Nat) :
    Calls Try.prog 43 #[.slice a n cap] w (FirstPost w n r) := by
  obtain ⟨i0, hi0, hz1, hz2, hz3⟩ := info_parts info_int
  have hle := G.le
  have hn9 : n < 16 := by omega
  have HG := Lib.hid G
  have h2 := Nat.two_pow_pos n
  have hpn := pow_bd n hn9
  have hcast : ((2 : Int) ^ n - 1) = ((2 ^ n - 1 : Nat) : Int) := by rw [pow_cast]; omega
  obtain ⟨N, hN⟩ : ∃ N : Nat, N = 2 ^ n - 1 := ⟨_, rfl⟩
  rw [← hN] at hcast
  have HCA := Lib.hid hcast
  have HN := Lib.hid hN
  clear hN
  have h9 := pow_le9 hle
  clear G hcast
  go_enter Try.func43, Try.ntmps43
  go_wp2_with (first
    | (go_at_call 62; refine (widths_any HG.out cap).mono ?_; rintro e w1 ⟨kb, tb, lb, mb, F, rfl, L, hb, hmb⟩; have HL := Lib.hid L; have HB := Lib.hid hb; clear L hb)
    | (go_at_call 81; refine (least_rec kb tb lb mb a n cap r (2 ^ n) 0 h2 (by omega) w1 F HL.out).mono ?_; rintro e w2 ⟨rfl, F2, L2, hg2⟩; have HL2 := Lib.hid L2; have HB2 := Lib.hid (HB.out.grown hg2 HB.out.size (fun k hk => by cases hk; exact hmb)); clear L2 hg2)
    | (at_make; refine wpList_make_own _ rfl _ _ 22 rfl w2.heap.size 3 i0 (.int .i64 0) 1 Try.underlying22 hi0 hz1 hz2 _ _ _ n rfl rfl rfl ?b2 ?b3 ?b4 ?_))
  case b2 => rw [hz3]; omega
  case b3 => unfold maxLen; omega
  case b4 => exact Nat.le_refl _
  intro w3 hown hg3
  generalize hv0 : Value.slice (some ⟨w2.heap.size, 0, none⟩) 0 n = v0 at *
  have HO3 : Hid (NatsOwn w3 w2.heap.size v0 []) := Lib.hid hown
  have HLW := Lib.hid HL2.out.low
  have HL3 := Lib.hid (HL2.out.apart HLW.out hg3 (fun k hk => by cases hk))
  have HB3 := Lib.hid (HB2.out.grown hg3 HB2.out.size (fun k hk => by cases hk))
  have HS3 := Lib.hid hg3.size
  clear hown hg3 hv0
  have hrle := rst_le (n := n) (t := tn n r) h2
  obtain ⟨W, hW⟩ : ∃ W, W = rst n (tn n r) 0 := ⟨_, rfl⟩
  have HW := Lib.hid hW
  rw [← hW] at hrle ⊢
  have HGO : Hid (Going n (tn n r) W [] 0) := Lib.hid (Going.start (by rw [hW]; exact Nat.le_refl _))
  clear hW
  go_wp2_with fail
  go_loopw [5, 6] (fun o g wr => ∃ ov L gone F', ov = o ∧ NatsOwn wr w2.heap.size ov L ∧ g = .int .i64 (gone : Nat) ∧ Going n (tn n r) W L gone ∧ LeastAt wr kb tb lb mb a n cap r F' ∧ Below w.heap.size w wr ∧ w2.heap.size ≤ wr.heap.size) (fun _ g _ => n - szS n (intOf g).toNat)
  case atStart => exact ⟨_, [], 0, F2, rfl, HO3.out, rfl, HGO.out, HL3.out, HB3.out, HS3.out⟩
  case round =>
    clear HO3 HGO HL3 HB3
    obtain ⟨ov, L, gone, F', rfl, hown, rfl, hgo, hL, hB, hsz⟩ := hrel
    have hglt := hgo.lt
    have hg16 := lt16 hle hglt
    have hlen := hgo.len
    have HOW := Lib.hid hown
    have HGO := Lib.hid hgo
    have HLA := Lib.hid hL
    have HBA := Lib.hid hB
    clear hown hgo hL hB
    by_cases hall : gone = N
    · have hq : ((gone : Int) != (N : Int)) = false := by simp [hall]
      have HALL := Lib.hid hall
      clear hall
      go_wp2_with (go_at_call 63; refine (all_any _ _ _ _ hn9).mono ?_; rintro e wz ⟨rfl, rfl⟩; rw [HCA.out])
      go_ret
      have hd := HGO.out
      rw [HALL.out, HN.out] at hd
      exact ⟨_, rfl, by rw [← HW.out, ← hd.done.1]; exact ownsRow_base HOW.out HB2.out.size, HBA.out⟩
    · have hq : ((gone : Int) != (N : Int)) = true := by simp; omega
      have HNEX := Lib.hid (HGO.out.next (by rw [← HN.out]; exact hall) (fun v hv => tn_le _ _ _ _))
      have HMORE := Lib.hid (HGO.out.more (by rw [← HN.out]; exact hall))
      clear hall
      go_wp2_with (go_at_call 63; refine (all_any _ _ _ _ hn9).mono ?_; rintro e wz ⟨rfl, rfl⟩; rw [HCA.out])
      go_loopw [5, 6, 21] (fun o g i wx => ∃ j F2, j ≤ n ∧ i = .int .i64 (j : Nat) ∧ ov = o ∧ g = .int .i64 (gone : Nat) ∧ (∀ u, u < j → nxtB n (tn n r) W gone u = false) ∧ NatsOwn wx w2.heap.size ov L ∧ LeastAt wx kb tb lb mb a n cap r F2 ∧ Below w.heap.size w wx ∧ w2.heap.size ≤ wx.heap.size) (fun _ _ i _ => n - (intOf i).toNat)
      case atStart => exact ⟨0, F', Nat.zero_le _, rfl, rfl, rfl, by omega, HOW.out, HLA.out, HBA.out, hsz⟩
      case round =>
        have HBT := Lib.hid HLW.out.t
        clear HOW HLA HBA
        clear hsz
        obtain ⟨j, F3, hj, rfl, rfl, rfl, hno, hown, hL, hB, hsz⟩ := hrel
        have HNO := Lib.hid hno
        have HOW := Lib.hid hown
        have HLA := Lib.hid hL
        have HBA := Lib.hid hB
        clear hno hown hL hB
        by_cases hlj : j < n
        · have hj64 : j < 64 := by omega
          have hj16 : j < 16 := by omega
          have hpj := pow_bd j hj16
          have hor16 : gone ||| 2 ^ j < 65536 := or_lt hg16 (pow_lt16 hj16)
          have hlt2 : gone ||| 2 ^ j < 2 ^ n := Nat.or_lt_two_pow hglt (pow_lt_pow hlj)
          have HLT2 := Lib.hid hlt2
          have hrle2 : rst n (tn n r) (gone ||| 2 ^ j) ≤ 9 := Nat.le_trans (rst_le hlt2) hle
          have htle : tn n r gone j ≤ 9 := Nat.le_trans (tn_le _ _ _ _) hle
          have HLF : Hid (leftS n r gone j < 2 ^ n) := Lib.hid (arnd_lt _ HG.out.bd)
          have HTN : Hid (szS n (leftS n r gone j) = tn n r gone j) := Lib.hid rfl
          have HGL := Lib.hid hglt
          clear hlt2
          cases hq1 : gone.testBit j
          · by_cases hq2 : tn n r gone j ≤ W
            · by_cases hq3 : rst n (tn n r) (gone ||| 2 ^ j) ≤ W
              · have HYES := Lib.hid (nxtB_iff.2 ⟨hq1, hq2, hq3⟩)
                generalize hrj : rst n (tn n r) (gone ||| 2 ^ j) = rj at *
                have HRJ := Lib.hid hrj
                generalize tn n r gone j = tj at *
                clear hrj
                go_wp2_with (first
                  | (go_at_call 61; refine (has_any _ _ _ hg16 hj64).mono ?_; rintro e wa ⟨rfl, rfl⟩; rw [hq1])
                  | (go_at_call 65; refine (left_any HLA.out.gr cap j gone hlj HGL.out).mono ?_; rintro e wb ⟨rfl, rfl⟩)
                  | (go_at_call 64; refine (count_any hle (leftS n r gone j) HLF.out _).mono ?_; rintro e wc ⟨rfl, rfl⟩; rw [HTN.out])
                  | (go_at_call 81; refine (least_rec kb tb lb mb a n cap r (2 ^ n) (gone ||| 2 ^ j) HLT2.out (by omega) _ F3 HLA.out).mono ?_; rintro e w5 ⟨rfl, F5, L5, hg5⟩; rw [HRJ.out]; have HL5 := Lib.hid L5; have HG5 := Lib.hid hg5; have HO5 := Lib.hid (ownsRow_grown HOW.out hg5 (fun k hk => by cases hk; exact HLW.out.m)); clear L5 hg5)
                  | (at_builtin; refine wpList_append_own _ rfl _ _ 22 rfl w2.heap.size 3 i0 (.int .i64 0) 1 8 Try.underlying22 hi0 hz1 hz2 hz3 rfl (by decide) _ _ _ rfl (World.ownsRow.alloc HO5.out _) ⟨_, 0, none⟩ 1 1 [.int .i64 j] rfl rfl ?c1 ?c2 ?c3 ?c4 ?c5 ?_))
                case c1 => exact cells_new _ _ _
                case c2 => intro u hu; simp at hu; subst hu; rfl
                case c3 => unfold maxLen; omega
                case c4 => omega
                case c5 => simp; have := HG5.out.size; omega
                intro v' w9 hown1 hg1 _
                have HO9 : Hid (NatsOwn w9 w2.heap.size v' (L ++ [j])) := Lib.hid (by
                  unfold NatsOwn
                  rw [List.length_append, List.map_append]
                  exact hown1)
                have hrow : ∀ k, ov.ownBlock = some k → w2.heap.size ≤ k := fun k hk => (World.ownsRow.lt HO5.out k hk).1
                have HL9 := Lib.hid ((HL5.out.apart HLW.out (World.grownBy_alloc _ _ none) (fun k hk => by cases hk)).apart HLW.out hg1 hrow)
                have HB5 := HBA.out.grown HG5.out HBA.out.size (fun k hk => by cases hk; exact hmb)
                have HB9 := Lib.hid ((HB5.alloc HB5.size _).grown hg1 (by simp; have := HB5.size; omega) (fun k hk => Nat.le_trans HB2.out.size (hrow k hk)))
                have HS9 : Hid (w2.heap.size ≤ w9.heap.size) := Lib.hid (by have h1 := hg1.size; have h2 := HG5.out.size; simp at h1; omega)
                clear hown1 hg1 hrow HB5
                go_wp2_with fail
                go_roundw
                case rel => exact ⟨v', L ++ [j], gone ||| 2 ^ j, F5, rfl, HO9.out, rfl, HGO.out.step hlj HYES.out HNO.out, HL9.out, HB9.out, HS9.out⟩
                case measure =>
                  have h1 := sz_or hlj hq1
                  have h3 := szS_le n (gone ||| 2 ^ j)
                  simp [intOf]
                  omega
              · have HNOT : Hid (nxtB n (tn n r) W gone j = false) := Lib.hid (Bool.eq_false_iff.2 fun h => hq3 (nxtB_iff.1 h).2.2)
                generalize hrj : rst n (tn n r) (gone ||| 2 ^ j) = rj at *
                have HRJ := Lib.hid hrj
                generalize tn n r gone j = tj at *
                have hq4 : W < rj := by omega
                clear hrj hq3
                go_wp2_with (first
                  | (go_at_call 61; refine (has_any _ _ _ hg16 hj64).mono ?_; rintro e wa ⟨rfl, rfl⟩; rw [hq1])
                  | (go_at_call 65; refine (left_any HLA.out.gr cap j gone hlj HGL.out).mono ?_; rintro e wb ⟨rfl, rfl⟩)
                  | (go_at_call 64; refine (count_any hle (leftS n r gone j) HLF.out _).mono ?_; rintro e wc ⟨rfl, rfl⟩; rw [HTN.out])
                  | (go_at_call 81; refine (least_rec kb tb lb mb a n cap r (2 ^ n) (gone ||| 2 ^ j) HLT2.out (by omega) _ F3 HLA.out).mono ?_; rintro e w5 ⟨rfl, F5, L5, hg5⟩; rw [HRJ.out]; have HL5 := Lib.hid L5; have HG5 := Lib.hid hg5; have HO5 := Lib.hid (ownsRow_grown HOW.out hg5 (fun k hk => by cases hk; exact HLW.out.m)); clear L5 hg5))
                go_roundw
                case rel => exact ⟨j + 1, F5, by omega, by go_num, rfl, rfl, fun u hu => by rcases Nat.lt_succ_iff_lt_or_eq.1 hu with h | h; exact HNO.out u h; rw [h]; exact HNOT.out, HO5.out, HL5.out, HBA.out.grown HG5.out HBA.out.size (fun k hk => by cases hk; exact hmb), Nat.le_trans hsz HG5.out.size⟩
                case measure => simp [intOf]; omega
            · have HNOT : Hid (nxtB n (tn n r) W gone j = false) := Lib.hid (Bool.eq_false_iff.2 fun h => hq2 (nxtB_iff.1 h).2.1)
              generalize tn n r gone j = tj at *
              have hq4 : W < tj := by omega
              clear hq2
              go_wp2_with (first
                | (go_at_call 61; refine (has_any _ _ _ hg16 hj64).mono ?_; rintro e wa ⟨rfl, rfl⟩; rw [hq1])
                | (go_at_call 65; refine (left_any HLA.out.gr cap j gone hlj HGL.out).mono ?_; rintro e wb ⟨rfl, rfl⟩)
                | (go_at_call 64; refine (count_any hle (leftS n r gone j) HLF.out _).mono ?_; rintro e wc ⟨rfl, rfl⟩; rw [HTN.out]))
              go_roundw
              case rel => exact ⟨j + 1, F3, by omega, by go_num, rfl, rfl, fun u hu => by rcases Nat.lt_succ_iff_lt_or_eq.1 hu with h | h; exact HNO.out u h; rw [h]; exact HNOT.out, HOW.out, HLA.out, HBA.out, hsz⟩
              case measure => simp [intOf]; omega
          · have HNOT : Hid (nxtB n (tn n r) W gone j = false) := Lib.hid (Bool.eq_false_iff.2 fun h => by have := (nxtB_iff.1 h).1; rw [hq1] at this; cases this)
            go_wp2_with (go_at_call 61; refine (has_any _ _ _ hg16 hj64).mono ?_; rintro e wa ⟨rfl, rfl⟩; rw [hq1])
            go_roundw
            case rel => exact ⟨j + 1, F3, by omega, by go_num, rfl, rfl, fun u hu => by rcases Nat.lt_succ_iff_lt_or_eq.1 hu with h | h; exact HNO.out u h; rw [h]; exact HNOT.out, HOW.out, HLA.out, HBA.out, hsz⟩
            case measure => simp [intOf]; omega
        · exfalso
          obtain ⟨v, hv, hb⟩ := HNEX.out
          rw [HNO.out v (by omega)] at hb
          cases hb

end Go.Proofs.Ytombmfphodikjaa
