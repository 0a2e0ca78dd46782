/- The contracts of the reference's Border and Bags, of package sweep's Bags and Least, of the law's awake; the walk of the law SweepBags. -/
import Derived.Test.YtgkpogaahndmoaaDoorQf
namespace Go.Proofs.YtgkpogaahndmoaaDoor
set_option linter.unusedSimpArgs false
set_option linter.unusedVariables false
open Go.RowKit Go.Maps
attribute [local go_sem] i64_bit toNat_eq_one toNat_ne_one toNat_eq_zero toNat_ne_zero i64_and i64_or i64_andNot i64_or_pow i64_andNot_pow

/-- A border, node by node. -/
def bordTo (r : Nat → Nat) (s : Nat) : Nat → Nat
  | 0 => 0
  | k + 1 => if s.testBit k && diff (r k) s != 0 then bordTo r s k ||| 2 ^ k else bordTo r s k
theorem testBit_bordTo {r : Nat → Nat} {s : Nat} : ∀ k i, (bordTo r s k).testBit i = true ↔ i < k ∧ s.testBit i = true ∧ diff (r i) s ≠ 0 := by
  intro k
  induction k with
  | zero => intro i; simp [bordTo]
  | succ k ih =>
    intro i
    unfold bordTo
    split
    · rename_i hc
      rw [Bool.and_eq_true, bne_iff_ne] at hc
      rw [Nat.testBit_or, Bool.or_eq_true, ih, Nat.testBit_two_pow, decide_eq_true_eq]
      constructor
      · rintro (⟨h1, h2⟩ | rfl)
        · exact ⟨by omega, h2⟩
        · exact ⟨by omega, hc⟩
      · rintro ⟨h1, h2⟩
        by_cases e : i = k
        · exact .inr e.symm
        · exact .inl ⟨by omega, h2⟩
    · rename_i hc
      rw [Bool.and_eq_true, bne_iff_ne] at hc
      rw [ih]
      constructor
      · rintro ⟨h1, h2⟩; exact ⟨by omega, h2⟩
      · rintro ⟨h1, h2⟩
        refine ⟨?_, h2⟩
        apply Classical.byContradiction
        intro hx
        have : i = k := by omega
        subst this
        exact hc h2
theorem bord_same {n : Nat} {r : Nat → Nat} {s : Nat} (hn : n ≤ 10) (hs : s < 2 ^ n) : bordTo r s n = bord r s := by
  apply Nat.eq_of_testBit_eq
  intro i
  rw [Bool.eq_iff_iff, testBit_bordTo]
  unfold bord
  rw [testBit_bordF, mem_bitsOf]
  constructor
  · rintro ⟨h1, h2, h3⟩; exact ⟨⟨by omega, h2⟩, h3⟩
  · rintro ⟨⟨h1, h2⟩, h3⟩; exact ⟨bit_lt hs h2, h2, h3⟩
theorem bordTo_lt {n : Nat} {r : Nat → Nat} {s : Nat} (hs : s < 2 ^ n) : ∀ k, bordTo r s k < 2 ^ n := by
  intro k
  apply Nat.lt_of_le_of_lt ?_ hs
  exact sub_le fun i hi => ((testBit_bordTo k i).1 hi).2.1

set_option maxRecDepth 20000 in
set_option maxHeartbeats 2000000 in
theorem BorderR_any {n : Nat} {r : Nat → Nat} {ad : Option Addr} {w : World} (G : GrAt w ad n r) (hn7 : n ≤ 7) (hr : ∀ i, i < n → r i < 2 ^ n) (cap s : Nat) (hs : s < 2 ^ n) :
    Calls Tryd.prog 57 #[.slice ad n cap, .int .i64 s] w fun e w' => e = .returned (.int .i64 (bord r s : Nat)) ∧ w = w' := by
  have h7 := pow_le7 hn7
  have HE := Lib.hid (bord_same (r := r) (show n ≤ 10 by omega) hs)
  obtain ⟨hml, hI⟩ := G.ints
  obtain ⟨b, off, rfl, hlt, hc⟩ := hI G.pos
  have HC := Lib.hid hc
  have HR := Lib.hid hr
  have HS := Lib.hid hs
  have hs16 : s < 65536 := by omega
  unfold maxLen at hml
  clear G hr hI hc hs
  go_enter Tryd.func57, Tryd.ntmps57
  go_wp2_with fail
  go_loopw [5, 9] (fun o i wr => ∃ k : Nat, k ≤ n ∧ i = .int .i64 k ∧ o = .int .i64 (bordTo r s k : Nat) ∧ w = wr) (fun _ i _ => n - (intOf i).toNat)
  case atStart => exact ⟨0, Nat.zero_le _, rfl, rfl, rfl⟩
  case round =>
    obtain ⟨k, hk, rfl, rfl, rfl⟩ := hrel
    by_cases hltk : k < n
    · have ck := HC.out k hltk
      have hrk := HR.out k hltk
      have hr16 : r k < 65536 := by omega
      have hb16 : bordTo r s k < 65536 := Nat.lt_of_lt_of_le (bordTo_lt HS.out k) (by omega)
      have HN : Hid (bordTo r s (k + 1) = if s.testBit k && diff (r k) s != 0 then bordTo r s k ||| 2 ^ k else bordTo r s k) := Lib.hid rfl
      generalize bordTo r s k = g at *
      have hk16 : k < 16 := by omega
      have hk64 : k < 64 := by omega
      have hpw := pow_bd k hk16
      cases hb : s.testBit k
      · have HN2 : Hid (bordTo r s (k + 1) = g) := Lib.hid (by have := HN.out; rw [hb] at this; exact this)
        go_wp2_with fail
        go_roundw
        case rel => exact ⟨k + 1, by omega, by go_num, by rw [HN2.out], by first | trivial | rfl⟩
        case measure => simp [intOf]; omega
      · by_cases hd : diff (r k) s = 0
        · have HN2 : Hid (bordTo r s (k + 1) = g) := Lib.hid (by have := HN.out; rw [hb, hd] at this; exact this)
          go_wp2_with fail
          go_roundw
          case rel => exact ⟨k + 1, by omega, by go_num, by rw [HN2.out], by first | trivial | rfl⟩
          case measure => simp [intOf]; omega
        · have HN2 : Hid (bordTo r s (k + 1) = g ||| 2 ^ k) := Lib.hid (by have := HN.out; rw [hb, bne_iff_ne.2 hd] at this; exact this)
          have d1 : ((diff (r k) s : Nat) : Int) ≠ 0 := by omega
          go_wp2_with fail
          go_roundw
          case rel => exact ⟨k + 1, by omega, by go_num, by rw [HN2.out], by first | trivial | rfl⟩
          case measure => simp [intOf]; omega
    · have hke : k = n := by omega
      subst hke
      rw [HE.out]
      go_wp2_with fail
      go_ret
      exact ⟨rfl, rfl⟩

theorem BorderR_b {n : Nat} {r : Nat → Nat} {ad : Option Addr} {w : World} (G : GrAt w ad n r) (hn7 : n ≤ 7) (hr : ∀ i, i < n → r i < 2 ^ n) (cap s : Nat) (hs : s < 2 ^ n) :
    Calls Tryd.prog 57 #[.slice ad n cap, .int .i64 s] w fun e w' => e = .returned (.int .i64 (bord r s : Nat)) ∧ Below w.heap.size w w' :=
  (BorderR_any G hn7 hr cap s hs).mono fun _ _ ⟨h1, h2⟩ => ⟨h1, by subst h2; exact Below.refl _ _⟩

set_option maxRecDepth 20000 in
set_option maxHeartbeats 4000000 in
theorem BagsR_any {n : Nat} {r : Nat → Nat} {ad o : Option Addr} {w : World} {z : Nat → Int} (G : GrAt w ad n r) (hn7 : n ≤ 7) (hr : ∀ i, i < n → r i < 2 ^ n) (cap co : Nat) (ho : ordB n n z = true) (hI : IntsAt w o n z) :
    Calls Tryd.prog 28 #[.slice ad n cap, .slice o n co] w fun e w' => ∃ v, e = .returned v ∧ IntsOwn w' w.heap.size v (bagL r z n) ∧ Below w.heap.size w w' := by
  have h7 := pow_le7 hn7
  have hpos := G.pos
  obtain ⟨b, off, rfl, hlt, hc⟩ := hI.2 hpos
  have hbc : ∀ wx, Below w.heap.size w wx → ∀ i, i < n → wx.cell? ⟨b, off + i, none⟩ = some (.int .i64 (z i)) := fun wx hb i hi => by rw [hb.cell (p := ⟨b, off + i, none⟩) hlt]; exact hc i hi
  have HC := Lib.hid hbc
  have HG := Lib.hid G
  have HR := Lib.hid hr
  have HO := Lib.hid ho
  obtain ⟨i0, hi0, hz1, hz2, hz3⟩ := info_parts info_int
  have hml := G.ints.1
  unfold maxLen at hml
  clear G hr hI hc hbc ho
  go_enter Tryd.func28, Tryd.ntmps28
  go_wp2_with fail
  go_loopw [5, 6, 11] (fun v f i wr => ∃ k : Nat, k ≤ n ∧ i = .int .i64 k ∧ f = .int .i64 (metO z k : Nat) ∧ IntsOwn wr w.heap.size v (bagL r z k) ∧ Below w.heap.size w wr) (fun _ _ i _ => n - (intOf i).toNat)
  case atStart => exact ⟨0, Nat.zero_le _, rfl, rfl, ⟨rfl, Or.inl ⟨rfl, rfl⟩⟩, Below.refl _ _⟩
  case round =>
    obtain ⟨k, hk, rfl, rfl, hown, hbr⟩ := hrel
    have HOW := Lib.hid hown
    have HBR := Lib.hid hbr
    clear hown hbr
    by_cases hltk : k < n
    · have ck := HC.out wr HBR.out k hltk
      obtain ⟨h0, h1, h2, h3⟩ := okO_iff ((ordB_iff HO.out).2 k hltk)
      have hM := lay_met HO.out hk
      have HMS : Hid (metO z (k + 1) = metO z k ||| 2 ^ (z k).toNat) := Lib.hid rfl
      have HBS : Hid (bagZ r z k = ((bord r (metO z k) ||| 2 ^ (z k).toNat : Nat) : Int)) := Lib.hid rfl
      have HBL := Lib.hid (bagL_succ r z k)
      have hll := bagL_len r z k
      have hbl := bord_lt (r := r) hM
      have HBD := Lib.hid (BorderR_b (HG.out.below HBR.out) hn7 HR.out cap (metO z k) hM)
      obtain ⟨s, hs⟩ : ∃ s : Nat, z k = s := ⟨(z k).toNat, by omega⟩
      rw [hs] at ck
      rw [hs, Int.toNat_natCast] at HMS HBS
      have hsn : s < n := by omega
      have hs16 : s < 16 := by omega
      have hs64 : s < 64 := by omega
      have hps := pow_bd s hs16
      generalize metO z k = M at *
      generalize bagL r z k = L0 at *
      have hM16 : M < 65536 := by omega
      have hX16 : bord r M < 65536 := by omega
      clear h0 h1 h2 h3
      go_upto_region 6 with fail
      have hsz := HBR.out.size
      have HBD' := Lib.hid (BorderR_b (HG.out.below (HBR.out.drew)) hn7 HR.out cap M hM)
      have hbd : Below wr.heap.size wr wr.drew := below_drewN (Below.refl _ _) 1
      go_region_law? (first | (go_simp; go_at_call 57; refine HBD'.out.mono ?_; rintro _ w5 ⟨rfl, hb5⟩; have HB5 := Lib.hid (hbd.trans (hb5.mono (by simp))); clear hb5) | (refine step_append_own rfl (.tmp 15) (.tmp 22) 22 rfl w.heap.size 3 i0 (.int .i64 0) 1 8 Tryd.underlying22 hi0 hz1 hz2 hz3 rfl (by decide) u5 L0.length _ (by simp [Act.eval, Act.put]) (World.ownsRow.alloc (ownsRow_below (show wr.ownsRow w.heap.size 3 1 u5 L0.length _ from HOW.out) HB5.out (Nat.le_refl _)) _) ⟨w5.heap.size, 0, none⟩ 1 1 [.int .i64 (bits .or .i64 (bord r M : Nat) (IntKind.i64.wrap (2 ^ s)))] (by simp [Act.eval, Act.put]) rfl (cells_new w5 _ _) (by intro u hu; simp at hu; subst hu; rfl) (by unfold maxLen; omega) (by omega) (Nat.le_trans hsz (Nat.le_trans HB5.out.size (by simp))) ?_; intro u' w3 hown1 hg1; have HO3 := Lib.hid hown1; have HG3 := Lib.hid hg1; clear hown1 hg1))
      go_wp2_with fail
      go_roundw
      case rel =>
        refine ⟨k + 1, by omega, by go_num, by rw [HMS.out], ?_, ((HBR.out.trans (HB5.out.mono HBR.out.size)).alloc (Nat.le_trans hsz HB5.out.size) _).grown HG3.out (by simp; have := HB5.out.size; omega) (fun k hk => (World.ownsRow.lt HOW.out k hk).1)⟩
        have ho := HO3.out
        unfold IntsOwn
        rw [HBL.out, HBS.out, List.length_append, List.map_append]
        rw [show IntKind.i64.wrap ((2 : Int) ^ s) = 2 ^ s from IntWalk.i64_in _ (by have := pow_cast s; omega), i64_or_pow _ _ (by omega) (by omega)] at ho
        exact ho
      case measure => simp [intOf]; omega
    · have hke : k = n := by omega
      subst hke
      go_wp2_with fail
      go_ret
      exact ⟨_, rfl, HOW.out, HBR.out⟩

end Go.Proofs.YtgkpogaahndmoaaDoor
