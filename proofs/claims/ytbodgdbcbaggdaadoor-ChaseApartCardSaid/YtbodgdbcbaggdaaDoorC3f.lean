/- The contracts of the reference's apart and Apart. (Written by gen_apart.py.) -/
import Derived.Test.YtbodgdbcbaggdaaDoorC3e
import Derived.Test.YtbodgdbcbaggdaaDoorS17
import Derived.Test.YtbodgdbcbaggdaaDoorC3d
import Derived.ArgAppend
import Derived.Deep.CutRange
import Derived.Deep.RegionLawGrows
namespace Go.Proofs.YtbodgdbcbaggdaaDoor
set_option linter.unusedSimpArgs false
set_option linter.unusedVariables false
open Go.RowKit Go.Maps
attribute [local go_sem] i64_bit toNat_eq_one toNat_ne_one toNat_eq_zero toNat_ne_zero i64_and i64_or i64_andNot i64_or_pow i64_andNot_pow

/-- A row of numbers from the beginning of a block. -/
def NatsIn (w : World) (b : Nat) (B : List Nat) : Prop := b < w.heap.size ∧ ∀ i, i < B.length → w.cell? ⟨b, i, none⟩ = some (.int .i64 (B.getD i 0 : Nat))
theorem NatsIn.below {w w' : World} {b : Nat} {B : List Nat} (h : NatsIn w b B) (hb : Below w.heap.size w w') : NatsIn w' b B :=
  ⟨Nat.lt_of_lt_of_le h.1 hb.size, fun i hi => by rw [hb.cell (p := ⟨b, i, none⟩) h.1]; exact h.2 i hi⟩
def natC (B : List Nat) : List Value := B.map fun (x : Nat) => Value.int .i64 x
theorem NatsIn.holds {w : World} {b : Nat} {B : List Nat} (h : NatsIn w b B) : ∀ b', some (⟨b, 0, none⟩ : Addr) = some b' → ∀ j u, (natC B)[j]? = some u → w.cell? (b'.add j) = some u := by
  intro b' e j u hu
  cases e
  rw [Addr.add_lit, Nat.zero_add]
  have hj : j < B.length := by
    have := (List.getElem?_eq_some_iff.1 hu).1
    unfold natC at this
    rwa [List.length_map] at this
  rw [h.2 j hj]
  unfold natC at hu
  rw [List.getElem?_map, List.getElem?_eq_getElem hj, Option.map_some] at hu
  rw [List.getD_eq_getElem?_getD, List.getElem?_eq_getElem hj]
  exact hu
theorem natC_len (B : List Nat) : (natC B).length = B.length * 1 := by unfold natC; rw [List.length_map, Nat.mul_one]
/-- What append leaves: a row of one's own, read. -/
theorem natsIn_own {w : World} {base : Nat} {v : Value} {B : List Nat} {m : Nat} (h : w.ownsRow base 3 1 v m (natC B)) (hm : m = B.length) (h0 : 0 < m) : ∃ g cap, v = .slice (some ⟨g, 0, none⟩) m cap ∧ NatsIn w g B ∧ m ≤ cap ∧ cap ≤ maxLen := by
  obtain ⟨h1, h2⟩ := id h
  rcases h2 with ⟨rfl, h2⟩ | ⟨g, cap, cur, rfl, hg, hh, hc1, hc2, -⟩
  · omega
  · refine ⟨g, cap, rfl, ⟨(Array.getElem?_eq_some_iff.1 hh).1, fun i hi => ?_⟩, hc1, hc2⟩
    rw [World.ownsRow.cellAt h i (by omega)]
    unfold natC
    rw [List.getElem?_map, List.getElem?_eq_getElem hi, Option.map_some, List.getD_eq_getElem?_getD, List.getElem?_eq_getElem hi]
    rfl

theorem diff_pow_pow {n S v : Nat} (h : S < 2 ^ n) : diff S (2 ^ v) < 2 ^ n := by
  apply Nat.lt_pow_two_of_testBit
  intro i hi
  rw [testBit_off, Nat.testBit_lt_two_pow (Nat.lt_of_lt_of_le h (Nat.pow_le_pow_right (by omega) hi))]
  rfl
theorem szS_none : ∀ X, X < 256 → szS 8 X = 0 → X = 0 := by decide +kernel
theorem Strip.first {r : Nat → Nat} {n S v : Nat} (h : leastC r n S = some v) {L : List Nat} {T : Nat} (h' : Strip r n (diff S (2 ^ v)) L T) : Strip r n S (v :: L) T := by
  induction h' with
  | start => exact Strip.step (L := []) .start h
  | step h0 h1 ih => exact Strip.step ih h1
/-- A set of one node has no corner. -/
theorem Sub.single {n S : Nat} {r e s : Nat → Nat} (H : Sub n r S 1 e s) : leastC r n S = none := by
  rw [leastC_none]
  intro j hj
  cases hc : crnTo r S j n
  · rfl
  · obtain ⟨h1, u, hu, h2, h3, -⟩ := crnTo_iff.1 hc
    obtain ⟨x, hx, rfl⟩ := H.onto j hj h1
    obtain ⟨y, hy, rfl⟩ := H.onto u hu h2
    exact absurd (by rw [show x = 0 by omega, show y = 0 by omega]) h3
theorem Sub.one_best {n S : Nat} {r e s : Nat → Nat} (_H : Sub n r S 1 e s) : (bestOf 1 (ranksF 1 s (chs 1 1)) (chs 1 1)).2 ≠ -1 := by
  rw [best_ne]
  refine ⟨(0, 0), (chs_mem (.inl rfl)).2 ⟨Nat.le_refl _, by omega, .inr rfl⟩, fun c hc => lev_mono (Nat.zero_le _) ?_⟩
  obtain rfl : c = 0 := by omega
  exact lev_zero.2 ⟨(chs_mem (.inl rfl)).2 ⟨Nat.le_refl _, by omega, .inr rfl⟩, ctch_iff.2 (.inl rfl)⟩

/-- What apart returns on a set: nil where one sweep doesn't catch the cat, else what was begun, what strip takes, and the last node. -/
def ApRPost (n : Nat) (r : Nat → Nat) (S m : Nat) (s : Nat → Nat) (B : List Nat) (w : World) (e : Ending) (w' : World) : Prop :=
  Below w.heap.size w w' ∧ ((bestOf m (ranksF m s (chs m 1)) (chs m 1)).2 = -1 → e = .returned (.slice none 0 0)) ∧
    ((bestOf m (ranksF m s (chs m 1)) (chs m 1)).2 ≠ -1 → ∃ v L t, e = .returned v ∧ Strip r n S L (2 ^ t) ∧ leastC r n (2 ^ t) = none ∧ szS n (2 ^ t) = 1 ∧ NatsOwn w' w.heap.size v (B ++ L ++ [t]))

set_option maxRecDepth 20000 in
set_option maxHeartbeats 4000000 in
theorem apartR_some {n : Nat} {g : Nat → Nat} (N : Net n (rG g)) : ∀ (f : Nat) (m S : Nat) (e s : Nat → Nat) (B : List Nat) (b capb : Nat) (a : Option Addr) (cap : Nat) (w : World), m ≤ f → B.length + m ≤ 100 → Sub n (rG g) S m e s → S < 2 ^ n → GrAt w a n g → NatsIn w b B → B.length ≤ capb → capb ≤ maxLen →
    Calls Tryd.prog 27 #[.slice a n cap, .int .i64 S, .slice (some ⟨b, 0, none⟩) B.length capb] w (ApRPost n (rG g) S m s B w) := by
  obtain ⟨i0, hi0, hz1, hz2, hz3⟩ := info_parts info_int
  have hn8 := N.eight
  intro f
  induction f with
  | zero => intro m S e s B b capb a cap w hle hlen H; have := H.net.one; omega
  | succ f ih =>
  intro m S e s B b capb a cap w hle hlen H hS G hin hcb1 hcb2
  unfold maxLen at hcb2
  have HIH := Lib.hid ih
  clear ih
  have HIN0 := Lib.hid hin
  clear hin
  have hS256 : S < 256 := by have := pow_le16 hn8; omega
  have hS16 : S < 65536 := by omega
  have hn := G.small
  have hm1 := H.net.one
  have hm8 := H.net.eight
  have hg0 := G.ints.1
  unfold maxLen at hg0
  have hsz := H.size
  have hsz8 : szS 8 S = m := by rw [szS_eight hn8 hS]; exact hsz
  have hS0 : 0 < S := by
    rcases Nat.eq_zero_or_pos S with h | h
    · rw [h, show szS 8 0 = 0 by decide] at hsz8; omega
    · exact h
  obtain ⟨hlow, -⟩ := szS_low S hS256 hS0
  have hbb : bits .and .i64 (S : Int) ((S : Int) - 1) = ((S &&& (S - 1) : Nat) : Int) := by
    rw [show ((S : Int) - 1) = ((S - 1 : Nat) : Int) by omega, i64_and S (S - 1) (by omega) (by omega)]
  have hw1 : wrap64 ((S : Int) - 1) = (S : Int) - 1 := IntWalk.wrap64_in _ ⟨by omega, by omega⟩
  have hlt2 : S &&& (S - 1) < 256 := Nat.lt_of_le_of_lt Nat.and_le_left hS256
  by_cases hm : m = 1
  · subst hm
    have hz : S &&& (S - 1) = 0 := szS_none _ hlt2 (by omega)
    rw [hz] at hbb
    obtain ⟨t, ht8, hSt⟩ := one_bit S hS256 hsz8
    have htn : t < n := by
      rw [hSt] at hS
      exact (Nat.pow_lt_pow_iff_right (by omega)).1 hS
    have HST := Lib.hid hSt
    have HG := Lib.hid G
    have HH := Lib.hid H
    obtain ⟨lb, hlb⟩ : ∃ lb, lb = B.length := ⟨_, rfl⟩
    have HLB := Lib.hid hlb.symm
    rw [← hlb] at hcb1 hlen ⊢
    clear hlb
    clear G hSt hsz hlow H
    go_enter Tryd.func27, Tryd.ntmps27
    go_wp2_with fail
    go_loopw [17] (fun i wr => ∃ k : Nat, k ≤ t ∧ i = .int .i64 k ∧ Below w.heap.size w wr) (fun i _ => n - (intOf i).toNat)
    case atStart => exact ⟨0, Nat.zero_le _, rfl, Below.refl _ _⟩
    case round =>
      obtain ⟨k, hk, rfl, hbel⟩ := hrel
      have HB := Lib.hid hbel
      have HINA := Lib.hid ((HIN0.out.below hbel).below ((Below.refl wr.heap.size wr).alloc (Nat.le_refl _) (.cells #[.int .i64 k] 3)))
      clear hbel
      have hkn : k < n := by omega
      have hk64 : k < 64 := by omega
      have hpw : wrap64 ((2 : Int) ^ k) = 2 ^ k := by have := pow_bd k (by omega); exact IntWalk.wrap64_in _ ⟨by omega, by omega⟩
      by_cases hkt : k = t
      · have hq : ((S : Int) == (2 : Int) ^ k) = true := by rw [HST.out, hkt, pow_cast]; simp
        have hKT := Lib.hid hkt
        clear hkt
        go_wp2_with (at_builtin; refine wpList_append_grows _ rfl _ _ 22 rfl 3 i0 (.int .i64 0) 1 8 Tryd.underlying22 hi0 hz1 hz2 hz3 rfl (by decide) (some ⟨b, 0, none⟩) lb lb (natC B) rfl (fun h => by cases h) (by rw [natC_len, HLB.out]) HINA.out.holds ⟨_, 0, none⟩ 1 1 [.int .i64 k] rfl rfl ?c1 ?c2 (by omega) ?c3 ?c4 ?_)
        case c1 => exact cells_new _ _ _
        case c2 => intro u hu; simp at hu; subst hu; rfl
        case c3 => unfold maxLen; omega
        case c4 => omega
        intro v' w9 hown1 hg1
        have HO1 := Lib.hid hown1
        have HG1 := Lib.hid hg1
        clear hown1 hg1
        go_wp2_with fail
        go_ret
        refine ⟨(HB.out.alloc HB.out.size _).grown HG1.out (by simp; have := HB.out.size; omega) (fun k hk => by cases hk), fun h => absurd h HH.out.one_best, fun _ => ⟨v', [], t, rfl, by rw [← HST.out]; exact .start, by rw [← HST.out]; exact HH.out.single, by rw [← HST.out]; exact HH.out.size, ?_⟩⟩
        have h3 := ownsRow_base (base' := w.heap.size) HO1.out (by have := HB.out.size; simp; omega)
        unfold NatsOwn
        rw [← hKT.out]
        have h4 : natC B ++ [Value.int .i64 (k : Int)] = List.map (fun (x : Nat) => Value.int .i64 (x : Int)) (B ++ [] ++ [k]) := by unfold natC; simp
        have h5 : List.length (B ++ [] ++ [k] : List Nat) = lb + 1 := by simp [HLB.out]
        rw [← h4, h5]
        exact h3
      · have hq : ((S : Int) == (2 : Int) ^ k) = false := by
          rw [beq_eq_false_iff_ne, HST.out, pow_cast]
          intro h
          have h2 : (2 : Nat) ^ t = 2 ^ k := by omega
          exact hkt ((Nat.pow_right_inj (by omega)).1 h2).symm
        go_wp2_with fail
        go_roundw
        case rel => exact ⟨k + 1, by omega, by go_num, HB.out⟩
        case measure => simp [intOf]; omega
  · have hz : 0 < szS 8 (S &&& (S - 1)) := by omega
    have hne0 : (((S &&& (S - 1) : Nat) : Int) == 0) = false := by
      rw [beq_eq_false_iff_ne]
      intro h
      have h0 : S &&& (S - 1) = 0 := by omega
      rw [h0, show szS 8 0 = 0 by decide] at hz
      omega
    have hstep := fun (v : Nat) (hv : v < n) (hc : crnTo (rG g) S v n = true) => H.step hv hc
    have hesc : leastC (rG g) n S = none → (bestOf m (ranksF m s (chs m 1)) (chs m 1)).2 = -1 := fun h => H.net.escape (by omega) (H.nocorner N h)
    have HSTEP := Lib.hid hstep
    have HESC := Lib.hid hesc
    have HS2 := Lib.hid hS
    have HG := Lib.hid G
    have HSZ := Lib.hid hsz
    obtain ⟨lb, hlb⟩ : ∃ lb, lb = B.length := ⟨_, rfl⟩
    have HLB := Lib.hid hlb.symm
    rw [← hlb] at hcb1 hlen ⊢
    clear hlb
    clear G hsz hlow H hstep hesc hz hS hsz8
    by_cases hbest : (bestOf m (ranksF m s (chs m 1)) (chs m 1)).2 = -1
    · have HBEST := Lib.hid hbest
      clear hbest
      go_enter Tryd.func27, Tryd.ntmps27
      go_wp2_with fail
      go_loopw [36] (fun i wr => ∃ k : Nat, k ≤ n ∧ i = .int .i64 k ∧ Below w.heap.size w wr) (fun i _ => n - (intOf i).toNat)
      case atStart => exact ⟨0, Nat.zero_le _, rfl, Below.refl _ _⟩
      case round =>
        obtain ⟨k, hk, rfl, hbel⟩ := hrel
        have HB := Lib.hid hbel
        clear hbel
        by_cases hkn : k < n
        · have hk64 : k < 64 := by omega
          have hk16 : k < 16 := by omega
          have hpw : wrap64 ((2 : Int) ^ k) = 2 ^ k := by have := pow_bd k (by omega); exact IntWalk.wrap64_in _ ⟨by omega, by omega⟩
          cases hbit : S.testBit k
          · go_wp2_with fail
            go_roundw
            case rel => exact ⟨k + 1, by omega, by go_num, HB.out⟩
            case measure => simp [intOf]; omega
          · cases hcr : crnTo (rG g) S k n
            · have HCR := Lib.hid hcr
              clear hcr
              go_wp2_with (go_at_call 28; refine (cornerR_any (HG.out.below (HB.out.mono (Nat.le_refl _))) cap S k hS16 hkn).mono ?_; rintro e w1 ⟨rfl, hb⟩; rw [HCR.out]; have HB1 := Lib.hid hb; clear hb)
              go_roundw
              case rel => exact ⟨k + 1, by omega, by go_num, HB.out.trans (HB1.out.mono HB.out.size)⟩
              case measure => simp [intOf]; omega
            · obtain ⟨m', e', s', hsub, hb1⟩ := HSTEP.out k hkn hcr
              have HSUB := Lib.hid hsub
              have HB1' := Lib.hid ((hb1 1 (.inl rfl)).1 HBEST.out)
              have hm' : m' + 1 = m := by have := hsub.size; have := szS_off hkn hbit; have := HSZ.out; omega
              have HCR := Lib.hid hcr
              clear hcr hsub hb1
              go_upto_region 12 with (go_at_call 28; refine (cornerR_any (HG.out.below (HB.out.mono (Nat.le_refl _))) cap S k hS16 hkn).mono ?_; rintro e w1 ⟨rfl, hb⟩; rw [HCR.out]; have HB1 := Lib.hid hb; clear hb)
              have hpw2 : IntKind.i64.wrap ((2 : Int) ^ k) = 2 ^ k := by have := pow_bd k (by omega); exact IntWalk.i64_in _ (by omega)
              have hdf : bits .andNot .i64 (S : Int) ((2 : Int) ^ k) = ((diff S (2 ^ k) : Nat) : Int) := i64_andNot_pow S k hS16 hk16
              have HB2 := Lib.hid ((HB.out.trans (HB1.out.mono HB.out.size)).drew)
              have HINB := Lib.hid ((HIN0.out.below HB2.out).below ((Below.refl w1.drew.heap.size w1.drew).alloc (Nat.le_refl _) (.cells #[.int .i64 k] 3)))
              go_region_law (first | (refine step_append_grows rfl (.tmp 60) (.tmp 62) 22 rfl 3 i0 (.int .i64 0) 1 8 Tryd.underlying22 hi0 hz1 hz2 hz3 rfl (by decide) (some ⟨b, 0, none⟩) lb lb (natC B) (by simp [Act.eval, Act.put]) (fun h => by cases h) (by rw [natC_len, HLB.out]) HINB.out.holds ⟨w1.heap.size, 0, none⟩ 1 1 [.int .i64 k] (by simp [Act.eval, Act.put]) rfl (cells_new w1.drew _ _) (by intro u hu; simp at hu; subst hu; rfl) (by omega) (by unfold maxLen; omega) (by omega) ?_; intro v' w3 hown1 hg1; obtain ⟨gb, gc, rfl, hin, hgc, hgm⟩ := natsIn_own (B := B ++ [k]) (m := lb + 1) (by unfold natC; rw [List.map_append]; exact hown1) (by simp [HLB.out]) (by omega); have HIN := Lib.hid hin; have HBG := Lib.hid ((HB2.out.alloc (by have := HB2.out.size; simp at this ⊢; omega) _).grown hg1 (by have := HB2.out.size; simp at this ⊢; omega) (fun k hk => by cases hk)); clear hown1 hg1 hin) | (go_simp; go_at_call 27; have hrec := HIH.out m' (diff S (2 ^ k)) e' s' (B ++ [k]) gb gc a cap w3 (by omega) (by simp [HLB.out]; omega) HSUB.out (diff_pow_pow HS2.out) (HG.out.below HBG.out) HIN.out (by simp [HLB.out]; omega) hgm; rw [List.length_append, HLB.out, List.length_singleton] at hrec; refine hrec.mono ?_; rintro e w4 ⟨hb4, hnil, -⟩; obtain rfl := hnil HB1'.out; have HB4 := Lib.hid hb4; clear hb4 hnil))
              go_wp2_with fail
              go_roundw
              case rel => exact ⟨k + 1, by omega, by go_num, HBG.out.trans (HB4.out.mono HBG.out.size)⟩
              case measure => simp [intOf]; omega
        · have hke : k = n := by omega
          subst hke
          go_wp2_with fail
          go_ret
          exact ⟨HB.out, fun _ => rfl, fun h => absurd HBEST.out h⟩
    · have HBEST := Lib.hid hbest
      clear hbest
      go_enter Tryd.func27, Tryd.ntmps27
      go_wp2_with fail
      go_loopw [36] (fun i wr => ∃ k : Nat, k ≤ n ∧ i = .int .i64 k ∧ (∀ j, j < k → crnTo (rG g) S j n = false) ∧ Below w.heap.size w wr) (fun i _ => n - (intOf i).toNat)
      case atStart => exact ⟨0, Nat.zero_le _, rfl, fun j hj => by omega, Below.refl _ _⟩
      case round =>
        obtain ⟨k, hk, rfl, hno, hbel⟩ := hrel
        have HB := Lib.hid hbel
        have HNO := Lib.hid hno
        clear hbel hno
        by_cases hkn : k < n
        · have hk64 : k < 64 := by omega
          have hk16 : k < 16 := by omega
          have hpw : wrap64 ((2 : Int) ^ k) = 2 ^ k := by have := pow_bd k (by omega); exact IntWalk.wrap64_in _ ⟨by omega, by omega⟩
          cases hbit : S.testBit k
          · have HBT := Lib.hid hbit
            go_wp2_with fail
            go_roundw
            case rel =>
              refine ⟨k + 1, by omega, by go_num, fun j hj => ?_, HB.out⟩
              rcases Nat.lt_or_ge j k with h | h
              · exact HNO.out j h
              · rw [show j = k by omega]; unfold crnTo; rw [HBT.out]; rfl
            case measure => simp [intOf]; omega
          · cases hcr : crnTo (rG g) S k n
            · have HCR := Lib.hid hcr
              clear hcr
              go_wp2_with (go_at_call 28; refine (cornerR_any (HG.out.below (HB.out.mono (Nat.le_refl _))) cap S k hS16 hkn).mono ?_; rintro e w1 ⟨rfl, hb⟩; rw [HCR.out]; have HB1 := Lib.hid hb; clear hb)
              go_roundw
              case rel =>
                refine ⟨k + 1, by omega, by go_num, fun j hj => ?_, HB.out.trans (HB1.out.mono HB.out.size)⟩
                rcases Nat.lt_or_ge j k with h | h
                · exact HNO.out j h
                · rw [show j = k by omega]; exact HCR.out
              case measure => simp [intOf]; omega
            · obtain ⟨m', e', s', hsub, hb1⟩ := HSTEP.out k hkn hcr
              have HSUB := Lib.hid hsub
              have HB1' : Hid (¬ (bestOf m' (ranksF m' s' (chs m' 1)) (chs m' 1)).2 = -1) := Lib.hid (fun h => HBEST.out ((hb1 1 (.inl rfl)).2 h))
              have hm' : m' + 1 = m := by have := hsub.size; have := szS_off hkn hbit; have := HSZ.out; omega
              have HCR := Lib.hid hcr
              have HLE : Hid (leastC (rG g) n S = some k) := Lib.hid (find_range hkn hcr HNO.out)
              clear hcr hsub hb1
              go_upto_region 12 with (go_at_call 28; refine (cornerR_any (HG.out.below (HB.out.mono (Nat.le_refl _))) cap S k hS16 hkn).mono ?_; rintro e w1 ⟨rfl, hb⟩; rw [HCR.out]; have HB1 := Lib.hid hb; clear hb)
              have hpw2 : IntKind.i64.wrap ((2 : Int) ^ k) = 2 ^ k := by have := pow_bd k (by omega); exact IntWalk.i64_in _ (by omega)
              have hdf : bits .andNot .i64 (S : Int) ((2 : Int) ^ k) = ((diff S (2 ^ k) : Nat) : Int) := i64_andNot_pow S k hS16 hk16
              have HB2 := Lib.hid ((HB.out.trans (HB1.out.mono HB.out.size)).drew)
              have HINB := Lib.hid ((HIN0.out.below HB2.out).below ((Below.refl w1.drew.heap.size w1.drew).alloc (Nat.le_refl _) (.cells #[.int .i64 k] 3)))
              go_region_law (first | (refine step_append_grows rfl (.tmp 60) (.tmp 62) 22 rfl 3 i0 (.int .i64 0) 1 8 Tryd.underlying22 hi0 hz1 hz2 hz3 rfl (by decide) (some ⟨b, 0, none⟩) lb lb (natC B) (by simp [Act.eval, Act.put]) (fun h => by cases h) (by rw [natC_len, HLB.out]) HINB.out.holds ⟨w1.heap.size, 0, none⟩ 1 1 [.int .i64 k] (by simp [Act.eval, Act.put]) rfl (cells_new w1.drew _ _) (by intro u hu; simp at hu; subst hu; rfl) (by omega) (by unfold maxLen; omega) (by omega) ?_; intro v' w3 hown1 hg1; obtain ⟨gb, gc, rfl, hin, hgc, hgm⟩ := natsIn_own (B := B ++ [k]) (m := lb + 1) (by unfold natC; rw [List.map_append]; exact hown1) (by simp [HLB.out]) (by omega); have HIN := Lib.hid hin; have HBG := Lib.hid ((HB2.out.alloc (by have := HB2.out.size; simp at this ⊢; omega) _).grown hg1 (by have := HB2.out.size; simp at this ⊢; omega) (fun k hk => by cases hk)); clear hown1 hg1 hin) | (go_simp; go_at_call 27; have hrec := HIH.out m' (diff S (2 ^ k)) e' s' (B ++ [k]) gb gc a cap w3 (by omega) (by simp [HLB.out]; omega) HSUB.out (diff_pow_pow HS2.out) (HG.out.below HBG.out) HIN.out (by simp [HLB.out]; omega) hgm; rw [List.length_append, HLB.out, List.length_singleton] at hrec; refine hrec.mono ?_; rintro e w4 ⟨hb4, -, hyes⟩; obtain ⟨rv, L, t, rfl, hst, hnone, hone, hown⟩ := hyes HB1'.out; have HB4 := Lib.hid hb4; have HST4 := Lib.hid hst; have HNONE := Lib.hid hnone; have HONE := Lib.hid hone; have HOWN := Lib.hid hown; obtain ⟨rg, rc, hv, -, -⟩ := own_form' hown (by simp); obtain ⟨ln, hln⟩ : ∃ x, x = List.length (B ++ [k] ++ L ++ [t] : List Nat) := ⟨_, rfl⟩; rw [← hln] at hv; subst hv; have HLN := Lib.hid hln; clear hln; clear hb4 hyes hst hnone hone hown))
              go_wp2_with fail
              go_ret
              refine ⟨HBG.out.trans (HB4.out.mono HBG.out.size), fun h => absurd h HBEST.out, fun _ => ⟨_, k :: L, t, rfl, HST4.out.first HLE.out, HNONE.out, HONE.out, ?_⟩⟩
              have h3 := ownsRow_base HOWN.out (HBG.out.size)
              unfold NatsOwn
              have h4 : B ++ (k :: L) ++ [t] = B ++ [k] ++ L ++ [t] := by simp
              rw [h4]
              exact h3
        · have hke : k = n := by omega
          subst hke
          exact absurd (HESC.out (leastC_none.2 HNO.out)) HBEST.out

set_option maxRecDepth 20000 in
set_option maxHeartbeats 4000000 in
theorem apartR_nil {n : Nat} {g : Nat → Nat} (N : Net n (rG g)) : ∀ (m S : Nat) (e s : Nat → Nat)  (a : Option Addr) (cap : Nat) (w : World),  Sub n (rG g) S m e s → S < 2 ^ n → GrAt w a n g → 
    Calls Tryd.prog 27 #[.slice a n cap, .int .i64 S, .slice none 0 0] w (ApRPost n (rG g) S m s [] w) := by
  obtain ⟨i0, hi0, hz1, hz2, hz3⟩ := info_parts info_int
  have hn8 := N.eight
  intro m S e s a cap w H hS G
  have hS256 : S < 256 := by have := pow_le16 hn8; omega
  have hS16 : S < 65536 := by omega
  have hn := G.small
  have hm1 := H.net.one
  have hm8 := H.net.eight
  have hg0 := G.ints.1
  unfold maxLen at hg0
  have hsz := H.size
  have hsz8 : szS 8 S = m := by rw [szS_eight hn8 hS]; exact hsz
  have hS0 : 0 < S := by
    rcases Nat.eq_zero_or_pos S with h | h
    · rw [h, show szS 8 0 = 0 by decide] at hsz8; omega
    · exact h
  obtain ⟨hlow, -⟩ := szS_low S hS256 hS0
  have hbb : bits .and .i64 (S : Int) ((S : Int) - 1) = ((S &&& (S - 1) : Nat) : Int) := by
    rw [show ((S : Int) - 1) = ((S - 1 : Nat) : Int) by omega, i64_and S (S - 1) (by omega) (by omega)]
  have hw1 : wrap64 ((S : Int) - 1) = (S : Int) - 1 := IntWalk.wrap64_in _ ⟨by omega, by omega⟩
  have hlt2 : S &&& (S - 1) < 256 := Nat.lt_of_le_of_lt Nat.and_le_left hS256
  by_cases hm : m = 1
  · subst hm
    have hz : S &&& (S - 1) = 0 := szS_none _ hlt2 (by omega)
    rw [hz] at hbb
    obtain ⟨t, ht8, hSt⟩ := one_bit S hS256 hsz8
    have htn : t < n := by
      rw [hSt] at hS
      exact (Nat.pow_lt_pow_iff_right (by omega)).1 hS
    have HST := Lib.hid hSt
    have HG := Lib.hid G
    have HH := Lib.hid H
    clear G hSt hsz hlow H
    go_enter Tryd.func27, Tryd.ntmps27
    go_wp2_with fail
    go_loopw [17] (fun i wr => ∃ k : Nat, k ≤ t ∧ i = .int .i64 k ∧ Below w.heap.size w wr) (fun i _ => n - (intOf i).toNat)
    case atStart => exact ⟨0, Nat.zero_le _, rfl, Below.refl _ _⟩
    case round =>
      obtain ⟨k, hk, rfl, hbel⟩ := hrel
      have HB := Lib.hid hbel
      clear hbel
      have hkn : k < n := by omega
      have hk64 : k < 64 := by omega
      have hpw : wrap64 ((2 : Int) ^ k) = 2 ^ k := by have := pow_bd k (by omega); exact IntWalk.wrap64_in _ ⟨by omega, by omega⟩
      by_cases hkt : k = t
      · have hq : ((S : Int) == (2 : Int) ^ k) = true := by rw [HST.out, hkt, pow_cast]; simp
        have hKT := Lib.hid hkt
        clear hkt
        go_wp2_with (at_builtin; refine wpList_append_grows _ rfl _ _ 22 rfl 3 i0 (.int .i64 0) 1 8 Tryd.underlying22 hi0 hz1 hz2 hz3 rfl (by decide) none 0 0 [] rfl (fun _ => ⟨rfl, rfl⟩) rfl (fun b h => by cases h) ⟨_, 0, none⟩ 1 1 [.int .i64 k] rfl rfl ?c1 ?c2 (by omega) ?c3 ?c4 ?_)
        case c1 => exact cells_new _ _ _
        case c2 => intro u hu; simp at hu; subst hu; rfl
        case c3 => unfold maxLen; omega
        case c4 => omega
        intro v' w9 hown1 hg1
        have HO1 := Lib.hid hown1
        have HG1 := Lib.hid hg1
        clear hown1 hg1
        go_wp2_with fail
        go_ret
        refine ⟨(HB.out.alloc HB.out.size _).grown HG1.out (by simp; have := HB.out.size; omega) (fun k hk => by cases hk), fun h => absurd h HH.out.one_best, fun _ => ⟨v', [], t, rfl, by rw [← HST.out]; exact .start, by rw [← HST.out]; exact HH.out.single, by rw [← HST.out]; exact HH.out.size, ?_⟩⟩
        have h3 := ownsRow_base (base' := w.heap.size) HO1.out (by have := HB.out.size; simp; omega)
        unfold NatsOwn
        rw [← hKT.out]
        exact h3
      · have hq : ((S : Int) == (2 : Int) ^ k) = false := by
          rw [beq_eq_false_iff_ne, HST.out, pow_cast]
          intro h
          have h2 : (2 : Nat) ^ t = 2 ^ k := by omega
          exact hkt ((Nat.pow_right_inj (by omega)).1 h2).symm
        go_wp2_with fail
        go_roundw
        case rel => exact ⟨k + 1, by omega, by go_num, HB.out⟩
        case measure => simp [intOf]; omega
  · have hz : 0 < szS 8 (S &&& (S - 1)) := by omega
    have hne0 : (((S &&& (S - 1) : Nat) : Int) == 0) = false := by
      rw [beq_eq_false_iff_ne]
      intro h
      have h0 : S &&& (S - 1) = 0 := by omega
      rw [h0, show szS 8 0 = 0 by decide] at hz
      omega
    have hstep := fun (v : Nat) (hv : v < n) (hc : crnTo (rG g) S v n = true) => H.step hv hc
    have hesc : leastC (rG g) n S = none → (bestOf m (ranksF m s (chs m 1)) (chs m 1)).2 = -1 := fun h => H.net.escape (by omega) (H.nocorner N h)
    have HSTEP := Lib.hid hstep
    have HESC := Lib.hid hesc
    have HS2 := Lib.hid hS
    have HG := Lib.hid G
    have HSZ := Lib.hid hsz
    clear G hsz hlow H hstep hesc hz hS hsz8
    by_cases hbest : (bestOf m (ranksF m s (chs m 1)) (chs m 1)).2 = -1
    · have HBEST := Lib.hid hbest
      clear hbest
      go_enter Tryd.func27, Tryd.ntmps27
      go_wp2_with fail
      go_loopw [36] (fun i wr => ∃ k : Nat, k ≤ n ∧ i = .int .i64 k ∧ Below w.heap.size w wr) (fun i _ => n - (intOf i).toNat)
      case atStart => exact ⟨0, Nat.zero_le _, rfl, Below.refl _ _⟩
      case round =>
        obtain ⟨k, hk, rfl, hbel⟩ := hrel
        have HB := Lib.hid hbel
        clear hbel
        by_cases hkn : k < n
        · have hk64 : k < 64 := by omega
          have hk16 : k < 16 := by omega
          have hpw : wrap64 ((2 : Int) ^ k) = 2 ^ k := by have := pow_bd k (by omega); exact IntWalk.wrap64_in _ ⟨by omega, by omega⟩
          cases hbit : S.testBit k
          · go_wp2_with fail
            go_roundw
            case rel => exact ⟨k + 1, by omega, by go_num, HB.out⟩
            case measure => simp [intOf]; omega
          · cases hcr : crnTo (rG g) S k n
            · have HCR := Lib.hid hcr
              clear hcr
              go_wp2_with (go_at_call 28; refine (cornerR_any (HG.out.below (HB.out.mono (Nat.le_refl _))) cap S k hS16 hkn).mono ?_; rintro e w1 ⟨rfl, hb⟩; rw [HCR.out]; have HB1 := Lib.hid hb; clear hb)
              go_roundw
              case rel => exact ⟨k + 1, by omega, by go_num, HB.out.trans (HB1.out.mono HB.out.size)⟩
              case measure => simp [intOf]; omega
            · obtain ⟨m', e', s', hsub, hb1⟩ := HSTEP.out k hkn hcr
              have HSUB := Lib.hid hsub
              have HB1' := Lib.hid ((hb1 1 (.inl rfl)).1 HBEST.out)
              have hm' : m' + 1 = m := by have := hsub.size; have := szS_off hkn hbit; have := HSZ.out; omega
              have HCR := Lib.hid hcr
              clear hcr hsub hb1
              go_upto_region 12 with (go_at_call 28; refine (cornerR_any (HG.out.below (HB.out.mono (Nat.le_refl _))) cap S k hS16 hkn).mono ?_; rintro e w1 ⟨rfl, hb⟩; rw [HCR.out]; have HB1 := Lib.hid hb; clear hb)
              have hpw2 : IntKind.i64.wrap ((2 : Int) ^ k) = 2 ^ k := by have := pow_bd k (by omega); exact IntWalk.i64_in _ (by omega)
              have hdf : bits .andNot .i64 (S : Int) ((2 : Int) ^ k) = ((diff S (2 ^ k) : Nat) : Int) := i64_andNot_pow S k hS16 hk16
              have HB2 := Lib.hid ((HB.out.trans (HB1.out.mono HB.out.size)).drew)
              go_region_law (first | (refine step_append_grows rfl (.tmp 60) (.tmp 62) 22 rfl 3 i0 (.int .i64 0) 1 8 Tryd.underlying22 hi0 hz1 hz2 hz3 rfl (by decide) none 0 0 [] (by simp [Act.eval, Act.put]) (fun _ => ⟨rfl, rfl⟩) rfl (fun b h => by cases h) ⟨w1.heap.size, 0, none⟩ 1 1 [.int .i64 k] (by simp [Act.eval, Act.put]) rfl (cells_new w1.drew _ _) (by intro u hu; simp at hu; subst hu; rfl) (by omega) (by unfold maxLen; omega) (by omega) ?_; intro v' w3 hown1 hg1; obtain ⟨gb, gc, rfl, hin, hgc, hgm⟩ := natsIn_own (B := [] ++ [k]) (m := 0 + 1) (by exact hown1) (by simp []) (by omega); have HIN := Lib.hid hin; have HBG := Lib.hid ((HB2.out.alloc (by have := HB2.out.size; simp at this ⊢; omega) _).grown hg1 (by have := HB2.out.size; simp at this ⊢; omega) (fun k hk => by cases hk)); clear hown1 hg1 hin) | (go_simp; go_at_call 27; have hrec := apartR_some N m' m' (diff S (2 ^ k)) e' s' ([] ++ [k]) gb gc a cap w3 (Nat.le_refl _) (by simp; omega) HSUB.out (diff_pow_pow HS2.out) (HG.out.below HBG.out) HIN.out (by simp; omega) hgm; rw [List.nil_append, List.length_singleton] at hrec; refine hrec.mono ?_; rintro e w4 ⟨hb4, hnil, -⟩; obtain rfl := hnil HB1'.out; have HB4 := Lib.hid hb4; clear hb4 hnil))
              go_wp2_with fail
              go_roundw
              case rel => exact ⟨k + 1, by omega, by go_num, HBG.out.trans (HB4.out.mono HBG.out.size)⟩
              case measure => simp [intOf]; omega
        · have hke : k = n := by omega
          subst hke
          go_wp2_with fail
          go_ret
          exact ⟨HB.out, fun _ => rfl, fun h => absurd HBEST.out h⟩
    · have HBEST := Lib.hid hbest
      clear hbest
      go_enter Tryd.func27, Tryd.ntmps27
      go_wp2_with fail
      go_loopw [36] (fun i wr => ∃ k : Nat, k ≤ n ∧ i = .int .i64 k ∧ (∀ j, j < k → crnTo (rG g) S j n = false) ∧ Below w.heap.size w wr) (fun i _ => n - (intOf i).toNat)
      case atStart => exact ⟨0, Nat.zero_le _, rfl, fun j hj => by omega, Below.refl _ _⟩
      case round =>
        obtain ⟨k, hk, rfl, hno, hbel⟩ := hrel
        have HB := Lib.hid hbel
        have HNO := Lib.hid hno
        clear hbel hno
        by_cases hkn : k < n
        · have hk64 : k < 64 := by omega
          have hk16 : k < 16 := by omega
          have hpw : wrap64 ((2 : Int) ^ k) = 2 ^ k := by have := pow_bd k (by omega); exact IntWalk.wrap64_in _ ⟨by omega, by omega⟩
          cases hbit : S.testBit k
          · have HBT := Lib.hid hbit
            go_wp2_with fail
            go_roundw
            case rel =>
              refine ⟨k + 1, by omega, by go_num, fun j hj => ?_, HB.out⟩
              rcases Nat.lt_or_ge j k with h | h
              · exact HNO.out j h
              · rw [show j = k by omega]; unfold crnTo; rw [HBT.out]; rfl
            case measure => simp [intOf]; omega
          · cases hcr : crnTo (rG g) S k n
            · have HCR := Lib.hid hcr
              clear hcr
              go_wp2_with (go_at_call 28; refine (cornerR_any (HG.out.below (HB.out.mono (Nat.le_refl _))) cap S k hS16 hkn).mono ?_; rintro e w1 ⟨rfl, hb⟩; rw [HCR.out]; have HB1 := Lib.hid hb; clear hb)
              go_roundw
              case rel =>
                refine ⟨k + 1, by omega, by go_num, fun j hj => ?_, HB.out.trans (HB1.out.mono HB.out.size)⟩
                rcases Nat.lt_or_ge j k with h | h
                · exact HNO.out j h
                · rw [show j = k by omega]; exact HCR.out
              case measure => simp [intOf]; omega
            · obtain ⟨m', e', s', hsub, hb1⟩ := HSTEP.out k hkn hcr
              have HSUB := Lib.hid hsub
              have HB1' : Hid (¬ (bestOf m' (ranksF m' s' (chs m' 1)) (chs m' 1)).2 = -1) := Lib.hid (fun h => HBEST.out ((hb1 1 (.inl rfl)).2 h))
              have hm' : m' + 1 = m := by have := hsub.size; have := szS_off hkn hbit; have := HSZ.out; omega
              have HCR := Lib.hid hcr
              have HLE : Hid (leastC (rG g) n S = some k) := Lib.hid (find_range hkn hcr HNO.out)
              clear hcr hsub hb1
              go_upto_region 12 with (go_at_call 28; refine (cornerR_any (HG.out.below (HB.out.mono (Nat.le_refl _))) cap S k hS16 hkn).mono ?_; rintro e w1 ⟨rfl, hb⟩; rw [HCR.out]; have HB1 := Lib.hid hb; clear hb)
              have hpw2 : IntKind.i64.wrap ((2 : Int) ^ k) = 2 ^ k := by have := pow_bd k (by omega); exact IntWalk.i64_in _ (by omega)
              have hdf : bits .andNot .i64 (S : Int) ((2 : Int) ^ k) = ((diff S (2 ^ k) : Nat) : Int) := i64_andNot_pow S k hS16 hk16
              have HB2 := Lib.hid ((HB.out.trans (HB1.out.mono HB.out.size)).drew)
              go_region_law (first | (refine step_append_grows rfl (.tmp 60) (.tmp 62) 22 rfl 3 i0 (.int .i64 0) 1 8 Tryd.underlying22 hi0 hz1 hz2 hz3 rfl (by decide) none 0 0 [] (by simp [Act.eval, Act.put]) (fun _ => ⟨rfl, rfl⟩) rfl (fun b h => by cases h) ⟨w1.heap.size, 0, none⟩ 1 1 [.int .i64 k] (by simp [Act.eval, Act.put]) rfl (cells_new w1.drew _ _) (by intro u hu; simp at hu; subst hu; rfl) (by omega) (by unfold maxLen; omega) (by omega) ?_; intro v' w3 hown1 hg1; obtain ⟨gb, gc, rfl, hin, hgc, hgm⟩ := natsIn_own (B := [] ++ [k]) (m := 0 + 1) (by exact hown1) (by simp []) (by omega); have HIN := Lib.hid hin; have HBG := Lib.hid ((HB2.out.alloc (by have := HB2.out.size; simp at this ⊢; omega) _).grown hg1 (by have := HB2.out.size; simp at this ⊢; omega) (fun k hk => by cases hk)); clear hown1 hg1 hin) | (go_simp; go_at_call 27; have hrec := apartR_some N m' m' (diff S (2 ^ k)) e' s' ([] ++ [k]) gb gc a cap w3 (Nat.le_refl _) (by simp; omega) HSUB.out (diff_pow_pow HS2.out) (HG.out.below HBG.out) HIN.out (by simp; omega) hgm; rw [List.nil_append, List.length_singleton] at hrec; refine hrec.mono ?_; rintro e w4 ⟨hb4, -, hyes⟩; obtain ⟨rv, L, t, rfl, hst, hnone, hone, hown⟩ := hyes HB1'.out; have HB4 := Lib.hid hb4; have HST4 := Lib.hid hst; have HNONE := Lib.hid hnone; have HONE := Lib.hid hone; have HOWN := Lib.hid hown; obtain ⟨rg, rc, hv, -, -⟩ := own_form' hown (by simp); obtain ⟨ln, hln⟩ : ∃ x, x = List.length ([k] ++ L ++ [t] : List Nat) := ⟨_, rfl⟩; rw [← hln] at hv; subst hv; have HLN := Lib.hid hln; clear hln; clear hb4 hyes hst hnone hone hown))
              go_wp2_with fail
              go_ret
              refine ⟨HBG.out.trans (HB4.out.mono HBG.out.size), fun h => absurd h HBEST.out, fun _ => ⟨_, k :: L, t, rfl, HST4.out.first HLE.out, HNONE.out, HONE.out, ?_⟩⟩
              have h3 := ownsRow_base HOWN.out (HBG.out.size)
              unfold NatsOwn
              exact h3
        · have hke : k = n := by omega
          subst hke
          exact absurd (HESC.out (leastC_none.2 HNO.out)) HBEST.out

end Go.Proofs.YtbodgdbcbaggdaaDoor
