/- The contracts of the reference's flees and places. -/
import Derived.Test.YtmkcnpphdghbaaaC2b
namespace Go.Proofs.Ytmkcnpphdghbaaa
set_option linter.unusedSimpArgs false
set_option linter.unusedVariables false
open Go.RowKit Go.Maps
attribute [local go_sem] i64_bit toNat_eq_one toNat_ne_one toNat_eq_zero toNat_ne_zero i64_and i64_or i64_andNot i64_or_pow i64_andNot_pow

/-! ### places -/

def plT (k i : Nat) : Bool := k == 2 || i == 0
def plCol (a b c : Nat) : List Pl := (List.range c).map fun x => (a, b, x)
theorem plCol_succ (a b c : Nat) : plCol a b (c + 1) = plCol a b c ++ [(a, b, c)] := by unfold plCol; rw [List.range_succ, List.map_append]; rfl
theorem plCol_len (a b c : Nat) : (plCol a b c).length = c := by simp [plCol]
def plRow (n k a : Nat) : Nat → List Pl
  | 0 => []
  | i + 1 => if plT k i then plRow n k a i ++ plCol a (a + i) n else plRow n k a i
def plTo (n k : Nat) : Nat → List Pl
  | 0 => []
  | a + 1 => plTo n k a ++ plRow n k a (n - a)
theorem plRow_len (n k a : Nat) (hn : n < 16) (i : Nat) : (plRow n k a i).length ≤ i * 16 := by
  induction i with
  | zero => simp [plRow]
  | succ i ih => unfold plRow; split <;> first | (simp [plCol_len]; omega) | omega
theorem plTo_len (n k : Nat) (hn : n < 16) (a : Nat) : (plTo n k a).length ≤ a * 256 := by
  induction a with
  | zero => simp [plTo]
  | succ a ih => have := plRow_len n k a hn (n - a); simp [plTo]; omega

set_option maxRecDepth 20000 in
set_option maxHeartbeats 4000000 in
theorem places_any (n : Nat) (a : Option Addr) (cap k : Nat) (kI : Int) (hk : kI = 1 ∧ k = 1 ∨ kI = 2 ∧ k = 2) (hn : n < 16) (w : World) :
    Calls Try.prog 46 #[.slice a n cap, .int .i64 kI] w fun e w' => (∃ v, e = .returned v ∧ PlsOwn w' w.heap.size v (plTo n k n)) ∧ Below w.heap.size w w' := by
  obtain ⟨i0, hi0, hz1, hz2, hz3⟩ := info_parts info_pl
  go_enter Try.func46, Try.ntmps46
  go_wp2_with fail
  go_loopw [5, 11] (fun v i wr => ∃ a : Nat, a ≤ n ∧ i = .int .i64 a ∧ PlsOwn wr w.heap.size v (plTo n k a) ∧ Below w.heap.size w wr) (fun _ i _ => n - (intOf i).toNat)
  case atStart => exact ⟨0, Nat.zero_le _, rfl, ⟨rfl, Or.inl ⟨rfl, rfl⟩⟩, Below.refl _ _⟩
  case round =>
    obtain ⟨a, ha, rfl, hown, hbel⟩ := hrel
    have HO := Lib.hid hown
    have HBE := Lib.hid hbel
    clear hown hbel
    by_cases hlt : a < n
    · have HST : Hid (plTo n k (a + 1) = plTo n k a ++ plRow n k a (n - a)) := Lib.hid rfl
      have hll := plTo_len n k hn a
      generalize plTo n k a = L at *
      go_wp2_with fail
      go_loopw [5, 7] (fun v i wx => ∃ j b : Nat, a + j ≤ n ∧ Hid (b = a + j) ∧ b ≤ n ∧ i = .int .i64 b ∧ PlsOwn wx w.heap.size v (L ++ plRow n k a j) ∧ Below w.heap.size w wx) (fun _ i _ => n - (intOf i).toNat)
      case atStart => exact ⟨0, a, by omega, Lib.hid rfl, ha, rfl, by simpa [plRow] using HO.out, HBE.out⟩
      case round =>
        clear HO HBE
        obtain ⟨j, b, hj, hbj, hbn, rfl, hown, hbel⟩ := hrel
        have HO := Lib.hid hown
        have HBE := Lib.hid hbel
        have hrl := plRow_len n k a hn j
        have HLN : Hid ((L ++ plRow n k a j).length = L.length + (plRow n k a j).length) := Lib.hid (by simp)
        have HRS : Hid (plRow n k a (j + 1) = if plT k j then plRow n k a j ++ plCol a (a + j) n else plRow n k a j) := Lib.hid rfl
        have hLM : (L ++ plRow n k a j).length ≤ 65536 := by rw [HLN.out]; omega
        generalize hM : plRow n k a j = M at *
        have HM := Lib.hid hM
        generalize hLL : L ++ M = LL at *
        have HLL := Lib.hid hLL
        clear hown hbel hM hLL
        by_cases hlb : b < n
        · go_wp2_with fail
          go_loopw [5, 23] (fun v i wx => ∃ c : Nat, c ≤ n ∧ i = .int .i64 c ∧ PlsOwn wx w.heap.size v (if plT k j then LL ++ plCol a b c else LL) ∧ Below w.heap.size w wx) (fun _ i _ => n - (intOf i).toNat)
          case atStart => exact ⟨0, Nat.zero_le _, rfl, by have := HO.out; split <;> simpa [plCol] using this, HBE.out⟩
          case round =>
            clear HO HBE
            obtain ⟨c, hc, rfl, hown, hbel⟩ := hrel
            have HO := Lib.hid hown
            have HBE := Lib.hid hbel
            have hsz := hbel.size
            clear hown hbel
            by_cases hlc : c < n
            · go_upto_region 11 with fail
              go_cut [23, 32] from 23 to 40 (fun t s wy => t = .int .i64 c ∧ s = .bool (plT k j) ∧ wr = wy)
              case first =>
                rcases hk with ⟨rfl, rfl⟩ | ⟨rfl, rfl⟩
                · by_cases hj0 : j = 0
                  all_goals
                    have hab : ((a : Int) == (b : Int)) = decide (j = 0) := by rw [cast_beq, Bool.eq_iff_iff]; have := hbj.out; simp; omega
                    have HJ := Lib.hid hj0
                    simp only [hj0, decide_true, decide_false] at hab
                    clear hj0
                    go_wp2_with fail
                    go_meet
                    exact ⟨rfl, by unfold plT; simp [HJ.out], rfl⟩
                · go_wp2_with fail
                  go_meet
                  exact ⟨rfl, by unfold plT; simp, rfl⟩
              case rest =>
                obtain ⟨rfl, rfl, rfl⟩ := hcut
                cases hT : plT k j
                · have HTT := Lib.hid hT
                  clear hT
                  go_wp2_with fail
                  go_roundw
                  case rel => exact ⟨c + 1, by omega, by go_num, by have := HO.out; rw [HTT.out] at this ⊢; exact this, HBE.out⟩
                  case measure => simp [intOf]; omega
                · have HTT := Lib.hid hT
                  have ho := HO.out
                  rw [hT, if_pos rfl] at ho
                  have HO2 := Lib.hid ho
                  clear hT ho
                  have hlen : (LL ++ plCol a b c).length ≤ 65600 := by rw [List.length_append, plCol_len]; omega
                  go_wp2_with (at_builtin; refine wpList_append_own _ rfl _ _ 51 rfl w.heap.size 25 i0 (.agg #[.int .i64 0, .int .i64 0, .int .i64 0]) 3 24 Try.underlying51 hi0 hz1 hz2 hz3 rfl (by decide) _ _ _ rfl (HO2.out.alloc _) ⟨wr.heap.size, 0, none⟩ 1 1 [.int .i64 a, .int .i64 b, .int .i64 c] rfl rfl ?c1 ?c2 ?c3 ?c4 ?c5 ?_)
                  case c1 => exact cells_new _ _ _
                  case c2 => intro u hu; simp at hu; rcases hu with rfl | rfl | rfl <;> rfl
                  case c3 => unfold maxLen; omega
                  case c4 => omega
                  case c5 => simp; omega
                  intro v' w1 hown1 hg1 _
                  have HO1 := Lib.hid hown1
                  have HG1 := Lib.hid hg1
                  clear hown1 hg1
                  go_wp2_with fail
                  go_roundw
                  case rel =>
                    refine ⟨c + 1, by omega, by go_num, ?_, (HBE.out.alloc (by omega) _).grown HG1.out (by simp; omega) (fun k hk => (World.ownsRow.lt HO2.out k hk).1)⟩
                    have h3 := HO1.out
                    rw [HTT.out, if_pos rfl, plCol_succ, ← List.append_assoc]
                    refine PlsOwn.snoc ?_
                    rw [List.length_append]
                    exact h3
                  case measure => simp [intOf]; omega
            · have hce : c = n := by omega
              subst hce
              go_wp2_with fail
              go_roundw
              case rel =>
                refine ⟨j + 1, b + 1, by have := hbj.out; omega, Lib.hid (by have := hbj.out; omega), by omega, by go_num, ?_, HBE.out⟩
                have := HO.out
                rw [HRS.out]
                rw [← hbj.out]
                split
                · rename_i ht; rw [ht, if_pos rfl] at this; rw [← List.append_assoc, HLL.out]; exact this
                · rename_i ht; rw [if_neg ht] at this; rw [HLL.out]; exact this
              case measure => simp [intOf]; omega
        · have hjn : j = n - a := by have := hbj.out; omega
          go_wp2_with fail
          go_roundw
          case rel => exact ⟨a + 1, by omega, by go_num, by rw [HST.out, ← hjn, HM.out, HLL.out]; exact HO.out, HBE.out⟩
          case measure => simp [intOf]; omega
    · have hae : a = n := by omega
      subst hae
      go_wp2_with fail
      go_ret
      exact ⟨⟨_, rfl, HO.out⟩, HBE.out⟩

/-! ### flees -/

def flTo (x a b : Nat) : Nat → List Pl
  | 0 => []
  | c + 1 => if x.testBit c then flTo x a b c ++ [(a, b, c)] else flTo x a b c
theorem flTo_len (x a b c : Nat) : (flTo x a b c).length ≤ c := by
  induction c with
  | zero => simp [flTo]
  | succ i ih => unfold flTo; split <;> first | (simp; omega) | omega

set_option maxRecDepth 20000 in
set_option maxHeartbeats 2000000 in
theorem flees_any {n : Nat} {g : Nat → Nat} {a : Option Addr} {w : World} (G : GrAt w a n g) (cap : Nat) (p : Pl) (h3 : p.2.2 < n) :
    Calls Try.prog 45 #[.slice a n cap, encPl p] w fun e w' => (∃ v, e = .returned v ∧ PlsOwn w' w.heap.size v (flTo (rch g p.2.2) p.1 p.2.1 n)) ∧ Below w.heap.size w w' := by
  obtain ⟨i0, hi0, hz1, hz2, hz3⟩ := info_parts info_pl
  obtain ⟨p1, p2, p3⟩ := p
  dsimp only at h3 ⊢
  have hn := G.small
  have hml := G.ints.1
  unfold maxLen at hml
  have hx := rch_lt (G.bd p3 h3) (by omega)
  obtain ⟨w0, hw0, R0, HB, hsz⟩ := new1 w 25 [.int .i64 p1, .int .i64 p2, .int .i64 p3]
  have HG := Lib.hid (G.below HB)
  have HR0 := Lib.hid R0
  have HW := Lib.hid hw0
  have HS : w.heap.size ≤ w0.heap.size := by omega
  clear hw0 R0
  show Calls Try.prog 45 #[.slice a n cap, .agg #[.int .i64 p1, .int .i64 p2, .int .i64 p3]] w _
  go_enter Try.func45, Try.ntmps45
  go_wp2_with fail
  rw [← HW.out]
  clear HW
  go_loopw [5, 9] (fun v i wr => ∃ c : Nat, c ≤ n ∧ i = .int .i64 c ∧ PlsOwn wr w0.heap.size v (flTo (rch g p3) p1 p2 c) ∧ Below w0.heap.size w0 wr) (fun _ i _ => n - (intOf i).toNat)
  case atStart => exact ⟨0, Nat.zero_le _, rfl, ⟨rfl, Or.inl ⟨rfl, rfl⟩⟩, Below.refl _ _⟩
  case round =>
    obtain ⟨c, hc, rfl, hown, hbel⟩ := hrel
    have HO := Lib.hid hown
    have HBE := Lib.hid hbel
    have r1 := HR0.out.below hbel HR0.out.lt
    have d0 := r1.cell (i := 0) rfl
    have d1 := r1.cell (i := 1) rfl
    have d2 := r1.cell (i := 2) rfl
    have d3 := r1.lt
    have HGX := Lib.hid (HG.out.below hbel)
    have hsz := hbel.size
    have HST : Hid (flTo (rch g p3) p1 p2 (c + 1) = if (rch g p3).testBit c then flTo (rch g p3) p1 p2 c ++ [(p1, p2, c)] else flTo (rch g p3) p1 p2 c) := Lib.hid rfl
    have hll := flTo_len (rch g p3) p1 p2 c
    generalize hL : flTo (rch g p3) p1 p2 c = L at *
    have HL := Lib.hid hL
    clear hown hbel r1 hL
    by_cases hlt : c < n
    · have hc64 : c < 64 := by omega
      cases hT : (rch g p3).testBit c
      · have HTT := Lib.hid hT
        go_wp2_with (go_at_call 64; refine (reach_q HGX.out cap p3 h3).mono ?_; rintro e w1 ⟨rfl, m, rfl⟩)
        go_roundw
        case rel => exact ⟨c + 1, by omega, by go_num, by rw [HST.out, HTT.out]; exact HO.out, below_drewN HBE.out _⟩
        case measure => simp [intOf]; omega
      · have HTT := Lib.hid hT
        go_wp2_with (first | (go_at_call 64; refine (reach_q HGX.out cap p3 h3).mono ?_; rintro e w1 ⟨rfl, m, rfl⟩; have HO2 := Lib.hid (show PlsOwn (wr.drewN m) w0.heap.size _ L from HO.out); have HB2 := Lib.hid (below_drewN HBE.out m)) | (at_builtin; refine wpList_append_own _ rfl _ _ 51 rfl w0.heap.size 25 i0 (.agg #[.int .i64 0, .int .i64 0, .int .i64 0]) 3 24 Try.underlying51 hi0 hz1 hz2 hz3 rfl (by decide) _ _ _ rfl (HO2.out.alloc _) ⟨wr.heap.size, 0, none⟩ 1 1 [.int .i64 p1, .int .i64 p2, .int .i64 c] rfl rfl ?c1 ?c2 ?c3 ?c4 ?c5 ?_))
        case c1 => exact cells_new _ _ _
        case c2 => intro u hu; simp at hu; rcases hu with rfl | rfl | rfl <;> rfl
        case c3 => unfold maxLen; omega
        case c4 => omega
        case c5 => simp; omega
        intro v' w1 hown1 hg1 _
        have HO1 := Lib.hid hown1
        have HG1 := Lib.hid hg1
        clear hown1 hg1
        go_wp2_with fail
        go_roundw
        case rel =>
          refine ⟨c + 1, by omega, by go_num, ?_, (HB2.out.alloc (by simp; omega) _).grown HG1.out (by simp; omega) (fun k hk => (World.ownsRow.lt HO2.out k hk).1)⟩
          have h3 := HO1.out
          rw [HST.out, HTT.out, if_pos rfl]
          refine PlsOwn.snoc ?_
          exact h3
        case measure => simp [intOf]; omega
    · have hae : c = n := by omega
      subst hae
      go_wp2_with fail
      go_ret
      exact ⟨⟨_, rfl, by rw [HL.out]; exact ownsRow_base HO.out HS⟩, HB.trans (HBE.out.mono HS)⟩

end Go.Proofs.Ytmkcnpphdghbaaa
