/- The contracts of the program's reachesSafe and staysSafe. -/
import Derived.Test.YtmkcnpphdghbaaaC2l
import Derived.Test.YtmkcnpphdghbaaaIter
namespace Go.Proofs.Ytmkcnpphdghbaaa
set_option linter.unusedSimpArgs false
set_option linter.unusedVariables false
open Go.RowKit Go.Maps
attribute [local go_sem] i64_bit toNat_eq_one toNat_ne_one toNat_eq_zero toNat_ne_zero i64_and i64_or i64_andNot i64_or_pow i64_andNot_pow

/-- A set of Places as a map of truths, as the program keeps it. -/
def SafeMap (w : World) (b : Nat) (S : Pl → Bool) : Prop := MapB Try.prog 30 encPl (fun v : Bool => .bool v) w b (fun p => if S p then some true else none)
theorem SafeMap.below {w w' : World} {b B : Nat} {S : Pl → Bool} (h : SafeMap w b S) (hb : Below B w w') (hB : b < B) : SafeMap w' b S := MapB.below h hb hB
theorem zero_bool (w : World) : (zeroValue 4).run Try.prog w = .ok (.bool false) w := by kernel_rfl

theorem SafeMap.look {w : World} {b : Nat} {S : Pl → Bool} (h : SafeMap w b S) (hS : ∀ p, S p = true → p.1 < 65536 ∧ p.2.1 < 65536 ∧ p.2.2 < 65536) {p : Pl} (hp : p.1 < 65536 ∧ p.2.1 < 65536 ∧ p.2.2 < 65536) :
    (Instr.lookup 109 (.map (some b)) (encPl p) false).run Try.prog w = .ok (.bool (S p)) w := by
  have h1 := MapIs.look (MapB.is h) keyed_Pl encPl_inj (fun x v hx => key_Pl (hS x (by by_cases hs : S x = true; exact hs; simp [hs] at hx))) Try.underlying109 (zero_bool w) false p (key_Pl hp)
  rw [h1]
  cases hs : S p <;> simp

def reachB (n : Nat) (S : Pl → Bool) (ab : Nat × Nat) (cats : Nat) : Bool := (List.range n).any fun c => cats.testBit c && S (ab.1, ab.2, c)

set_option maxRecDepth 20000 in
set_option maxHeartbeats 2000000 in
theorem reachesSafe_any {w : World} {gp n b cb cc mb sb : Nat} {r : Nat → Nat} {C : List (Nat × Nat)} {F : Pl → Option Nat} {S : Pl → Bool} (G : GameAt w gp n b cb cc mb r C F) (M : SafeMap w sb S) (hS : ∀ p, S p = true → p.1 < 65536 ∧ p.2.1 < 65536 ∧ p.2.2 < 65536)
    (ab : Nat × Nat) (hab : ab.1 < n ∧ ab.2 < n) (cats : Nat) (hc : cats < 65536) :
    Calls Try.prog 69 #[.pointer (some ⟨gp, 0, none⟩), pairV ab, .int .i64 cats, .map (some sb)] w fun e w' => e = .returned (.bool (reachB n S ab cats)) ∧ Below w.heap.size w w' := by
  obtain ⟨x, y⟩ := ab
  obtain ⟨hx, hy⟩ := hab
  dsimp only at hx hy
  obtain ⟨w0, hw0, R0, HB, hsz⟩ := new1 w 32 [.int .i64 x, .int .i64 y]
  have hn := G.town.small
  have G0 := G.below HB
  obtain ⟨c0, c1, c2, c3, _, hgp, hb, _⟩ := G0.facts
  have HG := Lib.hid G0
  have HM := Lib.hid (SafeMap.below M HB (MapB.lt M))
  have HSS := Lib.hid hS
  have HW := Lib.hid hw0
  have HR0 := Lib.hid R0
  have HB0 := Lib.hid HB
  have HS0 : w.heap.size ≤ w0.heap.size := by omega
  have c0' := c0
  rw [hw0] at c0'
  clear hw0 R0 HB G0 hS M G
  show Calls Try.prog 69 #[.pointer (some ⟨gp, 0, none⟩), .agg #[.int .i64 x, .int .i64 y], .int .i64 cats, .map (some sb)] w _
  go_enter Try.func69, Try.ntmps69
  go_wp2_with fail
  rw [← HW.out]
  clear HW c0'
  go_loopw [15] (fun i wr => ∃ c : Nat, c ≤ n ∧ i = .int .i64 c ∧ Hid (∀ d, d < c → (cats.testBit d && S (x, y, d)) = false) ∧ Below w0.heap.size w0 wr) (fun i _ => n - (intOf i).toNat)
  case atStart => exact ⟨0, Nat.zero_le _, rfl, Lib.hid (by omega), Below.refl _ _⟩
  case round =>
    clear c0 c1 c2 c3 hgp hb
    obtain ⟨c, hcn, rfl, HNO, hbel⟩ := hrel
    have HBE := Lib.hid hbel
    have hbs := hbel.size
    have r0 := HR0.out.below hbel HR0.out.lt
    have d0 := r0.cell (i := 0) rfl
    have d1 := r0.cell (i := 1) rfl
    have HM1 := Lib.hid (SafeMap.below HM.out hbel (MapB.lt HM.out))
    clear hbel r0
    by_cases hlc : c < n
    · have hc64 : c < 64 := by omega
      cases hq : cats.testBit c
      · have HQ := Lib.hid hq
        clear hq
        go_wp2_with fail
        go_at_call 71
        refine (has_any cats c _ hc hc64).mono ?_
        rintro e w1 ⟨rfl, rfl⟩
        rw [HQ.out]
        go_wp2_with fail
        go_roundw
        case rel =>
          refine ⟨c + 1, by omega, by go_num, Lib.hid (fun d hd => ?_), HBE.out⟩
          rcases Nat.lt_succ_iff_lt_or_eq.1 hd with h | h
          · exact HNO.out d h
          · rw [h, HQ.out]; rfl
        case measure => simp [intOf]; omega
      · have HQ := Lib.hid hq
        clear hq
        cases hs : S (x, y, c)
        all_goals
          have HSV := Lib.hid hs
          clear hs
          go_wp2_with fail
          go_at_call 71
          refine (has_any cats c _ hc hc64).mono ?_
          rintro e w1 ⟨rfl, rfl⟩
          rw [HQ.out]
          go_wp2_with fail
          go_at_call 66
          refine (at_any x y c _).mono ?_
          rintro e w2 ⟨rfl, hb2⟩
          have hlk : (Instr.lookup 109 (.map (some sb)) (.agg #[.int .i64 x, .int .i64 y, .int .i64 c]) false).run Try.prog w2 = .ok (.bool (S (x, y, c))) w2 := SafeMap.look (SafeMap.below HM1.out hb2 (MapB.lt HM1.out)) HSS.out (p := (x, y, c)) (by dsimp only; omega)
          rw [HSV.out] at hlk
          have HB2 := Lib.hid hb2
          clear hb2
          go_wp2_with fail
          first
            | (go_roundw
               case rel =>
                 refine ⟨c + 1, by omega, by go_num, Lib.hid (fun d hd => ?_), HBE.out.trans (HB2.out.mono hbs)⟩
                 rcases Nat.lt_succ_iff_lt_or_eq.1 hd with h | h
                 · exact HNO.out d h
                 · rw [h, HQ.out, HSV.out]; rfl
               case measure => simp [intOf]; omega)
            | (go_ret
               have hy : reachB n S (x, y) cats = true := List.any_eq_true.2 ⟨c, List.mem_range.2 hlc, by dsimp only; rw [HQ.out, HSV.out]; rfl⟩
               exact ⟨by rw [hy]; rfl, HB0.out.trans ((HBE.out.trans (HB2.out.mono hbs)).mono HS0)⟩)
    · have hce : c = n := by omega
      subst hce
      have hN : Hid (reachB c S (x, y) cats = false) := Lib.hid (by
        rw [Bool.eq_false_iff]
        intro h
        obtain ⟨d, hd, hv⟩ := List.any_eq_true.1 h
        have := HNO.out d (List.mem_range.1 hd)
        dsimp only at hv
        rw [this] at hv
        cases hv)
      go_wp2_with fail
      go_ret
      exact ⟨by rw [hN.out]; rfl, HB0.out.trans (HBE.out.mono HS0)⟩

end Go.Proofs.Ytmkcnpphdghbaaa
