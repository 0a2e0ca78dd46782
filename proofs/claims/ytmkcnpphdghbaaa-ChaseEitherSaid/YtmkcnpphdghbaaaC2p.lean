/- The contract of the program's areSafe. -/
import Derived.Test.YtmkcnpphdghbaaaC2o
namespace Go.Proofs.Ytmkcnpphdghbaaa
set_option linter.unusedSimpArgs false
set_option linter.unusedVariables false
open Go.RowKit Go.Maps
attribute [local go_sem] i64_bit toNat_eq_one toNat_ne_one toNat_eq_zero toNat_ne_zero i64_and i64_or i64_andNot i64_or_pow i64_andNot_pow

def inS (P : List PI) (q : Pl) : Bool := decide (castP q ∈ P)
def ok1 (n : Nat) (C : List (Nat × Nat)) (p : PI) : Bool := isPlB n C p.1 p.2.1 p.2.2 && !ctchB (toN p)
def areB (n : Nat) (r : Nat → Nat) (C : List (Nat × Nat)) (P : List PI) : Bool := P.all (ok1 n C) && P.all (fun p => stayB n r C (inS P) (toN p)) && C.all fun ab => reachB n (inS P) ab (2 ^ n - 1)

theorem SafeMap.store {w : World} {b : Nat} {S : Pl → Bool} (h : SafeMap w b S) (hS : ∀ p, S p = true → p.1 < 65536 ∧ p.2.1 < 65536 ∧ p.2.2 < 65536) {p : Pl} (hp : p.1 < 65536 ∧ p.2.1 < 65536 ∧ p.2.2 < 65536) :
    ∃ w', (Instr.mapUpdate 109 (.map (some b)) (encPl p) (.bool true)).run Try.prog w = .ok () w' ∧ SafeMap w' b (fun q => S q || decide (q = p)) ∧ w.grownBy w' (some b) ∧ w'.heap.size = w.heap.size := by
  obtain ⟨w', h1, h2, h3, h4⟩ := MapB.store h keyed_Pl encPl_inj (fun x v hx => key_Pl (hS x (by by_cases hs : S x = true; exact hs; simp [hs] at hx))) Try.underlying109 p true (key_Pl hp)
  refine ⟨w', h1, ?_, h3, h4⟩
  unfold SafeMap
  have e : (fun q : Pl => if (S q || decide (q = p)) = true then some true else none) = fun q => if q = p then some true else (fun p => if S p = true then some true else none) q := by
    funext q
    by_cases hq : q = p
    · simp [hq]
    · simp [hq]
  rw [e]
  exact h2
theorem inS_take (P : List PI) (j : Nat) (p : PI) (q : Pl) (hp : P[j]? = some p) (hq : p = castP q) : (fun x => decide (castP x ∈ P.take j) || decide (x = q)) = fun x => decide (castP x ∈ P.take (j + 1)) := by
  funext x
  rw [take_snoc' P j p hp, hq]
  by_cases he : x = q
  · subst he; simp
  · have : castP x ≠ castP q := fun e => he (castP_inj e)
    simp [he, this]

set_option maxRecDepth 20000 in
set_option maxHeartbeats 4000000 in
theorem areSafe_any {w : World} {gp n b cb cc mb : Nat} {r : Nat → Nat} {C : List (Nat × Nat)} {F : Pl → Option Nat} {pa : Option Addr} {P : List PI} (G : GameAt w gp n b cb cc mb r C F) (hP : PlsAt w pa P) (pc : Nat) (hn1 : 1 ≤ n) :
    Calls Try.prog 53 #[.pointer (some ⟨gp, 0, none⟩), .slice pa P.length pc] w fun e w' => e = .returned (.bool (areB n r C P)) ∧ Below w.heap.size w w' := by
  have hn := G.town.small
  have hfew := G.few
  have hpl := hP.1
  have HPW := Lib.hid hP
  have HINC := Lib.hid G.inC
  have hmm := @run_makeMap Try.prog
  have HG := Lib.hid G
  have HP16 : Hid (∀ p ∈ P, ok1 n C p = true → ∃ x y z : Nat, p = ((x : Int), (y : Int), (z : Int)) ∧ x < n ∧ y < n ∧ z < n ∧ ctchB (x, y, z) = false) := Lib.hid (fun p _ h => by
    unfold ok1 at h
    rw [Bool.and_eq_true] at h
    obtain ⟨x, y, z, h1, h2, h3, h4, h5⟩ := isPlB_nat h.1
    obtain ⟨p1, p2, p3⟩ := p
    dsimp only at h1 h2 h3
    subst h1 h2 h3
    obtain ⟨hx, hy⟩ := G.inC _ h4
    have h6 := h.2
    rw [show toN ((x : Int), (y : Int), (z : Int)) = (x, y, z) from toN_cast (x, y, z)] at h6
    exact ⟨x, y, z, rfl, hx, hy, h5, by simpa using h6⟩)
  have HB0 : Hid (Below w.heap.size w (w.alloc (.map #[] 0))) := Lib.hid ((Below.refl _ _).alloc (Nat.le_refl _) _)
  have HM0 : Hid (SafeMap (w.alloc (.map #[] 0)) w.heap.size (fun x => decide (castP x ∈ P.take 0))) := Lib.hid (by
    have := MapB.made (P := Try.prog) (kt := 30) encPl (fun v : Bool => Value.bool v) w
    unfold SafeMap
    have e : (fun p : Pl => if decide (castP p ∈ P.take 0) = true then some true else none) = fun _ => none := by funext p; simp
    rw [e]
    exact this)
  clear hP G
  go_enter Try.func53, Try.ntmps53
  go_wp2_with fail
  go_loopw [14] (fun i wr => ∃ j : Nat, j ≤ P.length ∧ i = .int .i64 j ∧ Hid (∀ i p, i < j → P[i]? = some p → ok1 n C p = true) ∧ SafeMap wr w.heap.size (fun x => decide (castP x ∈ P.take j)) ∧ Below w.heap.size w wr) (fun i _ => P.length - (intOf i).toNat)
  case atStart => exact ⟨0, Nat.zero_le _, rfl, Lib.hid (by omega), HM0.out, HB0.out⟩
  case round =>
    clear HM0 HB0
    obtain ⟨j, hj, rfl, HOK, hM, hbel⟩ := hrel
    have HBE := Lib.hid hbel
    have hbs := hbel.size
    have HM := Lib.hid hM
    have hml := MapB.lt hM
    have HG1 := Lib.hid (HG.out.below hbel)
    have HS65 : Hid (∀ q : Pl, decide (castP q ∈ P.take j) = true → q.1 < 65536 ∧ q.2.1 < 65536 ∧ q.2.2 < 65536) := Lib.hid (fun q hq => by
      have hm := of_decide_eq_true hq
      obtain ⟨i, hi⟩ := List.mem_iff_getElem?.1 hm
      have hil := (List.getElem?_eq_some_iff.1 hi).1
      rw [List.length_take] at hil
      rw [List.getElem?_take_of_lt (by omega)] at hi
      obtain ⟨x, y, z, he, h1, h2, h3, -⟩ := HP16.out _ (List.mem_of_getElem? hi) (HOK.out i _ (by omega) hi)
      have := castP_inj (p := q) (q := (x, y, z)) he
      subst this
      exact ⟨by dsimp only; omega, by dsimp only; omega, by dsimp only; omega⟩)
    by_cases hlt : j < P.length
    · obtain ⟨⟨p1, p2, p3⟩, hp⟩ : ∃ p, P[j]? = some p := ⟨P[j], by simp [hlt]⟩
      obtain ⟨pb, off, rfl, hpb, e0, e1, e2⟩ := (HPW.out.below hbel).get hp
      dsimp only at e0 e1 e2
      have HX := Lib.hid hp
      clear hbel hM hp
      cases hok : isPlB n C p1 p2 p3
      · have HN := Lib.hid hok
        have HF : Hid (P.all (ok1 n C) = false) := Lib.hid (all_at HX.out (by unfold ok1; rw [hok]; rfl))
        clear hok
        go_wp2_with fail
        go_at_call 38
        refine (isPlace_any (HG1.out.below ((Below.refl _ _).alloc (Nat.le_refl _) _)) p1 p2 p3).mono ?_
        rintro e w3 ⟨rfl, hb3⟩
        rw [HN.out]
        have HB3 := Lib.hid (((Below.refl wr.heap.size wr).alloc (Nat.le_refl _) _).trans (hb3.mono (by simp)))
        clear hb3
        go_wp2_with fail
        go_ret
        exact ⟨by unfold areB; rw [HF.out]; rfl, HBE.out.trans (HB3.out.mono hbs)⟩
      · have HN := Lib.hid hok
        obtain ⟨x, y, z, rfl, rfl, rfl, hxy, hz⟩ := isPlB_nat hok
        obtain ⟨hx, hy⟩ := HINC.out _ hxy
        dsimp only at hx hy
        have HO1 : Hid (ok1 n C ((x : Int), (y : Int), (z : Int)) = !ctchB (x, y, z)) := Lib.hid (by unfold ok1; rw [show isPlB n C ((x : Int), (y : Int), (z : Int)).1 ((x : Int), (y : Int), (z : Int)).2.1 ((x : Int), (y : Int), (z : Int)).2.2 = true from hok, Bool.true_and]; exact congrArg (fun t => !ctchB t) (toN_cast (x, y, z)))
        clear hok hxy
        cases hC : ctchB (x, y, z)
        all_goals
          have HC := Lib.hid hC
          clear hC
          go_wp2_with fail
          go_at_call 38
          refine (isPlace_any (HG1.out.below ((Below.refl _ _).alloc (Nat.le_refl _) _)) x y z).mono ?_
          rintro e w3 ⟨rfl, hb3⟩
          rw [HN.out]
          have HB3 := Lib.hid (((Below.refl wr.heap.size wr).alloc (Nat.le_refl _) _).trans (hb3.mono (by simp)))
          have r3 := (Row.new wr 30 [.int .i64 x, .int .i64 y, .int .i64 z]).below hb3 (by simp)
          have HR3 := Lib.hid r3
          have d0 := r3.cell (i := 0) rfl
          have d1 := r3.cell (i := 1) rfl
          have d2 := r3.cell (i := 2) rfl
          clear hb3 r3 e0 e1 e2
          go_wp2_with fail
          go_at_call 61
          refine (caught_any (x, y, z) _).mono ?_
          rintro e w4 ⟨rfl, hb4⟩
          rw [HC.out]
          have r4 := HR3.out.below hb4 HR3.out.lt
          have HB4 := Lib.hid (HB3.out.trans (hb4.mono HB3.out.size))
          clear hb4 d0 d1 d2
          have d0 := r4.cell (i := 0) rfl
          have d1 := r4.cell (i := 1) rfl
          have d2 := r4.cell (i := 2) rfl
          clear r4
          have HM4 := Lib.hid (SafeMap.below HM.out HB4.out (MapB.lt HM.out))
        · obtain ⟨w5, hrun, hM5, hg5, hz5⟩ := SafeMap.store HM4.out HS65.out (p := (x, y, z)) (by dsimp only; omega)
          have hrun0 : (Instr.mapUpdate 109 (.map (some w.heap.size)) (.agg #[.int .i64 x, .int .i64 y, .int .i64 z]) (.bool true)).run Try.prog w4 = .ok () w5 := hrun
          have HM5 := Lib.hid hM5
          have HG5 := Lib.hid hg5
          have HEQ := Lib.hid (inS_take P j _ (x, y, z) HX.out rfl)
          clear hrun hM5 hg5 hz5
          go_wp2_with fail
          go_roundw
          case rel =>
            refine ⟨j + 1, by omega, by go_num, Lib.hid (fun i p hi hp => ?_), by rw [← HEQ.out]; exact HM5.out, (HBE.out.trans (HB4.out.mono hbs)).grown HG5.out (HBE.out.trans (HB4.out.mono hbs)).size (fun k hk => by cases hk; exact Nat.le_refl _)⟩
            rcases Nat.lt_succ_iff_lt_or_eq.1 hi with h | h
            · exact HOK.out i p h hp
            · subst h
              rw [HX.out] at hp
              cases hp
              rw [HO1.out, HC.out]
              rfl
          case measure => simp [intOf]; omega
        · go_wp2_with fail
          go_ret
          exact ⟨by unfold areB; rw [all_at HX.out (show ok1 n C ((x : Int), (y : Int), (z : Int)) = false by rw [HO1.out, HC.out]; rfl)]; rfl, HBE.out.trans (HB4.out.mono hbs)⟩
    · have hje : j = P.length := by omega
      subst hje
      have HALL1 : Hid (P.all (ok1 n C) = true) := Lib.hid (all_upto HOK.out)
      have HSQ : Hid ((fun x : Pl => decide (castP x ∈ P.take P.length)) = inS P) := Lib.hid (by rw [List.take_length]; rfl)
      have hM2 : SafeMap wr w.heap.size (inS P) := by rw [← HSQ.out]; exact hM
      have HS2 : Hid (∀ q : Pl, inS P q = true → q.1 < 65536 ∧ q.2.1 < 65536 ∧ q.2.2 < 65536) := Lib.hid (by rw [← HSQ.out]; exact HS65.out)
      have HEL : Hid (∀ q : Pl, inS P q = true → q.1 < n ∧ q.2.1 < n ∧ q.2.2 < n) := Lib.hid (fun q hq => by
        have hm := of_decide_eq_true hq
        rw [List.all_eq_true] at HALL1
        obtain ⟨x, y, z, he, h1, h2, h3, -⟩ := HP16.out _ hm (HALL1.out _ hm)
        have := castP_inj (p := q) (q := (x, y, z)) he
        subst this
        exact ⟨h1, h2, h3⟩)
      obtain ⟨wA, rfl⟩ : ∃ wA : World, wA = wr := ⟨_, rfl⟩
      have HMA := Lib.hid hM2
      obtain ⟨es, clock, hes, hes1, hes2, hes3, hes4, hes5⟩ := hM2
      have HES := Lib.hid hes
      have HES1 := Lib.hid hes1
      have HES2 := Lib.hid hes2
      have HES4 := Lib.hid hes4
      have HES5 := Lib.hid hes5
      clear hes1 hes2 hes3 hes4 hes5 hbel hM HM HS65 HOK hlt hj HSQ hes
      go_wp2_with (at_range; refine wpList_range_at _ rfl _ _ rfl 30 4 Try.underlying109 w.heap.size es clock rfl HES.out ?_)
      have HBA := HBE
      have HGA := HG1
      clear HBE HG1
      have hrb : wA.heap.size ≠ w.heap.size := by omega
      have HIT0 : Hid ((wA.alloc (.mapIter (some w.heap.size) clock #[] clock)).heap[wA.heap.size]? = some (.mapIter (some w.heap.size) clock #[] clock)) := Lib.hid (by show (wA.heap.push _)[wA.heap.size]? = _; simp)
      have HBI0 : Hid (Below wA.heap.size wA (wA.alloc (.mapIter (some w.heap.size) clock #[] clock))) := Lib.hid ((Below.refl _ _).alloc (Nat.le_refl _) _)
      go_loopw [4] (fun rs wz => rs = rs ∧ ∃ (seen : Array Nat) (k0 : Nat), Hid (wz.heap[wA.heap.size]? = some (.mapIter (some w.heap.size) clock seen k0)) ∧ clock ≤ k0 ∧ Hid (∀ e ∈ es.toList, seen.contains e.born = true → ∃ q : Pl, e.key = encPl q ∧ stayB n r C (inS P) q = true) ∧ Below wA.heap.size wA wz ∧ wA.heap.size < wz.heap.size) (fun _ wz => wz.rangeLeft w.heap.size wA.heap.size)
      case atStart => exact ⟨rfl, #[], clock, HIT0, Nat.le_refl _, Lib.hid (fun e _ h => by simp at h), HBI0.out, by simp⟩
      case round =>
        clear HIT0 HBI0
        obtain ⟨-, seen, k0, HIT, hk0, HSEEN, hbel, hrl⟩ := hrel
        obtain ⟨wz, rfl⟩ : ∃ wz : World, wz = wr := ⟨_, rfl⟩
        have HBZ := Lib.hid hbel
        have hzs := hbel.size
        have HESZ : Hid (wz.heap[w.heap.size]? = some (.map es clock)) := Lib.hid (by rw [hbel.block w.heap.size hml]; exact HES.out)
        have HLEFT : Hid (wz.rangeLeft w.heap.size wA.heap.size = (leftOf es seen).size) := Lib.hid (by unfold World.rangeLeft; rw [HESZ.out, HIT.out])
        clear hbel
        go_wp2_with (at_next; refine wpList_next_at _ rfl _ rfl w.heap.size wA.heap.size clock k0 seen es clock rfl hrb HIT.out HESZ.out HES4.out hk0 HES5.out ?_ ?_)
        · intro h0
          have HST : Hid (∀ q : Pl, inS P q = true → stayB n r C (inS P) q = true) := Lib.hid (fun q hq => by
            obtain ⟨e, he, hke, -⟩ := HES2.out q true (by rw [hq]; rfl)
            obtain ⟨q', hk', hs'⟩ := HSEEN.out e he (all_seen es seen (by rw [h0]; rfl) e he)
            rw [hke] at hk'
            rw [encPl_inj _ _ hk']
            exact hs')
          clear h0
          have HALL2 : Hid (P.all (fun p => stayB n r C (inS P) (toN p)) = true) := Lib.hid (by
            rw [List.all_eq_true]
            intro p hp
            have h1 := HALL1.out
            rw [List.all_eq_true] at h1
            obtain ⟨x, y, z, rfl, -⟩ := HP16.out p hp (h1 p hp)
            rw [show toN ((x : Int), (y : Int), (z : Int)) = (x, y, z) from toN_cast (x, y, z)]
            exact HST.out _ (decide_eq_true hp))
          have HBWZ : Hid (Below w.heap.size w wz) := Lib.hid (HBA.out.trans (HBZ.out.mono HBA.out.size))
          have g1 := HGA.out.below HBZ.out
          have HGZ := Lib.hid g1
          have HMZ := Lib.hid (SafeMap.below HMA.out HBZ.out hml)
          obtain ⟨c0, c1, c2, c3, _, hgp, hb, _⟩ := g1.facts
          clear g1
          have hp2 := pow_bd n hn
          have HSI : Hid (((2 : Int) ^ n - 1) = ((2 ^ n - 1 : Nat) : Int)) := Lib.hid (by rw [pow_cast]; have := Nat.one_le_two_pow (n := n); omega)
          have HSL : Hid (2 ^ n - 1 < 65536) := Lib.hid (by have := pow_lt16 hn; omega)
          go_wp2_with fail
          go_loopw [45] (fun i wr => ∃ k : Nat, k ≤ C.length ∧ i = .int .i64 k ∧ Hid (∀ i t, i < k → C[i]? = some t → reachB n (inS P) t (2 ^ n - 1) = true) ∧ Below wz.heap.size wz wr) (fun i _ => C.length - (intOf i).toNat)
          case atStart => exact ⟨0, Nat.zero_le _, rfl, Lib.hid (by omega), Below.refl _ _⟩
          case round =>
            clear c0 c1 c2 c3 hgp hb
            obtain ⟨k, hk, rfl, HRE, hbel⟩ := hrel
            have HBE := Lib.hid hbel
            have hbs := hbel.size
            have g1 := HGZ.out.below hbel
            have HG1 := Lib.hid g1
            have HM1 := Lib.hid (SafeMap.below HMZ.out hbel (MapB.lt HMZ.out))
            clear hbel
            by_cases hlt : k < C.length
            · obtain ⟨⟨x, y⟩, hxy⟩ : ∃ t, C[k]? = some t := ⟨C[k], by simp [hlt]⟩
              obtain ⟨hx, hy⟩ := g1.inC _ (List.mem_of_getElem? hxy)
              obtain ⟨e0, e1⟩ := g1.ch k _ hxy
              dsimp only at hx hy e0 e1
              have HX := Lib.hid hxy
              clear g1 hxy
              obtain ⟨wb, hwb, RB, HBb, hszb⟩ := new1 wr 32 [.int .i64 x, .int .i64 y]
              have HWB := Lib.hid hwb
              have HRB := Lib.hid RB
              have HBB := Lib.hid HBb
              have HGB := Lib.hid (HG1.out.below HBb)
              have HMB := Lib.hid (SafeMap.below HM1.out HBb (MapB.lt HM1.out))
              have hbb : wr.heap.size ≤ wb.heap.size := by omega
              have b0 : ∀ u : BelowW wb.heap.size wb, u.w.cell? ⟨wr.heap.size, 0, none⟩ = some (.int .i64 x) := fun u => (HRB.out.below u.h HRB.out.lt).cell (i := 0) rfl
              have b1 : ∀ u : BelowW wb.heap.size wb, u.w.cell? ⟨wr.heap.size, 1, none⟩ = some (.int .i64 y) := fun u => (HRB.out.below u.h HRB.out.lt).cell (i := 1) rfl
              have c0 : ∀ u : BelowW wb.heap.size wb, u.w.cell? ⟨gp, 0, none⟩ = some (.int .i64 n) := fun u => (HGB.out.below u.h).g0
              have c1 : ∀ u : BelowW wb.heap.size wb, u.w.cell? ⟨gp, 1, none⟩ = some (.slice (some ⟨b, 0, none⟩) n n) := fun u => (HGB.out.below u.h).g1
              clear hwb RB HBb
              cases hR : reachB n (inS P) (x, y) (2 ^ n - 1)
              all_goals
                have HRV := Lib.hid hR
                clear hR
                go_wp2_with fail
                rw [← HWB.out]
                clear e0 e1
                refine wp_region_below wb.heap.size wb (Below.refl _ _) (by kernel_rfl) (by kernel_rfl) ?_
                repeat (go_big_quiet_step (first
                  | (go_at_call 70; exact calls_below (Nat.le_refl _) (calls_is (congrArg (Value.int .i64) HSI.out) (all_any n b n _ hn)))
                  | (go_at_call 69; exact calls_below (Nat.le_refl _) (calls_is (congrArg Value.bool HRV.out) (reachesSafe_any (HGB.out.below (BelowW.h _)) (SafeMap.below HMB.out (BelowW.h _) (MapB.lt HMB.out)) HS2.out (x, y) ⟨hx, hy⟩ (2 ^ n - 1) HSL.out)))))
                refine wpQuiet_nil ?_
                rintro _ ⟨uw, rfl⟩
                go_wp2_with fail
                first
                  | (go_roundw
                     case rel =>
                       refine ⟨k + 1, by omega, by go_num, Lib.hid (fun i t hi ht => ?_), HBE.out.trans ((HBB.out.trans (uw.h.mono hbb)).mono hbs)⟩
                       rcases Nat.lt_succ_iff_lt_or_eq.1 hi with h | h
                       · exact HRE.out i t h ht
                       · subst h
                         rw [HX.out] at ht
                         cases ht
                         exact HRV.out
                     case measure => simp [intOf]; omega)
                  | (go_ret
                     exact ⟨by unfold areB; rw [all_at HX.out HRV.out, Bool.and_false]; rfl, HBWZ.out.trans ((HBE.out.trans ((HBB.out.trans (uw.h.mono hbb)).mono hbs)).mono HBWZ.out.size)⟩)
            · have hke : k = C.length := by omega
              subst hke
              have HALL3 : Hid ((C.all fun ab => reachB n (inS P) ab (2 ^ n - 1)) = true) := Lib.hid (all_upto HRE.out)
              clear g1
              go_wp2_with fail
              go_ret
              exact ⟨by unfold areB; rw [HALL1.out, HALL2.out, HALL3.out]; rfl, HBWZ.out.trans (HBE.out.mono HBWZ.out.size)⟩
        · intro e w5 he0 hg5 hz5 hit5 hen
          have he : e ∈ (leftOf es seen).toList := Array.mem_toList_iff.2 he0
          clear he0
          obtain ⟨hem, hes⟩ := mem_left he
          obtain ⟨⟨x, y, z⟩, v, hke, hve, hF⟩ := HES1.out e hem
          have hin : inS P (x, y, z) = true := by
            by_cases hi : inS P (x, y, z) = true
            · exact hi
            · simp [hi] at hF
          have hv1 : v = true := by simp [hin] at hF; exact hF
          subst hv1
          obtain ⟨hx, hy, hz⟩ := HEL.out _ hin
          dsimp only at hx hy hz
          have hke' : e.key = .agg #[.int .i64 x, .int .i64 y, .int .i64 z] := hke
          have HKE := Lib.hid hke
          have HBW5 : Hid (Below wA.heap.size wA w5) := Lib.hid (HBZ.out.grown hg5 hzs (fun k hk => by cases hk; exact Nat.le_refl _))
          have HG5 := Lib.hid (HGA.out.below HBW5.out)
          have HM5 := Lib.hid (SafeMap.below HMA.out HBW5.out hml)
          have HIT5 := Lib.hid hit5
          have HE := Lib.hid he
          have HEM := Lib.hid hem
          have hl5 : wA.heap.size < w5.heap.size := by omega
          have HIN := Lib.hid hin
          rw [hke', hve] at hen ⊢
          clear hke hke' hve hF hg5 hit5 he hem hes hin
          cases hst : stayB n r C (inS P) (x, y, z)
          all_goals
            have HSV := Lib.hid hst
            clear hst
            go_wp2_with fail
            go_at_call 68
            refine (staysSafe_any (HG5.out.below ((Below.refl _ _).alloc (Nat.le_refl _) _)) (SafeMap.below HM5.out ((Below.refl _ _).alloc (Nat.le_refl _) _) (MapB.lt HM5.out)) HS2.out (x, y, z) hx hy hz).mono ?_
            rintro e' w6 ⟨rfl, hb6⟩
            rw [HSV.out]
            have HB6 := Lib.hid (((Below.refl w5.heap.size w5).alloc (Nat.le_refl _) _).trans (hb6.mono (by simp)))
            have h6s := HB6.out.size
            clear hb6 hen
            go_wp2_with fail
          · go_ret
            have hf : (P.all fun p => stayB n r C (inS P) (toN p)) = false := by
              rw [Bool.eq_false_iff]
              intro h
              rw [List.all_eq_true] at h
              have h2 := h _ (of_decide_eq_true HIN.out)
              rw [toN_cast, HSV.out] at h2
              cases h2
            exact ⟨by unfold areB; rw [hf, Bool.and_false]; rfl, HBA.out.trans ((HBW5.out.trans (HB6.out.mono HBW5.out.size)).mono HBA.out.size)⟩
          · have HIT6 : Hid (w6.heap[wA.heap.size]? = some (.mapIter (some w.heap.size) clock (seen.push e.born) clock)) := Lib.hid (by rw [HB6.out.block wA.heap.size hl5]; exact HIT5.out)
            have HES6 : Hid (w6.heap[w.heap.size]? = some (.map es clock)) := Lib.hid (by rw [(HBW5.out.trans (HB6.out.mono HBW5.out.size)).block w.heap.size hml]; exact HES.out)
            go_roundw
            case rel =>
              refine ⟨trivial, seen.push e.born, clock, HIT6, Nat.le_refl _, Lib.hid (fun e2 he2 hs2 => ?_), HBW5.out.trans (HB6.out.mono HBW5.out.size), by omega⟩
              rw [contains_push, Bool.or_eq_true, beq_iff_eq] at hs2
              rcases hs2 with hs2 | hs2
              · exact HSEEN.out e2 he2 hs2
              · have := born_inj HES5.out he2 HEM.out hs2
                subst this
                exact ⟨(x, y, z), HKE.out, HSV.out⟩
            case measure =>
              rw [HLEFT.out]
              unfold World.rangeLeft
              rw [HES6.out, HIT6.out]
              exact left_shrinks es seen e HE.out

end Go.Proofs.Ytmkcnpphdghbaaa
