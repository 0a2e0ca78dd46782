/- Package minor: the reference's reductions are the program's. Package minor: the reference's Reduce. Package minor: what the reference's Reduce answers is what the program's does. -/
import Derived.Test.YtfmppncefbjicaaDoorOk
import Derived.Test.YtfmppncefbjicaaDoorOh
namespace Go.Proofs.YtfmppncefbjicaaDoor
set_option linter.unusedSimpArgs false
set_option linter.unusedVariables false
open Go.RowKit Go.Maps

/-- The reference keeps what is taken away; the rest has its neighbours that are left. -/
def RelF (n left : Nat) (f q : Nat → Nat) : Prop := ∀ u, u < n → left.testBit u = true → f u = q u &&& left
theorem rd_eq {n left v : Nat} {f q : Nat → Nat} (h : RelF n left f q) (hv : v < n) : stpB n f left (v : Nat) = rdP n q left v := by
  unfold stpB rdP
  rw [Int.toNat_natCast, inB_iff.2 ⟨by omega, by omega⟩, Bool.true_and]
  cases hl : left.testBit v
  · rfl
  · rw [h v hv hl]
theorem rz_eq {n left v : Nat} {f q : Nat → Nat} (hn8 : n ≤ 8) (h : RelF n left f q) (hq : ∀ i, i < n → q i < 2 ^ n) (hv : v < n) (hp : rdP n q left v = true) : stZ n f v = rdZ n q left v := by
  unfold rdP at hp
  rw [Bool.and_eq_true, decide_eq_true_eq] at hp
  have hs : q v &&& left < 2 ^ n := Nat.lt_of_le_of_lt Nat.and_le_left (hq v hv)
  obtain ⟨h1, h2⟩ := ab_is n (by omega) _ hs hp.2
  unfold stZ rdZ
  rw [h v hv hp.1, h1, h2]
theorem rel_step {n left v : Nat} {r f q : Nat → Nat} (hn8 : n ≤ 8) (R : Red n r f left) (h : RelF n left f q) (hq : ∀ i, i < n → q i < 2 ^ n) (hv : v < n) (hp : rdP n q left v = true) : RelF n (diff left (2 ^ v)) (doF n f v) (rdF n q left v) := by
  intro u hu hul
  obtain ⟨h1, h2⟩ := left_bits.1 hul
  unfold rdP at hp
  rw [Bool.and_eq_true, decide_eq_true_eq] at hp
  have hfv := h v hv hp.1
  have hk : szS n (f v) ≤ 2 := by rw [hfv]; exact hp.2
  have hs : q v &&& left < 2 ^ n := Nat.lt_of_le_of_lt Nat.and_le_left (hq v hv)
  apply Nat.eq_of_testBit_eq
  intro x
  rw [Bool.eq_iff_iff, do_bit hn8 R.bd hv hk hp.1 R.in_ R.sym hu h1 h2, and_bit, left_bits, h u hu h1, hfv, and_bit, and_bit, and_bit]
  unfold rdF
  by_cases e2 : szS n (q v &&& left) = 2
  · obtain ⟨a, b, ea, eb, hab, ha, hb, hall⟩ := two_bits hn8 hs e2
    obtain ⟨h3, h4⟩ := ab_is n (by omega) _ hs (by omega)
    rw [if_pos e2, h3, h4, if_neg (by omega), if_pos e2, Int.toNat_natCast, Int.toNat_natCast, ← eb, ← ea]
    have hL : (lnkF q a b u).testBit x = true ↔ (q u).testBit x = true ∨ (u = a ∧ x = b) ∨ (u = b ∧ x = a) := by
      unfold lnkF upF
      by_cases e1 : u = b
      · subst e1
        rw [if_pos rfl, if_neg (Ne.symm hab), Nat.testBit_or, Nat.testBit_two_pow, Bool.or_eq_true, decide_eq_true_eq]
        constructor
        · rintro (h | h)
          · exact Or.inl h
          · exact Or.inr (Or.inr ⟨rfl, h.symm⟩)
        · rintro (h | ⟨h, _⟩ | ⟨_, h⟩)
          · exact Or.inl h
          · exact absurd h.symm hab
          · exact Or.inr h.symm
      · rw [if_neg e1]
        by_cases e2 : u = a
        · subst e2
          rw [if_pos rfl, Nat.testBit_or, Nat.testBit_two_pow, Bool.or_eq_true, decide_eq_true_eq]
          constructor
          · rintro (h | h)
            · exact Or.inl h
            · exact Or.inr (Or.inl ⟨rfl, h.symm⟩)
          · rintro (h | ⟨_, h⟩ | ⟨h, _⟩)
            · exact Or.inl h
            · exact Or.inr h.symm
            · exact absurd h e1
        · rw [if_neg e2]
          constructor
          · exact Or.inl
          · rintro (h | ⟨h, _⟩ | ⟨h, _⟩)
            · exact h
            · exact absurd h e2
            · exact absurd h e1
    rw [hL]
    have hal := (and_bit.1 ((hall a).2 (Or.inl rfl))).2
    have hbl := (and_bit.1 ((hall b).2 (Or.inr rfl))).2
    constructor
    · rintro ⟨k1, ⟨k2, k3⟩ | ⟨k2, k3, k4⟩⟩
      · exact ⟨Or.inl k2, k3, k1⟩
      · have m1 := (hall u).1 (and_bit.2 k2)
        have m2 := (hall x).1 (and_bit.2 k3)
        refine ⟨Or.inr ?_, k3.2, k1⟩
        rcases m1 with rfl | rfl <;> rcases m2 with rfl | rfl
        · exact absurd rfl k4
        · exact Or.inl ⟨rfl, rfl⟩
        · exact Or.inr ⟨rfl, rfl⟩
        · exact absurd rfl k4
    · rintro ⟨k2, k3, k1⟩
      refine ⟨k1, ?_⟩
      rcases k2 with k2 | ⟨rfl, rfl⟩ | ⟨rfl, rfl⟩
      · exact Or.inl ⟨k2, k3⟩
      · exact Or.inr ⟨and_bit.1 ((hall u).2 (Or.inl rfl)), and_bit.1 ((hall x).2 (Or.inr rfl)), Ne.symm hab⟩
      · exact Or.inr ⟨and_bit.1 ((hall u).2 (Or.inr rfl)), and_bit.1 ((hall x).2 (Or.inl rfl)), hab⟩
  · rw [if_neg e2]
    constructor
    · rintro ⟨k1, ⟨k2, k3⟩ | ⟨k2, k3, k4⟩⟩
      · exact ⟨k2, k3, k1⟩
      · exfalso
        have := two_szS k4 (bit_lt hs (and_bit.2 k3)) hu (and_bit.2 k3) (and_bit.2 k2)
        have h9 := hp.2
        omega
    · rintro ⟨k2, k3, k1⟩
      exact ⟨k1, Or.inl ⟨k2, k3⟩⟩
/-- The reference accepts what the program accepts. -/
theorem are_ref {n : Nat} {r : Nat → Nat} (G : Gq n r) (hn8 : n ≤ 8) : ∀ (L : List StZ) (f q : Nat → Nat) (left : Nat), Red n r f left → RelF n left f q → (∀ i, i < n → q i < 2 ^ n) → areT n f left L = refA n q left L := by
  intro L
  induction L with
  | nil => intro f q left _ _ _; rfl
  | cons x L ih =>
    intro f q left R h hq
    show (stpB n f left x.2.1 && (decide (stZ n f x.2.1.toNat = x) && areT n (doF n f x.2.1.toNat) (diff left (2 ^ x.2.1.toNat)) L)) = (inB x.2.1 n && (rdP n q left x.2.1.toNat && (decide (rdZ n q left x.2.1.toNat = x) && refA n (rdF n q left x.2.1.toNat) (diff left (2 ^ x.2.1.toNat)) L)))
    cases hin : inB x.2.1 n
    · have : stpB n f left x.2.1 = false := by unfold stpB; rw [hin]; rfl
      rw [this]; rfl
    · obtain ⟨h0, h1⟩ := inB_iff.1 hin
      obtain ⟨v, hv⟩ : ∃ v : Nat, x.2.1 = v := ⟨x.2.1.toNat, by omega⟩
      have hvn : v < n := by omega
      rw [hv, Int.toNat_natCast, rd_eq h hvn, Bool.true_and]
      cases hp : rdP n q left v
      · rfl
      · have hst : stpB n f left (v : Nat) = true := by rw [rd_eq h hvn]; exact hp
        obtain ⟨_, hl, hk⟩ := stp_yes hst
        rw [rz_eq hn8 h hq hvn hp, ih _ _ _ (red_step G hn8 R hvn hl hk) (rel_step hn8 R h hq hvn hp) (rdF_lt hn8 hq hvn)]
theorem rel_start {n : Nat} {r : Nat → Nat} (G : Gq n r) : RelF n (2 ^ n - 1) r r := fun u hu _ => by
  apply Nat.eq_of_testBit_eq
  intro x
  rw [Nat.testBit_and]
  cases hx : (r u).testBit x
  · rfl
  · rw [all_bit (bit_lt (G.bd u hu) hx)]; rfl

end Go.Proofs.YtfmppncefbjicaaDoor

namespace Go.Proofs.YtfmppncefbjicaaDoor
open Go.RowKit Go.Maps
attribute [local go_sem] i64_bit toNat_eq_one toNat_ne_one toNat_eq_zero toNat_ne_zero i64_and i64_or i64_andNot i64_or_pow i64_andNot_pow

theorem info_stepR : (Tryd.prog.info? 51).map (fun i => (i.zero, i.size, i.bytes)) = some (some (.agg #[.int .i64 0, .int .i64 0, .int .i64 0, .int .i64 0]), 4, 32) := by kernel_rfl
/-- The first node that the reference reduces among the first y. -/
def fstY (n : Nat) (q : Nat → Nat) (left y : Nat) : Option Nat := (List.range y).find? fun v => rdP n q left v
theorem fstY_succ (n : Nat) (q : Nat → Nat) (left y : Nat) : fstY n q left (y + 1) = match fstY n q left y with | some x => some x | none => if rdP n q left y then some y else none := by
  unfold fstY
  rw [List.range_succ, List.find?_append]
  cases (List.range y).find? fun v => rdP n q left v with
  | some x => rfl
  | none =>
    show List.find? _ [y] = _
    rw [List.find?_cons]
    cases rdP n q left y <;> rfl
theorem fstY_some {n left y x : Nat} {q : Nat → Nat} (h : fstY n q left y = some x) : x < y ∧ rdP n q left x = true := by
  unfold fstY at h
  rw [List.find?_range_eq_some] at h
  exact ⟨List.mem_range.1 h.2.1, h.1⟩
def refT (n : Nat) (r : Nat → Nat) : Nat → Option ((Nat → Nat) × Nat × List StZ)
  | 0 => some (r, 2 ^ n - 1, [])
  | k + 1 => match refT n r k with
    | none => none
    | some (q, left, L) => match fstY n q left n with
      | none => none
      | some x => some (rdF n q left x, diff left (2 ^ x), L ++ [rdZ n q left x])
/-- What the inner loop holds behind y nodes. -/
def inT (n : Nat) (q : Nat → Nat) (left : Nat) (L : List StZ) (y : Nat) : (Nat → Nat) × Nat × List StZ × Bool :=
  match fstY n q left y with
  | none => (q, left, L, false)
  | some x => (rdF n q left x, diff left (2 ^ x), L ++ [rdZ n q left x], true)
/-- What the reference's Reduce answers. -/
def RedRPost (n : Nat) (r : Nat → Nat) (B : Nat) (e : Ending) (w' : World) : Prop :=
  (∃ k q L v, refT n r k = some (q, 0, L) ∧ e = .returned (.tuple #[v, .int .i64 0]) ∧ StepsOwn 51 w' B v L) ∨
  (∃ k q left L, refT n r k = some (q, left, L) ∧ left ≠ 0 ∧ fstY n q left n = none ∧ e = .returned (.tuple #[.slice none 0 0, .int .i64 4]))
theorem reducedR_skip {n left v b off cap : Nat} {r : Nat → Nat} {w : World} (hn0 : 0 < n) (hn8 : n ≤ 8) (hb : b < w.heap.size) (hc : ∀ i, i < n → w.cell? ⟨b, off + i, none⟩ = some (.int .i64 (r i : Nat))) (hbd : ∀ i, i < n → r i < 2 ^ n) (hl : left < 2 ^ n) (hv : v < n) :
    Calls Tryd.prog 71 #[.slice (some ⟨b, off, none⟩) n cap, .int .i64 left, .int .i64 v] w fun e w' => ∃ (k1 k2 k3 k4 : Int) (sv : Value), e = .returned (.tuple #[.agg #[.int .i64 k1, .int .i64 k2, .int .i64 k3, .int .i64 k4], sv, .bool (rdP n r left v)]) ∧ Below w.heap.size w w' := by
  refine (reducedR_any hn0 hn8 hb hc hbd hl hv).mono fun e w' ⟨h, hb⟩ => ?_
  cases hp : rdP n r left v
  · simp only [hp, Bool.false_eq_true, if_false] at h
    exact ⟨0, 0, 0, 0, _, h, hb⟩
  · simp only [hp, if_true] at h
    obtain ⟨g, c, h1, _⟩ := h
    exact ⟨_, _, _, _, _, h1, hb⟩

theorem GOwn.keep {w w' : World} {base g n c : Nat} {f : Nat → Nat} (h : GOwn w base (.slice (some ⟨g, 0, none⟩) n c) n f) (h2 : w'.heap[g]? = w.heap[g]?) : GOwn w' base (.slice (some ⟨g, 0, none⟩) n c) n f :=
  ⟨h.1, h.2.imp_right fun ⟨g', cap, cur, hv, hg, hh, r⟩ => ⟨g', cap, cur, hv, hg, by
    have e : g = g' := by simp only [Value.slice.injEq, Option.some.injEq, Addr.mk.injEq] at hv; exact hv.1.1
    rw [← e, h2, e]; exact hh, r⟩⟩
set_option maxRecDepth 100000 in
set_option maxHeartbeats 4000000 in
theorem ReduceR_any {n : Nat} {r : Nat → Nat} {a : Option Addr} {w : World} (T : Tn w a n r) (cap : Nat) :
    Calls Tryd.prog 35 #[.slice a n cap] w fun e w' => RedRPost n r w.heap.size e w' ∧ Below w.heap.size w w' := by
  have hn8 := T.le
  have hn1 := T.at_.pos
  have h8 := pow_le8 hn8
  obtain ⟨i1, hi1, hy1, hy2, hy3⟩ := info_parts info_stepR
  have HBD := Lib.hid T.bd
  obtain ⟨bt, ot, rfl, hbt, hct⟩ := T.at_.ints.2 hn1
  have HCT := Lib.hid hct
  have hpp := pow_pred n
  have h2n := Nat.two_pow_pos n
  have hpb := pow_bd n (by omega)
  obtain ⟨P, hP⟩ : ∃ P, P = 2 ^ n - 1 := ⟨_, rfl⟩
  have HR0 : Hid (refT n r 0 = some (r, P, [])) := Lib.hid (by rw [hP]; rfl)
  have hPn : P < 2 ^ n := by omega
  rw [← hP] at hpp
  clear T hct hP
  go_enter Tryd.func35, Tryd.ntmps35
  go_wp2_with fail
  go_loopw [0, 4, 5] (fun gv lst lv wr => ∃ (k b off c left : Nat) (q : Nat → Nat) (L : List StZ), gv = .slice (some ⟨b, off, none⟩) n c ∧ lv = .int .i64 left ∧ refT n r k = some (q, left, L) ∧ L.length ≤ n ∧ (∀ i, i < n → q i < 2 ^ n) ∧ left < 2 ^ n ∧ L.length + szS n left ≤ n ∧ b < wr.heap.size ∧ (∀ i, i < n → wr.cell? ⟨b, off + i, none⟩ = some (.int .i64 (q i : Nat))) ∧ StepsOwn 51 wr w.heap.size lst L ∧ Below w.heap.size w wr) (fun _ _ lv _ => (intOf lv).toNat)
  case atStart => exact ⟨0, bt, ot, cap, P, r, [], rfl, by first | rfl | (rw [← hpp]; try rfl) | go_num, HR0.out, by simp, HBD.out, hPn, by simpa using szS_le n P, hbt, HCT.out, StepsOwn.nil _ _ _, Below.refl _ _⟩
  case round =>
    obtain ⟨k, b, off, c, left, q, L, rfl, rfl, hrt, hLn, hq, hl, hsz, hb, hcq, hS, hB⟩ := hrel
    have HRT := Lib.hid hrt
    have HQ := Lib.hid hq
    have HCQ := Lib.hid hcq
    have HS := Lib.hid hS
    have HB := Lib.hid hB
    obtain ⟨al, cl, hle⟩ := own_form hS
    clear hrt hq hcq hS hB HR0 HBD HCT
    subst hle
    by_cases h0 : left = 0
    · subst h0
      go_wp2_with fail
      exact bodyPost_ret (results_tmp2 rfl _ _ _) rfl ⟨Or.inl ⟨k, q, L, _, HRT.out, rfl, HS.out⟩, HB.out⟩
    · have d0 : (((left : Nat) : Int) != 0) = true := by simp; omega
      have d1 : (left != 0) = true := by simp; omega
      go_wp2_with fail
      go_loopw [0, 4, 5, 6, 19] (fun gv lst lv dn i wy => ∃ (y b' off' c' : Nat), y ≤ n ∧ i = .int .i64 y ∧ gv = .slice (some ⟨b', off', none⟩) n c' ∧ lv = .int .i64 ((inT n q left L y).2.1 : Nat) ∧ dn = .bool (inT n q left L y).2.2.2 ∧ b' < wy.heap.size ∧ (∀ i, i < n → wy.cell? ⟨b', off' + i, none⟩ = some (.int .i64 ((inT n q left L y).1 i : Nat))) ∧ StepsOwn 51 wy w.heap.size lst (inT n q left L y).2.2.1 ∧ Below w.heap.size w wy) (fun _ _ _ _ i _ => n - (intOf i).toNat)
      case atStart => exact ⟨0, b, off, c, Nat.zero_le _, rfl, rfl, rfl, rfl, hb, HCQ.out, HS.out, HB.out⟩
      case round =>
        clear HS HB HCQ
        obtain ⟨y, b', off', c', hy, rfl, rfl, rfl, rfl, hb', hc', hS', hB'⟩ := hrel
        have HC' := Lib.hid hc'
        have HS' := Lib.hid hS'
        have HB' := Lib.hid hB'
        have hin1 : ∀ (x : Nat), fstY n q left y = some x → inT n q left L y = (rdF n q left x, diff left (2 ^ x), L ++ [rdZ n q left x], true) := fun x h => by unfold inT; rw [h]
        have hin0 : fstY n q left y = none → inT n q left L y = (q, left, L, false) := fun h => by unfold inT; rw [h]
        have hsu : inT n q left L (y + 1) = match fstY n q left y with | some x => (rdF n q left x, diff left (2 ^ x), L ++ [rdZ n q left x], true) | none => if rdP n q left y then (rdF n q left y, diff left (2 ^ y), L ++ [rdZ n q left y], true) else (q, left, L, false) := by
          unfold inT
          rw [fstY_succ]
          cases fstY n q left y with
          | some x => rfl
          | none => cases rdP n q left y <;> rfl
        clear hc' hS' hB'
        by_cases hly : y < n
        · cases hf : fstY n q left y with
          | some x =>
            obtain ⟨hxy, _⟩ := fstY_some hf
            have hI := hin1 x hf
            have HNX : Hid (inT n q left L (y + 1) = (rdF n q left x, diff left (2 ^ x), L ++ [rdZ n q left x], true)) := Lib.hid (by rw [hsu, hf])
            rw [hI] at HC' HS' ⊢
            obtain ⟨avv, cvv, hve⟩ := own_form HS'.out
            have HRD := Lib.hid (reducedR_skip (cap := c') hn1 hn8 hb' HC'.out (rdF_lt (left := left) hn8 HQ.out (show x < n by omega)) (show diff left (2 ^ x) < 2 ^ n from Nat.lt_of_le_of_lt (diff_le _ _) hl) hly)
            rw [List.length_append] at hve
            subst hve
            clear hin0 hin1 hsu hf hI
            go_wp2_with (go_at_call 71; refine HRD.out.mono ?_; rintro e w5 ⟨k1, k2, k3, k4, sv, rfl, hb5⟩; have HB5 := Lib.hid hb5; clear hb5)
            all_goals
              go_roundw
              case rel => exact ⟨y + 1, b', off', c', by omega, by go_num, rfl, by rw [HNX.out], by rw [HNX.out], Nat.lt_of_lt_of_le hb' (HB5.out.alloc HB5.out.size _).size, fun i hi => by rw [HNX.out, (HB5.out.alloc HB5.out.size _).cell (p := ⟨b', off' + i, none⟩) hb']; exact HC'.out i hi, by rw [HNX.out]; exact HS'.out.below (HB5.out.alloc HB5.out.size _), HB'.out.trans ((HB5.out.alloc HB5.out.size _).mono HB'.out.size)⟩
              case measure => simp [intOf]; omega
          | none =>
            have hI := hin0 hf
            rw [hI] at HC' HS' ⊢
            obtain ⟨avv, cvv, hve⟩ := own_form HS'.out
            subst hve
            cases hp : rdP n q left y
            · have HNX : Hid (inT n q left L (y + 1) = (q, left, L, false)) := Lib.hid (by rw [hsu, hf]; simp only [hp]; rfl)
              have HRD := Lib.hid (reducedR_skip (cap := c') hn1 hn8 hb' HC'.out HQ.out hl hly)
              rw [hp] at HRD
              clear hin0 hin1 hsu hf hI hp
              go_wp2_with (go_at_call 71; refine HRD.out.mono ?_; rintro e w5 ⟨k1, k2, k3, k4, sv, rfl, hb5⟩; have HB5 := Lib.hid hb5; clear hb5)
              all_goals
                go_roundw
                case rel => exact ⟨y + 1, b', off', c', by omega, by go_num, rfl, by rw [HNX.out], by rw [HNX.out], Nat.lt_of_lt_of_le hb' (HB5.out.alloc HB5.out.size _).size, fun i hi => by rw [HNX.out, (HB5.out.alloc HB5.out.size _).cell (p := ⟨b', off' + i, none⟩) hb']; exact HC'.out i hi, by rw [HNX.out]; exact HS'.out.below (HB5.out.alloc HB5.out.size _), HB'.out.trans ((HB5.out.alloc HB5.out.size _).mono HB'.out.size)⟩
                case measure => simp [intOf]; omega
            · have HNX : Hid (inT n q left L (y + 1) = (rdF n q left y, diff left (2 ^ y), L ++ [rdZ n q left y], true)) := Lib.hid (by rw [hsu, hf]; simp only [hp]; rfl)
              obtain ⟨kz, az, bz, hz⟩ := rdZ_form n q left y
              have HZ := Lib.hid hz
              have HRD : Hid (Calls Tryd.prog 71 #[.slice (some ⟨b', off', none⟩) n c', .int .i64 left, .int .i64 y] wr fun e w' => ∃ g c2, e = .returned (.tuple #[.agg #[.int .i64 kz, .int .i64 (y : Nat), .int .i64 az, .int .i64 bz], .slice (some ⟨g, 0, none⟩) n c2, .bool true]) ∧ GOwn w' wr.heap.size (.slice (some ⟨g, 0, none⟩) n c2) n (rdF n q left y) ∧ Below wr.heap.size wr w') := Lib.hid ((reducedR_any (cap := c') hn1 hn8 hb' HC'.out HQ.out hl hly).mono fun e w' ⟨h, hb⟩ => by
                simp only [hp, if_true] at h
                obtain ⟨g, c2, h1, h2⟩ := h
                rw [hz] at h1
                exact ⟨g, c2, h1, h2, hb⟩)
              have hl16 : left < 65536 := by omega
              have hy16 : y < 16 := by omega
              have hpv := pow_bd y hy16
              have han := i64_andNot_pow left y hl16 hy16
              have han2 : bits .andNot .i64 ((left : Nat) : Int) (IntKind.i64.wrap ((2 : Int) ^ y)) = ((diff left (2 ^ y) : Nat) : Int) := by rw [IntWalk.i64_in ((2 : Int) ^ y) (by omega)]; exact han
              have hsw := HB'.out.size
              clear hin0 hin1 hsu hf hI hp hz
              go_wp2_with (first
                | (at_builtin; refine wpList_append_own _ rfl _ _ 41 rfl w.heap.size 51 i1 (.agg #[.int .i64 0, .int .i64 0, .int .i64 0, .int .i64 0]) 4 32 Tryd.underlying41 hi1 hy1 hy2 hy3 rfl (by decide) _ _ _ rfl (World.ownsRow.alloc (show World.ownsRow _ w.heap.size 51 4 _ L.length (stL L) from HS6.out) _) ⟨_, 0, none⟩ 1 1 [.int .i64 kz, .int .i64 (y : Nat), .int .i64 az, .int .i64 bz] rfl rfl ?c1 ?c2 ?c3 ?c4 ?c5 ?_)
                | (go_at_call 71; refine HRD.out.mono ?_; rintro e w5 ⟨g, c2, rfl, ho5, hb5⟩; obtain ⟨w6, hw6, r6, hb6, hs6⟩ := new1 w5 51 [.int .i64 kz, .int .i64 (y : Nat), .int .i64 az, .int .i64 bz]; have hW6 := hw6.symm; have z0 := r6.cell (i := 0) rfl; have z1 := r6.cell (i := 1) rfl; have z2 := r6.cell (i := 2) rfl; have z3 := r6.cell (i := 3) rfl; have HB6 := Lib.hid (hb5.trans (hb6.mono hb5.size)); have HO6 : Hid (GOwn w6 wr.heap.size (.slice (some ⟨g, 0, none⟩) n c2) n (rdF n q left y)) := Lib.hid (ownsRow_below ho5 hb6 (Nat.le_refl _)); have HS6 := Lib.hid (HS'.out.below HB6.out); clear hb5 hb6 hw6 r6 ho5))
              case c1 => exact cells_new _ _ _
              case c2 => intro u hu; simp at hu; rcases hu with rfl | rfl | rfl | rfl <;> rfl
              case c3 => unfold maxLen; omega
              case c4 => omega
              case c5 => have h1 := HB6.out.size; simp; omega
              intro v6 w7 hown6 hg6 _
              have HO7 : Hid (StepsOwn 51 w7 w.heap.size v6 (L ++ [rdZ n q left y])) := Lib.hid (StepsOwn.snoc (by rw [HZ.out]; exact hown6))
              have hbl : Below wr.heap.size wr (w6.alloc (.cells #[.int .i64 kz, .int .i64 (y : Nat), .int .i64 az, .int .i64 bz] 51)) := HB6.out.alloc HB6.out.size _
              have hbw := (HB'.out.trans (hbl.mono HB'.out.size)).grown hg6 (by have h1 := HB6.out.size; simp; omega) (fun bb hbb => (World.ownsRow.lt (show World.ownsRow _ _ _ _ _ _ _ from HS6.out) bb hbb).1)
              obtain ⟨hgge, hglt⟩ := World.ownsRow.lt HO6.out g rfl
              have HG7 : Hid (GOwn w7 wr.heap.size (.slice (some ⟨g, 0, none⟩) n c2) n (rdF n q left y)) := Lib.hid (GOwn.keep HO6.out ((hg6.block g (by simp; omega) (fun e => by have := (World.ownsRow.lt (show World.ownsRow _ _ _ _ _ _ _ from HS'.out) g e.symm).2; omega)).trans (Below.heap_alloc _ _ _ hglt)))
              have HBW := Lib.hid hbw
              clear hown6 hg6 hbl hbw
              go_wp2_with fail
              go_roundw
              case rel => exact ⟨y + 1, g, 0, c2, by omega, by go_num, rfl, by rw [HNX.out], by rw [HNX.out], (World.ownsRow.lt HG7.out g rfl).2, fun i hi => by rw [HNX.out, Nat.zero_add]; exact HG7.out.at_ hi, by rw [HNX.out]; exact HO7.out, HBW.out⟩
              case measure => simp [intOf]; omega
        · have hye : y = n := by omega
          subst hye
          cases hf : fstY y q left y with
          | none =>
            have hI := hin0 hf
            rw [hI]
            have HN := Lib.hid hf
            clear hin0 hin1 hsu hf hI
            go_wp2_with fail
            exact bodyPost_ret (results_tmp2 rfl _ _ _) rfl ⟨Or.inr ⟨k, q, left, L, HRT.out, h0, HN.out, rfl⟩, HB'.out⟩
          | some x =>
            obtain ⟨hxy, hpx⟩ := fstY_some hf
            have hI := hin1 x hf
            rw [hI] at HC' HS' ⊢
            have HN : Hid (refT y r (k + 1) = some (rdF y q left x, diff left (2 ^ x), L ++ [rdZ y q left x])) := Lib.hid (by
              show (match refT y r k with | none => none | some (q, left, L) => match fstY y q left y with | none => none | some x => some (rdF y q left x, diff left (2 ^ x), L ++ [rdZ y q left x])) = _
              rw [HRT.out]
              simp only [hf])
            have hxl : left.testBit x = true := by
              unfold rdP at hpx
              rw [Bool.and_eq_true] at hpx
              exact hpx.1
            have hlt : diff left (2 ^ x) < left := by
              have h1 := or_pow_gt (gone := diff left (2 ^ x)) (v := x) diff_not
              rw [diff_or hxl] at h1
              exact h1
            have hsz1 : szS y left = szS y (diff left (2 ^ x)) + 1 := by
              have h1 := szS_add1 (S := diff left (2 ^ x)) hxy diff_not
              rw [diff_or hxl] at h1
              exact h1
            have HFB := Lib.hid (rdF_lt (left := left) hn8 HQ.out hxy)
            clear hin0 hin1 hsu hf hI
            go_wp2_with fail
            go_roundw
            case rel => exact ⟨k + 1, b', off', c', diff left (2 ^ x), rdF y q left x, L ++ [rdZ y q left x], rfl, rfl, HN.out, by rw [List.length_append]; simp; omega, HFB.out, by omega, by rw [List.length_append]; simp; omega, hb', HC'.out, HS'.out, HB'.out⟩
            case measure => simp [intOf]; omega

end Go.Proofs.YtfmppncefbjicaaDoor

namespace Go.Proofs.YtfmppncefbjicaaDoor
open Go.RowKit Go.Maps

theorem find_congr {p q : Nat → Bool} : ∀ (l : List Nat), (∀ x ∈ l, p x = q x) → l.find? p = l.find? q := by
  intro l
  induction l with
  | nil => intro _; rfl
  | cons a l ih =>
    intro h
    rw [List.find?_cons, List.find?_cons, h a (by simp), ih fun x hx => h x (by simp [hx])]
theorem fst_eq {n left : Nat} {f q : Nat → Nat} (h : RelF n left f q) : fstS n f left = fstY n q left n := by
  unfold fstS fstY
  exact find_congr _ fun x hx => rd_eq h (List.mem_range.1 hx)
theorem ref_red {n : Nat} {r : Nat → Nat} (G : Gq n r) (hn8 : n ≤ 8) : ∀ k q left L, refT n r k = some (q, left, L) → ∃ f, redT n r k = some (f, left, L) ∧ RelF n left f q ∧ ∀ i, i < n → q i < 2 ^ n := by
  intro k
  induction k with
  | zero =>
    intro q left L h
    unfold refT at h
    simp only [Option.some.injEq, Prod.mk.injEq] at h
    obtain ⟨rfl, rfl, rfl⟩ := h
    exact ⟨r, rfl, rel_start G, G.bd⟩
  | succ k ih =>
    intro q left L h
    unfold refT at h
    cases hk : refT n r k with
    | none => rw [hk] at h; cases h
    | some p =>
      obtain ⟨q0, l0, L0⟩ := p
      rw [hk] at h
      simp only at h
      cases hf : fstY n q0 l0 n with
      | none => rw [hf] at h; cases h
      | some x =>
        rw [hf] at h
        simp only [Option.some.injEq, Prod.mk.injEq] at h
        obtain ⟨rfl, rfl, rfl⟩ := h
        obtain ⟨f0, h1, h2, h3⟩ := ih _ _ _ hk
        obtain ⟨hx, hp⟩ := fstY_some hf
        obtain ⟨R, _⟩ := redT_red G hn8 k f0 l0 L0 h1
        refine ⟨doF n f0 x, ?_, rel_step hn8 R h2 h3 hx hp, rdF_lt hn8 h3 hx⟩
        unfold redT
        rw [h1]
        simp only [fst_eq h2, hf]
        rw [rz_eq hn8 h2 h3 hx hp]
theorem ref_yes {n k : Nat} {r q : Nat → Nat} {L : List StZ} (G : Gq n r) (hn8 : n ≤ 8) (h : refT n r k = some (q, 0, L)) : redG n r = some L := by
  obtain ⟨f, h1, _⟩ := ref_red G hn8 k q 0 L h
  obtain ⟨_, h2, _⟩ := redT_red G hn8 k f 0 L h1
  have h9 : szS n 0 = 0 := by unfold szS; rw [List.countP_eq_zero]; simp
  have hk : k = n := by omega
  subst hk
  unfold redG
  rw [h1]; rfl
theorem ref_no {n k left : Nat} {r q : Nat → Nat} {L : List StZ} (G : Gq n r) (hn8 : n ≤ 8) (h : refT n r k = some (q, left, L)) (h0 : left ≠ 0) (hf : fstY n q left n = none) : redG n r = none := by
  obtain ⟨f, h1, h2, _⟩ := ref_red G hn8 k q left L h
  obtain ⟨R, h3, _⟩ := redT_red G hn8 k f left L h1
  obtain ⟨x, hx⟩ := some_bit h0
  have h4 := szS_one (n := n) (bit_lt R.lt hx) hx
  have h5 : redT n r (k + 1) = none := by
    unfold redT
    rw [h1]
    simp only [fst_eq h2, hf]
  unfold redG
  rw [redT_none h5 n (by omega)]; rfl

end Go.Proofs.YtfmppncefbjicaaDoor
