/- The parts of a set of nodes; whether a set divides a graph. -/
import Derived.Test.YtbkbliieappkdaaDoorW20
import Derived.Test.YtbkbliieappkdaaDoorW9
import Derived.Test.YtbkbliieappkdaaDoorW11
namespace Go.Proofs.YtbkbliieappkdaaDoor
set_option linter.unusedSimpArgs false
set_option linter.unusedVariables false
open Go.RowKit Go.Maps
attribute [local go_sem] i64_bit toNat_eq_one toNat_ne_one toNat_eq_zero toNat_ne_zero i64_and i64_or i64_andNot i64_or_pow i64_andNot_pow

theorem NatsOwn.ints {w : World} {base : Nat} {v : Value} {L : List Nat} (h : NatsOwn w base v L) (hl : L.length ≤ 65536) : ∃ a cap, v = .slice a L.length cap ∧ IntsAt w a L.length (listZ L) := by
  by_cases h0 : L.length = 0
  · obtain ⟨a, cap, hv⟩ := own_form h
    exact ⟨a, cap, hv, ⟨by rw [h0]; decide, fun hn => absurd hn (by omega)⟩⟩
  · obtain ⟨g, cap, hv, hg1, hg2⟩ := own_form' h h0
    subst hv
    refine ⟨_, cap, rfl, ⟨by unfold maxLen; omega, fun _ => ⟨g, 0, rfl, hg2, fun i hi => ?_⟩⟩⟩
    rw [Nat.zero_add, World.ownsRow.cellAt h i (by omega), List.getElem?_map, List.getElem?_eq_getElem hi]
    unfold listZ
    rw [List.getD_eq_getElem?_getD, List.getElem?_eq_getElem hi]
    rfl

def SymG (n : Nat) (r : Nat → Nat) : Prop := ∀ u x, u < n → x < n → (r u).testBit x = (r x).testBit u

/-- A list of the parts of a set. -/
structure PartsOf (n : Nat) (r : Nat → Nat) (R : Nat) (L : List Nat) : Prop where
  each : ∀ P ∈ L, ∃ v, v < n ∧ R.testBit v = true ∧ P = partS n r R v
  all : ∀ u, u < n → R.testBit u = true → ∃ P ∈ L, P.testBit u = true
/-- What holds while they are taken off one by one. -/
structure Taking (n : Nat) (r : Nat → Nat) (R C : Nat) (L : List Nat) : Prop where
  lt : C < 2 ^ n
  sub : ∀ i, C.testBit i = true → R.testBit i = true
  closed : ∀ u, u < n → C.testBit u = true → ∀ x, (r u).testBit x = true → R.testBit x = true → C.testBit x = true
  each : ∀ P ∈ L, ∃ v, v < n ∧ R.testBit v = true ∧ P = partS n r R v
  all : ∀ u, u < n → R.testBit u = true → C.testBit u = true ∨ ∃ P ∈ L, P.testBit u = true
  len : L.length + szS n C ≤ n
theorem Taking.start {n : Nat} {r : Nat → Nat} {R : Nat} (h : R < 2 ^ n) : Taking n r R R [] :=
  ⟨h, fun _ h => h, fun _ _ _ _ _ h => h, by simp, fun _ _ h => Or.inl h, by simpa using szS_le n R⟩
theorem bit_lt {n x i : Nat} (h : x < 2 ^ n) (hb : x.testBit i = true) : i < n := by
  apply Classical.byContradiction
  intro hi
  have := Nat.testBit_lt_two_pow (i := i) (Nat.lt_of_lt_of_le h (Nat.pow_le_pow_right (by omega) (by omega)))
  rw [this] at hb; cases hb
theorem Taking.part {n : Nat} {r : Nat → Nat} {R C : Nat} {L : List Nat} (h : Taking n r R C L) (hr : ∀ i, i < n → r i < 2 ^ n) {v : Nat} (hv : C.testBit v = true) : partS n r C v = partS n r R v := by
  have hvn := bit_lt h.lt hv
  refine partS_is hvn hr partS_self ?_ ?_
  · intro i hi
    exact metIn_in (fun i h => metIn_sub n i h) (fun u hu hX x h1 h2 => partS_closed hvn hr u hu hX x h1 (h.sub x h2)) n i hi
  · intro u hu h1 x h2 h3
    have hC : C.testBit u = true := by
      rcases partS_in h1 with h4 | h4
      · rw [h4]; exact hv
      · exact h4
    exact partS_closed hvn hr u hu h1 x h2 (h.closed u hu hC x h2 h3)
theorem Taking.step {n : Nat} {r : Nat → Nat} {R C : Nat} {L : List Nat} (h : Taking n r R C L) (hr : ∀ i, i < n → r i < 2 ^ n) (hs : SymG n r) {v : Nat} (hv : C.testBit v = true) : Taking n r R (diff C (partS n r C v)) (L ++ [partS n r C v]) := by
  have hvn := bit_lt h.lt hv
  have hself := partS_self (r := r) (n := n) (set := C) (v := v)
  refine ⟨Nat.lt_of_le_of_lt (diff_le _ _) h.lt, fun i hi => ?_, fun u hu h1 x h2 h3 => ?_, fun P hP => ?_, fun u hu h1 => ?_, ?_⟩
  · rw [testBit_diff, Bool.and_eq_true] at hi
    exact h.sub i hi.1
  · rw [testBit_diff, Bool.and_eq_true] at h1
    have hx := h.closed u hu h1.1 x h2 h3
    have hxn := bit_lt h.lt hx
    rw [testBit_diff, hx]
    cases hp : (partS n r C v).testBit x
    · rfl
    · have := partS_closed (set := C) hvn hr x hxn hp u (by rw [← hs u x hu hxn]; exact h2) h1.1
      rw [this] at h1
      simp at h1
  · rcases List.mem_append.1 hP with hP | hP
    · exact h.each P hP
    · rw [List.mem_singleton.1 hP]
      exact ⟨v, hvn, h.sub v hv, h.part hr hv⟩
  · rcases h.all u hu h1 with h2 | ⟨P, h2, h3⟩
    · cases hp : (partS n r C v).testBit u
      · left
        rw [testBit_diff, h2, hp]; rfl
      · exact Or.inr ⟨_, List.mem_append.2 (Or.inr (List.mem_singleton.2 rfl)), hp⟩
    · exact Or.inr ⟨P, List.mem_append.2 (Or.inl h2), h3⟩
  · have hlt : szS n (diff C (partS n r C v)) < szS n C := szS_lt (fun i _ hi => by
      rw [testBit_diff, Bool.and_eq_true] at hi
      exact hi.1) hvn (by rw [testBit_diff, hself]; simp) hv
    have := h.len
    rw [List.length_append, List.length_singleton]
    omega
theorem Taking.done {n : Nat} {r : Nat → Nat} {R : Nat} {L : List Nat} (h : Taking n r R 0 L) : PartsOf n r R L :=
  ⟨h.each, fun u hu h1 => by
    rcases h.all u hu h1 with h2 | h2
    · simp at h2
    · exact h2⟩
theorem Taking.plt {n : Nat} {r : Nat → Nat} {R C : Nat} {L : List Nat} (h : Taking n r R C L) (hr : ∀ i, i < n → r i < 2 ^ n) : ∀ P ∈ L, P < 2 ^ n := fun P hP => by
  obtain ⟨v, hv, _, rfl⟩ := h.each P hP
  exact partS_lt hv hr

/-- Whether no connected set without some nodes has more than half of all nodes, for the first nodes. -/
def dvTo (n : Nat) (r : Nat → Nat) (s : Nat) : Nat → Bool
  | 0 => true
  | j + 1 => dvTo n r s j && (s.testBit j || decide (2 * szS n (partS n r (diff (2 ^ n - 1) s) j) ≤ n))
theorem dvTo_iff {n : Nat} {r : Nat → Nat} {s : Nat} : ∀ k, dvTo n r s k = true ↔ ∀ v, v < k → s.testBit v = false → 2 * szS n (partS n r (diff (2 ^ n - 1) s) v) ≤ n := by
  intro k
  induction k with
  | zero => simp [dvTo]
  | succ k ih =>
    unfold dvTo
    rw [Bool.and_eq_true, Bool.or_eq_true, ih, decide_eq_true_eq]
    constructor
    · rintro ⟨h1, h2⟩ v hv hs
      rcases Nat.lt_succ_iff_lt_or_eq.1 hv with h3 | h3
      · exact h1 v h3 hs
      · subst h3
        rcases h2 with h2 | h2
        · rw [hs] at h2; cases h2
        · exact h2
    · intro h
      refine ⟨fun v hv hs => h v (by omega) hs, ?_⟩
      cases hs : s.testBit k
      · exact Or.inr (h k (by omega) hs)
      · exact Or.inl rfl
theorem testBit_rest {n s i : Nat} : (diff (2 ^ n - 1) s).testBit i = (decide (i < n) && !s.testBit i) := by
  rw [testBit_diff, Nat.testBit_two_pow_sub_one]
theorem parts_dv {n : Nat} {r : Nat → Nat} {s : Nat} {L : List Nat} (hr : ∀ i, i < n → r i < 2 ^ n) (h : PartsOf n r (diff (2 ^ n - 1) s) L) : (∀ P ∈ L, 2 * szS n P ≤ n) ↔ dvTo n r s n = true := by
  rw [dvTo_iff]
  constructor
  · intro hall v hv hs
    obtain ⟨P, hP, hb⟩ := h.all v hv (by rw [testBit_rest, decide_eq_true hv, hs]; rfl)
    obtain ⟨u, hu, _, rfl⟩ := h.each P hP
    have hsub : szS n (partS n r (diff (2 ^ n - 1) s) v) ≤ szS n (partS n r (diff (2 ^ n - 1) s) u) := szS_mono fun i _ hi =>
      metIn_in (fun i h => by
        rw [Nat.testBit_two_pow] at h
        have : v = i := of_decide_eq_true h
        subst this; exact hb) (partS_closed hu hr) n i hi
    have := hall _ hP
    omega
  · intro hall P hP
    obtain ⟨u, hu, h1, rfl⟩ := h.each P hP
    rw [testBit_rest, Bool.and_eq_true] at h1
    exact hall u hu (by simpa using h1.2)

def PartsPost (n : Nat) (r : Nat → Nat) (R : Nat) (w : World) (e : Ending) (w' : World) : Prop :=
  ∃ v L, e = .returned v ∧ NatsOwn w' w.heap.size v L ∧ PartsOf n r R L ∧ L.length ≤ n ∧ (∀ P ∈ L, P < 2 ^ n) ∧ Below w.heap.size w w'

set_option maxRecDepth 20000 in
set_option maxHeartbeats 4000000 in
theorem parts_any {n : Nat} {r : Nat → Nat} {a : Option Addr} {w : World} (G : Gr w a n r) (hs : SymG n r) (cap : Nat) (R : Nat) (hR : R < 2 ^ n) (hT : HasTab w) :
    Calls Tryd.prog 78 #[.slice a n cap, .int .i64 R] w (PartsPost n r R w) := by
  obtain ⟨i0, hi0, hz1, hz2, hz3⟩ := info_parts info_int
  have hle := G.le
  have h9 := pow_le9 hle
  have HG := Lib.hid G
  have HT := Lib.hid hT
  have HS := Lib.hid hs
  have HST : Hid (Taking n r R R []) := Lib.hid (Taking.start hR)
  clear G hT hs hR
  go_enter Tryd.func78, Tryd.ntmps78
  go_wp2_with fail
  go_loopw [1, 5] (fun c o wr => ∃ (C : Nat) (L : List Nat) (ov : Value), c = .int .i64 (C : Nat) ∧ ov = o ∧ NatsOwn wr w.heap.size ov L ∧ Taking n r R C L ∧ Below w.heap.size w wr) (fun c _ _ => (intOf c).toNat)
  case atStart => exact ⟨R, [], _, rfl, rfl, ⟨rfl, Or.inl ⟨rfl, rfl⟩⟩, HST.out, Below.refl _ _⟩
  case round =>
    clear HST
    obtain ⟨C, L, ov, rfl, rfl, hown, htk, hbel⟩ := hrel
    have HOW := Lib.hid hown
    have HTK := Lib.hid htk
    have HB := Lib.hid hbel
    have hC := htk.lt
    have hlen := htk.len
    have hsz := hbel.size
    clear hown htk hbel
    by_cases h0 : C = 0
    · subst h0
      go_wp2_with fail
      go_ret
      exact ⟨_, L, rfl, HOW.out, HTK.out.done, by omega, HTK.out.plt HG.out.bd, HB.out⟩
    · have hC0 : 0 < C := by omega
      have hC9 : C < 512 := by omega
      have hq : ((C : Int) != 0) = true := by simp; omega
      have hlow := lowB_lt hle hC0 hC
      have hbit := (lowB_all C hC9 hC0).2.1
      have HC2 := Lib.hid hC
      have HBT := Lib.hid hbit
      have HTZ : Hid (∀ w, HasTab w → Calls Tryd.prog 75 #[.int .u64 C] w fun e w' => e = .returned (.int .i64 (lowB C : Nat)) ∧ w = w') := Lib.hid (fun w h => tz_any C hC9 hC0 w h)
      have hP16 : partS n r C (lowB C) < 65536 := lt16 hle (partS_lt hlow HG.out.bd)
      have hC16 : C < 65536 := by omega
      have HGW := Lib.hid (HG.out.below HB.out)
      have HTW := Lib.hid (HT.out.below HB.out)
      have HNX := Lib.hid (HTK.out.step HG.out.bd HS.out hbit)
      have HDL : Hid (diff C (partS n r C (lowB C)) < C) := Lib.hid (by
        rcases Nat.lt_or_eq_of_le (diff_le C (partS n r C (lowB C))) with h | h
        · exact h
        · exfalso
          have h1 : (diff C (partS n r C (lowB C))).testBit (lowB C) = false := by rw [testBit_diff, partS_self]; simp
          rw [h, hbit] at h1; cases h1)
      clear hbit hC h0
      generalize lowB C = lo at *
      generalize hP : partS n r C lo = P at *
      have HP := Lib.hid hP
      clear hP
      go_wp2_with (first
        | (go_at_call 75; refine (HTZ.out _ HTW.out).mono ?_; rintro e w2 ⟨rfl, rfl⟩)
        | (go_at_call 74; refine (part_any HGW.out cap lo C hlow HC2.out).mono ?_; rintro e w3 ⟨rfl, rfl⟩; rw [HP.out])
        | (at_builtin; refine wpList_append_own _ rfl _ _ 22 rfl w.heap.size 3 i0 (.int .i64 0) 1 8 Tryd.underlying22 hi0 hz1 hz2 hz3 rfl (by decide) _ _ _ rfl (World.ownsRow.alloc HOW.out _) ⟨_, 0, none⟩ 1 1 [.int .i64 P] rfl rfl ?c1 ?c2 ?c3 ?c4 ?c5 ?_))
      case c1 => exact cells_new _ _ _
      case c2 => intro u hu; simp at hu; subst hu; rfl
      case c3 => unfold maxLen; omega
      case c4 => omega
      case c5 => simp; omega
      intro v' w9 hown1 hg1 _
      have HO9 : Hid (NatsOwn w9 w.heap.size v' (L ++ [P])) := Lib.hid (by
        unfold NatsOwn
        rw [List.length_append, List.map_append]
        exact hown1)
      have hrow : ∀ k, ov.ownBlock = some k → w.heap.size ≤ k := fun k hk => (World.ownsRow.lt HOW.out k hk).1
      have HB9 := Lib.hid ((HB.out.alloc HB.out.size (.cells #[.int .i64 (P : Nat)] 3)).grown hg1 (by simp; omega) hrow)
      clear hown1 hg1 hrow
      go_wp2_with fail
      go_roundw
      case rel => exact ⟨diff C P, L ++ [P], v', rfl, rfl, HO9.out, HNX.out, HB9.out⟩
      case measure => simpa [intOf] using HDL.out

set_option maxRecDepth 20000 in
set_option maxHeartbeats 4000000 in
theorem divides_any {n : Nat} {r : Nat → Nat} {a : Option Addr} {w : World} (G : Gr w a n r) (hs : SymG n r) (cap : Nat) (s : Nat) (hsn : s < 2 ^ n) (hT : HasTab w) :
    Calls Tryd.prog 51 #[.slice a n cap, .int .i64 s] w fun e w' => e = .returned (.bool (dvTo n r s n)) ∧ Below w.heap.size w w' := by
  have hle := G.le
  have hn16 : n < 16 := by omega
  have hpn := pow_bd n hn16
  have h1 := Nat.one_le_two_pow (n := n)
  have h9 := pow_le9 hle
  obtain ⟨N, hN⟩ : ∃ N : Nat, N = 2 ^ n - 1 := ⟨_, rfl⟩
  have hcast : ((2 : Int) ^ n - 1) = (N : Int) := by rw [pow_cast, hN]; omega
  have HC := Lib.hid hcast
  have HN := Lib.hid hN
  have hR2 : diff N s < 2 ^ n := Nat.lt_of_le_of_lt (diff_le _ _) (by omega)
  have HR2 := Lib.hid hR2
  have hN16 : N < 65536 := by omega
  have hs16 : s < 65536 := by omega
  have HG := Lib.hid G
  have HT := Lib.hid hT
  have HS := Lib.hid hs
  clear G hT hs hN hcast hR2 h9
  go_enter Tryd.func51, Tryd.ntmps51
  go_wp2_with (first
    | (go_at_call 77; refine (all_any _ _ _ _ hn16).mono ?_; rintro e wz ⟨rfl, rfl⟩; rw [HC.out])
    | (go_at_call 78; refine (parts_any HG.out HS.out cap (diff N s) HR2.out HT.out).mono ?_; rintro e w2 ⟨v, L, rfl, hown, hpo, hlen, hlt, hb2⟩; obtain ⟨al, cl, rfl, hil⟩ := NatsOwn.ints hown (by omega); have HIL := Lib.hid hil; have HPO := Lib.hid hpo; have HLT := Lib.hid hlt; have HB2 := Lib.hid hb2; clear hown hpo hlt hb2 hil))
  go_loopw [14] (fun i wr => ∃ k : Nat, k ≤ L.length ∧ i = .int .i64 k ∧ (∀ j, j < k → 2 * szS n (L.getD j 0) ≤ n) ∧ w2 = wr) (fun i _ => L.length - (intOf i).toNat)
  case atStart => exact ⟨0, Nat.zero_le _, rfl, by omega, rfl⟩
  case round =>
    obtain ⟨k, hk, rfl, hall, rfl⟩ := hrel
    have HALL := Lib.hid hall
    clear hall
    by_cases hlk : k < L.length
    · obtain ⟨b, off, rfl, hb, hc⟩ := HIL.out.2 (by omega)
      have ck := hc k hlk
      have hmem : L.getD k 0 ∈ L := by
        rw [List.getD_eq_getElem?_getD, List.getElem?_eq_getElem hlk]; exact List.getElem_mem hlk
      obtain ⟨P, hP⟩ : ∃ P, P = L.getD k 0 := ⟨_, rfl⟩
      have hz : listZ L k = (P : Nat) := by unfold listZ; rw [hP]
      rw [hz] at ck
      have HP2 : Hid (P < 2 ^ n) := Lib.hid (by rw [hP]; exact HLT.out _ hmem)
      have hsz := szS_le n P
      have HMEM : Hid (P ∈ L) := Lib.hid (by rw [hP]; exact hmem)
      have HPE := Lib.hid hP
      clear hc hmem hz hP
      by_cases hq : 2 * szS n P ≤ n
      · have hq' : ¬ (n : Int) < 2 * (szS n P : Int) := by omega
        have HQ := Lib.hid hq
        clear hq
        go_wp2_with (go_at_call 44; refine (count_any hle P HP2.out _).mono ?_; rintro e w4 ⟨rfl, rfl⟩)
        go_roundw
        case rel => exact ⟨k + 1, by omega, by go_num, fun j hj => by rcases Nat.lt_succ_iff_lt_or_eq.1 hj with h | h; exact HALL.out j h; rw [h, ← HPE.out]; exact HQ.out, by trivial⟩
        case measure => simp [intOf]; omega
      · have hq' : (n : Int) < 2 * (szS n P : Int) := by omega
        have HF : Hid (dvTo n r s n = false) := Lib.hid (Bool.eq_false_iff.2 fun h => by
          have h2 := (parts_dv HG.out.bd (by rw [← HN.out]; exact HPO.out)).2 h P HMEM.out
          omega)
        clear hq
        go_wp2_with (go_at_call 44; refine (count_any hle P HP2.out _).mono ?_; rintro e w4 ⟨rfl, rfl⟩)
        go_ret
        exact ⟨by rw [HF.out]; rfl, HB2.out⟩
    · have hke : k = L.length := by omega
      subst hke
      have HF : Hid (dvTo n r s n = true) := Lib.hid ((parts_dv HG.out.bd (by rw [← HN.out]; exact HPO.out)).1 (fun P hP => by
        obtain ⟨i, hi, he⟩ := List.mem_iff_getElem.1 hP
        have := HALL.out i hi
        rw [List.getD_eq_getElem?_getD, List.getElem?_eq_getElem hi, Option.getD_some, he] at this
        exact this))
      go_wp2_with fail
      go_ret
      exact ⟨by rw [HF.out]; rfl, HB2.out⟩

end Go.Proofs.YtbkbliieappkdaaDoor
