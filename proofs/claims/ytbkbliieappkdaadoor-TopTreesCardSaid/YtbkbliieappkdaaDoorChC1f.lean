/- The contracts of package chase's game: choicesOf, newGame. -/
import Derived.Test.YtbkbliieappkdaaDoorChC1e
namespace Go.Proofs.YtbkbliieappkdaaDoor.Ch
set_option linter.unusedSimpArgs false
set_option linter.unusedVariables false
open Go.RowKit Go.Maps
attribute [local go_sem] i64_bit toNat_eq_one toNat_ne_one toNat_eq_zero toNat_ne_zero i64_and i64_or i64_andNot i64_or_pow i64_andNot_pow

theorem info_pair : (Tryd.prog.info? 74).map (fun i => (i.zero, i.size, i.bytes)) = some (some (.agg #[.int .i64 0, .int .i64 0]), 2, 16) := by kernel_rfl

/-- The cells of a slice of pairs. -/
def pairCells (L : List (Nat × Nat)) : List Value := L.flatMap fun ab => [.int .i64 ab.1, .int .i64 ab.2]
theorem pairCells_snoc (L : List (Nat × Nat)) (a b : Nat) : pairCells (L ++ [(a, b)]) = pairCells L ++ [.int .i64 a, .int .i64 b] := by
  simp [pairCells]
theorem pairCells_length (L : List (Nat × Nat)) : (pairCells L).length = L.length * 2 := by
  induction L with
  | nil => rfl
  | cons x L ih => simp [pairCells] at *; omega
theorem pairCells_get (L : List (Nat × Nat)) (i : Nat) (ab : Nat × Nat) (h : L[i]? = some ab) : (pairCells L)[i * 2]? = some (.int .i64 ab.1) ∧ (pairCells L)[i * 2 + 1]? = some (.int .i64 ab.2) := by
  induction L generalizing i with
  | nil => simp at h
  | cons x L ih =>
    cases i with
    | zero => simp at h; subst h; exact ⟨rfl, rfl⟩
    | succ i =>
      simp at h
      have := ih i h
      have e : (i + 1) * 2 = i * 2 + 1 + 1 := by omega
      rw [e]
      exact this

def chsLen (n k a : Nat) : Nat := if k = 2 then n - a else 1
def chsTo (n k : Nat) : Nat → List (Nat × Nat)
  | 0 => []
  | a + 1 => chsTo n k a ++ (List.range (chsLen n k a)).map fun i => (a, a + i)
theorem chsTo_eq (n k : Nat) : chsTo n k n = chs n k := by
  have h : ∀ m, chsTo n k m = (List.range m).flatMap fun a => (List.range (if k = 2 then n - a else 1)).map fun j => (a, a + j) := by
    intro m
    induction m with
    | zero => rfl
    | succ m ih => rw [List.range_succ, List.flatMap_append, ← ih]; simp [chsTo, chsLen]
  exact h n

theorem chsTo_len (n k : Nat) (hn : n < 16) (a : Nat) : (chsTo n k a).length ≤ a * 16 := by
  induction a with
  | zero => simp [chsTo]
  | succ a ih =>
    have : chsLen n k a ≤ 16 := by unfold chsLen; split <;> omega
    simp [chsTo]; omega

/-- A slice of pairs of one's own, in a block from a number on. -/
def PairsOwn (w : World) (base : Nat) (v : Value) (L : List (Nat × Nat)) : Prop := w.ownsRow base 74 2 v L.length (pairCells L)

set_option maxRecDepth 20000 in
set_option maxHeartbeats 2000000 in
theorem choicesOf_any (n k : Nat) (kI : Int) (w : World) (hn : n < 16) (hk : kI = 1 ∧ k = 1 ∨ kI = 2 ∧ k = 2) :
    Calls Tryd.prog 107 #[.int .i64 n, .int .i64 kI] w fun e w' => (∃ v, e = .returned v ∧ PairsOwn w' w.heap.size v (chs n k)) ∧ Below w.heap.size w w' := by
  obtain ⟨i0, hi0, hz0⟩ := Option.map_eq_some_iff.1 info_pair
  simp only [Prod.mk.injEq] at hz0
  obtain ⟨hz1, hz2, hz3⟩ := hz0
  go_enter Tryd.func107, Tryd.ntmps107
  go_wp2_with fail
  go_loopw [5, 10] (fun v i wr => ∃ a : Nat, a ≤ n ∧ i = .int .i64 a ∧ PairsOwn wr w.heap.size v (chsTo n k a) ∧ Below w.heap.size w wr) (fun _ i _ => n - (intOf i).toNat)
  case atStart => exact ⟨0, Nat.zero_le _, rfl, ⟨rfl, Or.inl ⟨rfl, rfl⟩⟩, Below.refl _ _⟩
  case round =>
    obtain ⟨a, ha, rfl, hown, hbel⟩ := hrel
    have HO := Lib.hid hown
    have HBE := Lib.hid hbel
    clear hown hbel
    by_cases hlt : a < n
    · have hst : chsTo n k (a + 1) = chsTo n k a ++ (List.range (chsLen n k a)).map fun i => (a, a + i) := rfl
      have hll := chsTo_len n k hn a
      have hl1 : 1 ≤ chsLen n k a := by unfold chsLen; split <;> omega
      have hl2 : chsLen n k a ≤ 16 := by unfold chsLen; split <;> omega
      have HST := Lib.hid hst
      clear hst
      have hlast : ∃ last : Int, (if k = 2 then (n : Int) - 1 else a) = last ∧ last = a + chsLen n k a - 1 := by
        refine ⟨_, rfl, ?_⟩
        unfold chsLen; split <;> omega
      generalize chsLen n k a = len at *
      generalize chsTo n k a = L at *
      rcases hk with ⟨rfl, rfl⟩ | ⟨rfl, rfl⟩
      · simp only [if_true, if_false, show ¬ (1 : Nat) = 2 from by decide] at hlast
        obtain ⟨last, hl3, hl4⟩ := hlast
        subst hl3
        have HL4 := Lib.hid hl4
        clear hl4
        go_wp2_with fail
        go_loopw [5, 8] (fun v i wx => ∃ j b : Nat, j ≤ len ∧ Hid (b = a + j) ∧ i = .int .i64 b ∧ PairsOwn wx w.heap.size v (L ++ (List.range j).map fun i => (a, a + i)) ∧ Below w.heap.size w wx) (fun _ i _ => a + len - (intOf i).toNat)
        case atStart => exact ⟨0, a, Nat.zero_le _, Lib.hid rfl, rfl, by simpa using HO.out, HBE.out⟩
        case round =>
          clear HO HBE
          obtain ⟨j, b, hj, hbj, rfl, hown, hbel⟩ := hrel
          have HO := Lib.hid hown
          have HBE := Lib.hid hbel
          clear hown hbel
          by_cases hlj : j < len
          · have hd1 : (b : Int) ≤ a := by have h1 := hbj.out; have h2 := HL4.out; omega
            have hd4 : b < 65536 := by have h1 := hbj.out; omega
            have hsz := HBE.out.size
            have hln : (L ++ (List.range j).map fun i => (a, a + i)).length = L.length + j := by simp
            have HL := Lib.hid hln
            clear hln
            go_wp2_with (at_builtin; refine wpList_append_own _ rfl _ _ 94 rfl w.heap.size 74 i0 (.agg #[.int .i64 0, .int .i64 0]) 2 16 Tryd.underlying94 hi0 hz1 hz2 hz3 rfl (by decide) _ _ _ rfl (HO.out.alloc _) ⟨wr.heap.size, 0, none⟩ 1 1 [.int .i64 a, .int .i64 b] rfl rfl ?c1 ?c2 ?c3 ?c4 ?c5 ?_)
            case c1 => exact cells_new _ _ _
            case c2 => intro u hu; simp at hu; rcases hu with rfl | rfl <;> rfl
            case c3 => rw [HL.out]; unfold maxLen; omega
            case c4 => rw [HL.out]; omega
            case c5 => simp; omega
            intro v' w1 hown1 hg1 _
            have HO1 := Lib.hid hown1
            have HG1 := Lib.hid hg1
            clear hown1 hg1
            go_wp2_with fail
            go_roundw
            case rel =>
              refine ⟨j + 1, b + 1, by omega, Lib.hid (by have := hbj.out; omega), by go_num, ?_, (HBE.out.alloc (by omega) _).grown HG1.out (by simp; omega) (fun k hk => (World.ownsRow.lt HO.out k hk).1)⟩
              have h3 := HO1.out
              have h4 := hbj.out
              unfold PairsOwn
              rw [List.range_succ, List.map_append, ← List.append_assoc, List.map_singleton, pairCells_snoc, ← h4, List.length_append (bs := [(a, b)]), List.length_singleton, HL.out]
              exact h3
            case measure => have := hbj.out; simp [intOf]; omega
          · have hje : j = len := by omega
            subst hje
            have hd1 : a < (b : Int) := by have h1 := hbj.out; have h2 := HL4.out; omega
            go_wp2_with fail
            go_roundw
            case rel => exact ⟨a + 1, by omega, by go_num, by rw [HST.out]; exact HO.out, HBE.out⟩
            case measure => simp [intOf]; omega
      · simp only [if_true, if_false, show ¬ (1 : Nat) = 2 from by decide] at hlast
        obtain ⟨last, hl3, hl4⟩ := hlast
        subst hl3
        have HL4 := Lib.hid hl4
        clear hl4
        go_wp2_with fail
        go_loopw [5, 8] (fun v i wx => ∃ j b : Nat, j ≤ len ∧ Hid (b = a + j) ∧ i = .int .i64 b ∧ PairsOwn wx w.heap.size v (L ++ (List.range j).map fun i => (a, a + i)) ∧ Below w.heap.size w wx) (fun _ i _ => a + len - (intOf i).toNat)
        case atStart => exact ⟨0, a, Nat.zero_le _, Lib.hid rfl, rfl, by simpa using HO.out, HBE.out⟩
        case round =>
          clear HO HBE
          obtain ⟨j, b, hj, hbj, rfl, hown, hbel⟩ := hrel
          have HO := Lib.hid hown
          have HBE := Lib.hid hbel
          clear hown hbel
          by_cases hlj : j < len
          · have hd1 : (b : Int) ≤ (n : Int) - 1 := by have h1 := hbj.out; have h2 := HL4.out; omega
            have hd4 : b < 65536 := by have h1 := hbj.out; omega
            have hsz := HBE.out.size
            have hln : (L ++ (List.range j).map fun i => (a, a + i)).length = L.length + j := by simp
            have HL := Lib.hid hln
            clear hln
            go_wp2_with (at_builtin; refine wpList_append_own _ rfl _ _ 94 rfl w.heap.size 74 i0 (.agg #[.int .i64 0, .int .i64 0]) 2 16 Tryd.underlying94 hi0 hz1 hz2 hz3 rfl (by decide) _ _ _ rfl (HO.out.alloc _) ⟨wr.heap.size, 0, none⟩ 1 1 [.int .i64 a, .int .i64 b] rfl rfl ?c1 ?c2 ?c3 ?c4 ?c5 ?_)
            case c1 => exact cells_new _ _ _
            case c2 => intro u hu; simp at hu; rcases hu with rfl | rfl <;> rfl
            case c3 => rw [HL.out]; unfold maxLen; omega
            case c4 => rw [HL.out]; omega
            case c5 => simp; omega
            intro v' w1 hown1 hg1 _
            have HO1 := Lib.hid hown1
            have HG1 := Lib.hid hg1
            clear hown1 hg1
            go_wp2_with fail
            go_roundw
            case rel =>
              refine ⟨j + 1, b + 1, by omega, Lib.hid (by have := hbj.out; omega), by go_num, ?_, (HBE.out.alloc (by omega) _).grown HG1.out (by simp; omega) (fun k hk => (World.ownsRow.lt HO.out k hk).1)⟩
              have h3 := HO1.out
              have h4 := hbj.out
              unfold PairsOwn
              rw [List.range_succ, List.map_append, ← List.append_assoc, List.map_singleton, pairCells_snoc, ← h4, List.length_append (bs := [(a, b)]), List.length_singleton, HL.out]
              exact h3
            case measure => have := hbj.out; simp [intOf]; omega
          · have hje : j = len := by omega
            subst hje
            have hd1 : (n : Int) - 1 < (b : Int) := by have h1 := hbj.out; have h2 := HL4.out; omega
            go_wp2_with fail
            go_roundw
            case rel => exact ⟨a + 1, by omega, by go_num, by rw [HST.out]; exact HO.out, HBE.out⟩
            case measure => simp [intOf]; omega
    · have : a = n := by omega
      subst this
      go_wp2_with fail
      go_ret
      exact ⟨⟨_, rfl, by rw [← chsTo_eq]; exact HO.out⟩, HBE.out⟩

theorem PairsOwn.form {w : World} {base : Nat} {v : Value} {L : List (Nat × Nat)} (h : PairsOwn w base v L) (hL : L ≠ []) : ∃ g cap, base ≤ g ∧ v = .slice (some ⟨g, 0, none⟩) L.length cap := by
  obtain ⟨_, h1 | ⟨g, cap, cur, hv, hg, _⟩⟩ := h
  · exact absurd (List.eq_nil_of_length_eq_zero h1.2) hL
  · exact ⟨g, cap, hg, hv⟩
theorem chs_ne (n k : Nat) (hn : 1 ≤ n) : chs n k ≠ [] := by
  rw [← chsTo_eq]
  obtain ⟨m, rfl⟩ : ∃ m, n = m + 1 := ⟨n - 1, by omega⟩
  intro h
  have : (chsTo (m + 1) k (m + 1)).length = 0 := by rw [h]; rfl
  simp only [chsTo, List.length_append, List.length_map, List.length_range, chsLen] at this
  split at this <;> omega
theorem chs_le (n k : Nat) (hn : n < 16) : (chs n k).length ≤ 256 := by
  rw [← chsTo_eq]
  have := chsTo_len n k hn n
  omega
theorem chs_lt (n k : Nat) (ab : Nat × Nat) (h : ab ∈ chs n k) : ab.1 < n ∧ ab.2 < n ∧ ab.1 ≤ ab.2 := by
  unfold chs at h
  simp only [List.mem_flatMap, List.mem_range, List.mem_map] at h
  obtain ⟨a, ha, j, hj, rfl⟩ := h
  split at hj <;> (dsimp only; omega)

/-- What newGame and rankedGame return: a pointer to a game of one's own and whether the arguments are valid. -/
def GamePost (n : Nat) (z : Nat → Int) (kI : Int) (F : Nat → Pl → Option Nat) (w : World) (e : Ending) (w' : World) : Prop :=
  Below w.heap.size w w' ∧
    ((townB n z = true ∧ (kI = 1 ∨ kI = 2)) → ∃ gp b cb cc mb, w.heap.size ≤ mb ∧ e = .returned (.tuple #[.pointer (some ⟨gp, 0, none⟩), .bool true]) ∧ mb ≠ gp ∧ mb ≠ b ∧ mb ≠ cb ∧
      GameAt w' gp n b cb cc mb (reachOf z) (chs n kI.toNat) (F kI.toNat)) ∧
    (¬ (townB n z = true ∧ (kI = 1 ∨ kI = 2)) → e = .returned (.tuple #[.pointer none, .bool false]))

theorem GamePost.no {n : Nat} {z : Nat → Int} {kI : Int} {F : Nat → Pl → Option Nat} {w w' : World} (hb : Below w.heap.size w w') (h : ¬ (townB n z = true ∧ (kI = 1 ∨ kI = 2))) :
    GamePost n z kI F w (.returned (.tuple #[.pointer none, .bool false])) w' := ⟨hb, fun h' => absurd h' h, fun _ => rfl⟩

theorem townB_le {n : Nat} {z : Nat → Int} (h : townB n z = true) : 1 ≤ n ∧ n ≤ 8 := by
  unfold townB at h
  simp only [Bool.and_eq_true, decide_eq_true_eq] at h
  exact h.1.1.1

set_option maxRecDepth 20000 in
set_option maxHeartbeats 2000000 in
theorem newGame_no (n : Nat) (z : Nat → Int) (kI : Int) (a : Option Addr) (cap : Nat) (w : World) (hT : IntsAt w a n z) (h : ¬ (townB n z = true ∧ (kI = 1 ∨ kI = 2))) (F : Nat → Pl → Option Nat) :
    Calls Tryd.prog 86 #[.slice a n cap, .int .i64 kI] w (GamePost n z kI F w) := by
  have HN := Lib.hid h
  have HT := Lib.hid hT
  clear hT
  cases ht : townB n z
  · have HTB := Lib.hid ht
    clear ht h
    go_enter Tryd.func86, Tryd.ntmps86
    go_wp2_with (go_at_call 59; refine (newTown_any HT.out _).mono ?_; rintro e w1 hp; obtain ⟨hb1, _, hno⟩ := hp; obtain rfl := hno HTB.out; have HB1 := Lib.hid hb1; clear hb1 hno)
    go_ret2
    exact GamePost.no (HB1.out.alloc HB1.out.size _) HN.out
  · have k1 : (kI != 1) = true := by simp only [ht, true_and] at h; simp; omega
    have k2 : (kI != 2) = true := by simp only [ht, true_and] at h; simp; omega
    have HTB := Lib.hid ht
    clear ht h
    go_enter Tryd.func86, Tryd.ntmps86
    go_wp2_with (go_at_call 59; refine (newTown_any HT.out _).mono ?_; rintro e w1 hp; obtain ⟨hb1, hyes, _⟩ := hp; obtain ⟨b, hbb, hta, rfl⟩ := hyes HTB.out; have HB1 := Lib.hid hb1; have HTA := Lib.hid hta; clear hb1 hta hyes)
    go_ret2
    exact GamePost.no (HB1.out.alloc HB1.out.size _) HN.out

theorem game_made {w2 : World} {n b cb cc base : Nat} {r : Nat → Nat} {L : List (Nat × Nat)} (T : TownAt w2 n b r) (ho : PairsOwn w2 base (.slice (some ⟨cb, 0, none⟩) L.length cc) L)
    (hL : ∀ ab ∈ L, ab.1 < n ∧ ab.2 < n) (hne : L ≠ []) (hle : L.length ≤ 256) :
    GameAt (((w2.alloc (.map #[] 0)).alloc (.cells #[.int .i64 n, .slice (some ⟨b, 0, none⟩) n n, .slice (some ⟨cb, 0, none⟩) L.length cc, .map (some w2.heap.size)] 97)).drew) (w2.heap.size + 1) n b cb cc w2.heap.size r L (fun _ => none) := by
  have B3 : Below w2.heap.size w2 ((w2.alloc (.map #[] 0)).alloc (.cells #[.int .i64 n, .slice (some ⟨b, 0, none⟩) n n, .slice (some ⟨cb, 0, none⟩) L.length cc, .map (some w2.heap.size)] 97)).drew :=
    (((Below.refl _ _).alloc (Nat.le_refl _) _).alloc (by simp) _).drew
  have R := Row.new (w2.alloc (.map #[] 0)) 97 [.int .i64 n, .slice (some ⟨b, 0, none⟩) n n, .slice (some ⟨cb, 0, none⟩) L.length cc, .map (some w2.heap.size)]
  rw [World.size_alloc] at R
  have R' := R.drewN 1
  have hcb := ho.lt cb rfl
  exact {
    town := T.below B3 T.lt
    gl := R'.lt
    cl := Nat.lt_of_lt_of_le hcb.2 B3.size
    g0 := R'.cell (i := 0) rfl
    g1 := R'.cell (i := 1) rfl
    g2 := R'.cell (i := 2) rfl
    g3 := R'.cell (i := 3) rfl
    ch := fun i ab hi => by
      have hlt := (List.getElem?_eq_some_iff.1 hi).1
      obtain ⟨p1, p2⟩ := pairCells_get L i ab hi
      rw [B3.cell (p := ⟨cb, i * 2, none⟩) hcb.2, B3.cell (p := ⟨cb, i * 2 + 1, none⟩) hcb.2]
      rw [World.ownsRow.cellAt ho (i * 2) (by omega), World.ownsRow.cellAt ho (i * 2 + 1) (by omega)]
      exact ⟨p1, p2⟩
    mp := by
      have M := MapIs.made (P := Tryd.prog) (kt := 114) encPl (fun v : Nat => Value.int .i64 v) w2
      exact M.below ((Below.refl (w2.alloc (.map #[] 0)).heap.size _).alloc (Nat.le_refl _) _).drew M.lt
    inC := hL
    inF := fun p v h => by cases h
    few := by omega }

set_option maxRecDepth 20000 in
set_option maxHeartbeats 2000000 in
theorem newGame_yes (n : Nat) (z : Nat → Int) (kI : Int) (a : Option Addr) (cap : Nat) (w : World) (hT : IntsAt w a n z) (ht : townB n z = true) (hk : kI = 1 ∨ kI = 2) :
    Calls Tryd.prog 86 #[.slice a n cap, .int .i64 kI] w (GamePost n z kI (fun _ _ => none) w) := by
  have HT := Lib.hid hT
  have HTB := Lib.hid ht
  have hn := (townB_le ht)
  obtain ⟨hn1, hn8⟩ := hn
  clear hT ht
  have hmm := fun q m w => run_makeMap_hint (P := Tryd.prog) Tryd.underlying95 q m w
  rcases hk with rfl | rfl
  · go_enter Tryd.func86, Tryd.ntmps86
    go_wp2_with (first | (go_at_call 59; refine (newTown_any HT.out _).mono ?_; rintro e w1 hp; obtain ⟨hb1, hyes, _⟩ := hp; obtain ⟨b, hbb, hta, rfl⟩ := hyes HTB.out; have HB1 := Lib.hid hb1; have HTA := Lib.hid hta; clear hb1 hta hyes) | (go_at_call 107; refine (choicesOf_any n 1 1 _ (by omega) (Or.inl ⟨rfl, rfl⟩)).mono ?_; rintro e w2 ⟨⟨v, rfl, ho2⟩, hb2⟩; have HB2 := Lib.hid hb2; have HO2 := Lib.hid ho2; clear hb2 ho2))
    obtain ⟨cb, cc, hcb, hv⟩ := PairsOwn.form HO2.out (chs_ne n 1 hn1)
    subst hv
    have hl2 := chs_le n 1 (by omega)
    have R1 := (Row.new w1 78 [.int .i64 n, .slice (some ⟨b, 0, none⟩) n n]).below HB2.out (by simp)
    have c0 := R1.cell (i := 0) rfl
    have c1 := R1.cell (i := 1) rfl
    have hl3 := R1.lt
    clear R1
    go_region
    go_wp2_with fail
    go_ret2
    have B12 := ((HB1.out.alloc HB1.out.size _).trans (HB2.out.mono (by simp; have := HB1.out.size; omega)))
    have hT1 := ((HTA.out.below ((Below.refl _ _).alloc (Nat.le_refl _) _) HTA.out.lt).below HB2.out (by simp; have := HTA.out.lt; omega))
    refine ⟨((B12.alloc B12.size _).alloc (by simp; have := B12.size; omega) _).drew, fun _ => ⟨w2.heap.size + 1, b, cb, cc, w2.heap.size, B12.size, rfl, by omega, ?_, ?_, ?_⟩, fun h => absurd ⟨HTB.out, by omega⟩ h⟩
    · have := hT1.lt; omega
    · have := (HO2.out.lt cb rfl).2; omega
    · exact game_made hT1 HO2.out (fun ab h => by have := chs_lt n 1 ab h; omega) (chs_ne n 1 hn1) hl2
  · go_enter Tryd.func86, Tryd.ntmps86
    go_wp2_with (first | (go_at_call 59; refine (newTown_any HT.out _).mono ?_; rintro e w1 hp; obtain ⟨hb1, hyes, _⟩ := hp; obtain ⟨b, hbb, hta, rfl⟩ := hyes HTB.out; have HB1 := Lib.hid hb1; have HTA := Lib.hid hta; clear hb1 hta hyes) | (go_at_call 107; refine (choicesOf_any n 2 2 _ (by omega) (Or.inr ⟨rfl, rfl⟩)).mono ?_; rintro e w2 ⟨⟨v, rfl, ho2⟩, hb2⟩; have HB2 := Lib.hid hb2; have HO2 := Lib.hid ho2; clear hb2 ho2))
    obtain ⟨cb, cc, hcb, hv⟩ := PairsOwn.form HO2.out (chs_ne n 2 hn1)
    subst hv
    have hl2 := chs_le n 2 (by omega)
    have R1 := (Row.new w1 78 [.int .i64 n, .slice (some ⟨b, 0, none⟩) n n]).below HB2.out (by simp)
    have c0 := R1.cell (i := 0) rfl
    have c1 := R1.cell (i := 1) rfl
    have hl3 := R1.lt
    clear R1
    go_region
    go_wp2_with fail
    go_ret2
    have B12 := ((HB1.out.alloc HB1.out.size _).trans (HB2.out.mono (by simp; have := HB1.out.size; omega)))
    have hT1 := ((HTA.out.below ((Below.refl _ _).alloc (Nat.le_refl _) _) HTA.out.lt).below HB2.out (by simp; have := HTA.out.lt; omega))
    refine ⟨((B12.alloc B12.size _).alloc (by simp; have := B12.size; omega) _).drew, fun _ => ⟨w2.heap.size + 1, b, cb, cc, w2.heap.size, B12.size, rfl, by omega, ?_, ?_, ?_⟩, fun h => absurd ⟨HTB.out, by omega⟩ h⟩
    · have := hT1.lt; omega
    · have := (HO2.out.lt cb rfl).2; omega
    · exact game_made hT1 HO2.out (fun ab h => by have := chs_lt n 2 ab h; omega) (chs_ne n 2 hn1) hl2

end Go.Proofs.YtbkbliieappkdaaDoor.Ch
