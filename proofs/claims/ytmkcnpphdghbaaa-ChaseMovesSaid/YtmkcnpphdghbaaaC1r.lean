/- The contracts of the program's corners and Corners, where the reference's are not reached (C1n, C1o, C1p without them). -/
import Derived.Test.YtmkcnpphdghbaaaC1m
import Derived.ChangeKeysEq
namespace Go.Proofs.Ytmkcnpphdghbaaa
set_option linter.unusedSimpArgs false
set_option linter.unusedVariables false
open Go.RowKit Go.Maps
attribute [local go_sem] i64_bit toNat_eq_one toNat_ne_one toNat_eq_zero toNat_ne_zero i64_and i64_or i64_andNot i64_or_pow i64_andNot_pow

/-- The pairs of a row, and of all rows before one, that meet a test. -/
def rowTo (p : Nat → Bool) (v : Nat) : Nat → List (Nat × Nat)
  | 0 => []
  | u + 1 => if p u then rowTo p v u ++ [(v, u)] else rowTo p v u
def cornTo (p : Nat → Nat → Bool) (n : Nat) : Nat → List (Nat × Nat)
  | 0 => []
  | v + 1 => cornTo p n v ++ rowTo (p v) v n
theorem rowTo_len (p : Nat → Bool) (v n : Nat) : (rowTo p v n).length ≤ n := by
  induction n with
  | zero => simp [rowTo]
  | succ n ih => unfold rowTo; split <;> first | (simp; omega) | omega
theorem cornTo_len (p : Nat → Nat → Bool) (n : Nat) (hn : n < 16) (v : Nat) : (cornTo p n v).length ≤ v * 16 := by
  induction v with
  | zero => simp [cornTo]
  | succ v ih => have := rowTo_len (p v) v n; simp [cornTo]; omega
theorem rowTo_congr {p q : Nat → Bool} {v n : Nat} (h : ∀ u, u < n → p u = q u) : rowTo p v n = rowTo q v n := by
  induction n with
  | zero => rfl
  | succ n ih => unfold rowTo; rw [h n (by omega), ih (fun u hu => h u (by omega))]
theorem cornTo_congr {p q : Nat → Nat → Bool} {n m : Nat} (hm : m ≤ n) (h : ∀ v, v < n → ∀ u, u < n → p v u = q v u) : cornTo p n m = cornTo q n m := by
  induction m with
  | zero => rfl
  | succ m ih => unfold cornTo; rw [ih (by omega), rowTo_congr (h m (by omega))]

def covP (r : Nat → Nat) (set v u : Nat) : Bool := set.testBit v && set.testBit u && covB r u v set

set_option maxRecDepth 20000 in
set_option maxHeartbeats 4000000 in
theorem corners_any {n b : Nat} {r : Nat → Nat} {w : World} (T : TownAt w n b r) (cap set : Nat) (hset : set < 65536) :
    Calls Try.prog 56 #[townV n b cap, .int .i64 set] w fun e w' => (∃ v, e = .returned v ∧ PairsOwn w' w.heap.size v (cornTo (covP r set) n n)) ∧ Below w.heap.size w w' := by
  obtain ⟨i0, hi0, hz1, hz2, hz3⟩ := info_parts info_pair
  obtain ⟨w0, hw0, HB0, TB, hs⟩ := town_box T cap
  have hn := T.small
  have HW := Lib.hid hw0
  have c0' := TB.c0
  rw [hw0] at c0'
  clear hw0
  go_enter Try.func56, Try.ntmps56
  go_wp2_with fail
  rw [← HW.out]
  clear HW c0'
  go_loopw [5, 10] (fun v i wr => ∃ k : Nat, k ≤ n ∧ i = .int .i64 k ∧ PairsOwn wr (w.heap.size + 1) v (cornTo (covP r set) n k) ∧ TownBox wr w.heap.size n b cap r ∧ Below w.heap.size w wr) (fun _ i _ => n - (intOf i).toNat)
  case atStart => exact ⟨0, Nat.zero_le _, rfl, ⟨rfl, Or.inl ⟨rfl, rfl⟩⟩, TB, HB0⟩
  case round =>
    clear TB HB0 hs w0
    obtain ⟨k, hk, rfl, hown, htb, hbel⟩ := hrel
    obtain ⟨d0, d1, dr, dB0, db0⟩ := htb.facts
    have HO := Lib.hid hown
    have HB := Lib.hid hbel
    have HT := Lib.hid htb
    clear hown hbel htb
    by_cases hlt : k < n
    · have HST : Hid (cornTo (covP r set) n (k + 1) = cornTo (covP r set) n k ++ rowTo (covP r set k) k n) := Lib.hid rfl
      have hll := cornTo_len (covP r set) n hn k
      have hk64 : k < 64 := by omega
      generalize cornTo (covP r set) n k = L at *
      go_wp2_with fail
      go_loopw [5, 15] (fun v i wx => ∃ j : Nat, j ≤ n ∧ i = .int .i64 j ∧ PairsOwn wx (w.heap.size + 1) v (L ++ rowTo (covP r set k) k j) ∧ TownBox wx w.heap.size n b cap r ∧ Below w.heap.size w wx) (fun _ i _ => n - (intOf i).toNat)
      case atStart => exact ⟨0, Nat.zero_le _, rfl, by rw [show rowTo (covP r set k) k 0 = [] from rfl, List.append_nil]; exact HO.out, HT.out, HB.out⟩
      case round =>
        clear HO HB HT d0 d1 dr dB0 db0
        obtain ⟨j, hj, rfl, hown, htb, hbel⟩ := hrel
        obtain ⟨d0, d1, dr, dB0, db0⟩ := htb.facts
        have HO := Lib.hid hown
        have HB := Lib.hid hbel
        have HT := Lib.hid htb
        clear hown hbel htb
        by_cases hlj : j < n
        · have HSJ : Hid (rowTo (covP r set k) k (j + 1) = if covP r set k j then rowTo (covP r set k) k j ++ [(k, j)] else rowTo (covP r set k) k j) := Lib.hid rfl
          have hrl := rowTo_len (covP r set k) k j
          have hj64 : j < 64 := by omega
          generalize rowTo (covP r set k) k j = M at *
          cases h1 : set.testBit k
          · go_wp2_with (go_at_call 71; refine (has_any _ _ _ hset (by omega)).mono ?_; rintro e w1 ⟨rfl, rfl⟩)
            go_roundw
            case rel => exact ⟨j + 1, by omega, by go_num, by rw [HSJ.out]; unfold covP; rw [h1]; exact HO.out, HT.out, HB.out⟩
            case measure => simp [intOf]; omega
          · cases h2 : set.testBit j
            · go_wp2_with (go_at_call 71; refine (has_any _ _ _ hset (by omega)).mono ?_; rintro e w1 ⟨rfl, rfl⟩)
              go_roundw
              case rel => exact ⟨j + 1, by omega, by go_num, by rw [HSJ.out]; unfold covP; rw [h1, h2]; exact HO.out, HT.out, HB.out⟩
              case measure => simp [intOf]; omega
            · cases hq : covB r j k set
              · have HQ := Lib.hid hq
                clear hq
                go_wp2_with (first | (go_at_call 71; refine (has_any _ _ _ hset (by omega)).mono ?_; rintro e w1 ⟨rfl, rfl⟩) | (go_at_call 74; refine (covers_any HT.out.at_ cap j k set hlj hlt hset).mono ?_; rintro e w1 ⟨rfl, hb⟩; rw [HQ.out]; have HB1 := Lib.hid hb; clear hb))
                go_roundw
                case rel => exact ⟨j + 1, by omega, by go_num, by rw [HSJ.out]; unfold covP; rw [h1, h2, HQ.out]; exact ownsRow_below HO.out HB1.out (Nat.le_refl _), HT.out.below HB1.out, HB.out.trans (HB1.out.mono HB.out.size)⟩
                case measure => simp [intOf]; omega
              · have HQ := Lib.hid hq
                clear hq
                go_wp2_with (first | (go_at_call 71; refine (has_any _ _ _ hset (by omega)).mono ?_; rintro e w1 ⟨rfl, rfl⟩) | (go_at_call 74; refine (covers_any HT.out.at_ cap j k set hlj hlt hset).mono ?_; rintro e w1 ⟨rfl, hb⟩; rw [HQ.out]; have HB1 := Lib.hid hb; clear hb) | (at_builtin; refine wpList_append_own _ rfl _ _ 59 rfl (w.heap.size + 1) 32 i0 (.agg #[.int .i64 0, .int .i64 0]) 2 16 Try.underlying59 hi0 hz1 hz2 hz3 rfl (by decide) _ _ _ rfl (World.ownsRow.alloc (ownsRow_below HO.out HB1.out (Nat.le_refl _)) _) ⟨_, 0, none⟩ 1 1 [.int .i64 k, .int .i64 j] rfl rfl ?c1 ?c2 ?c3 ?c4 ?c5 ?_))
                case c1 => exact cells_new _ _ _
                case c2 => intro u hu; simp at hu; rcases hu with rfl | rfl <;> rfl
                case c3 => rw [List.length_append]; unfold maxLen; omega
                case c4 => rw [List.length_append]; omega
                case c5 => simp; have := HB.out.size; have := HB1.out.size; omega
                intro v' w9 hown1 hg1 _
                have HO1 := Lib.hid hown1
                have HG1 := Lib.hid hg1
                clear hown1 hg1
                go_wp2_with fail
                go_roundw
                case rel =>
                  have O1 := ownsRow_below HO.out HB1.out (Nat.le_refl _)
                  have B9 := HB.out.trans (HB1.out.mono HB.out.size)
                  refine ⟨j + 1, by omega, by go_num, ?_, ?_, (B9.alloc B9.size _).grown HG1.out (by simp; have := B9.size; omega) (fun k hk => Nat.le_of_succ_le (World.ownsRow.lt O1 k hk).1)⟩
                  · rw [HSJ.out]
                    have h3 := HO1.out
                    have hcp : covP r set k j = true := by unfold covP; rw [h1, h2, HQ.out]; rfl
                    unfold PairsOwn
                    rw [if_pos hcp, ← List.append_assoc, pairCells_snoc, List.length_append (bs := [(k, j)]), List.length_append]
                    exact h3
                  · have TB1 := HT.out.below HB1.out
                    have TB2 := TB1.below (Below.alloc (Below.refl _ _) (Nat.le_refl _) (.cells #[.int .i64 k, .int .i64 j] 32))
                    exact TB2.grown HG1.out (not_own O1 (by have := T.lt; omega)) (not_own O1 (by omega))
                case measure => simp [intOf]; omega
        · have hje : j = n := by omega
          subst hje
          go_wp2_with fail
          go_roundw
          case rel => exact ⟨k + 1, by omega, by go_num, by rw [HST.out]; exact HO.out, HT.out, HB.out⟩
          case measure => simp [intOf]; omega
    · have hke : k = n := by omega
      subst hke
      go_wp2_with fail
      go_ret
      exact ⟨⟨_, rfl, ownsRow_base HO.out (Nat.le_succ _)⟩, HB.out⟩

def CornersPost (n : Nat) (z : Nat → Int) (setI : Int) (w : World) (e : Ending) (w' : World) : Prop :=
  Below w.heap.size w w' ∧ (townB n z = true → inB setI (2 ^ n) = true → ∃ v, e = .returned (.tuple #[v, .int .i64 0]) ∧ PairsOwn w' w.heap.size v (cornTo (covP (reachOf z) setI.toNat) n n)) ∧
    (¬ (townB n z = true ∧ inB setI (2 ^ n) = true) → e = .returned (.tuple #[.slice none 0 0, .int .i64 2]))

set_option maxRecDepth 20000 in
set_option maxHeartbeats 1000000 in
theorem Corners_any (n : Nat) (z : Nat → Int) (setI : Int) (a : Option Addr) (cap : Nat) (w : World) (hT : IntsAt w a n z) :
    Calls Try.prog 31 #[.slice a n cap, .int .i64 setI] w (CornersPost n z setI w) := by
  have HT := Lib.hid hT
  clear hT
  cases ht : townB n z
  · have HTB := Lib.hid ht
    clear ht
    go_enter Try.func31, Try.ntmps31
    go_wp2_with (go_at_call 54; refine (newTown_any HT.out _).mono ?_; rintro e w1 ⟨hb1, _, hno⟩; obtain rfl := hno HTB.out; have HB1 := Lib.hid hb1; clear hb1 hno)
    go_ret2
    exact ⟨HB1.out.alloc HB1.out.size _, fun h => by (rw [HTB.out] at h; cases h), fun _ => rfl⟩
  · obtain ⟨hn1, hn8⟩ := townB_le ht
    have HTB := Lib.hid ht
    clear ht
    cases hs : inB setI (2 ^ n)
    · have HS := Lib.hid hs
      clear hs
      go_enter Try.func31, Try.ntmps31
      go_wp2_with (first | (go_at_call 54; refine (newTown_any HT.out _).mono ?_; rintro e w1 ⟨hb1, hyes, _⟩; obtain ⟨b, hbb, hta, rfl⟩ := hyes HTB.out; have HB1 := Lib.hid hb1; have HTA := Lib.hid hta; clear hb1 hta hyes) | (go_at_call 55; refine (isSet_any _ _ _ _ _ (by omega)).mono ?_; rintro e w2 ⟨rfl, hb2⟩; rw [HS.out]; have HB2 := Lib.hid hb2; clear hb2))
      go_ret2
      exact ⟨(HB1.out.alloc HB1.out.size _).trans (HB2.out.mono (by simp; have := HB1.out.size; omega)), fun _ h => by (rw [HS.out] at h; cases h), fun _ => rfl⟩
    · obtain ⟨s0, s1⟩ := inB_iff.1 hs
      obtain ⟨m, rfl⟩ : ∃ m : Nat, setI = (m : Int) := ⟨setI.toNat, by omega⟩
      have hm : m < 65536 := by
        have h1 := pow_le16 hn8
        rw [pow_cast] at s1
        omega
      have HS := Lib.hid hs
      clear hs s0 s1
      go_enter Try.func31, Try.ntmps31
      go_wp2_with (first | (go_at_call 54; refine (newTown_any HT.out _).mono ?_; rintro e w1 ⟨hb1, hyes, _⟩; obtain ⟨b, hbb, hta, rfl⟩ := hyes HTB.out; have HB1 := Lib.hid hb1; have HTA := Lib.hid hta; clear hb1 hta hyes) | (go_at_call 55; refine (isSet_any _ _ _ _ _ (by omega)).mono ?_; rintro e w2 ⟨rfl, hb2⟩; rw [HS.out]; have HB2 := Lib.hid hb2; have R1 := (Row.new w1 91 [.int .i64 n, .slice (some ⟨b, 0, none⟩) n n]).below hb2 (by simp); have q0 := R1.cell (i := 0) rfl; have q1 := R1.cell (i := 1) rfl; have ht2 := (HTA.out.below (Below.alloc (Below.refl _ _) (Nat.le_refl _) _) HTA.out.lt).below hb2 (by simp; have := HTA.out.lt; omega); have HT2 := Lib.hid ht2; clear hb2 R1 ht2) | (go_at_call 56; refine (corners_any HT2.out n m hm).mono ?_; rintro e w3 ⟨⟨v, rfl, ho⟩, hb3⟩; have HO := Lib.hid ho; have HB3 := Lib.hid hb3; clear ho hb3))
      go_ret2
      have B2 := (HB1.out.alloc HB1.out.size (.cells #[.int .i64 n, .slice (some ⟨b, 0, none⟩) n n] 91)).trans (HB2.out.mono (by simp; have := HB1.out.size; omega))
      refine ⟨B2.trans (HB3.out.mono B2.size), fun _ _ => ⟨v, rfl, ?_⟩, fun h => absurd ⟨HTB.out, HS.out⟩ h⟩
      rw [Int.toNat_natCast]
      exact ownsRow_base HO.out B2.size

theorem PairsOwn.cells {w : World} {base : Nat} {a : Option Addr} {c : Nat} {L : List (Nat × Nat)} (h : PairsOwn w base (.slice a L.length c) L) :
    ∀ wx, Below w.heap.size w wx → ∀ i p, L[i]? = some p → ∃ g, a = some ⟨g, 0, none⟩ ∧ wx.cell? ⟨g, i * 2, none⟩ = some (.int .i64 p.1) ∧ wx.cell? ⟨g, i * 2 + 1, none⟩ = some (.int .i64 p.2) := by
  intro wx hb i p hp
  have hlt := (List.getElem?_eq_some_iff.1 hp).1
  obtain ⟨g, cap, hv, hg1, hg2⟩ := own_form' h (by omega)
  simp only [Value.slice.injEq] at hv
  obtain ⟨rfl, _, rfl⟩ := hv
  obtain ⟨p1, p2⟩ := pairCells_get L i p hp
  refine ⟨g, rfl, ?_, ?_⟩
  · rw [hb.cell (p := ⟨g, i * 2, none⟩) hg2, World.ownsRow.cellAt h (i * 2) (by omega)]; exact p1
  · rw [hb.cell (p := ⟨g, i * 2 + 1, none⟩) hg2, World.ownsRow.cellAt h (i * 2 + 1) (by omega)]; exact p2

end Go.Proofs.Ytmkcnpphdghbaaa
