/- The contracts of the reference's reach, covers and Corners, and of the program's corners. -/
import Derived.Test.YtfjpbceddnnnaaaC1m
namespace Go.Proofs.Ytfjpbceddnnnaaa
open Go.RowKit Go.Maps
attribute [local go_sem] i64_bit toNat_eq_one toNat_ne_one toNat_eq_zero toNat_ne_zero i64_and i64_or i64_andNot i64_or_pow i64_andNot_pow

/-- The pairs of a row, and of all rows before one, that meet a test. -/
def rowTo (p : Nat → Bool) (v : Nat) : Nat → List (Nat × Nat)
  | 0 => []
  | u + 1 => if p u then rowTo p v u ++ [(v, u)] else rowTo p v u
def cornTo (p : Nat → Nat → Bool) (n : Nat) : Nat → List (Nat × Nat)
  | 0 => []
  | v + 1 => cornTo p n v ++ rowTo (p v) v n
theorem rowTo_len (p : Nat → Bool) (v n : Nat) : (rowTo p v n).length ≤ n := by
  induction n with
  | zero => simp [rowTo]
  | succ n ih => unfold rowTo; split <;> first | (simp; omega) | omega
theorem cornTo_len (p : Nat → Nat → Bool) (n : Nat) (hn : n < 16) (v : Nat) : (cornTo p n v).length ≤ v * 16 := by
  induction v with
  | zero => simp [cornTo]
  | succ v ih => have := rowTo_len (p v) v n; simp [cornTo]; omega
theorem rowTo_congr {p q : Nat → Bool} {v n : Nat} (h : ∀ u, u < n → p u = q u) : rowTo p v n = rowTo q v n := by
  induction n with
  | zero => rfl
  | succ n ih => unfold rowTo; rw [h n (by omega), ih (fun u hu => h u (by omega))]
theorem cornTo_congr {p q : Nat → Nat → Bool} {n m : Nat} (hm : m ≤ n) (h : ∀ v, v < n → ∀ u, u < n → p v u = q v u) : cornTo p n m = cornTo q n m := by
  induction m with
  | zero => rfl
  | succ m ih => unfold cornTo; rw [ih (by omega), rowTo_congr (h m (by omega))]

def covR (g : Nat → Nat) (set v u : Nat) : Bool := u != v && set.testBit v && set.testBit u && diff ((g v ||| 2 ^ v) &&& set) (g u ||| 2 ^ u) == 0

set_option maxRecDepth 20000 in
set_option maxHeartbeats 1000000 in
theorem reach_any {n : Nat} {g : Nat → Nat} {a : Option Addr} {w : World} (G : GrAt w a n g) (cap v : Nat) (hv : v < n) :
    Calls Try.prog 68 #[.slice a n cap, .int .i64 v] w fun e w' => e = .returned (.int .i64 ((g v ||| 2 ^ v : Nat) : Int)) ∧ Below w.heap.size w w' := by
  obtain ⟨hml, hI⟩ := G.ints
  obtain ⟨b, off, rfl, hlt, hc⟩ := hI G.pos
  have hn := G.small
  have hb := G.bd v hv
  have cv := hc v hv
  have hv16 : v < 16 := by omega
  have hpv := pow_bd v hv16
  have w1 : IntKind.i64.wrap ((2 : Int) ^ v) = 2 ^ v := IntWalk.i64_in _ (by omega)
  have w2 : wrap64 ((2 : Int) ^ v) = 2 ^ v := IntWalk.wrap64_in _ (by omega)
  clear hc hI
  unfold maxLen at hml
  go_enter Try.func68, Try.ntmps68
  go_wp2_with fail
  go_quiet (fail)
  go_wp2_with fail
  go_ret
  exact ⟨rfl, below_drewN (Below.refl _ _) _⟩

set_option maxRecDepth 20000 in
set_option maxHeartbeats 2000000 in
theorem coversR_any {n : Nat} {g : Nat → Nat} {a : Option Addr} {w : World} (G : GrAt w a n g) (cap set v u : Nat) (hset : set < 65536) (hv : v < n) (hu : u < n) :
    Calls Try.prog 45 #[.slice a n cap, .int .i64 set, .int .i64 v, .int .i64 u] w fun e w' => e = .returned (.bool (covR g set v u)) ∧ Below w.heap.size w w' := by
  have HG := Lib.hid G
  have hn := G.small
  have hb1 := G.bd v hv
  have hb2 := G.bd u hu
  have hr1 : g v ||| 2 ^ v < 65536 := or_lt hb1 (pow_lt16 (by omega))
  have hr2 : g u ||| 2 ^ u < 65536 := or_lt hb2 (pow_lt16 (by omega))
  have hr3 : (g v ||| 2 ^ v) &&& set < 65536 := and_lt hr1
  have hv64 : v < 64 := by omega
  have hu64 : u < 64 := by omega
  cases h1 : (u != v)
  · have h1' : ((u : Int) != (v : Int)) = false := by have := cast_beq u v; unfold bne at h1 ⊢; rw [this]; exact h1
    have H1 := Lib.hid h1
    clear h1
    go_enter Try.func45, Try.ntmps45
    go_wp2_with fail
    go_ret
    exact ⟨by unfold covR; rw [H1.out]; rfl, Below.refl _ _⟩
  · have h1' : ((u : Int) != (v : Int)) = true := by have := cast_beq u v; unfold bne at h1 ⊢; rw [this]; exact h1
    have H1 := Lib.hid h1
    clear h1
    cases h2 : set.testBit v
    · go_enter Try.func45, Try.ntmps45
      go_wp2_with fail
      go_ret
      exact ⟨by unfold covR; rw [H1.out, h2]; rfl, Below.refl _ _⟩
    · cases h3 : set.testBit u
      · go_enter Try.func45, Try.ntmps45
        go_wp2_with fail
        go_ret
        exact ⟨by unfold covR; rw [H1.out, h2, h3]; rfl, Below.refl _ _⟩
      · go_enter Try.func45, Try.ntmps45
        go_wp2_with fail
        go_at_call 68
        refine (reach_any HG.out cap v hv).mono ?_
        rintro e w1 ⟨rfl, hb⟩
        have HB1 := Lib.hid hb
        clear hb
        go_wp2_with fail
        go_at_call 68
        refine (reach_any (HG.out.below HB1.out) cap u hu).mono ?_
        rintro e w2 ⟨rfl, hb⟩
        have HB2 := Lib.hid hb
        clear hb
        go_wp2_with fail
        go_ret
        exact ⟨by unfold covR; rw [H1.out, h2, h3]; simp [cast_beq0], HB1.out.trans (HB2.out.mono HB1.out.size)⟩

set_option maxRecDepth 20000 in
set_option maxHeartbeats 4000000 in
theorem CornersR_any {n : Nat} {g : Nat → Nat} {a : Option Addr} {w : World} (G : GrAt w a n g) (cap set : Nat) (hset : set < 65536) :
    Calls Try.prog 18 #[.slice a n cap, .int .i64 set] w fun e w' => (∃ v, e = .returned v ∧ PairsOwn w' w.heap.size v (cornTo (covR g set) n n)) ∧ Below w.heap.size w w' := by
  obtain ⟨i0, hi0, hz1, hz2, hz3⟩ := info_parts info_pair
  have hn := G.small
  have hml := G.ints.1
  unfold maxLen at hml
  go_enter Try.func18, Try.ntmps18
  go_wp2_with fail
  go_loopw [5, 10] (fun v i wr => ∃ k : Nat, k ≤ n ∧ i = .int .i64 k ∧ PairsOwn wr w.heap.size v (cornTo (covR g set) n k) ∧ Below w.heap.size w wr) (fun _ i _ => n - (intOf i).toNat)
  case atStart => exact ⟨0, Nat.zero_le _, rfl, ⟨rfl, Or.inl ⟨rfl, rfl⟩⟩, Below.refl _ _⟩
  case round =>
    obtain ⟨k, hk, rfl, hown, hbel⟩ := hrel
    have HO := Lib.hid hown
    have HB := Lib.hid hbel
    clear hown hbel
    by_cases hlt : k < n
    · have HST : Hid (cornTo (covR g set) n (k + 1) = cornTo (covR g set) n k ++ rowTo (covR g set k) k n) := Lib.hid rfl
      have hll := cornTo_len (covR g set) n hn k
      generalize cornTo (covR g set) n k = L at *
      go_wp2_with fail
      go_loopw [5, 15] (fun v i wx => ∃ j : Nat, j ≤ n ∧ i = .int .i64 j ∧ PairsOwn wx w.heap.size v (L ++ rowTo (covR g set k) k j) ∧ Below w.heap.size w wx) (fun _ i _ => n - (intOf i).toNat)
      case atStart => exact ⟨0, Nat.zero_le _, rfl, by rw [show rowTo (covR g set k) k 0 = [] from rfl, List.append_nil]; exact HO.out, HB.out⟩
      case round =>
        clear HO HB
        obtain ⟨j, hj, rfl, hown, hbel⟩ := hrel
        have HO := Lib.hid hown
        have HB := Lib.hid hbel
        clear hown hbel
        by_cases hlj : j < n
        · have HSJ : Hid (rowTo (covR g set k) k (j + 1) = if covR g set k j then rowTo (covR g set k) k j ++ [(k, j)] else rowTo (covR g set k) k j) := Lib.hid rfl
          have hrl := rowTo_len (covR g set k) k j
          generalize rowTo (covR g set k) k j = M at *
          cases hq : covR g set k j
          · have HQ := Lib.hid hq
            clear hq
            go_wp2_with (go_at_call 45; refine (coversR_any (G.below (Below.mono HB.out (Nat.le_refl _))) cap set k j hset hlt hlj).mono ?_; rintro e w1 ⟨rfl, hb⟩; rw [HQ.out]; have HB1 := Lib.hid hb; clear hb)
            go_roundw
            case rel => exact ⟨j + 1, by omega, by go_num, by rw [HSJ.out, HQ.out]; exact ownsRow_below HO.out HB1.out (Nat.le_refl _), HB.out.trans (HB1.out.mono HB.out.size)⟩
            case measure => simp [intOf]; omega
          · have HQ := Lib.hid hq
            clear hq
            go_wp2_with (first | (go_at_call 45; refine (coversR_any (G.below (Below.mono HB.out (Nat.le_refl _))) cap set k j hset hlt hlj).mono ?_; rintro e w1 ⟨rfl, hb⟩; rw [HQ.out]; have HB1 := Lib.hid hb; clear hb) | (at_builtin; refine wpList_append_own _ rfl _ _ 24 rfl w.heap.size 32 i0 (.agg #[.int .i64 0, .int .i64 0]) 2 16 Try.underlying24 hi0 hz1 hz2 hz3 rfl (by decide) _ _ _ rfl (World.ownsRow.alloc (ownsRow_below HO.out HB1.out (Nat.le_refl _)) _) ⟨_, 0, none⟩ 1 1 [.int .i64 k, .int .i64 j] rfl rfl ?c1 ?c2 ?c3 ?c4 ?c5 ?_))
            case c1 => exact cells_new _ _ _
            case c2 => intro u hu; simp at hu; rcases hu with rfl | rfl <;> rfl
            case c3 => rw [List.length_append]; unfold maxLen; omega
            case c4 => rw [List.length_append]; omega
            case c5 => simp; have := HB.out.size; have := HB1.out.size; omega
            intro v' w9 hown1 hg1 _
            have HO1 := Lib.hid hown1
            have HG1 := Lib.hid hg1
            clear hown1 hg1
            go_wp2_with fail
            go_roundw
            case rel =>
              have O1 := ownsRow_below HO.out HB1.out (Nat.le_refl _)
              have B9 := HB.out.trans (HB1.out.mono HB.out.size)
              refine ⟨j + 1, by omega, by go_num, ?_, (B9.alloc B9.size _).grown HG1.out (by simp; have := B9.size; omega) (fun k hk => (World.ownsRow.lt O1 k hk).1)⟩
              rw [HSJ.out, HQ.out]
              have h3 := HO1.out
              unfold PairsOwn
              rw [if_pos rfl, ← List.append_assoc, pairCells_snoc, List.length_append (bs := [(k, j)]), List.length_append]
              exact h3
            case measure => simp [intOf]; omega
        · have hje : j = n := by omega
          subst hje
          go_wp2_with fail
          go_roundw
          case rel => exact ⟨k + 1, by omega, by go_num, by rw [HST.out]; exact HO.out, HB.out⟩
          case measure => simp [intOf]; omega
    · have hke : k = n := by omega
      subst hke
      go_wp2_with fail
      go_ret
      exact ⟨⟨_, rfl, HO.out⟩, HB.out⟩

end Go.Proofs.Ytfjpbceddnnnaaa
