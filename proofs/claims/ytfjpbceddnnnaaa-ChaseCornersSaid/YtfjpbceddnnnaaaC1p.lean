/- The contracts of the program's Corners and of slices.Equal over pairs. -/
import Derived.Test.YtfjpbceddnnnaaaC1o
import Derived.ChangeKeysEq
namespace Go.Proofs.Ytfjpbceddnnnaaa
open Go.RowKit Go.Maps
attribute [local go_sem] i64_bit toNat_eq_one toNat_ne_one toNat_eq_zero toNat_ne_zero i64_and i64_or i64_andNot i64_or_pow i64_andNot_pow

def CornersPost (n : Nat) (z : Nat → Int) (setI : Int) (w : World) (e : Ending) (w' : World) : Prop :=
  Below w.heap.size w w' ∧ (townB n z = true → inB setI (2 ^ n) = true → ∃ v, e = .returned (.tuple #[v, .int .i64 0]) ∧ PairsOwn w' w.heap.size v (cornTo (covP (reachOf z) setI.toNat) n n)) ∧
    (¬ (townB n z = true ∧ inB setI (2 ^ n) = true) → e = .returned (.tuple #[.slice none 0 0, .int .i64 2]))

set_option maxRecDepth 20000 in
set_option maxHeartbeats 1000000 in
theorem Corners_any (n : Nat) (z : Nat → Int) (setI : Int) (a : Option Addr) (cap : Nat) (w : World) (hT : IntsAt w a n z) :
    Calls Try.prog 13 #[.slice a n cap, .int .i64 setI] w (CornersPost n z setI w) := by
  have HT := Lib.hid hT
  clear hT
  cases ht : townB n z
  · have HTB := Lib.hid ht
    clear ht
    go_enter Try.func13, Try.ntmps13
    go_wp2_with (go_at_call 40; refine (newTown_any HT.out _).mono ?_; rintro e w1 ⟨hb1, _, hno⟩; obtain rfl := hno HTB.out; have HB1 := Lib.hid hb1; clear hb1 hno)
    go_ret2
    exact ⟨HB1.out.alloc HB1.out.size _, fun h => by (rw [HTB.out] at h; cases h), fun _ => rfl⟩
  · obtain ⟨hn1, hn8⟩ := townB_le ht
    have HTB := Lib.hid ht
    clear ht
    cases hs : inB setI (2 ^ n)
    · have HS := Lib.hid hs
      clear hs
      go_enter Try.func13, Try.ntmps13
      go_wp2_with (first | (go_at_call 40; refine (newTown_any HT.out _).mono ?_; rintro e w1 ⟨hb1, hyes, _⟩; obtain ⟨b, hbb, hta, rfl⟩ := hyes HTB.out; have HB1 := Lib.hid hb1; have HTA := Lib.hid hta; clear hb1 hta hyes) | (go_at_call 41; refine (isSet_any _ _ _ _ _ (by omega)).mono ?_; rintro e w2 ⟨rfl, hb2⟩; rw [HS.out]; have HB2 := Lib.hid hb2; clear hb2))
      go_ret2
      exact ⟨(HB1.out.alloc HB1.out.size _).trans (HB2.out.mono (by simp; have := HB1.out.size; omega)), fun _ h => by (rw [HS.out] at h; cases h), fun _ => rfl⟩
    · obtain ⟨s0, s1⟩ := inB_iff.1 hs
      obtain ⟨m, rfl⟩ : ∃ m : Nat, setI = (m : Int) := ⟨setI.toNat, by omega⟩
      have hm : m < 65536 := by
        have h1 := pow_le16 hn8
        rw [pow_cast] at s1
        omega
      have HS := Lib.hid hs
      clear hs s0 s1
      go_enter Try.func13, Try.ntmps13
      go_wp2_with (first | (go_at_call 40; refine (newTown_any HT.out _).mono ?_; rintro e w1 ⟨hb1, hyes, _⟩; obtain ⟨b, hbb, hta, rfl⟩ := hyes HTB.out; have HB1 := Lib.hid hb1; have HTA := Lib.hid hta; clear hb1 hta hyes) | (go_at_call 41; refine (isSet_any _ _ _ _ _ (by omega)).mono ?_; rintro e w2 ⟨rfl, hb2⟩; rw [HS.out]; have HB2 := Lib.hid hb2; have R1 := (Row.new w1 69 [.int .i64 n, .slice (some ⟨b, 0, none⟩) n n]).below hb2 (by simp); have q0 := R1.cell (i := 0) rfl; have q1 := R1.cell (i := 1) rfl; have ht2 := (HTA.out.below (Below.alloc (Below.refl _ _) (Nat.le_refl _) _) HTA.out.lt).below hb2 (by simp; have := HTA.out.lt; omega); have HT2 := Lib.hid ht2; clear hb2 R1 ht2) | (go_at_call 42; refine (corners_any HT2.out n m hm).mono ?_; rintro e w3 ⟨⟨v, rfl, ho⟩, hb3⟩; have HO := Lib.hid ho; have HB3 := Lib.hid hb3; clear ho hb3))
      go_ret2
      have B2 := (HB1.out.alloc HB1.out.size (.cells #[.int .i64 n, .slice (some ⟨b, 0, none⟩) n n] 69)).trans (HB2.out.mono (by simp; have := HB1.out.size; omega))
      refine ⟨B2.trans (HB3.out.mono B2.size), fun _ _ => ⟨v, rfl, ?_⟩, fun h => absurd ⟨HTB.out, HS.out⟩ h⟩
      rw [Int.toNat_natCast]
      exact ownsRow_base HO.out B2.size

theorem cells_int : Try.prog.cellsOf 3 = 1 := by kernel_rfl
theorem plain_int : Try.prog.plainKey 3 = true := by kernel_rfl
theorem run_eq_pair (w : World) (d : Nat) (a b c e : Int) : (Op.equalIn (d + 2) 32 (.agg #[.int .i64 a, .int .i64 b]) (.agg #[.int .i64 c, .int .i64 e])).run Try.prog w = .ok (a == c && b == e) w := by
  obtain ⟨i0, hi0, _⟩ := info_parts info_int
  rw [run_equalIn_array w (d + 1) _ _ Try.underlying32 hi0, cells_int]
  have p : ∀ (xs : Array Value) (o : Nat) (v : Value), xs[o]? = some v → (part 3 xs o).run Try.prog w = .ok v w := fun xs o v h => run_part_plain w plain_int h
  have q : ∀ x y : Int, (Op.equalIn (d + 1) 3 (.int .i64 x) (.int .i64 y)).run Try.prog w = .ok (x == y) w := fun x y => run_equalIn_int w d _ _ _ x y Try.underlying3
  show (Op.eqItems (d + 1) 3 1 #[.int .i64 a, .int .i64 b] #[.int .i64 c, .int .i64 e] [0, 1]).run Try.prog w = _
  simp only [Op.eqItems, Sem.run_bind, p #[.int .i64 a, .int .i64 b] (0 * 1) (.int .i64 a) rfl, p #[.int .i64 c, .int .i64 e] (0 * 1) (.int .i64 c) rfl, p #[.int .i64 a, .int .i64 b] (1 * 1) (.int .i64 b) rfl, p #[.int .i64 c, .int .i64 e] (1 * 1) (.int .i64 e) rfl, q, Result.andThen_ok]
  have e1 := p #[.int .i64 a, .int .i64 b] 1 (.int .i64 b) rfl
  have e2 := p #[.int .i64 c, .int .i64 e] 1 (.int .i64 e) rfl
  cases h1 : (a == c) <;> cases h2 : (b == e) <;> simp [e1, e2, q, h2, Result.andThen]
theorem run_neq_pair (w : World) (a b c e : Int) : (binOp .neq 32 (.agg #[.int .i64 a, .int .i64 b]) (.agg #[.int .i64 c, .int .i64 e])).run Try.prog w = .ok (.bool (!(a == c && b == e))) w := by
  rw [run_neq_struct, run_eq_pair w 9998]
  rfl
theorem run_eql_pair (w : World) (a b c e : Int) : (binOp .eql 32 (.agg #[.int .i64 a, .int .i64 b]) (.agg #[.int .i64 c, .int .i64 e])).run Try.prog w = .ok (.bool (a == c && b == e)) w := by
  rw [run_eql_struct, run_eq_pair w 9998]
  rfl

theorem PairsOwn.cells {w : World} {base : Nat} {a : Option Addr} {c : Nat} {L : List (Nat × Nat)} (h : PairsOwn w base (.slice a L.length c) L) :
    ∀ wx, Below w.heap.size w wx → ∀ i p, L[i]? = some p → ∃ g, a = some ⟨g, 0, none⟩ ∧ wx.cell? ⟨g, i * 2, none⟩ = some (.int .i64 p.1) ∧ wx.cell? ⟨g, i * 2 + 1, none⟩ = some (.int .i64 p.2) := by
  intro wx hb i p hp
  have hlt := (List.getElem?_eq_some_iff.1 hp).1
  obtain ⟨g, cap, hv, hg1, hg2⟩ := own_form' h (by omega)
  simp only [Value.slice.injEq] at hv
  obtain ⟨rfl, _, rfl⟩ := hv
  obtain ⟨p1, p2⟩ := pairCells_get L i p hp
  refine ⟨g, rfl, ?_, ?_⟩
  · rw [hb.cell (p := ⟨g, i * 2, none⟩) hg2, World.ownsRow.cellAt h (i * 2) (by omega)]; exact p1
  · rw [hb.cell (p := ⟨g, i * 2 + 1, none⟩) hg2, World.ownsRow.cellAt h (i * 2 + 1) (by omega)]; exact p2

set_option maxRecDepth 20000 in
set_option maxHeartbeats 2000000 in
theorem EqualPairs_any {L M : List (Nat × Nat)} {b1 b2 : Nat} {v1 v2 : Value} {w : World} (h1 : PairsOwn w b1 v1 L) (h2 : PairsOwn w b2 v2 M) (hL : L.length ≤ 65536) :
    Calls Try.prog 17 #[v1, v2] w fun e w' => e = .returned (.bool (decide (L = M))) ∧ Below w.heap.size w w' := by
  obtain ⟨a1, c1, rfl⟩ := own_form h1
  obtain ⟨a2, c2, rfl⟩ := own_form h2
  by_cases hlen : L.length = M.length
  · have hneq := fun w a b c e => run_neq_pair w a b c e
    have hl1 : ((L.length : Int) != (M.length : Int)) = false := by rw [hlen]; simp
    have HC1 := Lib.hid h1.cells
    have HC2 := Lib.hid h2.cells
    have HLEN := Lib.hid hlen
    clear h1 h2 hlen
    go_enter Try.func17, Try.ntmps17
    go_wp2_with fail
    go_loopw [13] (fun i wr => ∃ k : Nat, k ≤ L.length ∧ i = .int .i64 k ∧ (∀ i, i < k → L[i]? = M[i]?) ∧ Below w.heap.size w wr) (fun i _ => L.length - (intOf i).toNat)
    case atStart => exact ⟨0, Nat.zero_le _, rfl, by omega, Below.refl _ _⟩
    case round =>
      obtain ⟨k, hk, rfl, hd, hbel⟩ := hrel
      have HD := Lib.hid hd
      have HB := Lib.hid hbel
      clear hd hbel
      by_cases hlt : k < L.length
      · obtain ⟨p, hp⟩ : ∃ p, L[k]? = some p := ⟨L[k], by simp [hlt]⟩
        obtain ⟨q, hq⟩ : ∃ q, M[k]? = some q := ⟨M[k]'(by have := HLEN.out; omega), by simp⟩
        obtain ⟨g1, rfl, x1, x2⟩ := HC1.out wr HB.out k p hp
        obtain ⟨g2, rfl, y1, y2⟩ := HC2.out wr HB.out k q hq
        have hlt2 : k < M.length := by have := HLEN.out; omega
        obtain ⟨pa, pb⟩ := p
        obtain ⟨qa, qb⟩ := q
        dsimp only at x1 x2 y1 y2
        have HP := Lib.hid hp
        have HQ := Lib.hid hq
        clear hp hq
        have s1 := cast_beq pa qa
        have s2 := cast_beq pb qb
        by_cases e1 : pa = qa
        · have t1 : (pa == qa) = true := by simpa using e1
          rw [t1] at s1
          by_cases e2 : pb = qb
          · have t2 : (pb == qb) = true := by simpa using e2
            rw [t2] at s2
            have HE : Hid (L[k]? = M[k]?) := Lib.hid (by rw [HP.out, HQ.out, e1, e2])
            clear e1 e2 t1 t2
            go_wp2_with fail
            go_quiet (fail)
            go_wp2_with fail
            go_roundw
            case rel => exact ⟨k + 1, by omega, by go_num, fun i hi => by rcases Nat.lt_succ_iff_lt_or_eq.1 hi with h | h; exact HD.out i h; rw [h]; exact HE.out, below_drewN HB.out _⟩
            case measure => simp [intOf]; omega
          · have t2 : (pb == qb) = false := by simpa using e2
            rw [t2] at s2
            have HE : Hid (¬ L = M) := Lib.hid (fun h => by have h3 := HP.out; rw [h, HQ.out] at h3; simp at h3; exact e2 h3.2.symm)
            clear e1 e2 t1 t2
            go_wp2_with fail
            go_quiet (fail)
            go_wp2_with fail
            go_ret
            exact ⟨by rw [decide_eq_false HE.out]; rfl, below_drewN HB.out _⟩
        · have t1 : (pa == qa) = false := by simpa using e1
          rw [t1] at s1
          have HE : Hid (¬ L = M) := Lib.hid (fun h => by have h3 := HP.out; rw [h, HQ.out] at h3; simp at h3; exact e1 h3.1.symm)
          clear e1 t1 s2
          go_wp2_with fail
          go_quiet (fail)
          go_wp2_with fail
          go_ret
          exact ⟨by rw [decide_eq_false HE.out]; rfl, below_drewN HB.out _⟩
      · have hke : k = L.length := by omega
        have HE : Hid (L = M) := Lib.hid (by
          apply List.ext_getElem?
          intro i
          by_cases hi : i < k
          · exact HD.out i hi
          · have := HLEN.out
            rw [List.getElem?_eq_none (by omega), List.getElem?_eq_none (by omega)])
        clear hke
        go_wp2_with fail
        go_ret
        exact ⟨by rw [decide_eq_true HE.out]; rfl, HB.out⟩
  · have hl1 : ((L.length : Int) != (M.length : Int)) = true := by simp; omega
    have HF := Lib.hid (show ¬ L = M from fun h => hlen (by rw [h]))
    clear h1 h2 hlen
    go_enter Try.func17, Try.ntmps17
    go_wp2_with fail
    go_ret
    exact ⟨by rw [decide_eq_false HF.out]; rfl, Below.refl _ _⟩

end Go.Proofs.Ytfjpbceddnnnaaa
