/- The contracts of leastSet and cover, and of the reference's Cover. -/
import Derived.Test.YtbkbliieappkdaaDoorW22
namespace Go.Proofs.YtbkbliieappkdaaDoor
set_option linter.unusedSimpArgs false
set_option linter.unusedVariables false
open Go.RowKit Go.Maps
attribute [local go_sem] i64_bit toNat_eq_one toNat_ne_one toNat_eq_zero toNat_ne_zero i64_and i64_or i64_andNot i64_or_pow i64_andNot_pow

/-- What is known behind the first sets of some size. -/
structure NoneYet (n : Nat) (p : Nat → Bool) (size j : Nat) : Prop where
  less : ∀ Y, Y < 2 ^ n - 1 → p Y = true → size ≤ szS n Y
  same : ∀ Y, Y < j → szS n Y = size → p Y = false
theorem NoneYet.start {n : Nat} {p : Nat → Bool} : NoneYet n p 0 0 := ⟨fun _ _ _ => Nat.zero_le _, fun _ h => by omega⟩
theorem NoneYet.step {n : Nat} {p : Nat → Bool} {size j : Nat} (h : NoneYet n p size j) (hno : szS n j = size → p j = false) : NoneYet n p size (j + 1) :=
  ⟨h.less, fun Y hY hs => by
    rcases Nat.lt_succ_iff_lt_or_eq.1 hY with h1 | h1
    · exact h.same Y h1 hs
    · subst h1; exact hno hs⟩
theorem NoneYet.next {n : Nat} {p : Nat → Bool} {size : Nat} (h : NoneYet n p size (2 ^ n - 1)) : NoneYet n p (size + 1) 0 :=
  ⟨fun Y hY hp => (by
    have := h.less Y hY hp
    rcases Nat.lt_or_eq_of_le this with h1 | h1
    · exact h1
    · have h2 := h.same Y hY h1.symm
      rw [hp] at h2
      exact absurd h2 (by simp)), fun _ h => by omega⟩
theorem NoneYet.found {n : Nat} {p : Nat → Bool} {j : Nat} (h : NoneYet n p (szS n j) j) (hj : j < 2 ^ n - 1) (hp : p j = true) : LeastFit n p j :=
  ⟨by omega, Or.inr hp, fun Y hY hpY => by
    have := h.less Y hY hpY
    rcases Nat.lt_or_eq_of_le this with h1 | h1
    · exact Or.inl h1
    · refine Or.inr ⟨h1, ?_⟩
      apply Classical.byContradiction
      intro hlt
      have := h.same Y (by omega) h1.symm
      rw [hpY] at this; cases this⟩
theorem NoneYet.all {n : Nat} {p : Nat → Bool} (h : NoneYet n p n 0) : LeastFit n p (2 ^ n - 1) :=
  ⟨by have := Nat.two_pow_pos n; omega, Or.inl rfl, fun Y hY hp => by
    have h1 := h.less Y hY hp
    have h2 := szS_all_lt hY
    omega⟩

set_option maxRecDepth 20000 in
set_option maxHeartbeats 4000000 in
theorem leastSet_cover {n : Nat} {a : Option Addr} (cap : Nat) (hn : n ≤ 9) {w : World} {p : Nat → Bool} {lb : Nat}
    (hf : ∀ wz, Below w.heap.size w wz → ∀ s : Nat, s < 2 ^ n → Calls Tryd.prog 72 #[.int .i64 (s : Nat), .pointer (some ⟨lb, 0, none⟩)] wz fun e w' => e = .returned (.bool (p s)) ∧ Below wz.heap.size wz w') :
    Calls Tryd.prog 50 #[.slice a n cap, .func (.func 72) #[] #[.pointer (some ⟨lb, 0, none⟩)]] w fun e w' => (∃ X, e = .returned (.int .i64 (X : Nat)) ∧ LeastFit n p X) ∧ Below w.heap.size w w' := by
  have hn16 : n < 16 := by omega
  have hpn := pow_bd n hn16
  have h9 := pow_le9 hn
  have h1 := Nat.one_le_two_pow (n := n)
  obtain ⟨N, hN⟩ : ∃ N : Nat, N = 2 ^ n - 1 := ⟨_, rfl⟩
  have hcast : ((2 : Int) ^ n - 1) = (N : Int) := by rw [pow_cast, hN]; omega
  have HF := Lib.hid hf
  have HN := Lib.hid hN
  have HC := Lib.hid hcast
  have hN9 : N < 512 := by omega
  clear hf hN hcast h9
  go_enter Tryd.func50, Tryd.ntmps50
  go_wp2_with fail
  go_loopw [9] (fun i wr => ∃ k : Nat, k ≤ n ∧ i = .int .i64 k ∧ NoneYet n p k 0 ∧ Below w.heap.size w wr) (fun i _ => n - (intOf i).toNat)
  case atStart => exact ⟨0, Nat.zero_le _, rfl, NoneYet.start, Below.refl _ _⟩
  case round =>
    obtain ⟨k, hk, rfl, hno, hbel⟩ := hrel
    have HNO := Lib.hid hno
    have HB := Lib.hid hbel
    clear hno hbel
    by_cases hlt : k < n
    · go_wp2_with (go_at_call 77; refine (all_any _ _ _ _ hn16).mono ?_; rintro e wz ⟨rfl, rfl⟩; rw [HC.out])
      go_loopw [14] (fun i wx => ∃ j : Nat, j ≤ N ∧ i = .int .i64 j ∧ NoneYet n p k j ∧ Below w.heap.size w wx) (fun i _ => N - (intOf i).toNat)
      case atStart => exact ⟨0, Nat.zero_le _, rfl, HNO.out, HB.out⟩
      case round =>
        clear HNO HB
        obtain ⟨j, hj, rfl, hno, hbel⟩ := hrel
        have HNO := Lib.hid hno
        have HB := Lib.hid hbel
        clear hno hbel
        by_cases hlj : j < N
        · have hj2 : j < 2 ^ n := by have := HN.out; omega
          have HJ2 := Lib.hid hj2
          have hsz := szS_le n j
          clear hj2
          by_cases hq : szS n j = k
          · have hqb : (((szS n j : Nat) : Int) == (k : Int)) = true := by rw [hq]; simp
            have HQ := Lib.hid hq
            clear hq
            cases hp : p j
            · have HP := Lib.hid hp
              go_wp2_with (first
                | (go_at_call 44; refine (count_any hn j HJ2.out _).mono ?_; rintro e w4 ⟨rfl, rfl⟩)
                | (go_at_call 72; refine (HF.out _ HB.out j HJ2.out).mono ?_; rintro e w5 ⟨rfl, hb5⟩; rw [hp]; have HB5 := Lib.hid (HB.out.trans (hb5.mono HB.out.size)); clear hb5))
              go_roundw
              case rel => exact ⟨j + 1, by omega, by go_num, HNO.out.step (fun _ => HP.out), HB5.out⟩
              case measure => simp [intOf]; omega
            · have HP := Lib.hid hp
              go_wp2_with (first
                | (go_at_call 44; refine (count_any hn j HJ2.out _).mono ?_; rintro e w4 ⟨rfl, rfl⟩)
                | (go_at_call 72; refine (HF.out _ HB.out j HJ2.out).mono ?_; rintro e w5 ⟨rfl, hb5⟩; rw [hp]; have HB5 := Lib.hid (HB.out.trans (hb5.mono HB.out.size)); clear hb5))
              go_ret
              exact ⟨⟨j, rfl, NoneYet.found (by rw [HQ.out]; exact HNO.out) (by rw [← HN.out]; exact hlj) HP.out⟩, HB5.out⟩
          · have hqb : (((szS n j : Nat) : Int) == (k : Int)) = false := by rw [cast_beq]; simpa using hq
            have HQ := Lib.hid hq
            clear hq
            go_wp2_with (go_at_call 44; refine (count_any hn j HJ2.out _).mono ?_; rintro e w4 ⟨rfl, rfl⟩)
            go_roundw
            case rel => exact ⟨j + 1, by omega, by go_num, HNO.out.step (fun h => absurd h HQ.out), HB.out⟩
            case measure => simp [intOf]; omega
        · have hje : j = N := by omega
          subst hje
          go_wp2_with fail
          go_roundw
          case rel => exact ⟨k + 1, by omega, by go_num, (by have h := HNO.out; rw [HN.out] at h; exact h.next), HB.out⟩
          case measure => simp [intOf]; omega
    · have hke : k = n := by omega
      subst hke
      go_wp2_with (go_at_call 77; refine (all_any _ _ _ _ hn16).mono ?_; rintro e wz ⟨rfl, rfl⟩; rw [HC.out])
      go_ret
      exact ⟨⟨N, rfl, by rw [HN.out]; exact HNO.out.all⟩, HB.out⟩

set_option maxRecDepth 20000 in
set_option maxHeartbeats 1000000 in
theorem cover_any {n : Nat} {a : Option Addr} (cap : Nat) (hn : n ≤ 9) {m : Nat} {z : Nat → Int} {o : Option Addr} (co : Nat) {w : World} (S : SetsAt w o n m z) :
    Calls Tryd.prog 45 #[.slice a n cap, .slice o m co] w fun e w' => (∃ X, e = .returned (.int .i64 (X : Nat)) ∧ LeastFit n (fun s => covTo z s m) X) ∧ Below w.heap.size w w' := by
  obtain ⟨w0, hw0, R0, HB0, hs0⟩ := new1 w 22 [.slice o m co]
  have HS := Lib.hid (S.below HB0)
  have HW0 := Lib.hid hw0
  have HB := Lib.hid HB0
  have HR := Lib.hid R0
  have hmf : ∀ (fn : Fn) (first cap : Array Value) (w : World), (Instr.makeFunc fn first cap).run Tryd.prog w = .ok (.func fn first cap) w := fun _ _ _ _ => rfl
  have hfits : ∀ wz, Below w0.heap.size w0 wz → ∀ s : Nat, s < 2 ^ n → Calls Tryd.prog 72 #[.int .i64 (s : Nat), .pointer (some ⟨w.heap.size, 0, none⟩)] wz fun e w' => e = .returned (.bool (covTo z s m)) ∧ Below wz.heap.size wz w' := fun wz hb s hs => by
    have r := HR.out.below hb HR.out.lt
    exact fits_any hn co (HS.out.below hb) (r.cell (i := 0) rfl) r.lt s (lt16 hn hs)
  have HFT := Lib.hid hfits
  clear S hw0 R0 HB0 hfits
  go_enter Tryd.func45, Tryd.ntmps45
  go_wp2_with fail
  rw [← HW0.out]
  go_wp2_with (go_at_call 50; refine (leastSet_cover (p := fun s => covTo z s m) cap hn HFT.out).mono ?_; rintro e w2 ⟨⟨X, rfl, hX⟩, hb2⟩; have HX := Lib.hid hX; have HB2 := Lib.hid (HB.out.trans (hb2.mono HB.out.size)); clear hX hb2)
  go_ret
  exact ⟨⟨X, rfl, HX.out⟩, HB2.out⟩

/-! ### the reference's way to it -/

/-- What holds of the best set behind the first ones. -/
structure BestTo (n : Nat) (p : Nat → Bool) (k X : Nat) : Prop where
  lt : X < 2 ^ n
  fit : X = 2 ^ n - 1 ∨ X < k ∧ p X = true
  least : ∀ Y, Y < k → Y < 2 ^ n - 1 → p Y = true → szS n X < szS n Y ∨ szS n X = szS n Y ∧ X ≤ Y
theorem BestTo.start {n : Nat} {p : Nat → Bool} : BestTo n p 0 (2 ^ n - 1) := ⟨by have := Nat.two_pow_pos n; omega, Or.inl rfl, fun _ h => by omega⟩
theorem BestTo.take {n : Nat} {p : Nat → Bool} {k X : Nat} (h : BestTo n p k X) (hk : k < 2 ^ n) (hs : szS n k < szS n X) (hp : p k = true) : BestTo n p (k + 1) k :=
  ⟨hk, Or.inr ⟨by omega, hp⟩, fun Y hY hl hpY => by
    rcases Nat.lt_succ_iff_lt_or_eq.1 hY with h1 | h1
    · have := h.least Y h1 hl hpY; omega
    · subst h1; exact Or.inr ⟨rfl, Nat.le_refl _⟩⟩
theorem BestTo.keep {n : Nat} {p : Nat → Bool} {k X : Nat} (h : BestTo n p k X) (hno : ¬ (szS n k < szS n X ∧ p k = true)) : BestTo n p (k + 1) X := by
  refine ⟨h.lt, ?_, fun Y hY hl hpY => ?_⟩
  · rcases h.fit with h1 | ⟨h1, h2⟩
    · exact Or.inl h1
    · exact Or.inr ⟨by omega, h2⟩
  · rcases Nat.lt_succ_iff_lt_or_eq.1 hY with h1 | h1
    · exact h.least Y h1 hl hpY
    · subst h1
      have h3 : ¬ szS n Y < szS n X := fun h4 => hno ⟨h4, hpY⟩
      rcases h.fit with h4 | ⟨h4, _⟩
      · have := szS_all_lt hl
        rw [h4, sz_all] at h3; omega
      · omega
theorem BestTo.all {n : Nat} {p : Nat → Bool} {X : Nat} (h : BestTo n p (2 ^ n) X) : LeastFit n p X :=
  ⟨h.lt, by rcases h.fit with h1 | h1; exact Or.inl h1; exact Or.inr h1.2, fun Y hY hp => h.least Y (by omega) hY hp⟩

set_option maxRecDepth 20000 in
set_option maxHeartbeats 4000000 in
theorem CoverR_any {n : Nat} {r : Nat → Nat} {a : Option Addr} {w : World} (G : Gr w a n r) (cap : Nat) {m : Nat} {z : Nat → Int} {o : Option Addr} (co : Nat) (S : SetsAt w o n m z) :
    Calls Tryd.prog 16 #[.slice a n cap, .slice o m co] w fun e w' => (∃ X, e = .returned (.int .i64 (X : Nat)) ∧ LeastFit n (fun s => covTo z s m) X) ∧ w = w' := by
  have hn := G.le
  have hn16 : n < 16 := by omega
  have hpn := pow_bd n hn16
  have h9 := pow_le9 hn
  have h1 := Nat.one_le_two_pow (n := n)
  have hml := S.ints.1
  unfold maxLen at hml
  obtain ⟨N, hN⟩ : ∃ N : Nat, N = 2 ^ n := ⟨_, rfl⟩
  have hcast : (2 : Int) ^ n = (N : Int) := by rw [pow_cast, hN]
  have HS := Lib.hid S
  have HN := Lib.hid hN
  have HC := Lib.hid hcast
  have hN9 : N ≤ 512 := by omega
  have hN1 : 1 ≤ N := by omega
  clear S hN hcast h9 G
  go_enter Tryd.func16, Tryd.ntmps16
  go_wp2_with fail
  rw [HC.out]
  go_loopw [5, 17] (fun b i wr => ∃ (k X : Nat), k ≤ N ∧ i = .int .i64 k ∧ b = .int .i64 (X : Nat) ∧ BestTo n (fun s => covTo z s m) k X ∧ w = wr) (fun _ i _ => N - (intOf i).toNat)
  case atStart => exact ⟨0, 2 ^ n - 1, Nat.zero_le _, rfl, by first | (rw [← HN.out]; congr 1; omega) | (rw [← HN.out]) | (congr 1; have := HN.out; omega), BestTo.start, rfl⟩
  case round =>
    obtain ⟨k, X, hk, rfl, rfl, hbt, rfl⟩ := hrel
    have hX2 := hbt.lt
    have HBT := Lib.hid hbt
    clear hbt
    by_cases hlt : k < N
    · have hk2 : k < 2 ^ n := by rw [← HN.out]; exact hlt
      have hk16 := lt16 hn hk2
      have hsk := szS_le n k
      have hsX := szS_le n X
      obtain ⟨b0, hb0⟩ : ∃ b0, b0 = decide (szS n k < szS n X) := ⟨_, rfl⟩
      have HB0 := Lib.hid hb0
      have hd : decide (((szS n k : Nat) : Int) < ((szS n X : Nat) : Int)) = b0 := by rw [hb0]; apply decide_eq_decide.2; omega
      go_wp2_with (go_at_call 15; refine (Size_any hn _ (by assumption) _).mono ?_; rintro e w4 ⟨rfl, rfl⟩)
      go_loopw [7, 27] (fun c i wx => ∃ j : Nat, j ≤ m ∧ i = .int .i64 j ∧ c = .bool (b0 && covTo z k j) ∧ w = wx) (fun _ i _ => m - (intOf i).toNat)
      case atStart => exact ⟨0, Nat.zero_le _, rfl, by rw [show (b0 && covTo z k 0) = b0 from Bool.and_true _, HB0.out], rfl⟩
      case round =>
        obtain ⟨j, hj, rfl, rfl, rfl⟩ := hrel
        by_cases hlj : j < m
        · obtain ⟨b, off, rfl, hb, hc⟩ := HS.out.ints.2 (by omega)
          have cj := hc j hlj
          clear hc
          obtain ⟨z0, z1⟩ := HS.out.bd j hlj
          obtain ⟨t, ht⟩ : ∃ t : Nat, z j = t := ⟨(z j).toNat, by omega⟩
          have ht16 : t < 65536 := lt16 hn (by rw [ht, Int.toNat_natCast] at z1; exact z1)
          have HST : Hid ((b0 && covTo z k (j + 1)) = ((b0 && covTo z k j) && (k &&& t != 0))) := Lib.hid (by rw [covTo_succ, ht, Int.toNat_natCast, Bool.and_assoc])
          have hq : (((t &&& k : Nat) : Int) != 0) = (k &&& t != 0) := by
            rw [Nat.and_comm, Bool.eq_iff_iff]; simp only [bne_iff_ne, ne_eq]; omega
          rw [ht] at cj
          clear z0 z1 ht
          generalize (b0 && covTo z k j) = c at *
          cases c
          · go_wp2_with fail
            go_roundw
            case rel => exact ⟨j + 1, by omega, by go_num, by rw [HST.out]; rfl, by trivial⟩
            case measure => simp [intOf]; omega
          · go_wp2_with fail
            go_roundw
            case rel => exact ⟨j + 1, by omega, by go_num, by rw [HST.out, Bool.true_and, ← hq], by trivial⟩
            case measure => simp [intOf]; omega
        · have hje : j = m := by omega
          subst hje
          cases hcc : (b0 && covTo z k j)
          · have HCC := Lib.hid hcc
            go_wp2_with fail
            go_roundw
            case rel => exact ⟨k + 1, X, by omega, by go_num, rfl, HBT.out.keep (fun h => by
              have h5 := HCC.out
              rw [HB0.out, decide_eq_true h.1] at h5
              simp only [Bool.true_and] at h5
              rw [h.2] at h5; cases h5), by trivial⟩
            case measure => simp [intOf]; omega
          · have HCC := Lib.hid hcc
            go_wp2_with fail
            go_roundw
            case rel => exact ⟨k + 1, k, by omega, by go_num, rfl, HBT.out.take hk2 (by
              have h5 := HCC.out
              rw [Bool.and_eq_true, HB0.out] at h5
              exact of_decide_eq_true h5.1) (by
              have h5 := HCC.out
              rw [Bool.and_eq_true] at h5
              exact h5.2), by trivial⟩
            case measure => simp [intOf]; omega
    · have hke : k = N := by omega
      subst hke
      go_wp2_with fail
      go_ret
      exact ⟨⟨X, rfl, by have h := HBT.out; rw [HN.out] at h; exact h.all⟩, rfl⟩

end Go.Proofs.YtbkbliieappkdaaDoor
