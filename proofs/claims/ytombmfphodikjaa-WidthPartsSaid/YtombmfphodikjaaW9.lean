/- The contracts of package width's isOrder, along, firstOrder. -/
import Derived.Test.YtombmfphodikjaaW8
import Derived.Test.YtombmfphodikjaaW3
namespace Go.Proofs.Ytombmfphodikjaa
set_option linter.unusedSimpArgs false
set_option linter.unusedVariables false
open Go.RowKit Go.Maps
attribute [local go_sem] i64_bit toNat_eq_one toNat_ne_one toNat_eq_zero toNat_ne_zero i64_and i64_or i64_andNot i64_or_pow i64_andNot_pow

set_option maxRecDepth 20000 in
set_option maxHeartbeats 2000000 in
theorem isOrder_any {n : Nat} (a : Option Addr) (cap : Nat) {m : Nat} {z : Nat → Int} {o : Option Addr} {w : World} (hn : n ≤ 9) (co : Nat) (hI : IntsAt w o m z) :
    Calls Try.prog 44 #[.slice a n cap, .slice o m co] w fun e w' => e = .returned (.bool (ordB n m z)) ∧ w = w' := by
  have hml := hI.1
  unfold maxLen at hml
  by_cases hmn : m = n
  · subst hmn
    have HI := Lib.hid hI
    clear hI
    go_enter Try.func44, Try.ntmps44
    go_wp2_with fail
    go_loopw [5, 15] (fun f i wr => ∃ k : Nat, k ≤ m ∧ i = .int .i64 k ∧ f = .int .i64 (metO z k : Nat) ∧ (∀ i, i < k → okO m z i = true) ∧ w = wr) (fun _ i _ => m - (intOf i).toNat)
    case atStart => exact ⟨0, Nat.zero_le _, rfl, rfl, by omega, rfl⟩
    case round =>
      obtain ⟨k, hk, rfl, rfl, hok, rfl⟩ := hrel
      have HOK := Lib.hid hok
      have hmet := lt16 hn (metO_lt k hok)
      have HST : Hid (metO z (k + 1) = metO z k ||| 2 ^ (z k).toNat) := Lib.hid rfl
      clear hok
      by_cases hlt : k < m
      · obtain ⟨b, off, rfl, hb, hc⟩ := HI.out.2 (by omega)
        have ck := hc k hlt
        clear hc
        by_cases hr : 0 ≤ z k ∧ z k < m
        · have hin := inB_true hr.1 hr.2
          obtain ⟨s, hs⟩ : ∃ s : Nat, z k = s := ⟨(z k).toNat, by omega⟩
          have hsm : s < m := by omega
          have hs64 : s < 64 := by omega
          have hs16 : s < 16 := by omega
          have hps := pow_bd s hs16
          rw [hs] at ck hin
          have HS := Lib.hid hs
          rw [hs, Int.toNat_natCast] at HST
          have HMB : Hid (okO m z k = (true && !(metO z k).testBit s)) := Lib.hid (by unfold okO; rw [hs, hin, Int.toNat_natCast])
          clear hr hs
          generalize metO z k = M at *
          cases hq : M.testBit s
          · have HQ := Lib.hid (show okO m z k = true by rw [HMB.out, hq]; rfl)
            go_wp2_with (first | (go_at_call 66; refine (isNode_any _ _ _ _ _ (by omega)).mono ?_; rintro e w1 ⟨rfl, rfl⟩; rw [hin]) | (go_at_call 61; refine (has_any _ _ _ hmet hs64).mono ?_; rintro e w2 ⟨rfl, rfl⟩; rw [hq]))
            go_roundw
            case rel => exact ⟨k + 1, by omega, by go_num, by rw [HST.out], fun i hi => by rcases Nat.lt_succ_iff_lt_or_eq.1 hi with h | h; exact HOK.out i h; rw [h]; exact HQ.out, by trivial⟩
            case measure => simp [intOf]; omega
          · have HQ := Lib.hid (show okO m z k = false by rw [HMB.out, hq]; rfl)
            go_wp2_with (first | (go_at_call 66; refine (isNode_any _ _ _ _ _ (by omega)).mono ?_; rintro e w1 ⟨rfl, rfl⟩; rw [hin]) | (go_at_call 61; refine (has_any _ _ _ hmet hs64).mono ?_; rintro e w2 ⟨rfl, rfl⟩; rw [hq]))
            go_ret
            exact ⟨by rw [ordB_bad hlt HQ.out]; rfl, rfl⟩
        · have hin := inB_false hr
          have HQ := Lib.hid (show okO m z k = false by unfold okO; rw [hin]; rfl)
          clear hr
          go_wp2_with (go_at_call 66; refine (isNode_any _ _ _ _ _ (by omega)).mono ?_; rintro e w1 ⟨rfl, rfl⟩; rw [hin])
          go_ret
          exact ⟨by rw [ordB_bad hlt HQ.out]; rfl, rfl⟩
      · have hke : k = m := by omega
        subst hke
        go_wp2_with fail
        go_ret
        exact ⟨by rw [ordB_good HOK.out]; rfl, rfl⟩
  · have hne : ((m : Int) != (n : Int)) = true := by simp; omega
    have HF := Lib.hid (ordB_len (z := z) hmn)
    clear hI hmn
    go_enter Try.func44, Try.ntmps44
    go_wp2_with fail
    go_ret
    exact ⟨by rw [HF.out]; rfl, rfl⟩

set_option maxRecDepth 20000 in
set_option maxHeartbeats 2000000 in
theorem along_any {n : Nat} {r : Nat → Nat} {a : Option Addr} {w : World} (G : Gr w a n r) (cap : Nat) {z : Nat → Int} {o : Option Addr} (co : Nat) (hI : IntsAt w o n z) (hok : ∀ k, k < n → okO n z k = true) :
    Calls Try.prog 45 #[.slice a n cap, .slice o n co] w fun e w' => e = .returned (.int .i64 (alo (tn n r) z n : Nat)) ∧ w = w' := by
  have hle := G.le
  have HG := Lib.hid G
  have HOK := Lib.hid hok
  have HI := Lib.hid hI
  clear G hok hI
  go_enter Try.func45, Try.ntmps45
  go_wp2_with fail
  go_loopw [5, 6, 11] (fun b f i wr => ∃ k : Nat, k ≤ n ∧ i = .int .i64 k ∧ f = .int .i64 (metO z k : Nat) ∧ b = .int .i64 (alo (tn n r) z k : Nat) ∧ w = wr) (fun _ _ i _ => n - (intOf i).toNat)
  case atStart => exact ⟨0, Nat.zero_le _, rfl, rfl, rfl, rfl⟩
  case round =>
    obtain ⟨k, hk, rfl, rfl, rfl, rfl⟩ := hrel
    by_cases hlt : k < n
    · obtain ⟨b, off, rfl, hb, hc⟩ := HI.out.2 (by omega)
      have ck := hc k hlt
      clear hc
      have hmet2 := metO_lt k (fun i hi => HOK.out i (by omega))
      have hmet := lt16 hle hmet2
      obtain ⟨h0, h1, h2, h3⟩ := okO_iff (HOK.out k hlt)
      obtain ⟨s, hs⟩ : ∃ s : Nat, z k = s := ⟨(z k).toNat, by omega⟩
      have hsn : s < n := by omega
      have hs64 : s < 64 := by omega
      have hs16 : s < 16 := by omega
      have hps := pow_bd s hs16
      rw [hs] at ck
      have HST : Hid (metO z (k + 1) = metO z k ||| 2 ^ s) := Lib.hid (by show metO z k ||| 2 ^ (z k).toNat = _; rw [hs, Int.toNat_natCast])
      have HAL : Hid (alo (tn n r) z (k + 1) = max (alo (tn n r) z k) (tn n r (metO z k) s)) := Lib.hid (by show max _ (tn n r (metO z k) (z k).toNat) = _; rw [hs, Int.toNat_natCast])
      have hal : alo (tn n r) z k ≤ 9 := by
        have : ∀ k, alo (tn n r) z k ≤ n := fun k => by
          induction k with
          | zero => exact Nat.zero_le _
          | succ k ih => show max _ _ ≤ n; have := tn_le n r (metO z k) (z k).toNat; omega
        have := this k
        omega
      have HLF : Hid (leftS n r (metO z k) s < 2 ^ n) := Lib.hid (arnd_lt _ HG.out.bd)
      have htn : szS n (leftS n r (metO z k) s) = tn n r (metO z k) s := rfl
      have HTN := Lib.hid htn
      have htl := tn_le n r (metO z k) s
      have HM2 := Lib.hid hmet2
      clear h0 h1 h2 h3 hs htn hmet2
      generalize metO z k = M at *
      generalize alo (tn n r) z k = A at *
      generalize tn n r M s = T at *
      go_wp2_with (first
        | (go_at_call 65; refine (left_any HG.out cap s M hsn HM2.out).mono ?_; rintro e w3 ⟨rfl, rfl⟩)
        | (go_at_call 64; refine (count_any hle (leftS n r M s) HLF.out _).mono ?_; rintro e w4 ⟨rfl, rfl⟩; rw [HTN.out]))
      go_roundw
      case rel => exact ⟨k + 1, by omega, by go_num, by rw [HST.out], by rw [HAL.out]; first | rfl | (congr 1; omega), by trivial⟩
      case measure => simp [intOf]; omega
    · have hke : k = n := by omega
      subst hke
      go_wp2_with fail
      go_ret
      exact ⟨rfl, rfl⟩

/-- A slice of numbers of one's own. -/
def NatsOwn (w : World) (base : Nat) (v : Value) (L : List Nat) : Prop := w.ownsRow base 3 1 v L.length (L.map fun (x : Nat) => Value.int .i64 x)

theorem ownsRow_grown {w w' : World} {base : Nat} {e : TypeId} {size : Nat} {v : Value} {n : Nat} {xs : List Value} {row : Option Nat} (h : w.ownsRow base e size v n xs) (hg : w.grownBy w' row) (hr : ∀ k, row = some k → k < base) : w'.ownsRow base e size v n xs := by
  refine ⟨h.1, ?_⟩
  rcases h.2 with h1 | ⟨g, cap, cur, hv, hgb, hh, r⟩
  · exact Or.inl h1
  · refine Or.inr ⟨g, cap, cur, hv, hgb, ?_, r⟩
    rw [hg.block g (Array.getElem?_eq_some_iff.1 hh).1 (fun e => by have := hr g e.symm; omega)]
    exact hh
/-- All of it lies below a block. -/
structure LowAt (B kb tb lb mb : Nat) (a : Option Addr) : Prop where
  k : kb < B
  t : tb < B
  l : lb < B
  m : mb < B
  a : ∀ x, a = some x → x.block < B
theorem LeastAt.low {w : World} {kb tb lb mb : Nat} {a : Option Addr} {n cap : Nat} {r : Nat → Nat} {F : Nat → Option Nat} (h : LeastAt w kb tb lb mb a n cap r F) : LowAt w.heap.size kb tb lb mb a :=
  ⟨h.kl, h.tl, h.ll, h.mp.lt, fun x hx => by
    obtain ⟨b, off, he, hlt, _⟩ := h.gr.at_.ints.2 h.gr.at_.pos
    rw [hx] at he; cases he; exact hlt⟩
theorem LeastAt.apart {w w' : World} {B kb tb lb mb : Nat} {a : Option Addr} {n cap : Nat} {r : Nat → Nat} {F : Nat → Option Nat} {row : Option Nat} (h : LeastAt w kb tb lb mb a n cap r F) (hl : LowAt B kb tb lb mb a) (hg : w.grownBy w' row) (hr : ∀ k, row = some k → B ≤ k) : LeastAt w' kb tb lb mb a n cap r F where
  gr := h.gr.grown hg (fun x hx e => by have := hl.a x hx; have := hr _ e.symm; omega)
  ga := h.ga
  kl := Nat.lt_of_lt_of_le h.kl hg.size
  tl := Nat.lt_of_lt_of_le h.tl hg.size
  ll := Nat.lt_of_lt_of_le h.ll hg.size
  nk := h.nk
  nt := h.nt
  nl := h.nl
  kc := by rw [World.cell?_of_block (a := ⟨kb, 0, none⟩) (hg.block kb h.kl (fun e => by have := hl.k; have := hr _ e.symm; omega))]; exact h.kc
  tc := by rw [World.cell?_of_block (a := ⟨tb, 0, none⟩) (hg.block tb h.tl (fun e => by have := hl.t; have := hr _ e.symm; omega))]; exact h.tc
  lc := by rw [World.cell?_of_block (a := ⟨lb, 0, none⟩) (hg.block lb h.ll (fun e => by have := hl.l; have := hr _ e.symm; omega))]; exact h.lc
  mp := by
    obtain ⟨es, clock, hb, h2⟩ := h.mp
    exact ⟨es, clock, by rw [hg.block mb h.mp.lt (fun e => by have := hl.m; have := hr _ e.symm; omega)]; exact hb, h2⟩
  good := h.good
  top := h.top

end Go.Proofs.Ytombmfphodikjaa
