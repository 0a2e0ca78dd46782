/- Two sweeps on at most eight nodes: one stays at a node, the other hunts what is left. -/
import Derived.Test.YtbkbliieappkdaaDoorChS11
namespace Go.Proofs.YtbkbliieappkdaaDoor.Ch
set_option linter.unusedSimpArgs false
set_option linter.unusedVariables false
open Go.RowKit

/-- The hunt of one sweep for a cat that keeps to the nodes of K. -/
def hunt (n : Nat) (r : Nat → Nat) (K : List Nat) : Nat → Nat → Nat → Prop
  | 0, x, c => c = x
  | i + 1, x, c => hunt n r K i x c ∨ ∃ y, y < n ∧ (r x).testBit y = true ∧ (c = y ∨ ∀ d, d ∈ K → (r c).testBit d = true → hunt n r K i y d)

theorem hunt_mono {n : Nat} {r : Nat → Nat} {K : List Nat} {x c i j : Nat} (hij : i ≤ j) (h : hunt n r K i x c) : hunt n r K j x c := by
  induction j with
  | zero => rwa [show i = 0 by omega] at h
  | succ j ih =>
    rcases Nat.lt_or_ge i (j + 1) with h1 | h1
    · exact .inl (ih (by omega))
    · rwa [show i = j + 1 by omega] at h
theorem hunt_one {n : Nat} {r : Nat → Nat} {K : List Nat} {x c : Nat} (hc : c < n) (h : (r x).testBit c = true) : hunt n r K 1 x c := .inr ⟨c, hc, h, .inl rfl⟩

/-- A graph as the games see it. -/
structure Net (n : Nat) (r : Nat → Nat) : Prop where
  one : 1 ≤ n
  eight : n ≤ 8
  refl : ∀ x, x < n → (r x).testBit x = true
  sym : ∀ v u, v < n → u < n → (r v).testBit u = (r u).testBit v
  rin : ∀ v u, v < n → (r v).testBit u = true → u < n
  conn : connB n r = true

theorem net_town {n : Nat} {z : Nat → Int} (h : townB n z = true) : Net n (reachOf z) := by
  obtain ⟨h1, h2, h3, h4, h5⟩ := town_iff.1 h
  exact ⟨h1, h2, fun x _ => by rw [testBit_reachOf]; simp, h4, town_rin (fun i hi => (h3 i hi).1), h5⟩

open Classical in
/-- What spreads to the neighbours at each step is everywhere after seven steps. -/
theorem Net.spread {n : Nat} {r : Nat → Nat} (N : Net n r) (S : Nat → Nat → Prop) {x0 : Nat} (hx0 : x0 < n) (h0 : S 0 x0) (hm : ∀ j x, S j x → S (j + 1) x)
    (hs : ∀ j a b, a < n → b < n → S j a → (r a).testBit b = true → S (j + 1) b) : ∀ x, x < n → S 7 x := by
  have key : ∀ j, (∀ x, x < n → S j x) ∨ (S j x0 ∧ j + 1 ≤ (List.range n).countP fun x => decide (S j x)) := by
    intro j
    induction j with
    | zero =>
      right
      refine ⟨h0, ?_⟩
      exact List.countP_pos_iff.2 ⟨x0, List.mem_range.2 hx0, by simp [h0]⟩
    | succ j ih =>
      rcases ih with ih | ⟨ih0, ih⟩
      · exact .inl fun x hx => hm j x (ih x hx)
      · by_cases hcl : ∀ a b, a < n → S j a → (r a).testBit b = true → S j b
        · left
          intro x hx
          exact hm j x (conn_any N.one N.rin N.sym N.conn (S j) hx0 ih0 hcl x hx)
        · right
          refine ⟨hm j x0 ih0, ?_⟩
          have hex : ∃ a b, a < n ∧ S j a ∧ (r a).testBit b = true ∧ ¬ S j b := by
            apply Classical.byContradiction
            intro hno
            apply hcl
            intro a b ha h1 h2
            apply Classical.byContradiction
            intro h3
            exact hno ⟨a, b, ha, h1, h2, h3⟩
          obtain ⟨a, b, ha, h1, h2, h3⟩ := hex
          have hb := N.rin a b ha h2
          have := countP_lt (fun x => decide (S (j + 1) x)) (fun x => decide (S j x)) (List.range n) b (List.mem_range.2 hb) (by simp [hs j a b ha hb h1 h2]) (by simp [h3]) (fun b hb => by simp at hb ⊢; exact hm j b hb)
          omega
  rcases key 7 with h | ⟨-, h⟩
  · exact h
  · intro x hx
    have h8 := N.eight
    have hle := List.countP_le_length (p := fun x => decide (S 7 x)) (l := List.range n)
    rw [List.length_range] at hle
    have heq : (List.range n).countP (fun x => decide (S 7 x)) = (List.range n).length := by rw [List.length_range]; omega
    have := List.countP_eq_length.1 heq x (List.mem_range.2 hx)
    simpa using this

/-- No two nodes of K are neighbours. -/
def Bare (r : Nat → Nat) (K : List Nat) : Prop := ∀ c, c ∈ K → ∀ d, d ∈ K → (r c).testBit d = true → d = c
/-- Node w is a corner within K, covered by u. -/
def Crn (r : Nat → Nat) (K : List Nat) (w u : Nat) : Prop := w ∈ K ∧ u ∈ K ∧ u ≠ w ∧ ∀ d, d ∈ K → (r w).testBit d = true → (r u).testBit d = true

theorem Net.bare {n : Nat} {r : Nat → Nat} (N : Net n r) {K : List Nat} (hb : Bare r K) {x c : Nat} (hx : x < n) (hc : c ∈ K) (hcn : c < n) : hunt n r K 7 x c := by
  refine N.spread (fun j x => hunt n r K j x c) hcn rfl (fun j x h => .inl h) (fun j a b ha hbn h1 h2 => ?_) x hx
  refine .inr ⟨a, ha, by rw [N.sym b a hbn ha]; exact h2, .inr fun d hd hcd => ?_⟩
  rw [hb c hc d hd hcd]; exact h1

/-- What a corner is folded to. -/
def fold (w u x : Nat) : Nat := if x = w then u else x
/-- Who catches the folded cat catches the cat, one move later. -/
theorem Net.fold {n : Nat} {r : Nat → Nat} (N : Net n r) {K K' : List Nat} (hK : ∀ x, x ∈ K → x < n) {w u : Nat} (h : Crn r K w u) (hK' : ∀ d, d ∈ K' ↔ d ∈ K ∧ d ≠ w) :
    ∀ {j x c : Nat}, x < n → c ∈ K → hunt n r K' j x (fold w u c) → hunt n r K (j + 1) x c
  | 0, x, c, hx, hc, e => by
    obtain ⟨hw, hu, huw, hcv⟩ := h
    change Proofs.YtbkbliieappkdaaDoor.Ch.fold w u c = x at e
    unfold Proofs.YtbkbliieappkdaaDoor.Ch.fold at e
    split at e
    · rename_i hcw
      subst hcw
      subst e
      refine hunt_one (hK c hc) (hcv c hc (N.refl c (hK c hc)))
    · exact .inl e
  | j + 1, x, c, hx, hc, e => by
    have H := h
    obtain ⟨hw, hu, huw, hcv⟩ := h
    rcases e with e | ⟨y, hy, hxy, e⟩
    · exact .inl (Net.fold N hK H hK' hx hc e)
    · refine .inr ⟨y, hy, hxy, ?_⟩
      rcases e with e | e
      · unfold Proofs.YtbkbliieappkdaaDoor.Ch.fold at e
        split at e
        · rename_i hcw
          subst hcw
          subst e
          right
          intro d hd hcd
          exact hunt_mono (by omega) (hunt_one (K := K) (hK d hd) (hcv d hd hcd))
        · exact .inl e
      · right
        intro d hd hcd
        have hdn := hK d hd
        have hcn := hK c hc
        have hun := hK u hu
        have hwn := hK w hw
        refine Net.fold N hK H hK' hy hd (e _ ?_ ?_)
        · rw [hK']
          unfold Proofs.YtbkbliieappkdaaDoor.Ch.fold
          split
          · exact ⟨hu, huw⟩
          · rename_i hdw; exact ⟨hd, hdw⟩
        · unfold Proofs.YtbkbliieappkdaaDoor.Ch.fold
          split
          · rename_i hcw
            subst hcw
            split
            · exact N.refl u hun
            · exact hcv d hd hcd
          · split
            · rename_i hdw
              subst hdw
              rw [N.sym c u hcn hun]
              rw [N.sym c d hcn hdn] at hcd
              exact hcv c hc hcd
            · exact hcd

/-- What can be taken apart, corner by corner, until no neighbours are left, is hunted down. -/
theorem Net.hunted {n : Nat} {r : Nat → Nat} (N : Net n r) (P : List Nat → Prop) (hP : ∀ K, P K → Bare r K ∨ ∃ w u, Crn r K w u ∧ P (K.filter fun d => !(d == w))) :
    ∀ {m : Nat} {K : List Nat}, K.length ≤ m → P K → (∀ x, x ∈ K → x < n) → ∀ {x c : Nat}, x < n → c ∈ K → hunt n r K (7 + m) x c
  | 0, K, hl, hp, hK, x, c, hx, hc => by
    cases K with
    | nil => cases hc
    | cons => simp at hl
  | m + 1, K, hl, hp, hK, x, c, hx, hc => by
    rcases hP K hp with h | ⟨w, u, h, hp'⟩
    · exact hunt_mono (by omega) (N.bare h hx hc (hK c hc))
    · have hK' : ∀ d, d ∈ (K.filter fun d => !(d == w)) ↔ d ∈ K ∧ d ≠ w := fun d => by simp
      have hlt : (K.filter fun d => !(d == w)).length < K.length := by
        have := List.length_filter_lt_length_iff_exists (p := fun d => !(d == w)) (l := K) |>.2 ⟨w, h.1, by simp⟩
        exact this
      refine N.fold hK h hK' hx hc ?_
      refine Net.hunted N P hP (by omega) hp' (fun y hy => hK y ((hK' y).1 hy).1) hx ?_
      rw [hK']
      unfold Proofs.YtbkbliieappkdaaDoor.Ch.fold
      split
      · exact ⟨h.2.1, h.2.2.1⟩
      · rename_i hcw; exact ⟨hc, hcw⟩

/-- One sweep stays at v, which keeps the cat in K: the other one's hunt is a game of both. -/
theorem Net.park {n : Nat} {r : Nat → Nat} (N : Net n r) {v : Nat} (hv : v < n) {K : List Nat} (hK : ∀ x, x ∈ K → x < n) (hcl : ∀ d, d < n → d ∈ K ∨ (r v).testBit d = true) :
    ∀ {i x c : Nat}, x < n → c < n → hunt n r K i x c → lev n r (chs n 2) (i + 1) ((srt v x).1, (srt v x).2, c)
  | 0, x, c, hx, hc, h => by
    refine lev_mono (Nat.zero_le _) ?_
    rw [lev_zero]
    refine ⟨srt_mem (.inr rfl) hv hx (.inl rfl), ?_⟩
    rw [ctch_srt, ctch_iff]
    exact .inr h
  | i + 1, x, c, hx, hc, h => by
    rcases h with h | ⟨y, hy, hxy, h⟩
    · exact lev_mono (Nat.le_succ _) (Net.park N hv hK hcl hx hc h)
    · rw [lev_succ]
      right
      refine ⟨srt_mem (.inr rfl) hv hx (.inl rfl), hc, srt v y, srt_mem (.inr rfl) hv hy (.inl rfl), ?_, ?_⟩
      · show canM r (srt v x) (srt v y) = true
        rw [canM_srt, canM_iff]
        exact .inl ⟨N.refl v hv, hxy⟩
      · rcases h with h | h
        · left
          rw [ctch_srt, ctch_iff]
          exact .inr h
        · right
          intro d hd
          have hdn := N.rin c d hc hd
          refine ⟨hdn, ?_⟩
          rcases hcl d hdn with h1 | h1
          · exact Net.park N hv hK hcl hy hdn (h d h1 hd)
          · refine lev_mono (show 1 ≤ i + 1 by omega) (lev_one (.inr rfl) N.refl (srt_mem (.inr rfl) hv hy (.inl rfl)) hdn ?_)
            rcases srt_or v y with h5 | h5 <;> rw [h5]
            · exact .inl h1
            · exact .inr h1

/-- If the hunt ends within m moves from everywhere, two sweeps catch the cat within m + 8 from everywhere. -/
theorem Net.two {n : Nat} {r : Nat → Nat} (N : Net n r) {v m : Nat} (hv : v < n) {K : List Nat} (hK : ∀ x, x ∈ K → x < n) (hcl : ∀ d, d < n → d ∈ K ∨ (r v).testBit d = true)
    (hh : ∀ x c, x < n → c ∈ K → hunt n r K m x c) {a b c : Nat} (ha : a < n) (hb : b < n) (hc : c < n) : lev n r (chs n 2) (m + 1 + 7) ((srt a b).1, (srt a b).2, c) := by
  refine N.spread (fun j a => ∀ b c, b < n → c < n → lev n r (chs n 2) (m + 1 + j) ((srt a b).1, (srt a b).2, c)) hv ?_ (fun j x h b c hb hc => lev_mono (by omega) (h b c hb hc)) (fun j x y hx hy h hxy b c hb hc => ?_) a ha b c hb hc
  · intro b c hb hc
    rcases hcl c hc with h1 | h1
    · exact N.park hv hK hcl hb hc (hh b c hb h1)
    · refine lev_mono (show 1 ≤ m + 1 + 0 by omega) (lev_one (.inr rfl) N.refl (srt_mem (.inr rfl) hv hb (.inl rfl)) hc ?_)
      rcases srt_or v b with h5 | h5 <;> rw [h5]
      · exact .inl h1
      · exact .inr h1
  · rw [show m + 1 + (j + 1) = (m + 1 + j) + 1 by omega, lev_succ]
    right
    refine ⟨srt_mem (.inr rfl) hy hb (.inl rfl), hc, srt x b, srt_mem (.inr rfl) hx hb (.inl rfl), ?_, .inr fun d hd => ⟨N.rin c d hc hd, h b d hb (N.rin c d hc hd)⟩⟩
    show canM r (srt y b) (srt x b) = true
    rw [canM_srt, canM_iff]
    exact .inl ⟨by rw [N.sym y x hy hx]; exact hxy, N.refl b hb⟩

end Go.Proofs.YtbkbliieappkdaaDoor.Ch
