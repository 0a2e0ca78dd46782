/- Two sweeps catch the cat on at most eight nodes: where the one stays, and why the other's hunt ends. -/
import Derived.Test.YtbkbliieappkdaaDoorChS13
namespace Go.Proofs.YtbkbliieappkdaaDoor.Ch
set_option linter.unusedSimpArgs false
set_option linter.unusedVariables false
open Go.RowKit

theorem countP_split {α : Type} (p q : α → Bool) : ∀ l : List α, l.countP p = l.countP (fun x => p x && q x) + l.countP (fun x => p x && !q x)
  | [] => rfl
  | a :: l => by
    rw [List.countP_cons, List.countP_cons, List.countP_cons, countP_split p q l]
    cases p a <;> cases q a <;> simp <;> omega
theorem countP_sub {α : Type} {p q : α → Bool} {l : List α} (h : ∀ x, p x = true → q x = true) : l.countP p ≤ l.countP q := List.countP_mono_left fun x _ hx => h x hx

/-- The nodes of a list are covered one by another. -/
def crnB (r : Nat → Nat) (K : List Nat) (w u : Nat) : Bool := K.all fun x => !((r w).testBit x) || (r u).testBit x
theorem crn_of {r : Nat → Nat} {K : List Nat} {w u : Nat} (hw : w ∈ K) (hu : u ∈ K) (huw : u ≠ w) (h : crnB r K w u = true) : Crn r K w u := by
  refine ⟨hw, hu, huw, fun d hd hb => ?_⟩
  unfold crnB at h
  have := List.all_eq_true.1 h d hd
  rw [hb] at this
  simpa using this

theorem Net.two_l {n : Nat} {r : Nat → Nat} (N : Net n r) {a b : Nat} (ha : a < n) (hb : b < n) (hab : a ≠ b) : Bare r [a, b] ∨ ∃ w u, Crn r [a, b] w u := by
  have e1 := N.refl a ha
  have e2 := N.refl b hb
  have e3 := N.sym b a hb ha
  cases h : (r a).testBit b
  · left
    intro c hc d hd hcd
    simp only [List.mem_cons, List.not_mem_nil, or_false] at hc hd
    rcases hc with rfl | rfl <;> rcases hd with rfl | rfl
    · rfl
    · rw [h] at hcd; cases hcd
    · rw [e3, h] at hcd; cases hcd
    · rfl
  · right
    exact ⟨a, b, crn_of (by simp) (by simp) (Ne.symm hab) (by simp [crnB, e1, e2, e3, h])⟩

theorem Net.three_l {n : Nat} {r : Nat → Nat} (N : Net n r) {a b c : Nat} (ha : a < n) (hb : b < n) (hc : c < n) (hab : a ≠ b) (hac : a ≠ c) (hbc : b ≠ c) : Bare r [a, b, c] ∨ ∃ w u, Crn r [a, b, c] w u := by
  have e1 := N.refl a ha
  have e2 := N.refl b hb
  have e3 := N.refl c hc
  have s1 := N.sym b a hb ha
  have s2 := N.sym c a hc ha
  have s3 := N.sym c b hc hb
  have key : ((!(r a).testBit b && !(r a).testBit c && !(r b).testBit c) || (crnB r [a, b, c] a b || crnB r [a, b, c] b a) || (crnB r [a, b, c] a c || crnB r [a, b, c] c a) || (crnB r [a, b, c] b c || crnB r [a, b, c] c b)) = true := by
    simp only [crnB, List.all_cons, List.all_nil, e1, e2, e3, s1, s2, s3]
    generalize (r a).testBit b = x1
    generalize (r a).testBit c = x2
    generalize (r b).testBit c = x3
    revert x1 x2 x3
    decide
  simp only [Bool.or_eq_true, Bool.and_eq_true, Bool.not_eq_true'] at key
  rcases key with ((⟨⟨h1, h2⟩, h3⟩ | h | h) | h | h) | h | h
  · left
    intro x hx y hy hxy
    simp only [List.mem_cons, List.not_mem_nil, or_false] at hx hy
    rcases hx with rfl | rfl | rfl <;> rcases hy with rfl | rfl | rfl <;> first | rfl | (exfalso; simp_all)
  · exact .inr ⟨a, b, crn_of (by simp) (by simp) (Ne.symm hab) h⟩
  · exact .inr ⟨b, a, crn_of (by simp) (by simp) hab h⟩
  · exact .inr ⟨a, c, crn_of (by simp) (by simp) (Ne.symm hac) h⟩
  · exact .inr ⟨c, a, crn_of (by simp) (by simp) hac h⟩
  · exact .inr ⟨b, c, crn_of (by simp) (by simp) (Ne.symm hbc) h⟩
  · exact .inr ⟨c, b, crn_of (by simp) (by simp) hbc h⟩

/-- Each node of the list has two neighbours in it. -/
def Ring (r : Nat → Nat) (K : List Nat) : Prop := ∀ x, x ∈ K → K.countP (fun y => (r x).testBit y) = 3

theorem Net.four_l {n : Nat} {r : Nat → Nat} (N : Net n r) {a b c d : Nat} (ha : a < n) (hb : b < n) (hc : c < n) (hd : d < n) (hab : a ≠ b) (hac : a ≠ c) (had : a ≠ d) (hbc : b ≠ c) (hbd : b ≠ d) (hcd : c ≠ d) :
    Bare r [a, b, c, d] ∨ (∃ w u, Crn r [a, b, c, d] w u) ∨ Ring r [a, b, c, d] := by
  have e1 := N.refl a ha
  have e2 := N.refl b hb
  have e3 := N.refl c hc
  have e4 := N.refl d hd
  have s1 := N.sym b a hb ha
  have s2 := N.sym c a hc ha
  have s3 := N.sym c b hc hb
  have s4 := N.sym d a hd ha
  have s5 := N.sym d b hd hb
  have s6 := N.sym d c hd hc
  have key : ((!(r a).testBit b && !(r a).testBit c && !(r b).testBit c && !(r a).testBit d && !(r b).testBit d && !(r c).testBit d)
      || (crnB r [a, b, c, d] a b || crnB r [a, b, c, d] b a) || (crnB r [a, b, c, d] a c || crnB r [a, b, c, d] c a) || (crnB r [a, b, c, d] b c || crnB r [a, b, c, d] c b)
      || (crnB r [a, b, c, d] a d || crnB r [a, b, c, d] d a) || (crnB r [a, b, c, d] b d || crnB r [a, b, c, d] d b) || (crnB r [a, b, c, d] c d || crnB r [a, b, c, d] d c)
      || [a, b, c, d].all fun x => [a, b, c, d].countP (fun y => (r x).testBit y) == 3) = true := by
    simp only [crnB, List.all_cons, List.all_nil, List.countP_cons, List.countP_nil, e1, e2, e3, e4, s1, s2, s3, s4, s5, s6]
    generalize (r a).testBit b = x1
    generalize (r a).testBit c = x2
    generalize (r b).testBit c = x3
    generalize (r a).testBit d = x4
    generalize (r b).testBit d = x5
    generalize (r c).testBit d = x6
    revert x1 x2 x3 x4 x5 x6
    decide
  rw [Bool.or_eq_true] at key
  rcases key with key | h
  · simp only [Bool.or_eq_true, Bool.and_eq_true, Bool.not_eq_true'] at key
    rcases key with (((((⟨⟨⟨⟨⟨h1, h2⟩, h3⟩, h4⟩, h5⟩, h6⟩ | h | h) | h | h) | h | h) | h | h) | h | h) | h | h
    · left
      intro x hx y hy hxy
      simp only [List.mem_cons, List.not_mem_nil, or_false] at hx hy
      rcases hx with rfl | rfl | rfl | rfl <;> rcases hy with rfl | rfl | rfl | rfl <;> first | rfl | (exfalso; simp_all)
    · exact .inr (.inl ⟨a, b, crn_of (by simp) (by simp) (Ne.symm hab) h⟩)
    · exact .inr (.inl ⟨b, a, crn_of (by simp) (by simp) hab h⟩)
    · exact .inr (.inl ⟨a, c, crn_of (by simp) (by simp) (Ne.symm hac) h⟩)
    · exact .inr (.inl ⟨c, a, crn_of (by simp) (by simp) hac h⟩)
    · exact .inr (.inl ⟨b, c, crn_of (by simp) (by simp) (Ne.symm hbc) h⟩)
    · exact .inr (.inl ⟨c, b, crn_of (by simp) (by simp) hbc h⟩)
    · exact .inr (.inl ⟨a, d, crn_of (by simp) (by simp) (Ne.symm had) h⟩)
    · exact .inr (.inl ⟨d, a, crn_of (by simp) (by simp) had h⟩)
    · exact .inr (.inl ⟨b, d, crn_of (by simp) (by simp) (Ne.symm hbd) h⟩)
    · exact .inr (.inl ⟨d, b, crn_of (by simp) (by simp) hbd h⟩)
    · exact .inr (.inl ⟨c, d, crn_of (by simp) (by simp) (Ne.symm hcd) h⟩)
    · exact .inr (.inl ⟨d, c, crn_of (by simp) (by simp) hcd h⟩)
  · refine .inr (.inr fun x hx => ?_)
    have := List.all_eq_true.1 h x hx
    exact beq_iff_eq.1 this

/-- At most three nodes, or four that are no ring. -/
def Few4 (n : Nat) (r : Nat → Nat) (K : List Nat) : Prop := K.Nodup ∧ (∀ x, x ∈ K → x < n) ∧ (K.length ≤ 3 ∨ K.length = 4 ∧ ¬ Ring r K)

theorem Net.few4 {n : Nat} {r : Nat → Nat} (N : Net n r) (K : List Nat) (h : Few4 n r K) : Bare r K ∨ ∃ w u, Crn r K w u ∧ Few4 n r (K.filter fun d => !(d == w)) := by
  obtain ⟨h1, h2, h3⟩ := h
  have hnext : ∀ w u, Crn r K w u → Few4 n r (K.filter fun d => !(d == w)) := by
    intro w u hc
    refine ⟨h1.filter _, fun x hx => h2 x (List.mem_filter.1 hx).1, .inl ?_⟩
    have hlt : (K.filter fun d => !(d == w)).length < K.length :=
      List.length_filter_lt_length_iff_exists (p := fun d => !(d == w)) (l := K) |>.2 ⟨w, hc.1, by simp⟩
    omega
  have hor : Bare r K ∨ ∃ w u, Crn r K w u := by
    match K, h1, h2, h3 with
    | [], _, _, _ => exact .inl fun c hc => by cases hc
    | [a], _, _, _ =>
      left
      intro c hc d hd _
      simp only [List.mem_cons, List.not_mem_nil, or_false] at hc hd
      rw [hc, hd]
    | [a, b], h1, h2, _ =>
      simp only [List.nodup_cons, List.mem_cons, List.not_mem_nil, or_false, not_or] at h1
      exact N.two_l (h2 a (by simp)) (h2 b (by simp)) h1.1
    | [a, b, c], h1, h2, _ =>
      simp only [List.nodup_cons, List.mem_cons, List.not_mem_nil, or_false, not_or] at h1
      exact N.three_l (h2 a (by simp)) (h2 b (by simp)) (h2 c (by simp)) h1.1.1 h1.1.2 h1.2.1
    | [a, b, c, d], h1, h2, h3 =>
      have hr : ¬ Ring r [a, b, c, d] := by
        rcases h3 with h3 | h3
        · simp at h3
        · exact h3.2
      simp only [List.nodup_cons, List.mem_cons, List.not_mem_nil, or_false, not_or] at h1
      rcases N.four_l (h2 a (by simp)) (h2 b (by simp)) (h2 c (by simp)) (h2 d (by simp)) h1.1.1 h1.1.2.1 h1.1.2.2 h1.2.1.1 h1.2.1.2 h1.2.2.1 with h | h | h
      · exact .inl h
      · exact .inr h
      · exact absurd h hr
    | a :: b :: c :: d :: e :: K, _, _, h3 =>
      exfalso
      simp only [List.length_cons] at h3
      omega
  rcases hor with h | ⟨w, u, h⟩
  · exact .inl h
  · exact .inr ⟨w, u, h, hnext w u h⟩

/-- How many nodes a node reaches. -/
def cntR (n : Nat) (r : Nat → Nat) (v : Nat) : Nat := (List.range n).countP fun d => (r v).testBit d
/-- What a node does not reach. -/
def farL (n : Nat) (r : Nat → Nat) (v : Nat) : List Nat := (List.range n).filter fun d => !(r v).testBit d
theorem farL_len {n : Nat} {r : Nat → Nat} {v : Nat} : (farL n r v).length + cntR n r v = n := by
  unfold farL cntR
  rw [← List.countP_eq_length_filter]
  have := countP_split (fun _ => true) (fun d => (r v).testBit d) (List.range n)
  simp only [Bool.true_and] at this
  have h2 : (List.range n).countP (fun _ => true) = n := by simp
  omega
theorem mem_farL {n : Nat} {r : Nat → Nat} {v d : Nat} : d ∈ farL n r v ↔ d < n ∧ (r v).testBit d = false := by
  unfold farL
  rw [List.mem_filter, List.mem_range, Bool.not_eq_true']
theorem farL_nodup {n : Nat} {r : Nat → Nat} {v : Nat} : (farL n r v).Nodup := List.nodup_range.filter _
theorem farL_count {n : Nat} {r : Nat → Nat} {v : Nat} (p : Nat → Bool) : (farL n r v).countP p = (List.range n).countP fun d => p d && !(r v).testBit d := by
  unfold farL
  rw [List.countP_filter]

/-- Where each node has at most two neighbours, what lies off a node can be taken apart. -/
theorem Net.low {n : Nat} {r : Nat → Nat} (N : Net n r) {v : Nat} (hv : v < n) (h3 : ∀ x, x < n → cntR n r x ≤ 3) (K : List Nat) (h : v ∉ K ∧ ∀ x, x ∈ K → x < n) :
    Bare r K ∨ ∃ w u, Crn r K w u ∧ (v ∉ (K.filter fun d => !(d == w)) ∧ ∀ x, x ∈ (K.filter fun d => !(d == w)) → x < n) := by
  apply Classical.byContradiction
  intro hno
  rw [not_or] at hno
  obtain ⟨hb, hc⟩ := hno
  have hc' : ∀ w u, ¬ Crn r K w u := fun w u hwu => hc ⟨w, u, hwu, fun h' => h.1 (List.mem_filter.1 h').1, fun x hx => h.2 x (List.mem_filter.1 hx).1⟩
  have hex : ∃ c d, c ∈ K ∧ d ∈ K ∧ (r c).testBit d = true ∧ d ≠ c := by
    apply Classical.byContradiction
    intro hno
    apply hb
    intro c hc d hd hcd
    apply Classical.byContradiction
    intro hne
    exact hno ⟨c, d, hc, hd, hcd, hne⟩
  obtain ⟨c, d, hcK, hdK, hcd, hdc⟩ := hex
  refine h.1 (conn_any N.one N.rin N.sym N.conn (fun x => x ∈ K ∧ ∃ y, y ∈ K ∧ (r x).testBit y = true ∧ y ≠ x) (h.2 c hcK) ⟨hcK, d, hdK, hcd, hdc⟩ (fun x z hx hS hxz => ?_) v hv).1
  obtain ⟨hxK, y, hyK, hxy, hyx⟩ := hS
  have hex : ∃ y', y' ∈ K ∧ (r x).testBit y' = true ∧ (r y).testBit y' = false := by
    apply Classical.byContradiction
    intro hno
    refine hc' x y ⟨hxK, hyK, hyx, fun e he hxe => ?_⟩
    cases hye : (r y).testBit e
    · exact absurd ⟨e, he, hxe, hye⟩ hno
    · rfl
  obtain ⟨y', hyK', hxy', hyy'⟩ := hex
  have hyn := h.2 y hyK
  have hyn' := h.2 y' hyK'
  have hne1 : y' ≠ y := fun e => by rw [e, N.refl y hyn] at hyy'; cases hyy'
  have hyx2 : (r y).testBit x = true := by rw [N.sym y x hyn hx]; exact hxy
  have hne2 : y' ≠ x := fun e => by rw [e, hyx2] at hyy'; cases hyy'
  have hzn := N.rin x z hx hxz
  have hz : z = x ∨ z = y ∨ z = y' := by
    apply Classical.byContradiction
    intro hno
    simp only [not_or] at hno
    have h3' := h3 x hx
    unfold cntR at h3'
    have c1 := countP_lt (fun d => (r x).testBit d) (fun d => (r x).testBit d && !(d == x)) (List.range n) x (List.mem_range.2 hx) (N.refl x hx) (by simp) (fun b hb => by simp only [Bool.and_eq_true] at hb; exact hb.1)
    have c2 := countP_lt (fun d => (r x).testBit d && !(d == x)) (fun d => (r x).testBit d && !(d == x) && !(d == y)) (List.range n) y (List.mem_range.2 hyn) (by simp [hxy, hyx]) (by simp) (fun b hb => by simp only [Bool.and_eq_true] at hb; rw [Bool.and_eq_true]; exact hb.1)
    have c3 := countP_lt (fun d => (r x).testBit d && !(d == x) && !(d == y)) (fun d => (r x).testBit d && !(d == x) && !(d == y) && !(d == y')) (List.range n) y' (List.mem_range.2 hyn') (by simp [hxy', hne1, hne2]) (by simp) (fun b hb => by simp only [Bool.and_eq_true] at hb; rw [Bool.and_eq_true, Bool.and_eq_true]; exact hb.1)
    have c4 : 0 < (List.range n).countP (fun d => (r x).testBit d && !(d == x) && !(d == y) && !(d == y')) :=
      List.countP_pos_iff.2 ⟨z, List.mem_range.2 hzn, by simp [hxz, hno.1, hno.2.1, hno.2.2]⟩
    omega
  rcases hz with rfl | rfl | rfl
  · exact ⟨hxK, y, hyK, hxy, hyx⟩
  · exact ⟨hyK, x, hxK, hyx2, Ne.symm hyx⟩
  · exact ⟨hyK', x, hxK, by rw [N.sym _ _ hyn' hx]; exact hxy', Ne.symm hne2⟩

/-- Some node leaves a hunt that ends within fourteen moves. -/
theorem Net.stay {n : Nat} {r : Nat → Nat} (N : Net n r) : ∃ v, v < n ∧ ∀ x c, x < n → c ∈ farL n r v → hunt n r (farL n r v) 14 x c := by
  have h8 := N.eight
  have h1 := N.one
  have hlt : ∀ v x, x ∈ farL n r v → x < n := fun v x hx => (mem_farL.1 hx).1
  have hfew : ∀ v, v < n → (farL n r v).length ≤ 3 ∨ (farL n r v).length = 4 ∧ ¬ Ring r (farL n r v) → ∀ x c, x < n → c ∈ farL n r v → hunt n r (farL n r v) 14 x c := by
    intro v hv h x c hx hc
    refine hunt_mono (show 7 + (farL n r v).length ≤ 14 by omega) (N.hunted (Few4 n r) N.few4 (Nat.le_refl _) ⟨farL_nodup, hlt v, h⟩ (hlt v) hx hc)
  by_cases hA : ∃ v, v < n ∧ 5 ≤ cntR n r v
  · obtain ⟨v, hv, h5⟩ := hA
    have := farL_len (n := n) (r := r) (v := v)
    exact ⟨v, hv, hfew v hv (.inl (by omega))⟩
  have hA' : ∀ x, x < n → cntR n r x ≤ 4 := fun x hx => by
    rcases Nat.lt_or_ge (cntR n r x) 5 with h | h
    · omega
    · exact absurd ⟨x, hx, h⟩ hA
  by_cases hB : ∃ v, v < n ∧ 4 ≤ cntR n r v
  · obtain ⟨v, hv, h4⟩ := hB
    have hl := farL_len (n := n) (r := r) (v := v)
    by_cases hr : (farL n r v).length = 4 ∧ Ring r (farL n r v)
    · obtain ⟨hl4, hr⟩ := hr
      have hex : ∃ w a, w ∈ farL n r v ∧ (r w).testBit a = true ∧ a ∉ farL n r v := by
        apply Classical.byContradiction
        intro hno
        have hne : ∃ w, w ∈ farL n r v := by
          cases hK : farL n r v with
          | nil => rw [hK] at hl4; simp at hl4
          | cons a K => exact ⟨a, by simp⟩
        obtain ⟨w, hw⟩ := hne
        have := conn_any N.one N.rin N.sym N.conn (fun x => x ∈ farL n r v) (hlt v w hw) hw (fun a b ha h1 h2 => by
          apply Classical.byContradiction
          intro h3
          exact hno ⟨a, b, h1, h2, h3⟩) v hv
        rw [mem_farL, N.refl v hv] at this
        exact absurd this.2 (by decide)
      obtain ⟨w, a, hw, hwa, ha⟩ := hex
      have hwn := hlt v w hw
      have han := N.rin w a hwn hwa
      have hva : (r v).testBit a = true := by
        cases h : (r v).testBit a
        · exact absurd (mem_farL.2 ⟨han, h⟩) ha
        · rfl
      have hlw := farL_len (n := n) (r := r) (v := w)
      refine ⟨w, hwn, hfew w hwn ?_⟩
      have q1 := hr w hw
      rw [farL_count] at q1
      have q2 := countP_split (fun d => (r w).testBit d) (fun d => (r v).testBit d) (List.range n)
      have q3 : 0 < (List.range n).countP (fun d => (r w).testBit d && (r v).testBit d) := List.countP_pos_iff.2 ⟨a, List.mem_range.2 han, by simp [hwa, hva]⟩
      have q4 := hA' w hwn
      unfold cntR at q4 hlw
      right
      refine ⟨by omega, fun hrw => ?_⟩
      -- the node off v and off w
      have q5 := countP_split (fun d => !(r v).testBit d) (fun d => (r w).testBit d) (List.range n)
      have q6 : (List.range n).countP (fun d => !(r v).testBit d) = 4 := by
        have := hl4
        unfold farL at this
        rwa [← List.countP_eq_length_filter] at this
      have q7 : (List.range n).countP (fun d => !(r v).testBit d && (r w).testBit d) = 3 := by
        rw [← q1]
        congr 1
        funext d
        rw [Bool.and_comm]
      have q8 : (List.range n).countP (fun d => !(r v).testBit d && !(r w).testBit d) = 1 := by omega
      have hex : ∃ t, t < n ∧ (r v).testBit t = false ∧ (r w).testBit t = false := by
        have : 0 < (List.range n).countP (fun d => !(r v).testBit d && !(r w).testBit d) := by omega
        obtain ⟨t, ht, h⟩ := List.countP_pos_iff.1 this
        rw [Bool.and_eq_true, Bool.not_eq_true', Bool.not_eq_true'] at h
        exact ⟨t, List.mem_range.1 ht, h.1, h.2⟩
      obtain ⟨t, htn, htv, htw⟩ := hex
      have p1 := hr t (mem_farL.2 ⟨htn, htv⟩)
      have p2 := hrw t (mem_farL.2 ⟨htn, htw⟩)
      rw [farL_count] at p1 p2
      have p3 := countP_split (fun d => (r t).testBit d) (fun d => (r v).testBit d) (List.range n)
      have p4 := hA' t htn
      unfold cntR at p4
      have p5 := countP_split (fun d => (r t).testBit d && !(r w).testBit d) (fun d => (r v).testBit d) (List.range n)
      have p6 : (List.range n).countP (fun d => (r t).testBit d && !(r w).testBit d && (r v).testBit d) ≤ (List.range n).countP (fun d => (r t).testBit d && (r v).testBit d) :=
        countP_sub fun x hx => by simp only [Bool.and_eq_true] at hx ⊢; exact ⟨hx.1.1, hx.2⟩
      have p7 : (List.range n).countP (fun d => (r t).testBit d && !(r w).testBit d && !(r v).testBit d) ≤ (List.range n).countP (fun d => !(r v).testBit d && !(r w).testBit d) :=
        countP_sub fun x hx => by simp only [Bool.and_eq_true] at hx ⊢; exact ⟨hx.2, hx.1.2⟩
      omega
    · refine ⟨v, hv, hfew v hv ?_⟩
      rcases Nat.lt_or_ge (farL n r v).length 4 with h | h
      · exact .inl (by omega)
      · refine .inr ⟨by omega, fun hr' => hr ⟨by omega, hr'⟩⟩
  · have hB' : ∀ x, x < n → cntR n r x ≤ 3 := fun x hx => by
      rcases Nat.lt_or_ge (cntR n r x) 4 with h | h
      · omega
      · exact absurd ⟨x, hx, h⟩ hB
    refine ⟨0, by omega, fun x c hx hc => ?_⟩
    have hl := farL_len (n := n) (r := r) (v := 0)
    have hpos : 0 < cntR n r 0 := List.countP_pos_iff.2 ⟨0, List.mem_range.2 (by omega), N.refl 0 (by omega)⟩
    refine N.hunted (m := 7) _ (N.low (show 0 < n by omega) hB') (by omega) ⟨fun h => ?_, hlt 0⟩ (hlt 0) hx hc
    rw [mem_farL, N.refl 0 (by omega)] at h
    exact absurd h.2 (by decide)

/-- Two sweeps catch the cat within 22 moves, wherever they are. -/
theorem Net.all {n : Nat} {r : Nat → Nat} (N : Net n r) {a b c : Nat} (hab : (a, b) ∈ chs n 2) (hc : c < n) : lev n r (chs n 2) 22 (a, b, c) := by
  obtain ⟨h1, h2, -⟩ := (chs_mem (.inr rfl)).1 hab
  obtain ⟨v, hv, h⟩ := N.stay
  have := N.two hv (fun x hx => (mem_farL.1 hx).1) (fun d hd => by
    cases hb : (r v).testBit d
    · exact .inl (mem_farL.2 ⟨hd, hb⟩)
    · exact .inr rfl) h (show a < n by omega) h2 hc
  rwa [srt_le h1] at this
/-- Two sweeps always catch the cat. -/
theorem Net.best {n : Nat} {r : Nat → Nat} (N : Net n r) : (bestOf n (ranksF n r (chs n 2)) (chs n 2)).2 ≠ -1 := by
  have h1 := N.one
  rw [best_ne]
  exact ⟨(0, 0), (chs_mem (.inr rfl)).2 ⟨Nat.le_refl _, by omega, .inl rfl⟩, fun c hc => lev_mono (by decide) (N.all ((chs_mem (.inr rfl)).2 ⟨Nat.le_refl _, by omega, .inl rfl⟩) hc)⟩

end Go.Proofs.YtbkbliieappkdaaDoor.Ch
