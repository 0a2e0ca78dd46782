/- Ranges over the nodes of a set: the nodes as a list; the marks that such ranges leave among the deferred calls; a law for the caller in plain lists. -/
import Derived.RangeFuncNested
import Derived.RangeFuncBound
import Derived.RangeFuncCalls
import Derived.RangeFuncLeaves
import Derived.Shelf.Abstract
import Derived.Shelf.RegionOpen
import Derived.WalkKit
import Derived.OwnWalkIn
import Derived.TacticsInMore
import Derived.LoopNIn
import Derived.LoopIn
import Derived.Sort.QuietIn
import Derived.Sort.CutIn
import Derived.Test.YtfmppncefbjicaaDoorLib
namespace Go.Proofs.YtfmppncefbjicaaDoor
set_option linter.unusedSimpArgs false
set_option linter.unusedVariables false
open Go.RowKit Go.Shelf

theorem wide_fn (f : FuncId) : Fence.wide.fn f = True := rfl
theorem wide_fn_in (l : Nat) (f : FuncId) : (Fence.wide.inRound l).fn f = True := rfl

/-- The nodes of a set, rising. -/
def bitsOf (s : Nat) : List Nat := (List.range 10).filter fun i => s.testBit i
/-- The least node of a set. -/
def lowN (s : Nat) : Nat := ((List.range 10).find? fun i => s.testBit i).getD 0
theorem lowN_all : ∀ x, x < 1024 → 0 < x → lowN x < 10 ∧ x.testBit (lowN x) = true ∧ ∀ i, i < lowN x → x.testBit i = false := by decide +kernel
theorem bitsOf_all : ∀ x, x < 1024 → 0 < x → bitsOf x = lowN x :: bitsOf (x &&& (x - 1)) ∧ x &&& (x - 1) < x := by decide +kernel
theorem bitsOf_zero : bitsOf 0 = [] := by decide
theorem mem_bitsOf {s x : Nat} : x ∈ bitsOf s ↔ x < 10 ∧ s.testBit x = true := by
  unfold bitsOf; simp [List.mem_filter]
theorem bitsOf_lt {n s x : Nat} (hs : s < 2 ^ n) (h : x ∈ bitsOf s) : x < n := by
  obtain ⟨_, h2⟩ := mem_bitsOf.1 h
  apply Classical.byContradiction
  intro hx
  have := Nat.testBit_lt_two_pow (i := x) (Nat.lt_of_lt_of_le hs (Nat.pow_le_pow_right (by omega) (by omega)))
  rw [this] at h2; cases h2
theorem bitsOf_nodup (s : Nat) : (bitsOf s).Nodup := List.Nodup.sublist List.filter_sublist List.nodup_range
theorem bitsOf_len (s : Nat) : (bitsOf s).length ≤ 10 := by
  have := List.length_filter_le (fun i => s.testBit i) (List.range 10)
  simpa [bitsOf] using this

/-! ### marks -/

theorem keeps_below {B : Nat} {W W' : World} (h : Below W.heap.size W W') : KeepsFrom B W W' :=
  ⟨h.size, fun k _ _ hk _ => (h.block k (Array.getElem?_eq_some_iff.1 hk).1).trans hk⟩

/-- The mark of a range over a function. -/
abbrev markAt (D : Nat) : Deferred := { target := .collected D, args := #[] }
/-- The marks that ranges over functions have left. -/
def Marks (B : Nat) (w : World) : List Deferred → Prop
  | [] => True
  | d :: ds => (∃ D, d = markAt D ∧ B ≤ D ∧ w.heap[D]? = some (.deferred (some [])) ∧ ∀ e ∈ ds, e ≠ markAt D) ∧ Marks B w ds
theorem Marks.keeps {B : Nat} {w w' : World} (h : KeepsFrom B w w') : ∀ {ds : List Deferred}, Marks B w ds → Marks B w' ds
  | [], _ => trivial
  | _ :: _, ⟨⟨D, e, hD, hb, hn⟩, hr⟩ => ⟨⟨D, e, hD, h.same D _ hD hb rfl, hn⟩, Marks.keeps h hr⟩
theorem Marks.lt {B : Nat} {w : World} : ∀ {ds : List Deferred}, Marks B w ds → ∀ e ∈ ds, ∃ D, e = markAt D ∧ D < w.heap.size
  | _ :: _, ⟨⟨D, e, _, hb, _⟩, hr⟩, x, hx => by
    rcases List.mem_cons.1 hx with rfl | hx
    · exact ⟨D, e, (Array.getElem?_eq_some_iff.1 hb).1⟩
    · exact Marks.lt hr x hx
theorem Marks.push0 {B D : Nat} {w w' : World} {ds : List Deferred} (h : Marks B w ds) (hb0 : Below w.heap.size w w') (hB : B ≤ w.heap.size) (hD : w.heap.size ≤ D) (hb : w'.heap[D]? = some (.deferred (some []))) : Marks B w' (markAt D :: ds) :=
  ⟨⟨D, rfl, Nat.le_trans hB hD, hb, fun e he hE => by
    obtain ⟨D', h1, h2⟩ := h.lt e he
    rw [h1] at hE
    have : D' = D := by simpa [markAt] using hE
    omega⟩, h.keeps (keeps_below hb0)⟩
theorem Marks.push {B D : Nat} {w w' : World} {ds : List Deferred} (h : Marks B w ds) (hk : KeepsFrom B w w') (hB : B ≤ w.heap.size) (hD : w.heap.size ≤ D) (hb : w'.heap[D]? = some (.deferred (some []))) : Marks B w' (markAt D :: ds) :=
  ⟨⟨D, rfl, Nat.le_trans hB hD, hb, fun e he hE => by
    obtain ⟨D', h1, h2⟩ := h.lt e he
    rw [h1] at hE
    have : D' = D := by simpa [markAt] using hE
    omega⟩, h.keeps hk⟩

theorem Marks.one {B D : Nat} {w : World} (hB : B ≤ D) (hb : w.heap[D]? = some (.deferred (some []))) : Marks B w [markAt D] :=
  ⟨⟨D, rfl, hB, hb, fun _ h => by cases h⟩, trivial⟩

/-- A world in which but for blocks of marks all is as it was. -/
structure Shut (B : Nat) (w w' : World) : Prop where
  below : Below B w w'
  same : ∀ (k : Nat) (o : Obj), w.heap[k]? = some o → (∀ ds, o ≠ Obj.deferred ds) → w'.heap[k]? = some o
theorem Shut.refl (B : Nat) (w : World) : Shut B w w := ⟨Below.refl _ _, fun _ _ h _ => h⟩
theorem Shut.trans {B : Nat} {a b c : World} (h : Shut B a b) (k : Shut B b c) : Shut B a c :=
  ⟨h.below.trans k.below, fun i o h1 h2 => k.same i o (h.same i o h1 h2) h2⟩
theorem Shut.row {B b : Nat} {w w' : World} {e : TypeId} {xs : List Value} (h : Shut B w w') (hr : Row w b e xs) : Row w' b e xs :=
  h.same b _ hr (fun _ e => by cases e)

theorem ownsRow_shut {B : Nat} {w w' : World} {base : Nat} {e : TypeId} {size : Nat} {v : Value} {n : Nat} {xs : List Value} (hs : Shut B w w') (h : w.ownsRow base e size v n xs) : w'.ownsRow base e size v n xs := by
  refine ⟨h.1, ?_⟩
  rcases h.2 with h1 | ⟨g, cap, cur, hv, hg, hh, r⟩
  · exact Or.inl h1
  · exact Or.inr ⟨g, cap, cur, hv, hg, hs.same g _ hh (fun _ e => by cases e), r⟩
theorem leaves_marks {F : Fence} {n : Nat} {P : Program} {fn : Func} {tmps : Array Value} {R : Ending → World → Prop} {B : Nat} : ∀ {ds : List Deferred} {w : World}, Marks B w ds →
    (∀ w', Shut B w w' → ∃ v, (results fn tmps).run P w' = .ok v w' ∧ R (.returned v) w') → LeavesInM F n P fn tmps R ds .returning w
  | [], w, _, h => h w (Shut.refl _ _)
  | d :: ds, w, ⟨⟨D, e, hD, hb, hn⟩, hr⟩, h => by
    subst e
    have hlt := (Array.getElem?_eq_some_iff.1 hb).1
    have hs : Shut B w (w.putObj D (.deferred none)) := ⟨(Below.refl B w).grown (grownBy_putObj' w D _) (by omega) (fun k e => by cases e; omega), fun k o hk ho => by
      by_cases hkD : k = D
      · subst hkD; rw [hb] at hk; cases hk; exact absurd rfl (ho _)
      · exact (World.putObj_heap_other hkD).trans hk⟩
    refine ⟨by simp, .inl ⟨D, _, rfl, run_takeDeferred hb, ?_⟩⟩
    refine leaves_marks (ds := ds) ?_ (fun w' hw' => h w' (hs.trans hw'))
    clear h
    induction ds with
    | nil => trivial
    | cons d ds ih =>
      obtain ⟨⟨D', e, hD', hb', hn'⟩, hr'⟩ := hr
      subst e
      refine ⟨⟨D', rfl, hD', (World.putObj_heap_other (fun e => hn _ (List.mem_cons_self ..) (by rw [e]))).trans hb', hn'⟩, ih ?_ hr'⟩
      exact fun e he => hn e (List.mem_cons_of_mem _ he)

/-! ### regions that draw their order, within a round -/

def noDefer (ops : List Oper) : Bool := ops.all fun o => match o.op with | .defer _ => false | _ => true
theorem noDefer_at {ops : Array Oper} (h : noDefer ops.toList = true) {i : Nat} {o : Oper} (hi : ops[i]? = some o) : ∀ c, o.op ≠ .defer c := by
  have hm : o ∈ ops.toList := by simpa using Array.mem_of_getElem? hi
  have := List.all_eq_true.1 h o hm
  intro c hc
  rw [hc] at this
  cases this

section
variable {F : Fence} {n : Nat} {P : Program} {ops : Array Oper} {md : Region.Mode} {C : World → Prop}

theorem wpIn_quiet_op {o : Oper} {a : Act} {K : Act → Prop} {K' : Act → World → Prop} {Q' : Exit → Act → World → Prop} {w : World} (hd : ∀ c, o.op ≠ .defer c) (hw : C w) (h : ∀ a w', C w' → K a → K' a w')
    (ha : o.askedIn F P a C) (hh : o.quietIn F n P a C K) : o.wpIn F n P a w K' Q' := by
  obtain ⟨v, h1, h2⟩ := hh
  have h3 := h1 w hw
  refine ⟨ha w hw, ?_⟩
  rw [Oper.semAt_eq _ _ _ hd]
  unfold Oper.quietAtIn at h3
  revert h3
  cases (execOp a.eval o).run P w with
  | halt x w' => exact fun h3 => h3.elim
  | ok x w' =>
    cases x with
    | value u => rintro ⟨rfl, rfl⟩; exact h _ _ hw h2
    | skip => rintro ⟨rfl, rfl⟩; exact h _ _ hw h2
    | enter f args => rintro ⟨rfl, h4, hc⟩; exact ⟨h4, hc.mono fun e w'' ⟨he, hw''⟩ => by subst he; exact h _ _ hw'' h2⟩
    | _ => exact fun h3 => h3.elim

theorem wpAnyIn_quiet (hd : noDefer ops.toList = true) {Q : Act → Prop} {Q' : Exit → Act → World → Prop} (hQ : ∀ a w, C w → Q a → Q' .normal a w) : ∀ (fuel : Nat) (listed : Array Bool) (a : Act) (w : World), C w →
    wpAnyQIn F n P md ops C Q fuel listed a → wpAnyIn F n P md ops Q' fuel listed a w
  | 0, _, _, _, hw, h => ⟨h.1, hQ _ _ hw h.2⟩
  | fuel + 1, listed, a, w, hw, h => ⟨fun h0 => hQ _ _ hw (h.1 h0), fun i hi => by
      have hh := h.2 i hi
      have next := fun a' w' hw' => wpAnyIn_quiet hd hQ fuel (listed.setIfInBounds i true) a' w' hw'
      unfold qOpIn at hh
      unfold wpOpIn
      cases ho : ops[i]? with
      | none => rw [ho] at hh; exact next _ _ hw hh
      | some o =>
        rw [ho] at hh
        obtain ⟨ha, hh⟩ := hh
        by_cases hwt : Region.wanted o (yielded ops a.tmps) = true
        · rw [if_pos hwt] at hh
          simp only [if_pos hwt]
          exact wpIn_quiet_op (noDefer_at hd ho) hw next ha hh
        · rw [if_neg hwt] at hh
          simp only [if_neg hwt]
          exact ⟨ha w hw, next _ _ hw hh⟩⟩

/-- One walk of the lexical order serves every order, within a round too. -/
theorem quiet_round {id : Nat} {Q : Exit → Act → World → Prop} {a : Act} {w : World} {l : List Oper} (hm : P.follows .mixedOrders = true) (hB : Region.lexB .any l.toArray = true) (hd : noDefer l = true)
    (h : wpQuietIn F n P l.toArray (fun w' => ∃ n, w' = w.drewN n) (fun a' => ∀ w', (∃ n, w' = w.drewN n) → Q .normal a' w') l a) : (Code.region id l.toArray true).wpIn F n P Q a w := by
  simp only [Region.lexB, Bool.and_eq_true] at hB
  refine wpIn_region_any hm (wpAnyIn_quiet (C := fun w' => ∃ n, w' = w.drewN n) (Q := fun a' => ∀ w', (∃ n, w' = w.drewN n) → Q .normal a' w') (by simpa using hd) (fun _ w' hw' h => h w' hw') _ _ _ _ ⟨1, rfl⟩ ?_)
  have := wpAnyQIn_lex (F := F) (n := n) (C := fun w' => ∃ n, w' = w.drewN n) (md := .any) hB.1 l 0 (Array.replicate l.length false) a (by simp) (by simpa using hB.2) h
  simpa using this
/-- The same where the calls may make memory: the class of worlds that are as they were below a block. -/
theorem below_round {id : Nat} {Q : Exit → Act → World → Prop} {a : Act} {w : World} {l : List Oper} (B : Nat) (w0 : World) (hw : Below B w0 w) (hm : P.follows .mixedOrders = true) (hB : Region.lexB .any l.toArray = true) (hd : noDefer l = true)
    (h : wpQuietIn F n P l.toArray (fun w' => ∃ x : BelowW B w0, w' = x.w) (fun a' => ∀ w', (∃ x : BelowW B w0, w' = x.w) → Q .normal a' w') l a) : (Code.region id l.toArray true).wpIn F n P Q a w := by
  simp only [Region.lexB, Bool.and_eq_true] at hB
  refine wpIn_region_any hm (wpAnyIn_quiet (C := fun w' => ∃ x : BelowW B w0, w' = x.w) (Q := fun a' => ∀ w', (∃ x : BelowW B w0, w' = x.w) → Q .normal a' w') (by simpa using hd) (fun _ w' hw' h => h w' hw') _ _ _ _ ⟨⟨_, hw.drew⟩, rfl⟩ ?_)
  have := wpAnyQIn_lex (F := F) (n := n) (C := fun w' => ∃ x : BelowW B w0, w' = x.w) (md := .any) hB.1 l 0 (Array.replicate l.length false) a (by simp) (by simpa using hB.2) h
  simpa using this

/-! A region whose last operation comes behind all others: these are walked once, quietly, then that one. -/

def initOf : List Oper → List Oper
  | [] => []
  | [_] => []
  | x :: y :: t => x :: initOf (y :: t)
def lastOf : List Oper → Oper
  | [] => default
  | [x] => x
  | _ :: y :: t => lastOf (y :: t)
theorem init_last : ∀ (l : List Oper), l ≠ [] → initOf l ++ [lastOf l] = l
  | [], h => (h rfl).elim
  | [_], _ => rfl
  | x :: y :: t, _ => by
    show x :: (initOf (y :: t) ++ [lastOf (y :: t)]) = _
    rw [init_last (y :: t) (by simp)]

def lastB (pre : List Oper) (last : Oper) : Bool :=
  ((List.range pre.length).all fun i => match pre[i]? with
    | none => true
    | some o => (o.after.all fun e => decide (e.on < i)) && (match o.guard with | none => true | some (j, _) => decide (j < i))) &&
  ((List.range pre.length).all fun j => last.after.any fun e => Region.binds .any e && e.on == j) && last.guard.isNone && last.after.all fun e => decide (e.on < pre.length)
theorem lastB_pre {pre : List Oper} {last : Oper} (h : lastB pre last = true) {i : Nat} {o : Oper} (ho : pre[i]? = some o) :
    (∀ e ∈ o.after, e.on < i) ∧ (∀ j b, o.guard = some (j, b) → j < i) := by
  unfold lastB at h
  simp only [Bool.and_eq_true, List.all_eq_true, List.mem_range] at h
  have hi := (List.getElem?_eq_some_iff.1 ho).1
  have h1 := h.1.1.1 i hi
  rw [ho] at h1
  simp only [Bool.and_eq_true] at h1
  refine ⟨fun e he => ?_, fun j b hg => ?_⟩
  · simpa using (Array.all_eq_true_iff_forall_mem.1 h1.1) e he
  · have h2 := h1.2
    rw [hg] at h2
    simpa using h2
theorem lastB_last {pre : List Oper} {last : Oper} (h : lastB pre last = true) : (∀ j, j < pre.length → ∃ e ∈ last.after, Region.binds .any e = true ∧ e.on = j) ∧ last.guard = none ∧ ∀ e ∈ last.after, e.on < pre.length := by
  unfold lastB at h
  simp only [Bool.and_eq_true, List.all_eq_true, List.mem_range] at h
  refine ⟨fun j hj => ?_, by simpa using h.1.2, fun e he => by simpa using (Array.all_eq_true_iff_forall_mem.1 h.2) e he⟩
  obtain ⟨i, hi, h1⟩ := Array.any_eq_true.1 (h.1.1.2 j hj)
  simp only [Bool.and_eq_true, beq_iff_eq] at h1
  exact ⟨_, Array.getElem_mem hi, h1⟩

theorem getD_push_lt {listed : Array Bool} {k i : Nat} (hs : listed.size = k) (hi : i < k) (d b : Bool) : (listed.push b).getD i d = listed.getD i d := by
  simp [Array.getD, hs, hi, show i < k + 1 by omega, Array.getElem_push]
theorem ready_push {pre : List Oper} {last : Oper} (hB : lastB pre last = true) {listed : Array Bool} (hs : listed.size = pre.length) :
    Region.ready .any (pre ++ [last]).toArray (listed.push false) = Region.ready .any pre.toArray listed ++ (if (∀ j, j < pre.length → listed.getD j false = true) then [pre.length] else []) := by
  unfold Region.ready
  rw [show (pre ++ [last]).toArray.size = pre.length + 1 by simp, List.range_succ, List.filter_append, show pre.toArray.size = pre.length by simp]
  congr 1
  · refine List.filter_congr fun i hi => ?_
    have hi' := List.mem_range.1 hi
    rw [getD_push_lt hs hi']
    have e1 : (pre ++ [last]).toArray[i]? = some pre[i] := by simp [List.getElem?_append_left hi', hi']
    have e2 : pre.toArray[i]? = some pre[i] := by simp [hi']
    rw [e1, e2]
    have hafter := (lastB_pre hB (show pre[i]? = some pre[i] by simp [hi'])).1
    congr 1
    simp only [Option.map_some, Option.getD_some]
    rw [Bool.eq_iff_iff, Array.all_eq_true_iff_forall_mem, Array.all_eq_true_iff_forall_mem]
    constructor <;> intro h e he <;> have h1 := h e he <;> have h2 := hafter e he
    · rwa [getD_push_lt hs (by omega)] at h1
    · rwa [getD_push_lt hs (by omega)]
  · have e1 : (pre ++ [last]).toArray[pre.length]? = some last := by simp
    have e3 : (listed.push false).getD pre.length true = false := by simp [Array.getD, hs, Array.getElem_push]
    have e4 : (listed.push false)[pre.length]? = some false := by rw [← hs]; simp
    obtain ⟨hl, _, hon⟩ := lastB_last hB
    by_cases hall : ∀ j, j < pre.length → listed.getD j false = true
    · rw [if_pos hall]
      have : (last.after.all fun e => !Region.binds .any e || (listed.push false).getD e.on false) = true := by
        rw [Array.all_eq_true_iff_forall_mem]
        intro e he
        rw [getD_push_lt hs (hon e he), hall _ (hon e he)]
        simp
      simp only [List.filter, e1, e3, Option.map_some, Option.getD_some, this]
      rfl
    · rw [if_neg hall]
      have : (last.after.all fun e => !Region.binds .any e || (listed.push false).getD e.on false) = false := by
        rw [Bool.eq_false_iff]
        intro h
        refine hall fun j hj => ?_
        obtain ⟨e, he, hb, hj'⟩ := hl j hj
        have := Array.all_eq_true_iff_forall_mem.1 h e he
        rw [hb, hj', getD_push_lt hs hj] at this
        simpa using this
      simp only [List.filter, e1, e3, Option.map_some, Option.getD_some, this]
      rfl
theorem ready_none {pre : List Oper} {last : Oper} (hB : lastB pre last = true) {listed : Array Bool} (hs : listed.size = pre.length) (h : Region.ready .any pre.toArray listed = []) :
    ∀ j, j < pre.length → listed.getD j false = true := by
  intro j
  induction j using Nat.strongRecOn with
  | _ j ih =>
    intro hj
    apply Classical.byContradiction
    intro hf
    have hm : j ∈ Region.ready .any pre.toArray listed := by
      unfold Region.ready
      refine List.mem_filter.2 ⟨by simpa using hj, ?_⟩
      have e2 : pre.toArray[j]? = some pre[j] := by simp [hj]
      have e5 : listed.getD j true = false := by
        have : listed.getD j true = listed.getD j false := by simp [Array.getD, hs, hj]
        rw [this]; simpa using hf
      have hafter := (lastB_pre hB (show pre[j]? = some pre[j] by simp [hj])).1
      have : (pre[j].after.all fun e => !Region.binds .any e || listed.getD e.on false) = true := by
        rw [Array.all_eq_true_iff_forall_mem]
        intro e he
        rw [ih e.on (hafter e he) (by have := hafter e he; omega)]
        simp
      rw [e2, e5]
      simp only [Option.map_some, Option.getD_some, this]
      rfl
    rw [h] at hm; cases hm
theorem ready_full {pre : List Oper} {listed : Array Bool} (hs : listed.size = pre.length) (h : ∀ j, j < pre.length → listed.getD j false = true) : Region.ready .any pre.toArray listed = [] := by
  unfold Region.ready
  refine List.filter_eq_nil_iff.2 fun i hi => ?_
  have hi' : i < pre.length := by simpa using hi
  have : listed.getD i true = true := by
    have h1 := h i hi'
    simp [Array.getD, hs, hi'] at h1 ⊢
    exact h1
  rw [this]; simp

theorem lastAny {pre : List Oper} {last : Oper} (hB : lastB pre last = true) (hd : noDefer pre = true) {Q : Act → Prop} {Q' : Exit → Act → World → Prop} (hQ : ∀ a w, C w → Q a → last.wpIn F n P a w (fun a' w' => Q' .normal a' w') Q') :
    ∀ (fuel : Nat) (listed : Array Bool) (a : Act) (w : World), listed.size = pre.length → C w → wpAnyQIn F n P .any pre.toArray C Q fuel listed a → wpAnyIn F n P .any (pre ++ [last]).toArray Q' (fuel + 1) (listed.push false) a w := by
  have fin : ∀ (fuel : Nat) (listed : Array Bool) (a : Act) (w : World), listed.size = pre.length → C w → Region.ready .any pre.toArray listed = [] → Q a → wpAnyIn F n P .any (pre ++ [last]).toArray Q' (fuel + 1) (listed.push false) a w := by
    intro fuel listed a w hs hw hr hq
    have hall := ready_none hB hs hr
    have hr2 := ready_push hB hs
    rw [hr, if_pos hall, List.nil_append] at hr2
    refine ⟨fun h => by (rw [hr2] at h; cases h), fun i hi => ?_⟩
    rw [hr2, List.mem_singleton] at hi
    subst hi
    unfold wpOpIn
    rw [show (pre ++ [last]).toArray[pre.length]? = some last by simp]
    have hg : Region.wanted last (yielded (pre ++ [last]).toArray a.tmps) = true := by unfold Region.wanted; rw [(lastB_last hB).2.1]
    simp only [hg, if_true]
    refine Oper.wpIn_mono ?_ (hQ a w hw hq)
    intro a' w' hq'
    have hr3 : Region.ready .any (pre ++ [last]).toArray ((listed.push false).setIfInBounds pre.length true) = [] := by
      refine ready_full (by simp [hs]) fun j hj => ?_
      by_cases hj' : j = pre.length
      · subst hj'; simp [Array.getD, hs]
      · have h1 := hall j (by simp at hj; omega)
        have : j < pre.length := by simp at hj; omega
        simp [Array.getD, hs, this, Array.getElem_push] at h1 ⊢
        refine ⟨by omega, ?_⟩
        rw [Array.getElem_setIfInBounds_ne (by simp [hs]; omega) (by omega)]
        simp [Array.getElem_push, hs, this, h1]
    cases fuel with
    | zero => exact ⟨hr3, hq'⟩
    | succ f => exact ⟨fun _ => hq', fun i hi => by rw [hr3] at hi; cases hi⟩
  intro fuel
  induction fuel with
  | zero => intro listed a w hs hw h; exact fin 0 listed a w hs hw h.1 h.2
  | succ fuel ih =>
    intro listed a w hs hw h
    by_cases hr : Region.ready .any pre.toArray listed = []
    · exact fin _ listed a w hs hw hr (h.1 hr)
    · have hnall : ¬ ∀ j, j < pre.length → listed.getD j false = true := fun hall => hr (ready_full hs hall)
      have hr2 := ready_push hB hs
      rw [if_neg hnall, List.append_nil] at hr2
      refine ⟨fun h0 => by (rw [hr2] at h0; exact absurd h0 hr), fun i hi => ?_⟩
      rw [hr2] at hi
      have hh := h.2 i hi
      have hik : i < pre.length := by
        unfold Region.ready at hi
        simpa using (List.mem_filter.1 hi).1
      have hset : (listed.push false).setIfInBounds i true = (listed.setIfInBounds i true).push false := by
        apply Array.ext
        · simp
        · intro j h1 h2
          simp at h1
          by_cases hji : i = j
          · subst hji
            simp [Array.getElem_push, hs, hik]
          · rw [Array.getElem_setIfInBounds_ne (by simpa using h1) hji]
            simp only [Array.getElem_push, Array.size_setIfInBounds]
            split
            · rw [Array.getElem_setIfInBounds_ne _ hji]
            · rfl
      have next := fun a' w' (hw' : C w') => ih (listed.setIfInBounds i true) a' w' (by simpa using hs) hw'
      rw [hset]
      unfold qOpIn at hh
      unfold wpOpIn
      have e1 : (pre ++ [last]).toArray[i]? = some pre[i] := by simp [List.getElem?_append_left hik, hik]
      have e2 : pre.toArray[i]? = some pre[i] := by simp [hik]
      rw [e2] at hh
      rw [e1]
      obtain ⟨ha, hh⟩ := hh
      have hwant : Region.wanted pre[i] (yielded (pre ++ [last]).toArray a.tmps) = Region.wanted pre[i] (yielded pre.toArray a.tmps) := by
        have hgd := (lastB_pre hB (show pre[i]? = some pre[i] by simp [hik])).2
        unfold Region.wanted
        cases hg : pre[i].guard with
        | none => rfl
        | some jb =>
          obtain ⟨j, b⟩ := jb
          have hj := hgd j b hg
          have : (pre ++ [last]).toArray[j]? = pre.toArray[j]? := by simp [List.getElem?_append_left (show j < pre.length by omega)]
          simp only [yielded, this]
      simp only [hwant]
      have hdi : ∀ c, pre[i].op ≠ .defer c := noDefer_at (ops := pre.toArray) (by simpa using hd) (i := i) e2
      by_cases hwt : Region.wanted pre[i] (yielded pre.toArray a.tmps) = true
      · rw [if_pos hwt] at hh
        simp only [if_pos hwt]
        exact wpIn_quiet_op hdi hw next ha hh
      · rw [if_neg hwt] at hh
        simp only [if_neg hwt]
        exact ⟨ha w hw, next _ _ hw hh⟩

/-- A region whose last operation comes behind all others. -/
theorem last_round {id : Nat} {Q : Exit → Act → World → Prop} {a : Act} {w : World} {l : List Oper} (hm : P.follows .mixedOrders = true) (hl : l.isEmpty = false) (hB : Region.lexB .any (initOf l).toArray = true) (hL : lastB (initOf l) (lastOf l) = true) (hd : noDefer (initOf l) = true)
    (h : wpQuietIn F n P (initOf l).toArray (fun w' => ∃ n, w' = w.drewN n) (fun a' => ∀ w', (∃ n, w' = w.drewN n) → wpListIn F n P [lastOf l].toArray Q [lastOf l] a' w') (initOf l) a) : (Code.region id l.toArray true).wpIn F n P Q a w := by
  have hne : l ≠ [] := by intro e; subst e; cases hl
  have hsz : l.toArray.size = (initOf l).length + 1 := by
    have := congrArg List.length (init_last l hne)
    simp at this ⊢
    omega
  have hl' : l.toArray = (initOf l ++ [lastOf l]).toArray := by rw [init_last l hne]
  simp only [Region.lexB, Bool.and_eq_true] at hB
  refine wpIn_region_any hm ?_
  rw [hsz, hl']
  have hrep : Array.replicate ((initOf l).length + 1) false = (Array.replicate (initOf l).length false).push false := Array.replicate_succ
  rw [hrep]
  refine lastAny (C := fun w' => ∃ n, w' = w.drewN n) (Q := fun a' => ∀ w', (∃ n, w' = w.drewN n) → wpListIn F n P [lastOf l].toArray Q [lastOf l] a' w') hL hd ?_ _ _ _ _ (by simp) ⟨1, rfl⟩ ?_
  · intro a' w' hw' hq
    have := hq w' hw'
    have hg : Region.wanted (lastOf l) (yielded [lastOf l].toArray a'.tmps) = true := by unfold Region.wanted; rw [(lastB_last hL).2.1]
    simp only [wpListIn, hg, if_true] at this
    exact this
  · have := wpAnyQIn_lex (F := F) (n := n) (C := fun w' => ∃ n, w' = w.drewN n) (md := .any) hB.1 (initOf l) 0 (Array.replicate (initOf l).length false) a (by simp) (by simpa using hB.2) h
    simpa using this
end
theorem keeps_store (B : Nat) (W : World) (nq b : Nat) (v : Value) : KeepsFrom B W ((W.drewN nq).setCell ⟨b, 0, none⟩ v) :=
  ⟨(KeepsOthers.setCell (W.drewN nq) ⟨b, 0, none⟩ v).size, fun k o _ hk ho => (KeepsOthers.setCell (W.drewN nq) ⟨b, 0, none⟩ v).same k o hk ho⟩
theorem keeps_set (B : Nat) (W : World) (b i : Nat) (v : Value) : KeepsFrom B W (W.setCell ⟨b, i, none⟩ v) := (KeepsOthers.setCell W ⟨b, i, none⟩ v).from B
theorem keeps_drewN (W : World) (n : Nat) : KeepsOthers W (W.drewN n) := ⟨Nat.le_refl _, fun _ _ h _ => h⟩

/-! ### what a range's invariant may say -/

theorem own_row {β : Type} (b : Nat) (T : TypeId) (f : β → List Value) : Own (fun s W => Row W b T (f s)) := fun s A C row hs hg hr =>
  hs.grown hg (fun e => by obtain ⟨o, ho, hc⟩ := hr b e.symm; unfold Row at hs; rw [hs] at ho; cases ho; cases hc)
theorem ownFrom_ex {β γ : Type} {B : Nat} {I : γ → β → World → Prop} (h : ∀ c, OwnFrom B (I c)) : OwnFrom B (fun s W => ∃ c, I c s W) :=
  fun s W W' row ⟨c, hc⟩ hg hr => ⟨c, h c s W W' row hc hg hr⟩
theorem ownFrom_ownsRow {β : Type} (B base : Nat) (T : TypeId) (size : Nat) (v : β → Value) (n : β → Nat) (f : β → List Value) : OwnFrom B (fun s W => W.ownsRow base T size (v s) (n s) (f s)) := fun s A C row hs hg hr => by
  refine hs.kept hg ?_
  rcases hs.2 with ⟨h1, _⟩ | ⟨g, cap, cur, hv, _, hgb, _⟩
  · exact .inl (by rw [h1]; rfl)
  · refine .inr (fun e => ?_)
    rw [hv] at e
    obtain ⟨_, o, ho, hc⟩ := hr g (by rw [← e]; rfl)
    rw [hgb] at ho; cases ho; cases hc

/-- How a round may be left. -/
def roundPost (B : Nat) (I : List Nat → World → Prop) (Ix : Code → List Nat → World → Prop) (xs : List Nat) (W : World) : Exit → Act → World → Prop
  | .normal, _, W' => KeepsFrom B W W' ∧ I xs W'
  | .ret, _, W' => KeepsFrom B W W' ∧ Ix .ret xs W'
  | .exit id, _, W' => KeepsFrom B W W' ∧ Ix (.exit id) xs W'
  | _, _, _ => False

/-- What an iterator over a list of nodes gives, where its rounds keep what it needs of the world. -/
def NodeSeq (P : Program) (gf : Nat) (lb : Array Value) (L : List Nat) (T : World → Prop) (w0 : World) : Prop :=
  SeqStopsK Fence.wide 8 P gf lb (fun x : { v : Nat // v ∈ L } => #[.int .i64 (x.1 : Nat)]) (fun W W' => T W → T W') (fun xs => xs.map (·.1) = L) (fun xs => xs.map (·.1) <+: L) L.length w0

theorem ownFrom_map {α β : Type} {B : Nat} {I : List β → World → Prop} (f : α → β) (h : OwnFrom B I) : OwnFrom B (fun (xs : List α) W => I (xs.map f) W) :=
  fun s W W' row hs hg hr => h (s.map f) W W' row hs hg hr

section
variable {P : Program} {gf : Nat} {lb : Array Value} {L : List Nat} {T : World → Prop} {w0 w : World} {g : Operand} {ps : Array Tmp} {assign body : Code} {Q : Exit → Act → World → Prop} {a : Act}

/-- A range over nodes, its variable in a box or not. -/
theorem range_nodesH (hseq : NodeSeq P gf lb L T w0) (hTb : ∀ (W : World) (l : Nat) (o o' : Obj), W.heap[l]? = some o → o.isCells = false → T W → T (W.putObj l o')) (hb0 : Below w0.heap.size w0 w) (hg : a.eval g = .func (.func gf) #[] lb) (eg : ∀ args w, (callFunc gf args).run P w = .ok (.enter gf args) w) (hps : ps.size = 1)
    (I : List Nat → World → Prop) (Ix : Code → List Nat → World → Prop) (hI : OwnFrom w.heap.size I) (hIx : ∀ c, OwnFrom w.heap.size (Ix c)) (h0 : I [] w) (hIT : ∀ xs W, I xs W → T W)
    (Ax : Nat → Act → World → Prop) (hAx : ∀ x a', OwnFrom w.heap.size (fun (_ : Unit) W => Ax x a' W))
    (hassign : ∀ (l : Nat) (pre : List Nat) (x : Nat) (W : World) (K : Act → World → Prop), x ∈ L → I pre W → (∀ a' W', KeepsFrom w.heap.size W W' → I pre W' → Ax x a' W' → K a' W') →
      assign.wpIn (Fence.wide.inRound l) 7 P (Exit.then K (fun _ _ _ => False)) { tmps := (ps.zip #[.int .i64 (x : Nat)]).foldl (fun t (p, v) => t.setIfInBounds p v) a.tmps, defers := [] } W)
    (hbody : ∀ (l : Nat) (pre : List Nat) (x : Nat) (a' : Act) (W : World), w.heap.size ≤ l → (∃ r, W.heap[l]? = some (.loop r)) → x ∈ L → pre.length < L.length → I pre W → Ax x a' W → body.wpIn (Fence.wide.inRound l) 7 P (roundPost w.heap.size I Ix (pre ++ [x]) W) a' W)
    (hdone : ∀ (D : Nat) (W : World), w.heap.size ≤ D → I L W → W.heap[D]? = some (.deferred (some [])) → Q .normal { a with defers := markAt D :: a.defers } W)
    (hstop : ∀ (D : Nat) (c : Code) (pre : List Nat) (W : World), w.heap.size ≤ D → pre <+: L → Ix c pre W → W.heap[D]? = some (.deferred (some [])) → c.wpIn Fence.wide 9 P Q { a with defers := markAt D :: a.defers } W) :
    (Code.rangeFunc g ps assign body).wpIn Fence.wide 9 P Q a w := by
  refine wpIn_rangeFunc_ownH rfl (by omega) hg trivial eg hseq (fun h k t => k (h t)) (fun W l o o' _ h1 h2 _ t => hTb W l o o' h1 h2 t) hb0 (fun _ => hps.symm)
    (fun xs W => I (xs.map (·.1)) W) (fun c xs W => Ix c (xs.map (·.1)) W) (ownFrom_map _ hI) (fun c => ownFrom_map _ (hIx c)) h0
    (fun x a' W => Ax x.1 a' W) (fun x a' => hAx x.1 a') ?_ ?_ ?_ ?_
  · intro l pre x W K hi hK
    exact hassign l _ x.1 W K x.2 hi (fun a' W' hk hi' hx => hK a' W' hk (fun _ => hIT _ _ hi') hi' hx)
  · intro l pre x a' W hl hr hi hx hlen
    refine wpIn_mono (hbody l _ x.1 a' W hl hr x.2 (by rw [List.length_map]; exact hlen) hi hx) ?_
    intro e a2 W2 hp
    have hm : (pre ++ [x]).map (·.1) = pre.map (·.1) ++ [x.1] := by simp
    cases e <;> simp only [roundPost] at hp <;> simp only [ownPostG, hm]
    all_goals first | exact ⟨hp.1, fun _ => hIT _ _ hp.2, hp.2⟩ | exact hp | exact hp.elim
  · intro D xs W hD hS hi hK
    exact hdone D W hD (by rw [← hS]; exact hi) hK
  · intro D c pre W hD hS hi hK
    exact hstop D c _ W hD hS hi hK

/-- A range over nodes whose variable is in no box. -/
theorem range_nodes (hseq : NodeSeq P gf lb L T w0) (hTb : ∀ (W : World) (l : Nat) (o o' : Obj), W.heap[l]? = some o → o.isCells = false → T W → T (W.putObj l o')) (hb0 : Below w0.heap.size w0 w) (hg : a.eval g = .func (.func gf) #[] lb) (eg : ∀ args w, (callFunc gf args).run P w = .ok (.enter gf args) w) (hps : ps.size = 1)
    (I : List Nat → World → Prop) (Ix : Code → List Nat → World → Prop) (hI : OwnFrom w.heap.size I) (hIx : ∀ c, OwnFrom w.heap.size (Ix c)) (h0 : I [] w) (hIT : ∀ xs W, I xs W → T W) (a₁ : Nat → Act)
    (hassign : ∀ (l : Nat) (x : Nat) (W : World) (K : Act → World → Prop), x ∈ L → K (a₁ x) W →
      assign.wpIn (Fence.wide.inRound l) 7 P (Exit.then K (fun _ _ _ => False)) { tmps := (ps.zip #[.int .i64 (x : Nat)]).foldl (fun t (p, v) => t.setIfInBounds p v) a.tmps, defers := [] } W)
    (hbody : ∀ (l : Nat) (pre : List Nat) (x : Nat) (W : World), x ∈ L → pre.length < L.length → I pre W → body.wpIn (Fence.wide.inRound l) 7 P (roundPost w.heap.size I Ix (pre ++ [x]) W) (a₁ x) W)
    (hdone : ∀ (D : Nat) (W : World), w.heap.size ≤ D → I L W → W.heap[D]? = some (.deferred (some [])) → Q .normal { a with defers := markAt D :: a.defers } W)
    (hstop : ∀ (D : Nat) (c : Code) (pre : List Nat) (W : World), w.heap.size ≤ D → pre <+: L → Ix c pre W → W.heap[D]? = some (.deferred (some [])) → c.wpIn Fence.wide 9 P Q { a with defers := markAt D :: a.defers } W) :
    (Code.rangeFunc g ps assign body).wpIn Fence.wide 9 P Q a w :=
  range_nodesH hseq hTb hb0 hg eg hps I Ix hI hIx h0 hIT (fun x a' _ => a' = a₁ x) (fun _ _ _ _ _ _ hs _ _ => hs)
    (fun l pre x W K hx hi hK => hassign l x W K hx (hK _ _ (KeepsFrom.refl _ _) hi rfl)) (fun l pre x a' W _ _ hx hlen hi e => by subst e; exact hbody l pre x W hx hlen hi) hdone hstop
end

end Go.Proofs.YtfmppncefbjicaaDoor
