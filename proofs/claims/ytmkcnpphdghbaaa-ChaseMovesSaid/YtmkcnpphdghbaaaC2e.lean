/- The contract of the reference's Rank. -/
import Derived.Test.YtmkcnpphdghbaaaS2
namespace Go.Proofs.Ytmkcnpphdghbaaa
set_option linter.unusedSimpArgs false
set_option linter.unusedVariables false
open Go.RowKit Go.Maps
attribute [local go_sem] i64_bit toNat_eq_one toNat_ne_one toNat_eq_zero toNat_ne_zero i64_and i64_or i64_andNot i64_or_pow i64_andNot_pow

theorem RkRow.set {w : World} {b : Nat} {T : Nat → Int} (h : RkRow w b T) (i : Nat) (v : Int) : RkRow (w.setCell ⟨b, i, none⟩ (.int .i64 v)) b (fun j => if j = i then v else T j) := by
  have := Row.set h i (.int .i64 v)
  rw [map_range_set] at this
  unfold RkRow
  have e : ((List.range 512).map fun j => Value.int .i64 (if j = i then v else T j)) = (List.range 512).map fun j => if j = i then Value.int .i64 v else .int .i64 (T j) := by
    apply List.map_congr_left
    intro j _
    split <;> rfl
  rw [e]
  exact this
theorem RkRow.grown {w w' : World} {b : Nat} {T : Nat → Int} {row : Option Nat} (h : RkRow w b T) (hg : w.grownBy w' row) (hne : some b ≠ row) : RkRow w' b T := Row.grown h hg hne

theorem rkIx_inj {p q : Pl} (hp : p.1 < 8 ∧ p.2.1 < 8 ∧ p.2.2 < 8) (hq : q.1 < 8 ∧ q.2.1 < 8 ∧ q.2.2 < 8) (h : rkIx p = rkIx q) : p = q := by
  unfold rkIx at h
  exact Prod.ext (by omega) (Prod.ext (by omega) (by omega))

theorem plTo_mem {n k m : Nat} {p : Pl} (h : p ∈ plTo n k m) (hm : m ≤ n) : p.1 < n ∧ p.2.1 < n ∧ p.2.2 < n := by
  have hrow : ∀ a j, a + j ≤ n → p ∈ plRow n k a j → p.1 < n ∧ p.2.1 < n ∧ p.2.2 < n := by
    intro a j
    induction j with
    | zero => intro _ h; simp [plRow] at h
    | succ j ih =>
      intro hj h
      unfold plRow at h
      by_cases ht : plT k j = true
      · rw [if_pos ht] at h
        rcases List.mem_append.1 h with h | h
        · exact ih (by omega) h
        · unfold plCol at h
          simp only [List.mem_map, List.mem_range] at h
          obtain ⟨c, hc, rfl⟩ := h
          exact ⟨by dsimp only; omega, by dsimp only; omega, hc⟩
      · rw [if_neg ht] at h
        exact ih (by omega) h
  induction m with
  | zero => simp [plTo] at h
  | succ m ih =>
    unfold plTo at h
    rcases List.mem_append.1 h with h | h
    · exact ih h (by omega)
    · exact hrow m (n - m) (by omega) h

theorem grownBy_set (w : World) (a : Addr) (v : Value) : w.grownBy (w.setCell a v) (some a.block) :=
  ⟨rfl, rfl, rfl, by simp [World.setCell], fun k _ hne => Below.heap_setCell _ _ _ _ (fun e => hne (by rw [e]))⟩

theorem PlsOwn.get {w : World} {base len gb cap : Nat} {L : List Pl} (h : PlsOwn w base (.slice (some ⟨gb, 0, none⟩) len cap) L) (i : Nat) (p : Pl) (hi : L[i]? = some p) :
    w.cell? ⟨gb, i * 3, none⟩ = some (.int .i64 p.1) ∧ w.cell? ⟨gb, i * 3 + 1, none⟩ = some (.int .i64 p.2.1) ∧ w.cell? ⟨gb, i * 3 + 2, none⟩ = some (.int .i64 p.2.2) := by
  have hlt := (List.getElem?_eq_some_iff.1 hi).1
  obtain ⟨b, c, hv, hb, hl⟩ := own_form' h (by omega)
  simp only [Value.slice.injEq] at hv
  obtain ⟨-, rfl, -⟩ := hv
  obtain ⟨b, hb, -, -, h1, h2, h3⟩ := PlsOwn.read h hi
  cases hb
  exact ⟨h1, h2, h3⟩

theorem filter_take_snoc {α : Type} (p : α → Bool) (l : List α) (k : Nat) (x : α) (h : l[k]? = some x) : (l.take (k + 1)).filter p = if p x then (l.take k).filter p ++ [x] else (l.take k).filter p := by
  rw [take_snoc' l k x h, List.filter_append]
  cases hp : p x <;> simp [hp]

theorem any_no {α : Type} {p : α → Bool} {l : List α} (h : ∀ i x, i < l.length → l[i]? = some x → p x = false) : l.any p = false := by
  rw [Bool.eq_false_iff]
  intro ha
  obtain ⟨x, hx, hp⟩ := List.any_eq_true.1 ha
  obtain ⟨i, hi⟩ := List.mem_iff_getElem?.1 hx
  rw [h i x (List.getElem?_eq_some_iff.1 hi).1 hi] at hp
  cases hp
theorem any_yes {α : Type} {p : α → Bool} {l : List α} {i : Nat} {x : α} (h : l[i]? = some x) (hp : p x = true) : l.any p = true := List.any_eq_true.2 ⟨x, List.mem_of_getElem? h, hp⟩

theorem mvTo_mem {r : Nat → Nat} {f : Nat × Nat} {c n k : Nat} (hk : k = 1 ∨ k = 2) (hn : 1 ≤ n) {p : Pl} (h : p ∈ mvTo r n k f c n) : p.1 < n ∧ p.2.1 < n ∧ p.2.2 = c := by
  rw [moves_chs hk] at h
  unfold mvOf at h
  simp only [List.mem_map, List.mem_filter] at h
  obtain ⟨ab, ⟨hab, -⟩, rfl⟩ := h
  have := chs_lt n k ab hab
  exact ⟨this.1, this.2.1, rfl⟩

theorem stepFact {T : Nat → Int} {A N : List Pl} {k v : Nat} {p : Pl} {f : Pl → Int} (hA : ∀ p ∈ A, p.1 < 8 ∧ p.2.1 < 8 ∧ p.2.2 < 8) (hN : ∀ p ∈ N, p ∈ A) (hp : N[k]? = some p)
    (h : ∀ q ∈ A, T (rkIx q) = if q ∈ N.take k then (v : Int) else f q) : ∀ q ∈ A, (fun i => if i = rkIx p then (v : Int) else T i) (rkIx q) = if q ∈ N.take (k + 1) then (v : Int) else f q := by
  intro q hq
  dsimp only
  rw [take_snoc' N k p hp]
  by_cases he : rkIx q = rkIx p
  · rw [if_pos he, rkIx_inj (hA q hq) (hA p (hN p (List.mem_of_getElem? hp))) he, if_pos (by simp)]
  · rw [if_neg he, h q hq]
    have hne : q ≠ p := fun e => he (by rw [e])
    simp only [List.mem_append, List.mem_singleton, hne, or_false]

theorem setFact {T : Nat → Int} {A : List Pl} {k : Nat} {p : Pl} {f : Pl → Int} {v : Int} (hA : ∀ p ∈ A, p.1 < 8 ∧ p.2.1 < 8 ∧ p.2.2 < 8) (hp : A[k]? = some p) (hv : f p = v)
    (h : ∀ j q, j < k → A[j]? = some q → T (rkIx q) = f q) : ∀ j q, j < k + 1 → A[j]? = some q → (fun i => if i = rkIx p then v else T i) (rkIx q) = f q := by
  intro j q hj hq
  dsimp only
  by_cases he : rkIx q = rkIx p
  · rw [if_pos he, rkIx_inj (hA q (List.mem_of_getElem? hq)) (hA p (List.mem_of_getElem? hp)) he, hv]
  · rw [if_neg he]
    rcases Nat.lt_succ_iff_lt_or_eq.1 hj with h1 | h1
    · exact h j q h1 hq
    · subst h1
      rw [hp] at hq
      cases hq
      exact absurd rfl he

/-- What Rank leaves. -/
def RankRPost (n k : Nat) (g : Nat → Nat) (F : Pl → Option Nat) (w : World) (e : Ending) (w' : World) : Prop :=
  ∃ rb T, e = .returned (.pointer (some ⟨rb, 0, none⟩)) ∧ RkRow w' rb T ∧ (∀ p ∈ plTo n k n, T (rkIx p) = rankV F p) ∧ Below w.heap.size w w'

set_option maxRecDepth 20000 in
set_option maxHeartbeats 4000000 in
theorem RankR_any {n : Nat} {g : Nat → Nat} {a : Option Addr} {w : World} (G : GrAt w a n g) (cap k : Nat) (kI : Int) (hk : kI = 1 ∧ k = 1 ∨ kI = 2 ∧ k = 2) (hn8 : n ≤ 8) (hg : ∀ v, v < n → g v < 2 ^ n) :
    Calls Try.prog 19 #[.slice a n cap, .int .i64 kI] w (RankRPost n k g (ranksF n (rch g) (chs n k)) w) := by
  have hn := G.small
  obtain ⟨i0, hi0, hz1, hz2, hz3⟩ := info_parts info_pl
  obtain ⟨w0, hw0⟩ : ∃ w0, w0 = w.alloc (.cells Try.zeroCells79 79) := ⟨_, rfl⟩
  have hzc : Try.zeroCells79 = ((List.range 512).map fun i => Value.int .i64 ((fun _ => (0 : Int)) i)).toArray := by kernel_rfl
  have R0 : RkRow w0 w.heap.size (fun _ => 0) := by rw [hw0, hzc]; exact Row.new _ _ _
  have HB : Below w.heap.size w w0 := by rw [hw0]; exact (Below.refl _ _).alloc (Nat.le_refl _) _
  have hsz := Row.lt R0
  have HW := Lib.hid hw0
  have HR0 := Lib.hid R0
  clear R0 hw0 hzc
  go_enter Try.func19, Try.ntmps19
  go_wp2_with fail
  rw [← HW.out]
  clear HW
  go_at_call 46
  refine (places_any n a cap k kI hk hn w0).mono ?_
  rintro e w1 ⟨⟨v, rfl, ho⟩, hb1⟩
  have hk12 : k = 1 ∨ k = 2 := by omega
  have HMEM := Lib.hid (fun p (hp : p ∈ plTo n k n) => plTo_mem hp (Nat.le_refl n))
  have HA8 : Hid (∀ p ∈ plTo n k n, p.1 < 8 ∧ p.2.1 < 8 ∧ p.2.2 < 8) := Lib.hid (fun p hp => by have := HMEM.out p hp; omega)
  have HNX := Lib.hid (fun (T : Nat → Int) (F : Pl → Option Nat) (hT : ∀ p ∈ plTo n k n, T (rkIx p) = rankV F p) => now_next hk12 hg hT)
  have HSB := Lib.hid (fun p (hp : p ∈ plTo n k n) => start_base hk12 hp)
  have HNA := Lib.hid (fun (F : Pl → Option Nat) p (hp : p ∈ nextL n (rch g) F (chs n k)) => (by rw [places_chs hk12]; exact nextL_all hp : p ∈ plTo n k n))
  have hne : (plTo n k n).length ≠ 0 := by
    rw [places_chs hk12]
    intro h
    obtain ⟨ab, hab⟩ := List.exists_mem_of_ne_nil _ (chs_ne n k G.pos)
    have : (ab.1, ab.2, 0) ∈ allPl n (chs n k) := mem_allPl.2 ⟨hab, G.pos⟩
    rw [List.eq_nil_of_length_eq_zero h] at this
    cases this
  have hlenA := plTo_len n k hn n
  have hmul : noRank n (rch g) (chs n k) 0 + 0 ≤ 4096 := by
    have h1 := noRank_le n (rch g) (chs n k) 0
    have h2 := Nat.mul_le_mul (chs_le n k hn) (Nat.le_of_lt hn)
    omega
  generalize hA : plTo n k n = A at *
  have HA := Lib.hid hA
  obtain ⟨gb, cv, hv, hgb1, hgb2⟩ := own_form' ho hne
  subst hv
  have HO := Lib.hid (PlsOwn.get ho)
  have hlen : A.length ≤ 65536 := by omega
  have HB1 := Lib.hid (HB.trans (hb1.mono (Nat.le_of_lt hsz)))
  have HR1 := Lib.hid (HR0.out.below hb1)
  have hs1 := hb1.size
  have hgne : Hid (some gb ≠ some w.heap.size) := Lib.hid (fun e => by have := Option.some.inj e; omega)
  have HC1 : Hid (∀ wx, w1.grownBy wx (some w.heap.size) → gb < wx.heap.size ∧ ∀ i p, A[i]? = some p → wx.cell? ⟨gb, i * 3, none⟩ = some (.int .i64 p.1) ∧ wx.cell? ⟨gb, i * 3 + 1, none⟩ = some (.int .i64 p.2.1) ∧ wx.cell? ⟨gb, i * 3 + 2, none⟩ = some (.int .i64 p.2.2)) :=
    Lib.hid (fun wx hg => ⟨Nat.lt_of_lt_of_le hgb2 hg.size, fun i p hi => by
      rw [World.cell?_of_block (a := ⟨gb, i * 3, none⟩) (hg.block gb hgb2 hgne.out), World.cell?_of_block (a := ⟨gb, i * 3 + 1, none⟩) (hg.block gb hgb2 hgne.out), World.cell?_of_block (a := ⟨gb, i * 3 + 2, none⟩) (hg.block gb hgb2 hgne.out)]
      exact HO.out i p hi⟩)
  have HBG : Hid (∀ wx, w1.grownBy wx (some w.heap.size) → Below w.heap.size w wx) := Lib.hid (fun wx hg => HB1.out.grown hg HB1.out.size (fun k hk => by cases hk; exact Nat.le_refl _))
  clear hb1 ho HB hA hlenA hne HO HR0
  go_wp2_with fail
  go_loopw [22] (fun i wr => ∃ (j : Nat) (T : Nat → Int), j ≤ A.length ∧ i = .int .i64 j ∧ RkRow wr w.heap.size T ∧ Hid (∀ i p, i < j → A[i]? = some p → T (rkIx p) = startV p) ∧ w1.grownBy wr (some w.heap.size)) (fun i _ => A.length - (intOf i).toNat)
  case atStart => exact ⟨0, _, Nat.zero_le _, rfl, HR1.out, Lib.hid (fun i p h => absurd h (by omega)), grownBy_of_below (Below.refl _ _) _⟩
  case round =>
    clear HR1
    obtain ⟨j, T, hj, rfl, hr, HT, hgr⟩ := hrel
    have HR := Lib.hid hr
    have HGR := Lib.hid hgr
    have hrl := Row.lt hr
    by_cases hlt : j < A.length
    · obtain ⟨⟨x, y, z⟩, hxyz⟩ : ∃ p, A[j]? = some p := ⟨A[j], by simp [hlt]⟩
      have hm := HA8.out _ (List.mem_of_getElem? hxyz)
      dsimp only at hm
      obtain ⟨m1, m2, m3⟩ := hm
      obtain ⟨hgl, hcs⟩ := HC1.out wr hgr
      obtain ⟨e0, e1, e2⟩ := hcs j _ hxyz
      dsimp only at e0 e1 e2
      have HX := Lib.hid hxyz
      obtain ⟨wb, hwb, R8, HB8, hsz8⟩ := new1 wr 25 [.int .i64 x, .int .i64 y, .int .i64 z]
      have HR8 := Lib.hid R8
      have d0 := R8.cell (i := 0) rfl
      have d1 := R8.cell (i := 1) rfl
      have d2 := R8.cell (i := 2) rfl
      have HRB := Lib.hid (hr.below HB8)
      have hc := (HRB.out).cell (i := x * 64 + y * 8 + z) (by omega)
      have hf := Row.free HRB.out (x * 64 + y * 8 + z)
      have HWB := Lib.hid hwb
      have HB8' := Lib.hid HB8
      clear hr hgr hxyz R8 HB8 hwb hcs
      go_wp2_with fail
      rw [← HWB.out]
      clear HWB e0 e1 e2
      go_region
      obtain ⟨wc, hwc⟩ : ∃ wc, wc = (wb.setCell ⟨w.heap.size, x * 64 + y * 8 + z, none⟩ (.int .i64 (-1))).drew := ⟨_, rfl⟩
      rw [← hwc]
      have hR2 : RkRow wc w.heap.size (fun i => if i = rkIx (x, y, z) then -1 else T i) := by rw [hwc]; exact Row.drewN (HRB.out.set _ _) 1
      have hR8 : Row wc wr.heap.size 25 [.int .i64 x, .int .i64 y, .int .i64 z] := by rw [hwc]; exact (HR8.out.other (by show wr.heap.size ≠ w.heap.size; omega) _).drewN 1
      have HGC : Hid (wr.grownBy wc (some w.heap.size)) := Lib.hid (by rw [hwc]; exact grownBy_drew (grownBy_trans (grownBy_of_below HB8'.out _) (grownBy_set _ _ _)))
      clear hwc d0 d1 d2 hc hf
      have HR2 := Lib.hid hR2
      have HR8c := Lib.hid hR8
      have d0 := hR8.cell (i := 0) rfl
      have d1 := hR8.cell (i := 1) rfl
      have d2 := hR8.cell (i := 2) rfl
      have hl8 := hR8.lt
      clear hR2 hR8 HRB HR8 HB8' hsz8
      cases hC : ctchB (x, y, z)
      · have HC := Lib.hid hC
        clear hC
        go_wp2_with fail
        go_at_call 44
        refine (caughtR_any (x, y, z) _).mono ?_
        rintro e w3 ⟨rfl, hb3⟩
        rw [HC.out]
        have HB3 := Lib.hid hb3
        clear hb3
        go_wp2_with fail
        go_roundw
        case rel => exact ⟨j + 1, _, by omega, by go_num, HR2.out.below HB3.out, Lib.hid (setFact (f := startV) HA8.out HX.out (by unfold startV; rw [HC.out]; rfl) HT.out), grownBy_trans (grownBy_trans HGR.out HGC.out) (grownBy_of_below HB3.out _)⟩
        case measure => simp [intOf]; omega
      · have HC := Lib.hid hC
        clear hC
        go_wp2_with fail
        go_at_call 44
        refine (caughtR_any (x, y, z) _).mono ?_
        rintro e w3 ⟨rfl, hb3⟩
        rw [HC.out]
        have HB3 := Lib.hid hb3
        have r3 := HR8c.out.below hb3 HR8c.out.lt
        have HR3 := Lib.hid (HR2.out.below hb3)
        clear d0 d1 d2 hb3
        have d0 := r3.cell (i := 0) rfl
        have d1 := r3.cell (i := 1) rfl
        have d2 := r3.cell (i := 2) rfl
        have hc := (HR3.out).cell (i := x * 64 + y * 8 + z) (by omega)
        have hf := Row.free HR3.out (x * 64 + y * 8 + z)
        clear r3
        go_wp2_with fail
        go_region
        clear d0 d1 d2 hc hf
        go_wp2_with fail
        go_roundw
        case rel =>
          refine ⟨j + 1, fun i => if i = rkIx (x, y, z) then 0 else T i, by omega, by go_num, ?_, Lib.hid (setFact (f := startV) HA8.out HX.out (by unfold startV; rw [HC.out]; rfl) HT.out), grownBy_trans (grownBy_trans (grownBy_trans HGR.out HGC.out) (grownBy_of_below HB3.out _)) (grownBy_drew (grownBy_set _ _ _))⟩
          have h4 := Row.drewN (HR3.out.set (rkIx (x, y, z)) 0) 1
          have e : (fun i => if i = rkIx (x, y, z) then (0 : Int) else (fun i => if i = rkIx (x, y, z) then -1 else T i) i) = fun i => if i = rkIx (x, y, z) then 0 else T i := by
            funext i
            dsimp only
            split <;> rfl
          rw [e] at h4
          exact h4
        case measure => simp [intOf]; omega
    · have hje : j = A.length := by omega
      subst hje
      have HT0 : Hid (∀ p ∈ A, T (rkIx p) = rankV (ranksG n (rch g) (chs n k) 0) p) := Lib.hid (fun p hp => by
        obtain ⟨i, hi⟩ := List.mem_iff_getElem?.1 hp
        rw [HT.out i p (List.getElem?_eq_some_iff.1 hi).1 hi, HSB.out p hp]
        rfl)
      clear hr hgr hj hlt hrl HT
      go_wp2_with fail
      go_loopw [9] (fun v wx => ∃ (i : Nat) (T : Nat → Int), v = .int .i64 ((i : Int) + 1) ∧ noRank n (rch g) (chs n k) i + i ≤ 4096 ∧ RkRow wx w.heap.size T ∧ Hid (∀ p ∈ A, T (rkIx p) = rankV (ranksG n (rch g) (chs n k) i) p) ∧ w1.grownBy wx (some w.heap.size)) (fun v _ => noRank n (rch g) (chs n k) ((intOf v).toNat - 1))
      case atStart => exact ⟨0, T, rfl, hmul, HR.out, HT0, HGR.out⟩
      case round =>
        clear HR HGR HT0 hmul
        obtain ⟨i, T, rfl, hcnt, hr, HT, hgr⟩ := hrel
        obtain ⟨wo, rfl⟩ : ∃ wo : World, wo = wr := ⟨_, rfl⟩
        have HR := Lib.hid hr
        have HGR := Lib.hid hgr
        have HBO := Lib.hid (HBG.out wo hgr)
        obtain ⟨hgl, hcs⟩ := HC1.out wo hgr
        have HCO := Lib.hid hcs
        have HNL : Hid (A.filter (nowC n k g T) = nextL n (rch g) (ranksG n (rch g) (chs n k) i) (chs n k)) := Lib.hid (HNX.out T _ HT.out)
        clear hr hgr hcs
        go_wp2_with fail
        go_loopw [10, 51] (fun v c wy => ∃ j : Nat, j ≤ A.length ∧ c = .int .i64 j ∧ PlsOwn wy wo.heap.size v ((A.take j).filter (nowC n k g T)) ∧ Below wo.heap.size wo wy) (fun _ c _ => A.length - (intOf c).toNat)
        case atStart => exact ⟨0, Nat.zero_le _, rfl, ⟨rfl, Or.inl ⟨rfl, rfl⟩⟩, Below.refl _ _⟩
        case round =>
          obtain ⟨wp, rfl⟩ : ∃ wp : World, wp = wr := ⟨_, rfl⟩
          obtain ⟨j, hj, rfl, hown, hbel⟩ := hrel
          have HOW := Lib.hid hown
          have HBE := Lib.hid hbel
          have hbs := hbel.size
          have HRP := Lib.hid (RkRow.below HR.out (hbel))
          have hll : ((A.take j).filter (nowC n k g T)).length ≤ 65536 := by
            have h1 := List.length_filter_le (nowC n k g T) (A.take j)
            have h2 : (A.take j).length ≤ A.length := by rw [List.length_take]; omega
            omega
          generalize hNJ : (A.take j).filter (nowC n k g T) = NJ at *
          have HNJ := Lib.hid hNJ
          clear hown hbel hNJ
          by_cases hlt : j < A.length
          · obtain ⟨⟨x, y, z⟩, hxyz⟩ : ∃ p, A[j]? = some p := ⟨A[j], by simp [hlt]⟩
            have hm := HMEM.out _ (List.mem_of_getElem? hxyz)
            dsimp only at hm
            obtain ⟨m1, m2, m3⟩ := hm
            have x8 : x < 8 := by omega
            have y8 : y < 8 := by omega
            have z8 : z < 8 := by omega
            obtain ⟨e0, e1, e2⟩ := HCO.out j _ hxyz
            dsimp only at e0 e1 e2
            rw [← HBE.out.cell (p := ⟨gb, j * 3, none⟩) hgl] at e0
            rw [← HBE.out.cell (p := ⟨gb, j * 3 + 1, none⟩) hgl] at e1
            rw [← HBE.out.cell (p := ⟨gb, j * 3 + 2, none⟩) hgl] at e2
            have HFS := Lib.hid (filter_take_snoc (nowC n k g T) A j (x, y, z) hxyz)
            have HNC : Hid (nowC n k g T (x, y, z) = (decide (T (rkIx (x, y, z)) < 0) && (mvTo (rch g) n k (x, y) z n).any (winT n g T))) := Lib.hid rfl
            clear hxyz
            by_cases ht : 0 ≤ T (rkIx (x, y, z))
            · have HF : Hid (nowC n k g T (x, y, z) = false) := Lib.hid (by rw [HNC.out, decide_eq_false (by omega), Bool.false_and])
              go_wp2_with fail
              go_at_call 42
              refine (of_any (HRP.out.below ((Below.refl _ _).alloc (Nat.le_refl _) _)) (x, y, z) x8 y8 z8).mono ?_
              rintro e w3 ⟨rfl, hb3⟩
              have HB3 := Lib.hid (((Below.refl wp.heap.size wp).alloc (Nat.le_refl _) _).trans (hb3.mono (by simp)))
              clear hb3
              go_wp2_with fail
              go_roundw
              case rel => exact ⟨j + 1, by omega, by go_num, by rw [HFS.out, HF.out, HNJ.out]; exact ownsRow_below HOW.out HB3.out (Nat.le_refl _), HBE.out.trans (HB3.out.mono hbs)⟩
              case measure => simp [intOf]; omega
            · have ht0 : T (rkIx (x, y, z)) < 0 := by omega
              have HNC2 : Hid (nowC n k g T (x, y, z) = (mvTo (rch g) n k (x, y) z n).any (winT n g T)) := Lib.hid (by rw [HNC.out, decide_eq_true ht0, Bool.true_and])
              go_wp2_with fail
              go_at_call 42
              refine (of_any (HRP.out.below ((Below.refl _ _).alloc (Nat.le_refl _) _)) (x, y, z) x8 y8 z8).mono ?_
              rintro e w3 ⟨rfl, hb3⟩
              have r8 := (Row.new wp 25 [.int .i64 x, .int .i64 y, .int .i64 z]).below hb3 (by simp)
              have d0 := r8.cell (i := 0) rfl
              have d1 := r8.cell (i := 1) rfl
              have d2 := r8.cell (i := 2) rfl
              have HR8 := Lib.hid r8
              have HB3 := Lib.hid (((Below.refl wp.heap.size wp).alloc (Nat.le_refl _) _).trans (hb3.mono (by simp)))
              clear hb3 r8
              go_wp2_with fail
              go_at_call 43
              have HBW3 : Hid (Below w.heap.size w w3) := Lib.hid (HBO.out.trans ((HBE.out.trans (HB3.out.mono hbs)).mono HBO.out.size))
              refine (moves_any (G.below HBW3.out) cap k kI hk (x, y, z) m1 m2 m3).mono ?_
              rintro e w4 ⟨⟨v4, rfl, ho4⟩, hb4⟩
              dsimp only at ho4
              have HMM := Lib.hid (fun p (hp : p ∈ mvTo (rch g) n k (x, y) z n) => mvTo_mem hk12 G.pos hp)
              have hml := mvTo_len (rch g) n k (x, y) z hn n
              generalize mvTo (rch g) n k (x, y) z n = M at *
              obtain ⟨av4, cv4, rfl⟩ := own_form ho4
              have HO4 := Lib.hid ho4
              have r8 := HR8.out.below hb4 HR8.out.lt
              have HR8' := Lib.hid r8
              have HB4 := Lib.hid (HB3.out.trans (hb4.mono HB3.out.size))
              have hs4 := HB4.out.size
              have HRW4 := Lib.hid (HRP.out.below HB4.out)
              have HBW4 : Hid (Below w.heap.size w w4) := Lib.hid (HBW3.out.trans (hb4.mono HBW3.out.size))
              have HOW4 := Lib.hid (ownsRow_below HOW.out HB4.out (Nat.le_refl _))
              have hl8 : wp.heap.size < w4.heap.size := r8.lt
              clear d0 d1 d2 e0 e1 e2 r8 hb4 ho4
              go_wp2_with fail
              go_loopw [10, 63] (fun v c wz => ∃ m : Nat, m ≤ M.length ∧ c = .int .i64 m ∧ Hid (∀ l q, l < m → M[l]? = some q → winT n g T q = false) ∧ PlsOwn wz wo.heap.size v NJ ∧ Below w4.heap.size w4 wz) (fun _ c _ => M.length - (intOf c).toNat)
              case atStart => exact ⟨0, Nat.zero_le _, rfl, Lib.hid (fun l q h => absurd h (by omega)), HOW4.out, Below.refl _ _⟩
              case round =>
                clear HOW4
                obtain ⟨m, hm, rfl, HNO, hown, hbel⟩ := hrel
                obtain ⟨wz, rfl⟩ : ∃ wz : World, wz = wr := ⟨_, rfl⟩
                have HOZ := Lib.hid hown
                have HBZ := Lib.hid hbel
                have hzs := hbel.size
                have r8 := HR8'.out.below hbel hl8
                have HR8z := Lib.hid r8
                have d0 := r8.cell (i := 0) rfl
                have d1 := r8.cell (i := 1) rfl
                have d2 := r8.cell (i := 2) rfl
                have hl8z : wp.heap.size < wz.heap.size := r8.lt
                have HPZ : Hid (Below wo.heap.size wo wz) := Lib.hid (HBE.out.trans ((HB4.out.trans (hbel.mono hs4)).mono hbs))
                clear hown hbel r8
                by_cases hlm : m < M.length
                · obtain ⟨⟨u, v, t⟩, huv⟩ : ∃ p, M[m]? = some p := ⟨M[m], by simp [hlm]⟩
                  have hmq := HMM.out _ (List.mem_of_getElem? huv)
                  dsimp only at hmq
                  obtain ⟨q1, q2, rfl⟩ := hmq
                  obtain ⟨gm, rfl, hgm1, hgm2, e0, e1, e2⟩ := PlsOwn.read HO4.out huv
                  rw [← HBZ.out.cell (p := ⟨gm, m * 3, none⟩) hgm2] at e0
                  rw [← HBZ.out.cell (p := ⟨gm, m * 3 + 1, none⟩) hgm2] at e1
                  rw [← HBZ.out.cell (p := ⟨gm, m * 3 + 2, none⟩) hgm2] at e2
                  dsimp only at e0 e1 e2
                  have HUV := Lib.hid huv
                  have HRZ := Lib.hid ((HRW4.out.below HBZ.out).below ((Below.refl _ _).alloc (Nat.le_refl _) (.cells #[.int .i64 u, .int .i64 v, .int .i64 t] 25)))
                  have HGZ := Lib.hid (G.below (HBW4.out.trans ((HBZ.out.trans (((Below.refl _ _).alloc (Nat.le_refl _) (.cells #[.int .i64 u, .int .i64 v, .int .i64 t] 25)).mono hzs)).mono HBW4.out.size)))
                  clear huv
                  cases hW : winT n g T (u, v, t)
                  · have HWN := Lib.hid hW
                    clear hW
                    go_wp2_with fail
                    go_at_call 47
                    refine (wins_any HGZ.out HRZ.out cap hn8 (u, v, t) q1 q2 m3).mono ?_
                    rintro e w5 ⟨rfl, hb5⟩
                    rw [HWN.out]
                    have HB5 := Lib.hid (((Below.refl wz.heap.size wz).alloc (Nat.le_refl _) _).trans (hb5.mono (by simp)))
                    clear hb5
                    go_wp2_with fail
                    go_roundw
                    case rel =>
                      refine ⟨m + 1, by omega, by go_num, Lib.hid (fun l q hl hq => ?_), ownsRow_below HOZ.out HB5.out (Nat.le_refl _), HBZ.out.trans (HB5.out.mono hzs)⟩
                      rcases Nat.lt_succ_iff_lt_or_eq.1 hl with h | h
                      · exact HNO.out l q h hq
                      · subst h
                        rw [HUV.out] at hq
                        cases hq
                        exact HWN.out
                    case measure => simp [intOf]; omega
                  · have HWY := Lib.hid hW
                    clear hW
                    have HNCY : Hid (nowC n k g T (x, y, t) = true) := Lib.hid (by rw [HNC2.out]; exact any_yes HUV.out HWY.out)
                    go_wp2_with fail
                    go_at_call 47
                    refine (wins_any HGZ.out HRZ.out cap hn8 (u, v, t) q1 q2 m3).mono ?_
                    rintro e w5 ⟨rfl, hb5⟩
                    rw [HWY.out]
                    have HB5 := Lib.hid (((Below.refl wz.heap.size wz).alloc (Nat.le_refl _) _).trans (hb5.mono (by simp)))
                    have r5 := HR8z.out.below HB5.out hl8z
                    have HO5 := Lib.hid (ownsRow_below HOZ.out HB5.out (Nat.le_refl _))
                    have h5s := HB5.out.size
                    clear hb5 d0 d1 d2
                    have d0 := r5.cell (i := 0) rfl
                    have d1 := r5.cell (i := 1) rfl
                    have d2 := r5.cell (i := 2) rfl
                    have hl5 := r5.lt
                    have HPZ5 : Hid (Below wo.heap.size wo w5) := Lib.hid (HPZ.out.trans (HB5.out.mono HPZ.out.size))
                    have hp5 := HPZ5.out.size
                    clear r5
                    go_wp2_with (at_builtin; refine wpList_append_own _ rfl _ _ 51 rfl wo.heap.size 25 i0 (.agg #[.int .i64 0, .int .i64 0, .int .i64 0]) 3 24 Try.underlying51 hi0 hz1 hz2 hz3 rfl (by decide) _ _ _ rfl (HO5.out.alloc _) ⟨w5.heap.size, 0, none⟩ 1 1 [.int .i64 x, .int .i64 y, .int .i64 t] rfl rfl ?c1 ?c2 ?c3 ?c4 ?c5 ?_)
                    case c1 => exact cells_new _ _ _
                    case c2 => intro u hu; simp at hu; rcases hu with rfl | rfl | rfl <;> rfl
                    case c3 => unfold maxLen; omega
                    case c4 => omega
                    case c5 => simp; omega
                    intro v' w6 hown1 hg1 _
                    have HO1 := Lib.hid hown1
                    have HG1 := Lib.hid hg1
                    clear hown1 hg1
                    go_wp2_with fail
                    go_roundw
                    case rel =>
                      refine ⟨j + 1, by omega, by go_num, ?_, (HPZ5.out.alloc hp5 _).grown HG1.out (by simp; omega) (fun k hk => (World.ownsRow.lt HO5.out k hk).1)⟩
                      rw [HFS.out, HNCY.out, if_pos rfl, HNJ.out]
                      exact PlsOwn.snoc HO1.out
                    case measure => simp [intOf]; omega
                · have hme : m = M.length := by omega
                  subst hme
                  have HF : Hid (nowC n k g T (x, y, z) = false) := Lib.hid (by rw [HNC2.out]; exact any_no HNO.out)
                  go_wp2_with fail
                  go_roundw
                  case rel => exact ⟨j + 1, by omega, by go_num, by rw [HFS.out, HF.out, HNJ.out]; exact HOZ.out, HPZ.out⟩
                  case measure => simp [intOf]; omega
          · have hje : j = A.length := by omega
            subst hje
            have hNN : NJ = nextL n (rch g) (ranksG n (rch g) (chs n k) i) (chs n k) := by rw [← HNJ.out, List.take_length, HNL.out]
            have HNN := Lib.hid hNN
            have HNI : Hid (∀ p ∈ NJ, p ∈ A) := Lib.hid (fun p hp => by rw [hNN] at hp; exact HNA.out _ p hp)
            obtain ⟨av5, cv5, rfl⟩ := own_form HOW.out
            have HGP := Lib.hid (grownBy_trans HGR.out (grownBy_of_below HBE.out (some w.heap.size)))
            have hrl := Row.lt HRP.out
            clear hNN hlt hj
            go_wp2_with fail
            go_loopw [78] (fun c wz => ∃ (m : Nat) (T' : Nat → Int), m ≤ NJ.length ∧ c = .int .i64 m ∧ RkRow wz w.heap.size T' ∧ Hid (∀ q ∈ A, T' (rkIx q) = if q ∈ NJ.take m then ((i + 1 : Nat) : Int) else T (rkIx q)) ∧ wp.grownBy wz (some w.heap.size)) (fun c _ => NJ.length - (intOf c).toNat)
            case atStart => exact ⟨0, T, Nat.zero_le _, rfl, HRP.out, Lib.hid (fun q hq => by simp), grownBy_of_below (Below.refl _ _) _⟩
            case round =>
              obtain ⟨m, T', hm, rfl, hr, HT', hgr⟩ := hrel
              obtain ⟨wz, rfl⟩ : ∃ wz : World, wz = wr := ⟨_, rfl⟩
              have hrz := Row.lt hr
              have HRZ := Lib.hid hr
              have HGZ := Lib.hid hgr
              by_cases hlm : m < NJ.length
              · obtain ⟨⟨x, y, z⟩, hxyz⟩ : ∃ p, NJ[m]? = some p := ⟨NJ[m], by simp [hlm]⟩
                have hmm := HA8.out _ (HNI.out _ (List.mem_of_getElem? hxyz))
                dsimp only at hmm
                obtain ⟨x8, y8, z8⟩ := hmm
                obtain ⟨gm, rfl, hgm1, hgm2, e0, e1, e2⟩ := PlsOwn.read HOW.out hxyz
                have hmne : some gm ≠ some w.heap.size := fun e => by have := Option.some.inj e; omega
                rw [← World.cell?_of_block (a := ⟨gm, m * 3, none⟩) (hgr.block gm hgm2 hmne)] at e0
                rw [← World.cell?_of_block (a := ⟨gm, m * 3 + 1, none⟩) (hgr.block gm hgm2 hmne)] at e1
                rw [← World.cell?_of_block (a := ⟨gm, m * 3 + 2, none⟩) (hgr.block gm hgm2 hmne)] at e2
                dsimp only at e0 e1 e2
                have HX := Lib.hid hxyz
                obtain ⟨wb, hwb, R8, HB8, hsz8⟩ := new1 wz 25 [.int .i64 x, .int .i64 y, .int .i64 z]
                have d0 := R8.cell (i := 0) rfl
                have d1 := R8.cell (i := 1) rfl
                have d2 := R8.cell (i := 2) rfl
                have HRB := Lib.hid (hr.below HB8)
                have hc := (HRB.out).cell (i := x * 64 + y * 8 + z) (by omega)
                have hf := Row.free HRB.out (x * 64 + y * 8 + z)
                have HWB := Lib.hid hwb
                have HB8' := Lib.hid HB8
                clear hr hgr hxyz R8 HB8 hwb hmne
                go_wp2_with fail
                rw [← HWB.out]
                clear HWB e0 e1 e2
                go_region
                clear d0 d1 d2 hc hf
                go_wp2_with fail
                go_roundw
                case rel =>
                  refine ⟨m + 1, fun j => if j = rkIx (x, y, z) then ((i + 1 : Nat) : Int) else T' j, by omega, by go_num, ?_, Lib.hid (stepFact (f := fun q => T (rkIx q)) HA8.out HNI.out HX.out HT'.out), grownBy_trans HGZ.out (grownBy_drew (grownBy_trans (grownBy_of_below HB8'.out _) (grownBy_set _ _ _)))⟩
                  exact Row.drewN (HRB.out.set (rkIx (x, y, z)) ((i + 1 : Nat) : Int)) 1
                case measure => simp [intOf]; omega
              · have hme : m = NJ.length := by omega
                subst hme
                have HTN : Hid (∀ q ∈ A, T' (rkIx q) = rankV (ranksG n (rch g) (chs n k) (i + 1)) q) := Lib.hid (fun q hq => by
                  rw [HT'.out q hq, List.take_length, HT.out q hq, HNN.out, step_rank]
                  rfl)
                have HGW := Lib.hid (grownBy_trans HGP.out HGZ.out)
                have HBW := Lib.hid (HBG.out wz HGW.out)
                clear hr hgr hlm hm
                by_cases hN : NJ = []
                · have hz : ((NJ.length : Int) == 0) = true := by rw [hN]; rfl
                  have HNIL : Hid (nextL n (rch g) (ranksG n (rch g) (chs n k) i) (chs n k) = []) := Lib.hid (by rw [← HNN.out, hN])
                  have HN := Lib.hid hN
                  clear hN
                  go_wp2_with fail
                  go_ret
                  refine ⟨w.heap.size, T', rfl, HRZ.out, fun p hp => ?_, HBW.out⟩
                  rw [HA.out] at hp
                  rw [HT'.out p hp, ranksF_eq HNIL.out (by omega), ← HT.out p hp, HN.out]
                  simp
                · have hz : ((NJ.length : Int) == 0) = false := by
                    have : NJ.length ≠ 0 := fun h => hN (List.eq_nil_of_length_eq_zero h)
                    simp only [beq_eq_false_iff_ne, ne_eq]; omega
                  have HLT := Lib.hid (noRank_lt (n := n) (r := rch g) (C := chs n k) (i := i) (by rw [← HNN.out]; exact hN))
                  clear hN
                  go_wp2_with fail
                  go_roundw
                  case rel => exact ⟨i + 1, T', by go_num, by have := HLT.out; omega, HRZ.out, HTN, HGW.out⟩
                  case measure =>
                    have := HLT.out
                    have e1 : ((i : Int) + 1 + 1 : Int).toNat - 1 = i + 1 := by omega
                    have e2 : ((i : Int) + 1 : Int).toNat - 1 = i := by omega
                    simp only [intOf]
                    rw [e1, e2]
                    exact this

end Go.Proofs.Ytmkcnpphdghbaaa
