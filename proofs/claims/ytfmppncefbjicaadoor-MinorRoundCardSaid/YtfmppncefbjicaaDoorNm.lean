/- Package minor: the search for an outer order. Package minor: the contracts of outerOrder, Outer, apex, Apex. Package minor: the contracts of Outer, apex, Apex. -/
import Derived.Test.YtfmppncefbjicaaDoorNj
import Derived.Test.YtfmppncefbjicaaDoorKp
import Derived.Test.YtfmppncefbjicaaDoorRc
namespace Go.Proofs.YtfmppncefbjicaaDoor
set_option linter.unusedSimpArgs false
set_option linter.unusedVariables false
open Go.RowKit Go.Maps
attribute [local go_sem] i64_bit toNat_eq_one toNat_ne_one toNat_eq_zero toNat_ne_zero i64_and i64_or i64_andNot i64_or_pow i64_andNot_pow

abbrev exoF (ob tb eb : Nat) : Value := .func (.func 98) #[] #[ptrV ob, ptrV tb, ptrV eb]
/-- What the search leaves. -/
def ExoPost (wB w : World) (ob : Nat) (v : Value) (res : Option (List Nat)) (B : List Nat) (e : Ending) (w' : World) : Prop :=
  ∃ v', e = .returned (.bool res.isSome) ∧ Row w' ob 22 [v'] ∧ IntsOwn w' wB.heap.size v' (castL (res.getD B)) ∧ Kep w w' ob v ∧ OwnN w.heap.size v v' ∧ Below wB.heap.size wB w'
/-- The nodes that are not in a list. -/
def LeftOf (n : Nat) (B : List Nat) (left : Nat) : Prop := left < 2 ^ n ∧ ∀ v, v < n → left.testBit v = !B.contains v
theorem LeftOf.step {n x : Nat} {B : List Nat} {left : Nat} (h : LeftOf n B left) : LeftOf n (B ++ [x]) (diff left (2 ^ x)) :=
  ⟨Nat.lt_of_le_of_lt (diff_le _ _) h.1, fun v hv => by
    rw [testBit_diff, h.2 v hv, Nat.testBit_two_pow, List.contains_eq_mem, List.contains_eq_mem]
    by_cases e : x = v
    · subst e; simp
    · have e2 : ¬ v = x := fun h => e h.symm
      simp [e, e2]⟩
theorem LeftOf.none {n : Nat} {B : List Nat} {left : Nat} (h : LeftOf n B left) (hB : ∀ i, i < B.length → atN B i < n) (hl : B.length = n) (hinj : ∀ i j, i < B.length → j < B.length → atN B i = atN B j → i = j) : left = 0 := by
  apply Nat.eq_of_testBit_eq
  intro i
  rw [Nat.zero_testBit, Bool.eq_false_iff]
  intro hb
  have hi := bit_lt h.1 hb
  subst hl
  obtain ⟨j, hj, e⟩ := onto_of_inj _ _ hB hinj i hi
  have := mem_atN hj
  rw [e] at this
  rw [h.2 i hi, List.contains_eq_mem] at hb
  simp [this] at hb
theorem LeftOf.some {n k : Nat} {B : List Nat} {left : Nat} (h : LeftOf n B left) (hl : k + 1 + B.length = n) : left ≠ 0 := by
  intro h0
  have hall : ∀ v, v < n → v ∈ B := fun v hv => by
    have := h.2 v hv
    rw [h0, Nat.zero_testBit, List.contains_eq_mem] at this
    simpa using this
  have h1 : szS n (2 ^ n - 1) ≤ szS B.length (2 ^ B.length - 1) := szS_cov (atN B) fun u hu _ => by
    obtain ⟨i, hi, e⟩ := atN_mem (hall u hu)
    exact ⟨i, hi, all_bit hi, e⟩
  have h2 : ∀ m, szS m (2 ^ m - 1) = m := fun m => by
    unfold szS
    rw [List.countP_eq_length.2 (fun u hu => all_bit (List.mem_range.1 hu)), List.length_range]
  rw [h2, h2] at h1
  omega
theorem okU_left {n x : Nat} {r : Nat → Nat} {B : List Nat} {left : Nat} (h : LeftOf n B left) (hx : x < n) (hb : left.testBit x = true) : okU r B x = !crB r (atN (B ++ [x])) B.length := by
  unfold okU
  rw [← h.2 x hx, hb, Bool.true_and]
theorem stpO_not {n x k : Nat} {r : Nat → Nat} {B : List Nat} {left : Nat} (h : LeftOf n B left) (hx : x < n) (hb : left.testBit x = false) : stpO n r k B x = none := by
  unfold stpO okU
  rw [← h.2 x hx, hb, Bool.false_and]
  rfl
theorem before_bits {s x u : Nat} {pre0 : List Nat} (h : pre0 ++ [x] <+: bitsOf s) (hu : u < x) (hs : s.testBit u = true) (h10 : u < 10) : u ∈ pre0 := by
  obtain ⟨t, ht⟩ := h
  have hm : u ∈ bitsOf s := mem_bitsOf.2 ⟨h10, hs⟩
  have hsort : (bitsOf s).Pairwise (· < ·) := List.Pairwise.filter _ List.pairwise_lt_range
  rw [← ht] at hm hsort
  rcases List.mem_append.1 hm with h1 | h1
  · rcases List.mem_append.1 h1 with h2 | h2
    · exact h2
    · rw [List.mem_singleton.1 h2] at hu; omega
  · have := (List.pairwise_append.1 hsort).2.2 x (by simp) u h1
    omega

section
attribute [local go_sem] Oper.semAt_some wide_fn wide_fn_in
set_option maxRecDepth 100000 in
set_option maxHeartbeats 8000000 in
theorem exo_rec {n : Nat} {r : Nat → Nat} {wB : World} {ob tb eb : Nat} {at_ : Option Addr} {ct : Nat} (T : Tn wB at_ n r) (hTb : Tab wB) (hs : ∀ u x, u < n → x < n → (r u).testBit x = (r x).testBit u) (hob : wB.heap.size ≤ ob) (heb : wB.heap.size ≤ eb) (hoe : eb ≠ ob) (htb : tb ≠ ob) :
    ∀ (k : Nat) (B : List Nat) (left : Nat), k + B.length = n → LeftOf n B left → (∀ i, i < B.length → atN B i < n) → (∀ i j, i < B.length → j < B.length → atN B i = atN B j → i = j) → ∀ (w : World) (v : Value), Row w ob 22 [v] → IntsOwn w wB.heap.size v (castL B) → Row w eb 40 [exoF ob tb eb] → Row w tb 74 [.slice at_ n ct] → Below wB.heap.size wB w →
      Calls Tryd.prog 98 #[.int .i64 left, ptrV ob, ptrV tb, ptrV eb] w (ExoPost wB w ob v (outL n r k B) B) := by
  have hn8 := T.le
  have h8 := pow_le8 hn8
  intro k
  induction k with
  | zero =>
    intro B left hk hleft hB hinj w v hm hown he ht hb
    have h0 := hleft.none hB (by omega) hinj
    subst h0
    obtain ⟨w0, hw0, r4, r5, hb0, hsz⟩ := new2 w 3 4 [.int .i64 0] [.bool true]
    have HP : Hid (∀ w', Shut w.heap.size w0 w' → ExoPost wB w ob v (outL n r 0 B) B (.returned (.bool true)) w') := Lib.hid fun w' hsh => by
      have hbw := hb0.trans hsh.below
      exact ⟨v, rfl, hm.below hbw hm.lt, ownsRow_below hown hbw (Nat.le_refl _), (Kep.refl w ob v).below hbw (Nat.le_refl _), Or.inl rfl, hb.trans (hbw.mono hb.size)⟩
    clear hm hown he ht hb hB hinj hleft T hTb hs
    refine (callsIn_wide (n := 9)).1 ?_
    refine callsIn_of_wp_marks Tryd.func98 rfl trivial ?_ rfl
    simp only [Tryd.ntmps98, List.size_toArray, List.length_cons, List.length_nil, Nat.reduceAdd, Nat.reduceSub, Array.replicate_succ, Array.replicate_zero, List.push_toArray, List.append_toArray, List.nil_append, List.cons_append]
    gi_wp2
    rw [← hw0]
    refine leaves_marks (B := w.heap.size) (ds := []) trivial (fun w' hsh => ?_)
    have c5 := (hsh.row r5).cell (i := 0) rfl
    exact ⟨.bool true, by simp [results, Tryd.f98, go_sem, c5], HP.out w' hsh⟩
  | succ k ih =>
    intro B left hk hleft hB hinj w v hm hown he ht hb
    have HIH := Lib.hid ih
    have HB := Lib.hid hB
    have HINJ := Lib.hid hinj
    have HLF := Lib.hid hleft
    have HS := Lib.hid hs
    have hl2 := hleft.1
    have hl16 : left < 65536 := by omega
    have h0 := hleft.some hk
    have hl0 : ((left : Int) == 0) = false := by rw [beq_eq_false_iff_ne]; omega
    clear ih hB hs hinj
    obtain ⟨av, cv, hv⟩ := own_form hown
    subst hv
    have hlen : (castL B).length = B.length := castL_len B
    rw [hlen] at hm hown ⊢
    obtain ⟨L, hLd⟩ : ∃ L, L = B.length := ⟨_, rfl⟩
    have HLD := Lib.hid hLd
    rw [← hLd] at hm hown hk ⊢
    have hLn : L < n := by omega
    have cm := hm.cell (i := 0) rfl
    obtain ⟨V, hV⟩ : ∃ V : Value, V = .slice av L cv := ⟨_, rfl⟩
    have HM := Lib.hid hm
    have hown' : w.ownsRow wB.heap.size 3 1 (.slice av L cv) L ((castL B).map fun x => Value.int .i64 x) := by
      have h := hown
      unfold IntsOwn at h
      rw [castL_len, ← hLd] at h
      exact h
    have HO := Lib.hid hown'
    have HE := Lib.hid he
    have HRT := Lib.hid ht
    have HBW := Lib.hid hb
    have HT := Lib.hid T
    have HTB := Lib.hid hTb
    have HNO := Lib.hid (outL_none (n := n) (r := r) (k := k) (B := B))
    have HSO := Lib.hid (fun B' v => outL_some (n := n) (r := r) (k := k) (B := B) (B' := B') (v := v))
    have hlm := hm.lt
    have hle := he.lt
    have hlt := ht.lt
    have hbs := hb.size
    have hVo : ∀ b, some b = (Value.slice av L cv).ownBlock → b < w.heap.size := fun b e => (World.ownsRow.lt hown b e.symm).2
    have HVO := Lib.hid hVo
    have HEN : Hid (some eb ≠ (Value.slice av L cv).ownBlock) := Lib.hid (not_own_type hown he (by decide))
    have HTN : Hid (some tb ≠ (Value.slice av L cv).ownBlock) := Lib.hid (not_own_type hown ht (by decide))
    obtain ⟨R, hR⟩ : ∃ R, R = outL n r (k + 1) B := ⟨_, rfl⟩
    rw [← hR] at HNO HSO ⊢
    obtain ⟨w0, hw0, r4, r5, r6, hb0, hsz⟩ := new3 w 3 4 3 [.int .i64 left] [.bool false] [.int .i64 L]
    have e0 : w0.heap.size = w.heap.size + 1 + 1 + 1 := by rw [hw0]; simp
    obtain ⟨wn, hwn, rs, hbn, hszn⟩ := new1 w0 3 [.int .i64 left]
    rw [e0] at rs hszn
    have en : w.heap.size + 1 + 1 + 1 + 1 ≤ wn.heap.size := by rw [hwn]; simp [e0]
    clear hm hown hown' he ht hb hleft T hTb hlen hLd hVo hR
    refine (callsIn_wide (n := 9)).1 ?_
    refine callsIn_of_wp_marks Tryd.func98 rfl trivial ?_ rfl
    simp only [Tryd.ntmps98, List.size_toArray, List.length_cons, List.length_nil, Nat.reduceAdd, Nat.reduceSub, Array.replicate_succ, Array.replicate_zero, List.push_toArray, List.append_toArray, List.nil_append, List.cons_append]
    gi_wp2_with (gi_at_call 93; refine (callsIn_wide.2 (nodes_any _ _)).mono ?_; rintro e w1 ⟨rfl, rfl⟩)
    rw [← hw0, ← hwn]
    have p4 := r4.below hbn r4.lt
    have p5 := r5.below hbn r5.lt
    have p6 := r6.below hbn r6.lt
    have hbw : Below w.heap.size w wn := hb0.trans (hbn.mono hb0.size)
    have hbB : Below wB.heap.size wB wn := HBW.out.trans (hbw.mono hbs)
    clear hw0 hwn r4 r5 r6 hb0 hbn hsz e0 cm
    refine range_nodes (nodes_seq left (by omega) _ wn hszn (rs.cell (i := 0) rfl) (HTB.out.below hbB)) Tab.put (Below.refl _ _) rfl (enters_of Tryd.func109 (by kernel_rfl) rfl) rfl
      (fun pre W => (∀ u ∈ pre, stpO n r k B u = none) ∧ (∃ (a : Option Addr) (c : Nat), Row W ob 22 [.slice a L c] ∧ W.ownsRow wB.heap.size 3 1 (.slice a L c) L ((castL B).map fun x => Value.int .i64 x) ∧ OwnN (w.heap.size + 1 + 1 + 1 + 1) (.slice av L cv) (.slice a L c)) ∧ Row W w.heap.size 3 [.int .i64 left] ∧ Row W (w.heap.size + 1) 4 [.bool false] ∧ Row W (w.heap.size + 1 + 1) 3 [.int .i64 L] ∧ Kep w W ob (.slice av L cv) ∧ Below wB.heap.size wB W)
      (fun c pre W => ∃ (pre0 : List Nat) (x : Nat) (B' : List Nat) (v' : Value), c = .ret ∧ pre = pre0 ++ [x] ∧ (∀ u ∈ pre0, stpO n r k B u = none) ∧ stpO n r k B x = some B' ∧ Row W ob 22 [v'] ∧ W.ownsRow wB.heap.size 3 1 v' (castL B').length ((castL B').map fun x => Value.int .i64 x) ∧ OwnN w.heap.size (.slice av L cv) v' ∧ Row W (w.heap.size + 1) 4 [.bool true] ∧ Kep w W ob (.slice av L cv) ∧ Below wB.heap.size wB W)
      ((ownFrom_pure _ _).and ((ownFrom_ex fun a => ownFrom_ex fun c => ((own_row _ _ _).from _).and ((ownFrom_ownsRow _ _ _ _ (fun _ => .slice a L c) _ _).and (ownFrom_pure _ _))).and (((own_row _ _ _).from _).and (((own_row _ _ _).from _).and (((own_row _ _ _).from _).and ((ownFrom_kep (by omega)).and (ownFrom_below (by omega) hbB.size)))))))
      (fun c => ownFrom_ex fun pre0 => ownFrom_ex fun x => ownFrom_ex fun B' => ownFrom_ex fun v' => (ownFrom_pure _ _).and ((ownFrom_pure _ _).and ((ownFrom_pure _ _).and ((ownFrom_pure _ _).and (((own_row _ _ _).from _).and ((ownFrom_ownsRow _ _ _ _ (fun _ => v') _ _).and ((ownFrom_pure _ _).and (((own_row _ _ _).from _).and ((ownFrom_kep (by omega)).and (ownFrom_below (by omega) hbB.size))))))))))
      ⟨by simp, ⟨av, cv, HM.out.below hbw hlm, ownsRow_below HO.out hbw (Nat.le_refl _), Or.inl rfl⟩, p4, p5, p6, (Kep.refl w ob _).below hbw (Nat.le_refl _), hbB⟩ (fun _ W h => HTB.out.below h.2.2.2.2.2.2) ?a1 ?assign ?body ?done ?stop
    case assign =>
      intro l x W K hx hK
      gi_wp2
      exact hK
    case body =>
      rintro l pre x W hx _ ⟨hp, ⟨a, c, om, oo, hon⟩, o4, o5, o6, hKp, hbl⟩
--BODY
      obtain ⟨hx10, hxb⟩ := mem_bitsOf.1 hx
      have hxn := bitsOf_lt hl2 hx
      have hx16 : x < 16 := by omega
      have hpw := pow_bd x hx16
      have HOKX := Lib.hid (okU_left (r := r) HLF.out hxn hxb)
      have HXB := Lib.hid hxb
      obtain ⟨i0, hi0, hz1, hz2, hz3⟩ := info_parts info_int
      have cO := om.cell (i := 0) rfl
      have HP := Lib.hid hp
      have OM := Lib.hid om
      have OO := Lib.hid oo
      have HON := Lib.hid hon
      have O4 := Lib.hid o4
      have O5 := Lib.hid o5
      have O6 := Lib.hid o6
      have HKP := Lib.hid hKp
      have HBL := Lib.hid hbl
      have hszB := hbl.size
      have hszW := o6.lt
      have HON0 : Hid (OwnN w.heap.size (.slice av L cv) (.slice a L c)) := Lib.hid (by
        rcases hon with h | h
        · exact Or.inl h
        · exact Or.inr fun b hb => by have := h b hb; omega)
      have HNE : Hid (∀ d, d < 4 → some (w.heap.size + d) ≠ (Value.slice a L c).ownBlock) := Lib.hid fun d hd e => by
        rcases hon with h | h
        · have := HVO.out _ (e.trans h); omega
        · have := h _ e; omega
      have TRUNC : ∀ (W1 : World) (g1 c1 : Nat), Row W1 ob 22 [.slice (some ⟨g1, 0, none⟩) (L + 1) c1] → IntsOwn W1 wB.heap.size (.slice (some ⟨g1, 0, none⟩) (L + 1) c1) (castL (B ++ [x])) → OwnN (w.heap.size + 1 + 1 + 1 + 1) (.slice av L cv) (.slice (some ⟨g1, 0, none⟩) (L + 1) c1) → Row W1 w.heap.size 3 [.int .i64 left] → Row W1 (w.heap.size + 1) 4 [.bool false] → Row W1 (w.heap.size + 1 + 1) 3 [.int .i64 L] → Kep W W1 ob (.slice a L c) → Below wB.heap.size wB W1 → stpO n r k B x = none →
          KeepsFrom wn.heap.size W (W1.setCell ⟨ob, 0, none⟩ (.slice (some ⟨g1, 0, none⟩) L c1)) ∧ (∀ u ∈ pre ++ [x], stpO n r k B u = none) ∧ (∃ (a : Option Addr) (c : Nat), Row (W1.setCell ⟨ob, 0, none⟩ (.slice (some ⟨g1, 0, none⟩) L c1)) ob 22 [.slice a L c] ∧ (W1.setCell ⟨ob, 0, none⟩ (.slice (some ⟨g1, 0, none⟩) L c1)).ownsRow wB.heap.size 3 1 (.slice a L c) L ((castL B).map fun x => Value.int .i64 x) ∧ OwnN (w.heap.size + 1 + 1 + 1 + 1) (.slice av L cv) (.slice a L c)) ∧ Row (W1.setCell ⟨ob, 0, none⟩ (.slice (some ⟨g1, 0, none⟩) L c1)) w.heap.size 3 [.int .i64 left] ∧ Row (W1.setCell ⟨ob, 0, none⟩ (.slice (some ⟨g1, 0, none⟩) L c1)) (w.heap.size + 1) 4 [.bool false] ∧ Row (W1.setCell ⟨ob, 0, none⟩ (.slice (some ⟨g1, 0, none⟩) L c1)) (w.heap.size + 1 + 1) 3 [.int .i64 L] ∧ Kep w (W1.setCell ⟨ob, 0, none⟩ (.slice (some ⟨g1, 0, none⟩) L c1)) ob (.slice av L cv) ∧ Below wB.heap.size wB (W1.setCell ⟨ob, 0, none⟩ (.slice (some ⟨g1, 0, none⟩) L c1)) := by
        intro W1 g1 c1 t1 t2 t3 t4 t5 t6 t7 t8 t9
        have hk1 := t7.set 0 (.slice (some ⟨g1, 0, none⟩) L c1)
        refine ⟨hk1.keeps OM.out OO.out, fun u hu => ?_, ⟨some ⟨g1, 0, none⟩, c1, t1.set 0 _, ?_, t3⟩, t4.other (by simp; omega) _, t5.other (by simp; omega) _, t6.other (by simp; omega) _, HKP.out.trans hk1 HON0.out, t8.setCell (p := ⟨ob, 0, none⟩) hob _⟩
        · rcases List.mem_append.1 hu with h | h
          · exact HP.out u h
          · rw [List.mem_singleton.1 h]; exact t9
        · have h1 : IntsOwn W1 wB.heap.size (.slice (some ⟨g1, 0, none⟩) (castL B ++ [(x : Int)]).length c1) (castL B ++ [(x : Int)]) := by
            have e1 : (castL B ++ [(x : Int)]).length = L + 1 := by rw [List.length_append, castL_len, ← HLD.out]; rfl
            rw [e1, ← castL_app]
            exact t2
          have h2 := h1.cut
          unfold IntsOwn at h2
          rw [castL_len, ← HLD.out] at h2
          exact World.ownsRow.kept h2 (grownBy_setCell' W1 ob _) (.inr (not_own_type h2 t1 (by decide)).symm)
      have HTR := Lib.hid TRUNC
      clear hp om oo hon o4 o5 o6 hKp hbl hxb TRUNC
      gi_wp2_with (gi_at_builtin; refine wpListIn_append_own_at _ rfl _ _ 22 rfl wB.heap.size 3 i0 (.int .i64 0) 1 8 Tryd.underlying22 hi0 hz1 hz2 hz3 rfl (by decide) (.slice a L c) _ _ rfl (OO.out.alloc _) ⟨W.heap.size, 0, none⟩ 1 1 [.int .i64 x] rfl rfl ?c1 ?c2 ?c3 ?c4 ?c5 ?_)
      case c1 => exact cells_new _ _ _
      case c2 => intro u hu; simp at hu; subst hu; rfl
      case c3 => unfold maxLen; omega
      case c4 => omega
      case c5 => simp; omega
      intro v' w9 hown1 hg1 _ hat
      obtain ⟨g', cap', rfl⟩ := ownsRow_succ hown1
      have y0 := (OM.out.alloc (.cells #[.int .i64 x] 3)).grown hg1 (not_own_type OO.out OM.out (by decide))
      have y4 := (O4.out.alloc (.cells #[.int .i64 x] 3)).grown hg1 (HNE.out 0 (by omega))
      have y5 := (O5.out.alloc (.cells #[.int .i64 x] 3)).grown hg1 (HNE.out 1 (by omega))
      have y6 := (O6.out.alloc (.cells #[.int .i64 x] 3)).grown hg1 (HNE.out 2 (by omega))
      have hkw : Kep W w9 ob (.slice a L c) := (Kep.alloc (Kep.refl W ob _) _).grown hg1 (Or.inl rfl)
      have hbl9 := (HBL.out.alloc HBL.out.size (.cells #[.int .i64 x] 3)).grown hg1 (by simp; omega) (fun k hk => (World.ownsRow.lt OO.out k hk).1)
      have hon9 : OwnN W.heap.size (.slice a L c) (.slice (some ⟨g', 0, none⟩) (L + 1) cap') := by
        rcases hat with h | h
        · exact Or.inl h
        · exact Or.inr fun b hb => by rw [h] at hb; simp at hb; omega
      have honw : OwnN (w.heap.size + 1 + 1 + 1 + 1) (.slice av L cv) (.slice (some ⟨g', 0, none⟩) (L + 1) cap') := by
        rcases hat with h | h
        · rcases HON.out with h2 | h2
          · exact Or.inl (h.trans h2)
          · exact Or.inr fun b hb => h2 b (hb.trans h)
        · exact Or.inr fun b hb => by rw [h] at hb; simp at hb; omega
      have hs9 : W.heap.size + 1 ≤ w9.heap.size := by have := hg1.size; simpa using this
      have f0 := y0.free 0
      have l0 := y0.lt
      have c0 := y0.cell (i := 0) rfl
      have HO1 := Lib.hid hown1
      have HKW := Lib.hid hkw
      have HBL9 := Lib.hid hbl9
      have HON9 := Lib.hid hon9
      have HONW := Lib.hid honw
      clear hown1 hg1 hat hkw hbl9 hon9 honw cO
      gi_wp2
      have q0 := y0.set 0 (.slice (some ⟨g', 0, none⟩) (L + 1) cap')
      have q4 := y4.other (a := ⟨ob, 0, none⟩) (by simp; omega) (.slice (some ⟨g', 0, none⟩) (L + 1) cap')
      have q5 := y5.other (a := ⟨ob, 0, none⟩) (by simp; omega) (.slice (some ⟨g', 0, none⟩) (L + 1) cap')
      have q6 := y6.other (a := ⟨ob, 0, none⟩) (by simp; omega) (.slice (some ⟨g', 0, none⟩) (L + 1) cap')
      have hlen1 : (B ++ [x]).length = L + 1 := by rw [List.length_append, ← HLD.out]; rfl
      have HLEN1 := Lib.hid hlen1
      have HOI : Hid (IntsOwn (w9.setCell ⟨ob, 0, none⟩ (.slice (some ⟨g', 0, none⟩) (L + 1) cap')) wB.heap.size (.slice (some ⟨g', 0, none⟩) (L + 1) cap') (castL (B ++ [x]))) := Lib.hid (by
        have h := World.ownsRow.kept HO1.out (grownBy_setCell' w9 ob (.slice (some ⟨g', 0, none⟩) (L + 1) cap')) (.inr (not_own_type HO1.out y0 (by decide)).symm)
        unfold IntsOwn
        rw [castL_len, HLEN1.out, castL_app, List.map_append]
        exact h)
      have HKW1 := Lib.hid (HKW.out.set 0 (.slice (some ⟨g', 0, none⟩) (L + 1) cap'))
      have HBL1 := Lib.hid (HBL9.out.setCell (p := ⟨ob, 0, none⟩) hob (.slice (some ⟨g', 0, none⟩) (L + 1) cap'))
      have hs10 : W.heap.size + 1 ≤ (w9.setCell ⟨ob, 0, none⟩ (.slice (some ⟨g', 0, none⟩) (L + 1) cap')).heap.size := by simpa using hs9
      generalize w9.setCell ⟨ob, 0, none⟩ (.slice (some ⟨g', 0, none⟩) (L + 1) cap') = w10 at *
      clear y0 y4 y5 y6 f0 l0 c0 HO1 HKW HBL9 hlen1
      have htW := HKP.out.row HRT.out htb HTN.out
      have heW := HKP.out.row HE.out hoe HEN.out
      have qt := HKW1.out.row htW htb (not_own_type OO.out htW (by decide))
      have qe := HKW1.out.row heW hoe (not_own_type OO.out heW (by decide))
      have cTn : ∀ u : BelowW w10.heap.size w10, u.w.cell? ⟨tb, 0, none⟩ = some (.slice at_ n ct) := fun u => (qt.below u.h qt.lt).cell (i := 0) rfl
      have cOr : ∀ u : BelowW w10.heap.size w10, u.w.cell? ⟨ob, 0, none⟩ = some (.slice (some ⟨g', 0, none⟩) (L + 1) cap') := fun u => (q0.below u.h q0.lt).cell (i := 0) rfl
      have cEx : ∀ u : BelowW w10.heap.size w10, u.w.cell? ⟨eb, 0, none⟩ = some (exoF ob tb eb) := fun u => (qe.below u.h qe.lt).cell (i := 0) rfl
      have cLf : ∀ u : BelowW w10.heap.size w10, u.w.cell? ⟨w.heap.size, 0, none⟩ = some (.int .i64 left) := fun u => (q4.below u.h q4.lt).cell (i := 0) rfl
      have hcap : L + 1 ≤ cap' := by
        obtain ⟨a1, c1, h1, h2⟩ := own_cap HOI.out
        simp only [Value.slice.injEq] at h1
        rw [castL_len, HLEN1.out] at h2
        rw [h1.2.2]; exact h2
      have HBX : Hid (∀ i, i < (B ++ [x]).length → atN (B ++ [x]) i < n) := Lib.hid fun i hi => by
        rw [HLEN1.out] at hi
        by_cases e : i = B.length
        · subst e; rw [atN_new]; exact hxn
        · rw [atN_old (by have := HLD.out; omega)]; exact HB.out i (by have := HLD.out; omega)
      have HBI : Hid (∀ i j, i < (B ++ [x]).length → j < (B ++ [x]).length → atN (B ++ [x]) i = atN (B ++ [x]) j → i = j) := Lib.hid fun i j hi hj he => by
        rw [HLEN1.out] at hi hj
        have hnx : ∀ i, i < B.length → atN B i ≠ x := fun i hi e => by
          have h1 := mem_atN hi
          rw [e] at h1
          have h2 := HLF.out.2 x hxn
          rw [HXB.out, List.contains_eq_mem] at h2
          simp [h1] at h2
        have hl := HLD.out
        by_cases e : i = B.length
        · by_cases e2 : j = B.length
          · omega
          · subst e; rw [atN_new, atN_old (by omega)] at he; exact absurd he.symm (hnx j (by omega))
        · by_cases e2 : j = B.length
          · subst e2; rw [atN_new, atN_old (by omega)] at he; exact absurd he (hnx i (by omega))
          · rw [atN_old (by omega), atN_old (by omega)] at he; exact HINJ.out i j (by omega) (by omega) he
      have HCR : Hid (∀ u : BelowW w10.heap.size w10, Calls Tryd.prog 99 #[.slice at_ n ct, .slice (some ⟨g', 0, none⟩) (L + 1) cap'] u.w fun e w' => e = .returned (.bool (crB r (atN (B ++ [x])) L)) ∧ Below u.w.heap.size u.w w') := Lib.hid fun u => by
        have hbu := HBL1.out.trans (u.h.mono HBL1.out.size)
        obtain ⟨a1, c1, h1, h2⟩ := (IntsOwn.below HOI.out u.h).at_ (by rw [HLEN1.out]; omega)
        simp only [Value.slice.injEq] at h1
        obtain ⟨rfl, _, rfl⟩ := h1
        rw [HLEN1.out] at h2
        exact crosses_any (HT.out.below hbu) ct HS.out (HTB.out.below hbu) cap' h2 (fun i hi => HBX.out i (by rw [HLEN1.out]; omega)) (by omega) hcap
      have HST : Hid (stpO n r k B x = if crB r (atN (B ++ [x])) L then none else outL n r k (B ++ [x])) := Lib.hid (by
        unfold stpO
        rw [HOKX.out, ← HLD.out]
        cases crB r (atN (B ++ [x])) L <;> rfl)
      have hsl1 : decide ((cap' : Int) < (L : Int)) = false := decide_eq_false (by omega)
      have hsl2 : decide (cap' < L) = false := decide_eq_false (by omega)
      have hsl3 : L ≤ cap' := by omega
      have Q0 := Lib.hid q0
      have Q4 := Lib.hid q4
      have Q5 := Lib.hid q5
      have Q6 := Lib.hid q6
      have QE := Lib.hid qe
      have QT := Lib.hid qt
      clear q0 q4 q5 q6 htW heW qe qt
      cases hcr : crB r (atN (B ++ [x])) L
      · rw [hcr] at HCR HST
        clear hcr
        cases hres : outL n r k (B ++ [x]) with
        | none =>
          rw [hres] at HST
          have HIX : Hid (∀ u : BelowW w10.heap.size w10, Calls Tryd.prog 98 #[.int .i64 (diff left (2 ^ x) : Nat), ptrV ob, ptrV tb, ptrV eb] u.w (ExoPost wB u.w ob (.slice (some ⟨g', 0, none⟩) (L + 1) cap') none (B ++ [x]))) := Lib.hid fun u => by
            have := HIH.out (B ++ [x]) (diff left (2 ^ x)) (by rw [HLEN1.out]; omega) HLF.out.step HBX.out HBI.out u.w _ (Q0.out.below u.h Q0.out.lt) (IntsOwn.below HOI.out u.h) (QE.out.below u.h QE.out.lt) (QT.out.below u.h QT.out.lt) (HBL1.out.trans (u.h.mono HBL1.out.size))
            rw [hres] at this
            exact this
          clear hres
          refine last_two w10.heap.size w10 (Below.refl _ _) (by kernel_rfl) rfl rfl (by kernel_rfl) (by kernel_rfl) (by kernel_rfl) ?_
          dsimp only [initOf, lastOf]
          repeat (gi_big_quiet_step ((gi_at_call 99; exact CallsIn.inRound l (callsIn_wide.2 (calls_below (Nat.le_refl _) (HCR.out _))))))
          refine wpQuietIn_nil ?_
          rintro _ ⟨u, rfl⟩
          refine ⟨rfl, ?_⟩
          gi_wp2_with fail
          gi_at_call 98
          refine (CallsIn.inRound l (callsIn_wide.2 (HIX.out u))).mono ?_
          rintro e w11 ⟨v2, rfl, s0, s1, s2, s3, s4⟩
          obtain ⟨g2, c2, rfl, hc2, _⟩ := own_formC s1 (show (castL (((none : Option (List Nat))).getD (B ++ [x]))).length ≠ 0 by rw [castL_len]; show (B ++ [x]).length ≠ 0; rw [HLEN1.out]; omega)
          have hlen2 : (castL (((none : Option (List Nat))).getD (B ++ [x]))).length = L + 1 := by rw [castL_len]; exact HLEN1.out
          rw [hlen2] at s0 s1 s3 hc2
          have hnu : ∀ d, d < 4 → some (w.heap.size + d) ≠ (Value.slice (some ⟨g', 0, none⟩) (L + 1) cap').ownBlock := fun d hd e => by
            rcases HONW.out with h | h
            · have := HVO.out _ (e.trans h); omega
            · have := h _ e; omega
          have z4 := s2.row (Q4.out.below u.h Q4.out.lt) (by omega) (hnu 0 (by omega))
          have z5 := s2.row (Q5.out.below u.h Q5.out.lt) (by omega) (hnu 1 (by omega))
          have z6 := s2.row (Q6.out.below u.h Q6.out.lt) (by omega) (hnu 2 (by omega))
          have hkw2 := (HKW1.out.below u.h HKW1.out.size).trans s2 HON9.out
          have huz := u.h.size
          have h10 := HKW1.out.size
          have hon2 : OwnN (w.heap.size + 1 + 1 + 1 + 1) (.slice av L cv) (.slice (some ⟨g2, 0, none⟩) (L + 1) c2) := by
            rcases s3 with h | h
            · rcases HONW.out with h2 | h2
              · exact Or.inl (h.trans h2)
              · exact Or.inr fun b hb => h2 b (hb.trans h)
            · exact Or.inr fun b hb => by have := h b hb; have := Q6.out.lt; omega
          have k0 := s0.cell (i := 0) rfl
          have kf := s0.free 0
          have kl := s0.lt
          have k6 := z6.cell (i := 0) rfl
          have hsl4 : decide ((c2 : Int) < (L : Int)) = false := decide_eq_false (by omega)
          have hsl5 : decide (c2 < L) = false := decide_eq_false (by omega)
          have hsl6 : L ≤ c2 := by omega
          have HFIN := Lib.hid (HTR.out w11 g2 c2 s0 s1 hon2 z4 z5 z6 hkw2 s4 (by rw [HST.out]; rfl))
          clear s0 s1 s2 s3 s4 z4 z5 z6 hkw2 hon2 hlen2
          gi_wp2
          exact HFIN.out
        | some B2 =>
          rw [hres] at HST
          have HIX : Hid (∀ u : BelowW w10.heap.size w10, Calls Tryd.prog 98 #[.int .i64 (diff left (2 ^ x) : Nat), ptrV ob, ptrV tb, ptrV eb] u.w (ExoPost wB u.w ob (.slice (some ⟨g', 0, none⟩) (L + 1) cap') (some B2) (B ++ [x]))) := Lib.hid fun u => by
            have := HIH.out (B ++ [x]) (diff left (2 ^ x)) (by rw [HLEN1.out]; omega) HLF.out.step HBX.out HBI.out u.w _ (Q0.out.below u.h Q0.out.lt) (IntsOwn.below HOI.out u.h) (QE.out.below u.h QE.out.lt) (QT.out.below u.h QT.out.lt) (HBL1.out.trans (u.h.mono HBL1.out.size))
            rw [hres] at this
            exact this
          clear hres
          refine last_two w10.heap.size w10 (Below.refl _ _) (by kernel_rfl) rfl rfl (by kernel_rfl) (by kernel_rfl) (by kernel_rfl) ?_
          dsimp only [initOf, lastOf]
          repeat (gi_big_quiet_step ((gi_at_call 99; exact CallsIn.inRound l (callsIn_wide.2 (calls_below (Nat.le_refl _) (HCR.out _))))))
          refine wpQuietIn_nil ?_
          rintro _ ⟨u, rfl⟩
          refine ⟨rfl, ?_⟩
          gi_wp2_with fail
          gi_at_call 98
          refine (CallsIn.inRound l (callsIn_wide.2 (HIX.out u))).mono ?_
          rintro e w11 ⟨v2, rfl, s0, s1, s2, s3, s4⟩
          have hnu : ∀ d, d < 4 → some (w.heap.size + d) ≠ (Value.slice (some ⟨g', 0, none⟩) (L + 1) cap').ownBlock := fun d hd e => by
            rcases HONW.out with h | h
            · have := HVO.out _ (e.trans h); omega
            · have := h _ e; omega
          have z4 := s2.row (Q4.out.below u.h Q4.out.lt) (by omega) (hnu 0 (by omega))
          have z5 := s2.row (Q5.out.below u.h Q5.out.lt) (by omega) (hnu 1 (by omega))
          have z6 := s2.row (Q6.out.below u.h Q6.out.lt) (by omega) (hnu 2 (by omega))
          have hkw2 := (HKW1.out.below u.h HKW1.out.size).trans s2 HON9.out
          have huz := u.h.size
          have h10 := HKW1.out.size
          have hon2 : OwnN (w.heap.size + 1 + 1 + 1 + 1) (.slice av L cv) v2 := by
            rcases s3 with h | h
            · rcases HONW.out with h2 | h2
              · exact Or.inl (h.trans h2)
              · exact Or.inr fun b hb => h2 b (hb.trans h)
            · exact Or.inr fun b hb => by have := h b hb; have := Q6.out.lt; omega
          have k5 := z5.cell (i := 0) rfl
          have kf := z5.free 0
          have kl := z5.lt
          have S1 := Lib.hid s1
          have HKW2 := Lib.hid hkw2
          have HON2 := Lib.hid hon2
          have HBL2 := Lib.hid s4
          have S0 := Lib.hid s0
          clear s0 s1 s2 s3 s4 z4 z6 hkw2 hon2
          gi_wp2
          have h5n := not_own_type S1.out z5 (by decide)
          exact ⟨(HKW2.out.keeps OM.out OO.out).trans ((KeepsOthers.setCell w11 ⟨w.heap.size + 1, 0, none⟩ (.bool true)).from _), pre, x, B2, v2, rfl, rfl, HP.out, by rw [HST.out]; rfl, S0.out.other (by simp; omega) _, World.ownsRow.kept S1.out (grownBy_setCell' w11 (w.heap.size + 1) _) (.inr h5n.symm), by
            rcases HON2.out with h | h
            · exact Or.inl h
            · exact Or.inr fun b hb => by have := h b hb; omega, z5.set 0 _, (HKP.out.trans HKW2.out HON0.out).setNew (by omega) 0 _, HBL2.out.setCell (p := ⟨w.heap.size + 1, 0, none⟩) (by simp; omega) _⟩
      · rw [hcr] at HCR HST
        clear hcr
        refine below_round w10.heap.size w10 (Below.refl _ _) (by kernel_rfl) (by kernel_rfl) (by kernel_rfl) ?_
        repeat (gi_big_quiet_step ((gi_at_call 99; exact CallsIn.inRound l (callsIn_wide.2 (calls_below (Nat.le_refl _) (HCR.out _))))))
        refine wpQuietIn_nil ?_
        rintro _ ⟨u, rfl⟩
        have s0 := Q0.out.below u.h Q0.out.lt
        have k0 := s0.cell (i := 0) rfl
        have kf := s0.free 0
        have kl := s0.lt
        have z6 := Q6.out.below u.h Q6.out.lt
        have k6 := z6.cell (i := 0) rfl
        have HFIN := Lib.hid (HTR.out u.w g' cap' s0 (IntsOwn.below HOI.out u.h) HONW.out (Q4.out.below u.h Q4.out.lt) (Q5.out.below u.h Q5.out.lt) z6 (HKW1.out.below u.h HKW1.out.size) (HBL1.out.trans (u.h.mono HBL1.out.size)) (by rw [HST.out]; rfl))
        clear s0 z6
        gi_wp2
        exact HFIN.out
--DONE
    case done =>
      rintro D W hD ⟨hp, ⟨a, c, om, oo, hon⟩, o4, o5, o6, hKp, hbl⟩ hK
      have HRN := Lib.hid (HNO.out fun u hu => by
        cases hbu : left.testBit u
        · exact stpO_not HLF.out hu hbu
        · exact hp u (mem_bitsOf.2 ⟨by omega, hbu⟩))
      have c5 := o5.cell (i := 0) rfl
      have f5 := o5.free 0
      have l5 := o5.lt
      have OM := Lib.hid om
      have OO := Lib.hid oo
      have HON := Lib.hid hon
      have HKP := Lib.hid hKp
      have HBL := Lib.hid hbl
      clear hp om oo hon hKp hbl
      gi_wp2
      have hob5 : ob ≠ w.heap.size + 1 := by omega
      have h5o := not_own_type OO.out o5 (by decide)
      have hk5 : KeepsFrom w.heap.size W (W.setCell ⟨w.heap.size + 1, 0, none⟩ (.bool false)) := (KeepsOthers.setCell W ⟨w.heap.size + 1, 0, none⟩ (.bool false)).from _
      refine leaves_marks (B := w.heap.size) (Marks.one (by omega) (hk5.same D _ (by omega) hK rfl)) (fun w' hsh => ?_)
      have c5' := (hsh.row (o5.set 0 (.bool false))).cell (i := 0) rfl
      refine ⟨.bool false, by simp [results, Tryd.f98, go_sem, c5'], _, by rw [HRN.out]; rfl, hsh.row (OM.out.other (by simpa using hob5) (.bool false)), ?_, ?_, ?_, (HBL.out.setCell (p := ⟨w.heap.size + 1, 0, none⟩) (by simp; omega) _).trans (hsh.below.mono (by omega))⟩
      · rw [HRN.out]
        have h := ownsRow_shut hsh (World.ownsRow.kept OO.out (grownBy_setCell' W (w.heap.size + 1) (.bool false)) (.inr h5o.symm))
        unfold IntsOwn
        rw [show ((none : Option (List Nat)).getD B) = B from rfl, castL_len, ← HLD.out]
        exact h
      · exact (HKP.out.setNew (by omega) 0 _).below hsh.below (Nat.le_refl _)
      · rcases HON.out with h | h
        · exact Or.inl h
        · exact Or.inr fun b hb => by have := h b hb; omega
    case stop =>
      rintro D c pre W hD hpre ⟨pre0, x, B', v', rfl, rfl, hp, hst, om, oo, hon, o5, hKp, hbl⟩ hK
      have hxn : x < n := bitsOf_lt hl2 (hpre.subset (by simp))
      have HRS := Lib.hid (HSO.out B' x (fun u hu => by
        cases hbu : left.testBit u
        · exact stpO_not HLF.out (by omega) hbu
        · exact hp u (before_bits hpre hu hbu (by omega))) hst hxn)
      have OM := Lib.hid om
      have OO := Lib.hid oo
      have HON := Lib.hid hon
      have HKP := Lib.hid hKp
      have HBL := Lib.hid hbl
      clear hp om oo hon hKp hbl hst
      gi_wp2
      refine leaves_marks (B := w.heap.size) (Marks.one (by omega) hK) (fun w' hsh => ?_)
      have c5' := (hsh.row o5).cell (i := 0) rfl
      refine ⟨.bool true, by simp [results, Tryd.f98, go_sem, c5'], v', by rw [HRS.out]; rfl, hsh.row OM.out, ?_, ?_, HON.out, HBL.out.trans (hsh.below.mono (by omega))⟩
      · rw [HRS.out]
        exact ownsRow_shut hsh OO.out
      · exact HKP.out.below hsh.below (Nat.le_refl _)
end

end Go.Proofs.YtfmppncefbjicaaDoor

namespace Go.Proofs.YtfmppncefbjicaaDoor
set_option linter.unusedSimpArgs false
set_option linter.unusedVariables false
open Go.RowKit Go.Maps
attribute [local go_sem] i64_bit toNat_eq_one toNat_ne_one toNat_eq_zero toNat_ne_zero i64_and i64_or i64_andNot i64_or_pow i64_andNot_pow

@[local go_sem] theorem run_store_funcO (w : World) (a : Addr) (fn : Fn) (x y : Array Value) (m : Mode) : (store a (.func fn x y) m).run Tryd.prog w = stored Tryd.prog w a (.func fn x y) m := run_store Tryd.prog w a _ m rfl
set_option maxRecDepth 100000 in
set_option maxHeartbeats 4000000 in
theorem outerOrder_any {n : Nat} {r : Nat → Nat} {a : Option Addr} {w : World} (T : Tn w a n r) (cap : Nat) (hT : Tab w) (hs : ∀ u x, u < n → x < n → (r u).testBit x = (r x).testBit u) :
    Calls Tryd.prog 72 #[.slice a n cap] w fun e w' => ∃ v, e = .returned (.tuple #[v, .bool (outL n r n []).isSome]) ∧ IntsOwn w' w.heap.size v (castL ((outL n r n []).getD [])) ∧ Below w.heap.size w w' := by
  have hn8 := T.le
  have h8 := pow_le8 hn8
  have hn1 := T.at_.pos
  have hpn := Nat.two_pow_pos n
  have hL : LeftOf n [0] (diff (2 ^ n - 1) 1) := LeftOf.step (n := n) (x := 0) (B := []) (left := 2 ^ n - 1) ⟨by omega, fun v hv => by rw [all_bit hv]; rfl⟩
  have hbn : bits .andNot .i64 ((2 ^ n - 1 : Nat) : Int) 1 = ((diff (2 ^ n - 1) 1 : Nat) : Int) := i64_andNot (2 ^ n - 1) 1 (by omega) (by omega)
  obtain ⟨w0, hw0, r1, r2, r3, hb0, hsz⟩ := new3 w 74 3 22 [.slice a n cap] [.int .i64 0] [.slice (some ⟨w.heap.size + 1, 0, none⟩) 1 1]
  have e0 : w0.heap.size = w.heap.size + 1 + 1 + 1 := by rw [hw0]; simp
  obtain ⟨wn, hwn, r4, hbn', hszn⟩ := new1 w0 40 [exoF (w.heap.size + 1 + 1) w.heap.size (w.heap.size + 1 + 1 + 1)]
  rw [e0] at r4 hszn
  have hbw : Below w.heap.size w wn := hb0.trans (hbn'.mono hb0.size)
  have q1 := r1.below hbn' r1.lt
  have q2 := r2.below hbn' r2.lt
  have q3 := r3.below hbn' r3.lt
  have hown : IntsOwn wn w.heap.size (.slice (some ⟨w.heap.size + 1, 0, none⟩) 1 1) (castL [0]) := by
    refine ⟨rfl, Or.inr ⟨w.heap.size + 1, 1, #[.int .i64 0], rfl, by omega, q2, by decide, by decide, rfl, rfl⟩⟩
  have HEX : Hid (∀ u : BelowW wn.heap.size wn, Calls Tryd.prog 98 #[.int .i64 (diff (2 ^ n - 1) 1 : Nat), ptrV (w.heap.size + 1 + 1), ptrV w.heap.size, ptrV (w.heap.size + 1 + 1 + 1)] u.w (ExoPost w u.w (w.heap.size + 1 + 1) (.slice (some ⟨w.heap.size + 1, 0, none⟩) 1 1) (outL n r (n - 1) [0]) [0])) := Lib.hid fun u =>
    exo_rec T hT hs (by omega) (by omega) (by omega) (by omega) (n - 1) [0] (diff (2 ^ n - 1) 1) (by simp; omega) hL (fun i hi => by
      have : i = 0 := by simpa using hi
      subst this; exact hn1) (fun i j hi hj _ => by
      have : i = 0 := by simpa using hi
      have : j = 0 := by simpa using hj
      omega) u.w _ (q3.below u.h q3.lt) (IntsOwn.below hown u.h) (r4.below u.h r4.lt) (q1.below u.h q1.lt) (hbw.trans (u.h.mono hbw.size))
  rw [outL_first hn1 hs]
  have HAL := Lib.hid (fun w => all_any a n cap w (show n < 16 by omega))
  have hmf : ∀ (fn : Fn) (first cap : Array Value) (w : World), (Instr.makeFunc fn first cap).run Tryd.prog w = .ok (.func fn first cap) w := fun _ _ _ _ => rfl
  have cE := r4.cell (i := 0) rfl
  have cT := q1.cell (i := 0) rfl
  obtain ⟨O, hO⟩ : ∃ O, O = outL n r (n - 1) [0] := ⟨_, rfl⟩
  rw [← hO] at HEX ⊢
  have HHBW := Lib.hid hbw
  have HBN := Lib.hid hbn
  clear T hT hs hL hO hown q1 q2 q3 r1 r2 r3 r4 hb0 hbn' hbw hbn
  go_enter Tryd.func72, Tryd.ntmps72
  go_wp2_with fail
  rw [← hw0, ← hwn]
  clear hw0 hwn
  have hbn := HBN.out
  obtain ⟨A, hA⟩ : ∃ A, A = 2 ^ n - 1 := ⟨_, rfl⟩
  rw [← hA] at HAL hbn HEX
  obtain ⟨D, hD⟩ : ∃ D, D = diff A 1 := ⟨_, rfl⟩
  rw [← hD] at HEX hbn
  clear hA hD HBN hpn h8 hmf
  refine wp_region_still_tail 4 (by kernel_rfl) (by kernel_rfl) ?_
  simp only [List.take_succ_cons, List.take_zero, List.drop_succ_cons, List.drop_zero]
  repeat still_step
  still_call ((HAL.out _).mono fun _ _ ⟨h1, h2⟩ => ⟨h1, h2.symm⟩)
  repeat still_step
  refine wpStill_nil ?_
  change wpList _ _ _ _ _ wn.drew
  have HEX2 := Lib.hid (HEX.out ⟨wn.drew, below_drewN (Below.refl _ _) 1⟩)
  cases O with
  | none =>
    go_wp2_with fail
    go_at_call 98
    refine HEX2.out.mono ?_
    rintro e w11 ⟨v2, rfl, s0, s1, s2, s3, s4⟩
    have HB4 := Lib.hid s4
    clear s0 s1 s2 s3 s4
    go_wp2_with fail
    go_ret2
    exact ⟨_, rfl, IntsOwn.nil _ _, HB4.out⟩
  | some B2 =>
    go_wp2_with fail
    go_at_call 98
    refine HEX2.out.mono ?_
    rintro e w11 ⟨v2, rfl, s0, s1, s2, s3, s4⟩
    have k0 := s0.cell (i := 0) rfl
    have HB4 := Lib.hid s4
    have HO1 := Lib.hid s1
    clear s0 s1 s2 s3 s4
    go_wp2_with fail
    go_ret2
    exact ⟨_, rfl, HO1.out, HB4.out⟩

end Go.Proofs.YtfmppncefbjicaaDoor

namespace Go.Proofs.YtfmppncefbjicaaDoor
set_option linter.unusedSimpArgs false
set_option linter.unusedVariables false
open Go.RowKit Go.Maps
attribute [local go_sem] i64_bit toNat_eq_one toNat_ne_one toNat_eq_zero toNat_ne_zero i64_and i64_or i64_andNot i64_or_pow i64_andNot_pow

/-- The first outer order of a graph. -/
def outG (n : Nat) (z : Nat → Int) : Option (List Nat) := outL n (natG z) n []
set_option maxRecDepth 20000 in
set_option maxHeartbeats 1000000 in
theorem Outer_yes {n : Nat} {z : Nat → Int} {a : Option Addr} (cap : Nat) {w : World} (hI : IntsAt w a n z) (hz : InI64 z) (hT : Tab w) (hg : graphB n 8 z = true) :
    Calls Tryd.prog 39 #[.slice a n cap] w fun e w' => ∃ v, e = .returned (.tuple #[v, .int .i64 (codE (outG n z))]) ∧ IntsOwn w' w.heap.size v (castL ((outG n z).getD [])) ∧ Below w.heap.size w w' := by
  have HN := Lib.hid (newTown_yes cap hI hz hT hg)
  have HT := Lib.hid hT
  have HTN := Lib.hid (Tn.of_graph hI hg)
  have hs := g_sym hg
  clear hI hT hg
  cases ho : outG n z with
  | none =>
    go_enter Tryd.func39, Tryd.ntmps39
    go_wp2_with fail
    go_at_call 68
    refine (HN.out).mono ?_
    rintro e w1 ⟨rfl, hb1⟩
    have HB1 := Lib.hid hb1
    clear hb1
    have HOO := Lib.hid (outerOrder_any (HTN.out.below HB1.out) cap (HT.out.below HB1.out) hs)
    rw [show outL n (natG z) n [] = none from ho] at HOO
    go_wp2_with fail
    go_at_call 72
    refine (HOO.out).mono ?_
    rintro e w2 ⟨v, rfl, hv, hb2⟩
    obtain ⟨av, cv, rfl⟩ := own_form hv
    clear hv HOO
    have HB2 := Lib.hid (HB1.out.trans (hb2.mono HB1.out.size))
    clear hb2
    go_wp2_with fail
    go_ret2
    exact ⟨_, rfl, IntsOwn.nil _ _, HB2.out⟩
  | some B =>
    go_enter Tryd.func39, Tryd.ntmps39
    go_wp2_with fail
    go_at_call 68
    refine (HN.out).mono ?_
    rintro e w1 ⟨rfl, hb1⟩
    have HB1 := Lib.hid hb1
    clear hb1
    have HOO := Lib.hid (outerOrder_any (HTN.out.below HB1.out) cap (HT.out.below HB1.out) hs)
    rw [show outL n (natG z) n [] = some B from ho] at HOO
    go_wp2_with fail
    go_at_call 72
    refine (HOO.out).mono ?_
    rintro e w2 ⟨v, rfl, hv, hb2⟩
    have HV := Lib.hid hv
    clear hv HOO
    have HB2 := Lib.hid (HB1.out.trans (hb2.mono HB1.out.size))
    clear hb2
    have hs1 := HB1.out.size
    go_wp2_with fail
    go_ret2
    exact ⟨_, rfl, ownsRow_base HV.out hs1, HB2.out⟩
set_option maxRecDepth 20000 in
set_option maxHeartbeats 1000000 in
theorem Outer_no {n : Nat} {z : Nat → Int} {a : Option Addr} (cap : Nat) {w : World} (hI : IntsAt w a n z) (hz : InI64 z) (hT : Tab w) (hg : graphB n 8 z = false) :
    Calls Tryd.prog 39 #[.slice a n cap] w fun e w' => e = .returned (.tuple #[.slice none 0 0, .int .i64 2]) ∧ Below w.heap.size w w' := by
  have HN := Lib.hid (newTown_no cap hI hz hT hg)
  clear hI hT
  go_enter Tryd.func39, Tryd.ntmps39
  go_wp2_with fail
  go_at_call 68
  refine (HN.out).mono ?_
  rintro e w1 ⟨rfl, hb1⟩
  go_wp2_with fail
  go_ret2
  exact ⟨rfl, hb1⟩

/-- Whether there is an outer order without a node; the least such node. -/
def apxB (n : Nat) (z : Nat → Int) (v : Nat) : Bool := (outG (n - 1) (woZ z v)).isSome
def apxL (n : Nat) (z : Nat → Int) : Option Nat := if n = 1 then some 0 else (List.range n).find? (apxB n z)
theorem find_not {p : Nat → Bool} {n : Nat} (h : ∀ i, i < n → p i = false) : (List.range n).find? p = none := by
  rw [List.find?_eq_none]
  intro x hx
  rw [h x (List.mem_range.1 hx)]; simp
theorem find_first {p : Nat → Bool} {n v : Nat} (hv : v < n) (hp : p v = true) (h : ∀ i, i < v → p i = false) : (List.range n).find? p = some v := by
  cases hf : (List.range n).find? p with
  | none =>
    rw [List.find?_eq_none] at hf
    exact absurd hp (hf v (List.mem_range.2 hv))
  | some x =>
    have h1 := List.find?_some hf
    rcases Nat.lt_trichotomy x v with h2 | h2 | h2
    · rw [h x h2] at h1; cases h1
    · rw [h2]
    · exfalso
      have h3 := (List.find?_eq_some_iff_append.1 hf).2
      obtain ⟨la, lb, h4, h5⟩ := h3
      have hm : v ∈ la := by
        have h6 : (List.range n).Pairwise (· < ·) := List.pairwise_lt_range
        have h7 : v ∈ List.range n := List.mem_range.2 hv
        rw [h4] at h6 h7
        rcases List.mem_append.1 h7 with h8 | h8
        · exact h8
        · rcases List.mem_cons.1 h8 with h9 | h9
          · omega
          · have := (List.pairwise_cons.1 (List.pairwise_append.1 h6).2.1).1 v h9
            omega
      have := h5 v hm
      rw [hp] at this
      simp at this

set_option maxRecDepth 20000 in
set_option maxHeartbeats 2000000 in
theorem apex_any {n : Nat} {z : Nat → Int} {a : Option Addr} (cap : Nat) {w : World} (hI : IntsAt w a n z) (hz : InI64 z) (hT : Tab w) (hg : graphB n 8 z = true) :
    Calls Tryd.prog 77 #[.slice a n cap] w fun e w' => e = .returned (.tuple #[.int .i64 ((apxL n z).getD 0 : Nat), .bool (apxL n z).isSome]) ∧ Below w.heap.size w w' := by
  have hn := graphB_le hg
  have hml := hI.1
  unfold maxLen at hml
  have HI := Lib.hid hI
  have HT := Lib.hid hT
  have HG := Lib.hid hg
  clear hI hT hg
  by_cases h1 : n = 1
  · subst h1
    have HX : Hid (apxL 1 z = some 0) := Lib.hid (by unfold apxL; rw [if_pos rfl])
    generalize apxL 1 z = X at *
    go_enter Tryd.func77, Tryd.ntmps77
    go_wp2_with fail
    go_ret2
    rw [HX.out]
    exact ⟨rfl, Below.refl _ _⟩
  · have h2 : 2 ≤ n := by omega
    have hq : ((n : Int) == 1) = false := by rw [beq_eq_false_iff_ne]; omega
    have hq2 : (n == 1) = false := by rw [beq_eq_false_iff_ne]; omega
    have HX : Hid (apxL n z = (List.range n).find? (apxB n z)) := Lib.hid (by unfold apxL; rw [if_neg h1])
    obtain ⟨X, hX⟩ : ∃ X, X = apxL n z := ⟨_, rfl⟩
    rw [← hX] at HX ⊢
    clear hX h1
    go_enter Tryd.func77, Tryd.ntmps77
    go_wp2_with fail
    go_loopw [12] (fun ix wr => ∃ v : Nat, v ≤ n ∧ ix = .int .i64 v ∧ (∀ i, i < v → apxB n z i = false) ∧ Below w.heap.size w wr) (fun ix _ => n - (intOf ix).toNat)
    case atStart => exact ⟨0, Nat.zero_le _, rfl, fun i hi => by omega, Below.refl _ _⟩
    case round =>
      obtain ⟨v, hv, rfl, hno, hb⟩ := hrel
      have HNO := Lib.hid hno
      have HB := Lib.hid hb
      clear hno hb
      by_cases hlt : v < n
      · have hdi : decide ((v : Int) < (n : Int)) = true := decide_eq_true (by omega)
        have hdn : decide (v < n) = true := decide_eq_true hlt
        go_wp2_with fail
        go_at_call 79
        refine (minorWithout_any (HI.out.below HB.out) hlt (by omega) (graph_bd HG.out)).mono ?_
        rintro e w1 ⟨⟨u, rfl, hu⟩, hb1⟩
        obtain ⟨g, c, rfl, _, _⟩ := own_form' hu (by omega)
        have HB1 := Lib.hid (HB.out.trans (hb1.mono HB.out.size))
        have hdg := del_graph HG.out h2 hlt
        have HOO := Lib.hid (outerOrder_any (Tn.of_graph (WoOwn.ints' hu (by omega)) hdg) c (HT.out.below HB1.out) (g_sym hdg))
        rw [show outL (n - 1) (natG (woZ z v)) (n - 1) [] = outG (n - 1) (woZ z v) from rfl] at HOO
        clear hu hb1 hdg
        cases hap : apxB n z v
        · have hap2 := hap
          unfold apxB at hap2
          rw [hap2] at HOO
          have HNX := Lib.hid (show ∀ i, i < v + 1 → apxB n z i = false from fun i hi => by
            by_cases e : i = v
            · subst e; exact hap
            · exact HNO.out i (by omega))
          clear hap hap2
          go_wp2_with fail
          go_at_call 72
          refine (HOO.out).mono ?_
          rintro e w2 ⟨v2, rfl, hv2, hb2⟩
          clear hv2 HOO
          have HB2 := Lib.hid (HB1.out.trans (hb2.mono HB1.out.size))
          clear hb2
          go_wp2_with fail
          go_roundw
          case rel => exact ⟨v + 1, by omega, by go_num, HNX.out, HB2.out⟩
          case measure => simp [intOf]; omega
        · have hap2 := hap
          unfold apxB at hap2
          rw [hap2] at HOO
          have HXX := Lib.hid (HX.out.trans (find_first hlt hap HNO.out))
          clear hap hap2
          go_wp2_with fail
          go_at_call 72
          refine (HOO.out).mono ?_
          rintro e w2 ⟨v2, rfl, hv2, hb2⟩
          clear hv2 HOO
          have HB2 := Lib.hid (HB1.out.trans (hb2.mono HB1.out.size))
          clear hb2
          go_wp2_with fail
          go_ret2
          rw [HXX.out]
          exact ⟨rfl, HB2.out⟩
      · have hve : v = n := by omega
        have HXX := Lib.hid (HX.out.trans (find_not fun i hi => HNO.out i (by omega)))
        clear hve
        go_wp2_with fail
        go_ret2
        rw [HXX.out]
        exact ⟨rfl, HB.out⟩

/-- The code that Apex returns. -/
def codA (o : Option Nat) : Int := match o with | some _ => 0 | none => 4
set_option maxRecDepth 20000 in
set_option maxHeartbeats 1000000 in
theorem Apex_yes {n : Nat} {z : Nat → Int} {a : Option Addr} (cap : Nat) {w : World} (hI : IntsAt w a n z) (hz : InI64 z) (hT : Tab w) (hg : graphB n 8 z = true) :
    Calls Tryd.prog 44 #[.slice a n cap] w fun e w' => e = .returned (.tuple #[.int .i64 ((apxL n z).getD 0 : Nat), .int .i64 (codA (apxL n z))]) ∧ Below w.heap.size w w' := by
  have HN := Lib.hid (newTown_yes cap hI hz hT hg)
  have HT := Lib.hid hT
  have HI := Lib.hid hI
  have HG := Lib.hid hg
  clear hI hT hg
  cases ho : apxL n z with
  | none =>
    go_enter Tryd.func44, Tryd.ntmps44
    go_wp2_with fail
    go_at_call 68
    refine (HN.out).mono ?_
    rintro e w1 ⟨rfl, hb1⟩
    have HB1 := Lib.hid hb1
    clear hb1
    have HOO := Lib.hid (apex_any cap (HI.out.below HB1.out) hz (HT.out.below HB1.out) HG.out)
    rw [ho] at HOO
    go_wp2_with fail
    go_at_call 77
    refine (HOO.out).mono ?_
    rintro e w2 ⟨rfl, hb2⟩
    have HB2 := Lib.hid (HB1.out.trans (hb2.mono HB1.out.size))
    clear hb2
    go_wp2_with fail
    go_ret2
    exact ⟨rfl, HB2.out⟩
  | some v =>
    go_enter Tryd.func44, Tryd.ntmps44
    go_wp2_with fail
    go_at_call 68
    refine (HN.out).mono ?_
    rintro e w1 ⟨rfl, hb1⟩
    have HB1 := Lib.hid hb1
    clear hb1
    have HOO := Lib.hid (apex_any cap (HI.out.below HB1.out) hz (HT.out.below HB1.out) HG.out)
    rw [ho] at HOO
    go_wp2_with fail
    go_at_call 77
    refine (HOO.out).mono ?_
    rintro e w2 ⟨rfl, hb2⟩
    have HB2 := Lib.hid (HB1.out.trans (hb2.mono HB1.out.size))
    clear hb2
    go_wp2_with fail
    go_ret2
    exact ⟨rfl, HB2.out⟩
set_option maxRecDepth 20000 in
set_option maxHeartbeats 1000000 in
theorem Apex_no {n : Nat} {z : Nat → Int} {a : Option Addr} (cap : Nat) {w : World} (hI : IntsAt w a n z) (hz : InI64 z) (hT : Tab w) (hg : graphB n 8 z = false) :
    Calls Tryd.prog 44 #[.slice a n cap] w fun e w' => e = .returned (.tuple #[.int .i64 0, .int .i64 2]) ∧ Below w.heap.size w w' := by
  have HN := Lib.hid (newTown_no cap hI hz hT hg)
  clear hI hT
  go_enter Tryd.func44, Tryd.ntmps44
  go_wp2_with fail
  go_at_call 68
  refine (HN.out).mono ?_
  rintro e w1 ⟨rfl, hb1⟩
  go_wp2_with fail
  go_ret2
  exact ⟨rfl, hb1⟩

end Go.Proofs.YtfmppncefbjicaaDoor
