/- The contracts of package sweep's newWatch and do. -/
import Derived.Test.YthbhhfeiianmcaaDoorQt7
import Derived.Test.YthbhhfeiianmcaaDoorQs
namespace Go.Proofs.YthbhhfeiianmcaaDoor
set_option linter.unusedSimpArgs false
set_option linter.unusedVariables false
open Go.RowKit Go.Maps
attribute [local go_sem] i64_bit toNat_eq_one toNat_ne_one toNat_eq_zero toNat_ne_zero i64_and i64_or i64_andNot i64_or_pow i64_andNot_pow

set_option maxRecDepth 20000 in
set_option maxHeartbeats 1000000 in
theorem CloneT_own (n : Nat) (z : Nat → Int) (v : Value) (w : World) (hn : n ≤ 1000000) (h : SliceArg w v n z) : Calls Tryd.prog 81 #[v] w (OwnPost n z w) := by
  obtain ⟨i0, hi0, hz1, hz2, hz3⟩ := info_parts info_int
  have hq := fun w a n c => Lib.run_eql_slice_nil (P := Tryd.prog) w 76 3 a n c 0 0 Tryd.underlying76
  rcases h with ⟨rfl, rfl⟩ | ⟨x, cap, rfl, h1, h2, h3⟩
  · go_enter Tryd.func81, Tryd.ntmps81
    go_wp2
    go_ret
    exact ⟨_, rfl, ⟨rfl, Or.inl ⟨rfl, rfl⟩⟩, Below.refl _ _⟩
  · go_enter Tryd.func81, Tryd.ntmps81
    unfold maxLen at h2
    have hnews : ∀ j u, ((List.range n).map fun i => Value.int .i64 (z i))[j]? = some u → (w.alloc (.cells #[] 3)).cell? (x.add j) = some u := by
      intro j u hu
      by_cases hj : j < n
      · rw [map_range_get _ hj] at hu
        cases hu
        obtain ⟨b, off, rfl, h4, h5⟩ := h3 (by omega)
        have e1 : (⟨b, off, none⟩ : Addr).add j = ⟨b, off + j, none⟩ := by
          unfold Addr.add
          split
          · rename_i h0; subst h0; rfl
          · rfl
        rw [e1, ((Below.refl w.heap.size w).alloc (Nat.le_refl _) _).cell (p := ⟨b, off + j, none⟩) h4]
        exact h5 j hj
      · simp [hj] at hu
    have HN := Lib.hid hnews
    clear hnews
    go_wp2_with (at_builtin; refine wpList_append_own _ rfl _ _ 76 rfl w.heap.size 3 i0 (.int .i64 0) 1 8 Tryd.underlying76 hi0 hz1 hz2 hz3 rfl (by decide) _ _ _ rfl (World.ownsRow_made w #[] 0 (Nat.le_refl _) (Nat.zero_le _) rfl) x n cap ((List.range n).map fun i => Value.int .i64 (z i)) rfl (by simp) HN.out ?c2 ?c3 ?c4 ?c5 ?_)
    case c2 => intro u hu; obtain ⟨i, _, rfl⟩ := List.mem_map.1 hu; rfl
    case c3 => unfold maxLen; omega
    case c4 => omega
    case c5 => simp
    intro v' w1 hown hgr _
    have HO := Lib.hid hown
    have HG := Lib.hid hgr
    clear hown hgr
    go_wp2_with fail
    go_ret
    have ho := HO.out
    have hb : Below w.heap.size w w1 := ((Below.refl w.heap.size w).alloc (Nat.le_refl _) _).grown HG.out (by simp) (fun k hk => by simp [Value.ownBlock] at hk; omega)
    try simp only [Nat.zero_add, List.nil_append] at ho
    exact ⟨_, rfl, ho, hb⟩

/-- What is smoky, in a block of its own. -/
def SmoAt (w : World) (sb n : Nat) (S : Nat → Nat) : Prop := ∃ CL, Row w sb 3 CL ∧ ∀ i, i < n → CL[i]? = some (.int .i64 (S i : Nat))
theorem SmoAt.lt {w : World} {sb n : Nat} {S : Nat → Nat} (h : SmoAt w sb n S) : sb < w.heap.size := by obtain ⟨CL, h, -⟩ := h; exact h.lt
theorem SmoAt.cell {w : World} {sb n : Nat} {S : Nat → Nat} (h : SmoAt w sb n S) {i : Nat} (hi : i < n) : w.cell? ⟨sb, i, none⟩ = some (.int .i64 (S i : Nat)) := by obtain ⟨CL, h, hc⟩ := h; exact h.cell (hc i hi)
theorem SmoAt.free {w : World} {sb n : Nat} {S : Nat → Nat} (h : SmoAt w sb n S) (i : Nat) : w.frozen? ⟨sb, i, none⟩ = false := by obtain ⟨CL, h, -⟩ := h; exact h.free i
theorem SmoAt.below {w w' : World} {sb n B : Nat} {S : Nat → Nat} (h : SmoAt w sb n S) (hb : Below B w w') (hB : sb < B) : SmoAt w' sb n S := by obtain ⟨CL, h, hc⟩ := h; exact ⟨CL, h.below hb hB, hc⟩
theorem SmoAt.drewN {w : World} {sb n : Nat} {S : Nat → Nat} (h : SmoAt w sb n S) (k : Nat) : SmoAt (w.drewN k) sb n S := h
theorem SmoAt.other {w : World} {sb n : Nat} {S : Nat → Nat} (h : SmoAt w sb n S) {a : Addr} (ha : sb ≠ a.block) (v : Value) : SmoAt (w.setCell a v) sb n S := by obtain ⟨CL, h, hc⟩ := h; exact ⟨CL, h.other ha v, hc⟩
theorem SmoAt.mono {w : World} {sb n : Nat} {S S' : Nat → Nat} (h : SmoAt w sb n S) (he : ∀ i, i < n → S' i = S i) : SmoAt w sb n S' := by obtain ⟨CL, h, hc⟩ := h; exact ⟨CL, h, fun i hi => by rw [he i hi]; exact hc i hi⟩
theorem SmoAt.set {w : World} {sb n : Nat} {S : Nat → Nat} (h : SmoAt w sb n S) {k : Nat} (hk : k < n) (v : Nat) : SmoAt (w.setCell ⟨sb, k, none⟩ (.int .i64 (v : Nat))) sb n (fun t => if t = k then v else S t) := by
  obtain ⟨CL, h, hc⟩ := h
  have hl : k < CL.length := (List.getElem?_eq_some_iff.1 (hc k hk)).1
  refine ⟨_, h.set k _, fun i hi => ?_⟩
  dsimp only
  by_cases e : i = k
  · subst e
    rw [if_pos rfl, List.getElem?_set_self hl]
  · rw [if_neg e, List.getElem?_set_ne (Ne.symm e)]
    exact hc i hi
theorem ownFrom_smo {β : Type} (B sb n : Nat) (S : β → Nat → Nat) : OwnFrom B (fun s W => SmoAt W sb n (S s)) :=
  ownFrom_ex fun CL => ((own_row sb 3 (fun _ => CL)).from _).and (ownFrom_pure _ _)
theorem own_smo {w : World} {base : Nat} {v : Value} {n : Nat} {z : Nat → Nat} (h : w.ownsRow base 3 1 v n (intL (fun i => ((z i : Nat) : Int)) n)) (hn : 0 < n) : ∃ g cap, v = .slice (some ⟨g, 0, none⟩) n cap ∧ base ≤ g ∧ n ≤ cap ∧ cap ≤ maxLen ∧ SmoAt w g n z := by
  obtain ⟨-, h0 | ⟨g, cap, cur, rfl, hg, hh, hc1, hc2, hcs, htk⟩⟩ := id h
  · omega
  · have rl : Row w g 3 cur.toList := by unfold Row; simpa using hh
    refine ⟨g, cap, rfl, hg, by omega, hc2, _, rl, fun i hi => ?_⟩
    have h1 : (cur.toList.take (n * 1))[i]? = cur.toList[i]? := by rw [List.getElem?_take, if_pos (by omega)]
    rw [← h1, htk]
    exact map_range_get _ hi

/-- A watch: its town, what is smoky, and its numbers. -/
structure WatchAt (w : World) (pb sb sc : Nat) (a : Option Addr) (n cap : Nat) (r : Nat → Nat) (S : Nat → Nat) (H had most : Nat) : Prop where
  row : Row w pb 93 [.slice a n cap, .slice (some ⟨sb, 0, none⟩) n sc, .int .i64 (H : Nat), .int .i64 (had : Nat), .int .i64 (most : Nat), .bool false]
  smo : SmoAt w sb n S
  ne : pb ≠ sb
  gr : GrAt w a n r

set_option maxRecDepth 20000 in
set_option maxHeartbeats 1000000 in
theorem newWatch_any {n : Nat} {r : Nat → Nat} {a : Option Addr} {w : World} (Gr0 : GrAt w a n r) (hn7 : n ≤ 7) (cap : Nat) (hA : SliceArg w (.slice a n cap) n (fun i => ((r i : Nat) : Int))) :
    Calls Tryd.prog 62 #[.slice a n cap] w fun e w' => ∃ pb sb sc, e = .returned (.pointer (some ⟨pb, 0, none⟩)) ∧ WatchAt w' pb sb sc a n cap r r 0 0 0 ∧ w.heap.size ≤ pb ∧ w.heap.size ≤ sb ∧ Below w.heap.size w w' := by
  have HA := Lib.hid hA
  have HG := Lib.hid Gr0
  have hpos := Gr0.pos
  clear hA Gr0
  go_enter Tryd.func62, Tryd.ntmps62
  go_wp2_with (go_at_call 81; refine (CloneT_own n _ _ _ (by omega) HA.out).mono ?_; rintro e w1 ⟨v, rfl, ho, hb⟩; obtain ⟨sb, sc, rfl, hsb, -, -, hm⟩ := own_smo ho hpos; have HB1 := Lib.hid hb; have HM1 := Lib.hid hm; clear ho hb hm)
  go_ret
  obtain ⟨w2, hw2, rw2, hb2, hs2⟩ := new1 w1 93 [.slice a n cap, .slice (some ⟨sb, 0, none⟩) n sc, .int .i64 0, .int .i64 0, .int .i64 0, .bool false]
  refine ⟨w1.heap.size, sb, sc, rfl, ?_, HB1.out.size, hsb, HB1.out.alloc HB1.out.size _⟩
  rw [← hw2]
  have hbb := HB1.out.trans (hb2.mono HB1.out.size)
  exact ⟨rw2, HM1.out.below hb2 HM1.out.lt, Nat.ne_of_gt HM1.out.lt, HG.out.below hbb⟩

end Go.Proofs.YthbhhfeiianmcaaDoor
