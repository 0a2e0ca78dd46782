/- The contract of package sweep's Play, along a plan that never goes back. -/
import Derived.Test.YthbhhfeiianmcaaDoorQbf
namespace Go.Proofs.YthbhhfeiianmcaaDoor
set_option linter.unusedSimpArgs false
set_option linter.unusedVariables false
open Go.RowKit Go.Maps
attribute [local go_sem] i64_bit toNat_eq_one toNat_ne_one toNat_eq_zero toNat_ne_zero i64_and i64_or i64_andNot i64_or_pow i64_andNot_pow

set_option maxRecDepth 20000 in
set_option maxHeartbeats 1000000 in
theorem CloneT_at (n : Nat) (z : Nat → Int) (b off cap : Nat) (w : World) (hn : n ≤ 1000000) (h4 : b < w.heap.size) (h5 : ∀ i, i < n → w.cell? ⟨b, off + i, none⟩ = some (.int .i64 (z i))) : Calls Tryd.prog 81 #[.slice (some ⟨b, off, none⟩) n cap] w (OwnPost n z w) := by
  obtain ⟨i0, hi0, hz1, hz2, hz3⟩ := info_parts info_int
  have hq := fun w a n c => Lib.run_eql_slice_nil (P := Tryd.prog) w 76 3 a n c 0 0 Tryd.underlying76
  · go_enter Tryd.func81, Tryd.ntmps81
    have hnews : ∀ j u, ((List.range n).map fun i => Value.int .i64 (z i))[j]? = some u → (w.alloc (.cells #[] 3)).cell? ((⟨b, off, none⟩ : Addr).add j) = some u := by
      intro j u hu
      by_cases hj : j < n
      · rw [map_range_get _ hj] at hu
        cases hu
        have e1 : (⟨b, off, none⟩ : Addr).add j = ⟨b, off + j, none⟩ := by
          unfold Addr.add
          split
          · rename_i h0; subst h0; rfl
          · rfl
        rw [e1, ((Below.refl w.heap.size w).alloc (Nat.le_refl _) _).cell (p := ⟨b, off + j, none⟩) h4]
        exact h5 j hj
      · simp [hj] at hu
    have HN := Lib.hid hnews
    clear hnews
    go_wp2_with (at_builtin; refine wpList_append_own _ rfl _ _ 76 rfl w.heap.size 3 i0 (.int .i64 0) 1 8 Tryd.underlying76 hi0 hz1 hz2 hz3 rfl (by decide) _ _ _ rfl (World.ownsRow_made w #[] 0 (Nat.le_refl _) (Nat.zero_le _) rfl) ⟨b, off, none⟩ n cap ((List.range n).map fun i => Value.int .i64 (z i)) rfl (by simp) HN.out ?c2 ?c3 ?c4 ?c5 ?_)
    case c2 => intro u hu; obtain ⟨i, _, rfl⟩ := List.mem_map.1 hu; rfl
    case c3 => unfold maxLen; omega
    case c4 => omega
    case c5 => simp
    intro v' w1 hown hgr _
    have HO := Lib.hid hown
    have HG := Lib.hid hgr
    clear hown hgr
    go_wp2_with fail
    go_ret
    have ho := HO.out
    have hb : Below w.heap.size w w1 := ((Below.refl w.heap.size w).alloc (Nat.le_refl _) _).grown HG.out (by simp) (fun k hk => by simp [Value.ownBlock] at hk; omega)
    try simp only [Nat.zero_add, List.nil_append] at ho
    exact ⟨_, rfl, ho, hb⟩

set_option maxRecDepth 20000 in
set_option maxHeartbeats 1000000 in
theorem newWatch_at {n : Nat} {r : Nat → Nat} {a : Option Addr} {w : World} (Gr0 : GrAt w a n r) (hn7 : n ≤ 7) (cap : Nat) :
    Calls Tryd.prog 62 #[.slice a n cap] w fun e w' => ∃ pb sb sc, e = .returned (.pointer (some ⟨pb, 0, none⟩)) ∧ WatchAt w' pb sb sc a n cap r r 0 0 0 ∧ w.heap.size ≤ pb ∧ w.heap.size ≤ sb ∧ Below w.heap.size w w' := by
  obtain ⟨hml, hI⟩ := Gr0.ints
  obtain ⟨b, off, rfl, hlt, hc⟩ := hI Gr0.pos
  have HC := Lib.hid hc
  have HG := Lib.hid Gr0
  have hpos := Gr0.pos
  clear hc hI Gr0
  go_enter Tryd.func62, Tryd.ntmps62
  go_wp2_with (go_at_call 81; refine (CloneT_at n (fun i => ((r i : Nat) : Int)) b off cap _ (by omega) hlt HC.out).mono ?_; rintro e w1 ⟨v, rfl, ho, hb⟩; obtain ⟨sb, sc, rfl, hsb, -, -, hm⟩ := own_smo ho hpos; have HB1 := Lib.hid hb; have HM1 := Lib.hid hm; clear ho hb hm)
  go_ret
  obtain ⟨w2, hw2, rw2, hb2, hs2⟩ := new1 w1 93 [.slice (some ⟨b, off, none⟩) n cap, .slice (some ⟨sb, 0, none⟩) n sc, .int .i64 0, .int .i64 0, .int .i64 0, .bool false]
  refine ⟨w1.heap.size, sb, sc, rfl, ?_, HB1.out.size, hsb, HB1.out.alloc HB1.out.size _⟩
  rw [← hw2]
  have hbb := HB1.out.trans (hb2.mono HB1.out.size)
  exact ⟨rw2, HM1.out.below hb2 HM1.out.lt, Nat.ne_of_gt HM1.out.lt, HG.out.below hbb⟩

theorem results_tmp4 {fn : Func} {t u v x : Tmp} (h : fn.results = #[.tmp t, .tmp u, .tmp v, .tmp x]) (tmps : Array Value) (P : Program) (w : World) :
    (results fn tmps).run P w = .ok (.tuple #[tmps.getD t undef, tmps.getD u undef, tmps.getD v undef, tmps.getD x undef]) w := by
  simp [results, h]

set_option maxRecDepth 20000 in
set_option maxHeartbeats 2000000 in
theorem Play_yes {n base : Nat} {z : Nat → Int} {a : Option Addr} {L : Acts} {v : Value} (cap : Nat) {w : World} (hI : IntsAt w a n z) (hz : InI64 z) (hT : Tab w) (hg : graphB n 7 z = true) (hL : ActsOwn 88 w base v L) (hlen : L.length ≤ 100) (hok : okRun n (natG z) L sit0) (hhad : (run n (natG z) L sit0).had = 2 ^ n - 1) (hall : allClear n (natG z) (run n (natG z) L sit0).C) :
    Calls Tryd.prog 35 #[.slice a n cap, v] w fun e w' => e = .returned (.tuple #[.int .i64 ((run n (natG z) L sit0).most : Nat), .bool false, .bool true, .int .i64 0]) ∧ Below w.heap.size w w' := by
  have HI := Lib.hid hI
  have HZ := Lib.hid hz
  have HT := Lib.hid hT
  have HP := Lib.hid (pl_of hg)
  have HL := Lib.hid hL
  have HOK := Lib.hid hok
  have HHAD := Lib.hid hhad
  have HALL := Lib.hid hall
  clear hI hz hT hL hok hhad hall
  go_enter Tryd.func35, Tryd.ntmps35
  go_wp2_with (first
    | (go_at_call 47; refine (newTown_yes cap HI.out HZ.out HT.out hg).mono ?_; rintro e w1 ⟨rfl, hb1, hG, hT1⟩; have HB1 := Lib.hid hb1; have HG := Lib.hid hG; have HT1 := Lib.hid hT1; clear hb1 hG hT1)
    | (go_at_call 62; refine (newWatch_at HG.out HP.out.le cap).mono ?_; rintro e w2 ⟨pb, sb, sc, rfl, hw, hpb, hsb, hb2⟩; have HW2 := Lib.hid hw; have HX2 := Lib.hid hb2; clear hw hb2)
    | (go_at_call 63; refine (clears_yes HP.out.le HP.out.bd HW2.out HT1.out HX2.out hpb hsb HG.out (ownsRow_below (show w.ownsRow base _ 2 v L.length (actCells L) from HL.out) HB1.out (Nat.le_refl _)) hlen HOK.out HHAD.out HALL.out).mono ?_; rintro e w3 ⟨rfl, hw3, hb3⟩; have HW3 := Lib.hid hw3; have HB3 := Lib.hid (HB1.out.trans (hb3.mono HB1.out.size)); clear hw3 hb3; have c4 := HW3.out.row.cell (i := 4) rfl; have c5 := HW3.out.row.cell (i := 5) rfl))
  go_quiet (fail)
  go_wp2_with fail
  (try simp only [Exit.inBlock, Exit.then]); refine bodyPost_ret (results_tmp4 rfl _ _ _) rfl ?_
  exact ⟨rfl, below_drewN HB3.out _⟩
end Go.Proofs.YthbhhfeiianmcaaDoor
