/- The contracts of the program's escapes and Safe, and of the law's own. -/
import Derived.Test.YtmkcnpphdghbaaaC2l
namespace Go.Proofs.Ytmkcnpphdghbaaa
set_option linter.unusedSimpArgs false
set_option linter.unusedVariables false
open Go.RowKit Go.Maps
attribute [local go_sem] i64_bit toNat_eq_one toNat_ne_one toNat_eq_zero toNat_ne_zero i64_and i64_or i64_andNot i64_or_pow i64_andNot_pow

def escRow (F : Pl → Option Nat) (ab : Nat × Nat) : Nat → List Pl
  | 0 => []
  | c + 1 => if (F (ab.1, ab.2, c)).isNone then escRow F ab c ++ [(ab.1, ab.2, c)] else escRow F ab c
def escL (n : Nat) (F : Pl → Option Nat) (C : List (Nat × Nat)) : List Pl := C.flatMap fun ab => escRow F ab n
theorem escRow_len (F : Pl → Option Nat) (ab : Nat × Nat) (c : Nat) : (escRow F ab c).length ≤ c := by
  induction c with
  | zero => simp [escRow]
  | succ c ih => unfold escRow; split <;> first | (simp; omega) | omega
theorem escL_len (n : Nat) (F : Pl → Option Nat) (C : List (Nat × Nat)) : (escL n F C).length ≤ C.length * n := by
  unfold escL
  induction C with
  | nil => simp
  | cons ab C ih =>
    have := escRow_len F ab n
    simp only [List.flatMap_cons, List.length_append, List.length_cons]
    rw [Nat.succ_mul]; omega
theorem escL_snoc (n : Nat) (F : Pl → Option Nat) (C : List (Nat × Nat)) (ab : Nat × Nat) : escL n F (C ++ [ab]) = escL n F C ++ escRow F ab n := by unfold escL; rw [List.flatMap_append]; simp
theorem PlacesOwn.snoc {w : World} {base : Nat} {v : Value} {L : List Pl} {a b c : Nat} (h : w.ownsRow base 30 3 v (L.length + 1) (plCells L ++ [.int .i64 a, .int .i64 b, .int .i64 c])) : PlacesOwn w base v (L ++ [(a, b, c)]) := by
  unfold PlacesOwn
  rw [plCells_snoc, List.length_append, List.length_singleton]
  exact h

set_option maxRecDepth 20000 in
set_option maxHeartbeats 2000000 in
theorem escapes_any {w : World} {gp n b cb cc mb : Nat} {r : Nat → Nat} {C : List (Nat × Nat)} {F : Pl → Option Nat} (G : GameAt w gp n b cb cc mb r C F) (hC : C.length ≤ 256) :
    Calls Try.prog 51 #[.pointer (some ⟨gp, 0, none⟩)] w fun e w' => (∃ v, e = .returned v ∧ PlacesOwn w' w.heap.size v (escL n F C)) ∧ Below w.heap.size w w' := by
  obtain ⟨i0, hi0, hz1, hz2, hz3⟩ := info_parts info_place
  have hn := G.town.small
  obtain ⟨c0, c1, c2, c3, _, hgp, hb, _⟩ := G.facts
  have HG := Lib.hid G
  go_enter Try.func51, Try.ntmps51
  go_wp2_with fail
  go_loopw [3, 13] (fun v i wr => ∃ k : Nat, k ≤ C.length ∧ i = .int .i64 k ∧ PlacesOwn wr w.heap.size v (escL n F (C.take k)) ∧ Below w.heap.size w wr) (fun _ i _ => C.length - (intOf i).toNat)
  case atStart => exact ⟨0, Nat.zero_le _, rfl, ⟨rfl, Or.inl ⟨rfl, rfl⟩⟩, Below.refl _ _⟩
  case round =>
    clear c0 c1 c2 c3 hgp hb
    obtain ⟨k, hk, rfl, hown, hbel⟩ := hrel
    have HO := Lib.hid hown
    have HBE := Lib.hid hbel
    have hwl := hbel.size
    by_cases hlt : k < C.length
    · obtain ⟨⟨x, y⟩, hab⟩ : ∃ ab, C[k]? = some ab := ⟨C[k], by simp [hlt]⟩
      have g1 := G.below hbel
      obtain ⟨hx, hy⟩ := g1.inC _ (List.mem_of_getElem? hab)
      obtain ⟨e0, e1⟩ := g1.ch k _ hab
      obtain ⟨c0, c1, c2, c3, _, hgp, hb, _⟩ := g1.facts
      dsimp only at hx hy e0 e1
      have HSN : Hid (escL n F (C.take (k + 1)) = escL n F (C.take k) ++ escRow F (x, y) n) := Lib.hid (by rw [take_snoc' C k _ hab, escL_snoc])
      have hll : (escL n F (C.take k)).length ≤ 8192 := by
        have h1 := escL_len n F (C.take k)
        have h2 : (C.take k).length ≤ 256 := by rw [List.length_take]; omega
        have h3 := Nat.mul_le_mul h2 (Nat.le_of_lt hn)
        omega
      generalize escL n F (C.take k) = L at *
      clear hown hbel g1 hab
      obtain ⟨wo, rfl⟩ : ∃ wo : World, wo = wr := ⟨_, rfl⟩
      go_wp2_with fail
      go_loopw [3, 22] (fun v i wx => ∃ c : Nat, c ≤ n ∧ i = .int .i64 c ∧ PlacesOwn wx w.heap.size v (L ++ escRow F (x, y) c) ∧ Below w.heap.size w wx ∧ Row wx wo.heap.size 32 [.int .i64 x, .int .i64 y]) (fun _ i _ => n - (intOf i).toNat)
      case atStart => exact ⟨0, Nat.zero_le _, rfl, by rw [show escRow F (x, y) 0 = [] from rfl, List.append_nil]; exact World.ownsRow.alloc HO.out _, HBE.out.alloc hwl _, Row.new _ _ _⟩
      case round =>
        clear HO HBE c0 c1 c2 c3 e0 e1 hgp hb
        obtain ⟨c, hc, rfl, hown, hbel, rb⟩ := hrel
        have HO := Lib.hid hown
        have HBE := Lib.hid hbel
        have hwl2 := hbel.size
        have g1 := G.below hbel
        have HG1 := Lib.hid g1
        have d0 := rb.cell (i := 0) rfl
        have d1 := rb.cell (i := 1) rfl
        have hlb := rb.lt
        have HRB := Lib.hid rb
        have HST : Hid (escRow F (x, y) (c + 1) = if (F (x, y, c)).isNone then escRow F (x, y) c ++ [(x, y, c)] else escRow F (x, y) c) := Lib.hid rfl
        have hrl := escRow_len F (x, y) c
        generalize hM : escRow F (x, y) c = M at *
        have HM := Lib.hid hM
        have hLM : (L ++ M).length ≤ 16384 := by rw [List.length_append]; omega
        clear hown hbel g1 rb hM
        by_cases hlc : c < n
        · have hre := rankV_eq F (x, y, c)
          cases hF : (F (x, y, c)).isNone
          all_goals
            rw [hF] at hre
            have HF := Lib.hid hF
            clear hF
            go_wp2_with fail
            go_at_call 66
            refine (at_any x y c _).mono ?_
            rintro e w1 ⟨rfl, hb1⟩
            have ho1 := ownsRow_below HO.out hb1 (Nat.le_refl _)
            have HO1 := Lib.hid ho1
            have HB1 := Lib.hid (HBE.out.trans (hb1.mono hwl2))
            have r1 := HRB.out.below hb1 HRB.out.lt
            have HR1 := Lib.hid r1
            have hs1 := hb1.size
            have HG2 := Lib.hid (HG1.out.below hb1)
            obtain ⟨w2, hw2, R2, hb2, hsz2⟩ := new1 w1 30 [.int .i64 x, .int .i64 y, .int .i64 c]
            have HW2 := Lib.hid hw2
            have HR2 := Lib.hid R2
            have HG3 := Lib.hid (HG2.out.below hb2)
            have b0 := R2.cell (i := 0) rfl
            have b1 := R2.cell (i := 1) rfl
            have b2 := R2.cell (i := 2) rfl
            have HO2 := Lib.hid (ownsRow_below HO1.out hb2 (Nat.le_refl _))
            have HB2 := Lib.hid (HB1.out.trans (hb2.mono HB1.out.size))
            have HRB2 := Lib.hid (HR1.out.below hb2 HR1.out.lt)
            clear hb1 hb2 ho1 r1 R2 hw2 d0 d1
            go_wp2_with fail
            rw [← HW2.out]
            clear HW2
            go_wp2_with fail
            go_at_call 39
            refine (rank_any HG3.out (x, y, c) (by dsimp only; omega)).mono ?_
            rintro e w3 ⟨rfl, hb3⟩
            have HO3 := Lib.hid (ownsRow_below HO2.out hb3 (Nat.le_refl _))
            have r3 := HR2.out.below hb3 HR2.out.lt
            have HRB3 := Lib.hid (HRB2.out.below hb3 HRB2.out.lt)
            clear b0 b1 b2
            have b0 := r3.cell (i := 0) rfl
            have b1 := r3.cell (i := 1) rfl
            have b2 := r3.cell (i := 2) rfl
            have hl3 := r3.lt
            have HB3 := Lib.hid (HB2.out.trans (hb3.mono HB2.out.size))
            clear hb3
            have hs3 := HB3.out.size
            clear r3
          · go_wp2_with fail
            go_roundw
            case rel => exact ⟨c + 1, by omega, by go_num, by rw [HST.out, HF.out]; exact HO3.out, HB3.out, HRB3.out⟩
            case measure => simp [intOf]; omega
          · go_wp2_with (at_builtin; refine wpList_append_own _ rfl _ _ 47 rfl w.heap.size 30 i0 (.agg #[.int .i64 0, .int .i64 0, .int .i64 0]) 3 24 Try.underlying47 hi0 hz1 hz2 hz3 rfl (by decide) _ _ _ rfl (HO3.out.alloc _) ⟨w3.heap.size, 0, none⟩ 1 1 [.int .i64 x, .int .i64 y, .int .i64 c] rfl rfl ?c1 ?c2 ?c3 ?c4 ?c5 ?_)
            case c1 => exact cells_new _ _ _
            case c2 => intro u hu; simp at hu; rcases hu with rfl | rfl | rfl <;> rfl
            case c3 => unfold maxLen; omega
            case c4 => omega
            case c5 => simp; omega
            intro v' w4 hown1 hg1 _
            have HO4 := Lib.hid hown1
            have HG4 := Lib.hid hg1
            clear hown1 hg1
            go_wp2_with fail
            go_roundw
            case rel =>
              refine ⟨c + 1, by omega, by go_num, ?_, (HB3.out.alloc hs3 _).grown HG4.out (by simp; omega) (fun k hk => (World.ownsRow.lt HO3.out k hk).1), ?_⟩
              · rw [HST.out, HF.out, if_pos rfl, ← List.append_assoc]
                refine PlacesOwn.snoc ?_
                rw [List.length_append]
                exact HO4.out
              · exact (HRB3.out.alloc _).grown HG4.out (not_own_type HO3.out HRB3.out (by decide))
            case measure => simp [intOf]; omega
        · have hce : c = n := by omega
          subst hce
          go_wp2_with fail
          go_roundw
          case rel => exact ⟨k + 1, by omega, by go_num, by rw [HSN.out, HM.out]; exact HO.out, HBE.out⟩
          case measure => simp [intOf]; omega
    · have hke : k = C.length := by omega
      subst hke
      go_wp2_with fail
      go_ret
      exact ⟨⟨_, rfl, by have := HO.out; rw [List.take_length] at this; exact this⟩, HBE.out⟩

/-- What Safe returns. -/
def SafePost (n : Nat) (z : Nat → Int) (kI : Int) (w : World) (e : Ending) (w' : World) : Prop :=
  Below w.heap.size w w' ∧ (okGame n z kI → (bestG n z kI.toNat).2 ≠ -1 → e = .returned (.tuple #[.slice none 0 0, .int .i64 4])) ∧
    (okGame n z kI → (bestG n z kI.toNat).2 = -1 → ∃ v, e = .returned (.tuple #[v, .int .i64 0]) ∧ PlacesOwn w' w.heap.size v (escL n (ranksF n (reachOf z) (chs n kI.toNat)) (chs n kI.toNat))) ∧
    (¬ okGame n z kI → e = .returned (.tuple #[.slice none 0 0, .int .i64 2]))

set_option maxRecDepth 20000 in
set_option maxHeartbeats 1000000 in
theorem Safe_any (n : Nat) (z : Nat → Int) (kI : Int) (a : Option Addr) (cap : Nat) (w : World) (hT : IntsAt w a n z) :
    Calls Try.prog 25 #[.slice a n cap, .int .i64 kI] w (SafePost n z kI w) := by
  have HT := Lib.hid hT
  clear hT
  by_cases h : okGame n z kI
  · have hn := (townB_le h.1)
    by_cases hb : (bestG n z kI.toNat).2 = -1
    · have p1 : ((bestOf n (ranksF n (reachOf z) (chs n kI.toNat)) (chs n kI.toNat)).2 != -1) = false := by unfold bestG at hb; simp [hb]
      have H := Lib.hid h
      have HBB := Lib.hid hb
      clear h hb
      go_enter Try.func25, Try.ntmps25
      go_wp2_with fail
      go_at_call 37
      refine (rankedGame_any n z kI a cap _ HT.out).mono ?_
      rintro e w1 ⟨hb1, hyes, _⟩
      obtain ⟨gp, b, cb, cc, mb, hmb, rfl, m1, m2, m3, G⟩ := hyes H.out
      have HB1 := Lib.hid hb1
      have HG := Lib.hid G
      clear hb1 hyes G
      go_wp2_with fail
      go_at_call 48
      refine (best_any HG.out).mono ?_
      rintro e w2 ⟨rfl, hb2⟩
      have HG2 := Lib.hid ((HG.out.below hb2).below ((Below.refl _ _).alloc (Nat.le_refl _) (.cells #[.int .i64 (bestOf n (ranksF n (reachOf z) (chs n kI.toNat)) (chs n kI.toNat)).1.1, .int .i64 (bestOf n (ranksF n (reachOf z) (chs n kI.toNat)) (chs n kI.toNat)).1.2] 32)))
      have HB2 := Lib.hid (HB1.out.trans (hb2.mono HB1.out.size))
      clear hb2
      go_wp2_with fail
      go_at_call 51
      refine (escapes_any HG2.out (chs_le _ _ (by omega))).mono ?_
      rintro e w3 ⟨⟨v, rfl, ho⟩, hb3⟩
      have HO := Lib.hid ho
      have HB3 := Lib.hid ((HB2.out.alloc HB2.out.size _).trans (hb3.mono (by simp; have := HB2.out.size; omega)))
      clear hb3 ho
      go_wp2_with fail
      obtain ⟨va, vc, rfl⟩ := own_form HO.out
      go_ret2
      exact ⟨HB3.out, fun _ h => absurd HBB.out h, fun _ _ => ⟨_, rfl, ownsRow_base HO.out (by simp; have := HB2.out.size; omega)⟩, fun h => absurd H.out h⟩
    · have p1 : ((bestOf n (ranksF n (reachOf z) (chs n kI.toNat)) (chs n kI.toNat)).2 != -1) = true := by unfold bestG at hb; simp [hb]
      have H := Lib.hid h
      have HBB := Lib.hid hb
      clear h hb
      go_enter Try.func25, Try.ntmps25
      go_wp2_with fail
      go_at_call 37
      refine (rankedGame_any n z kI a cap _ HT.out).mono ?_
      rintro e w1 ⟨hb1, hyes, _⟩
      obtain ⟨gp, b, cb, cc, mb, hmb, rfl, m1, m2, m3, G⟩ := hyes H.out
      have HB1 := Lib.hid hb1
      have HG := Lib.hid G
      clear hb1 hyes G
      go_wp2_with fail
      go_at_call 48
      refine (best_any HG.out).mono ?_
      rintro e w2 ⟨rfl, hb2⟩
      have HB2 := Lib.hid (HB1.out.trans (hb2.mono HB1.out.size))
      clear hb2
      go_wp2_with fail
      go_ret2
      exact ⟨HB2.out.alloc HB2.out.size _, fun _ _ => rfl, fun _ h => absurd h HBB.out, fun h => absurd H.out h⟩
  · have H := Lib.hid h
    clear h
    go_enter Try.func25, Try.ntmps25
    go_wp2_with fail
    go_at_call 37
    refine (rankedGame_any n z kI a cap _ HT.out).mono ?_
    rintro e w1 ⟨hb1, _, hno⟩
    obtain rfl := hno H.out
    have HB1 := Lib.hid hb1
    clear hb1 hno
    go_wp2_with fail
    go_ret2
    exact ⟨HB1.out, fun h => absurd h H.out, fun h => absurd h H.out, fun _ => rfl⟩

theorem PlacesOwn.read {w : World} {base : Nat} {L : List Pl} {a : Option Addr} {cap : Nat} (h : PlacesOwn w base (.slice a L.length cap) L) {i : Nat} {p : Pl} (hi : L[i]? = some p) :
    ∃ b, a = some ⟨b, 0, none⟩ ∧ base ≤ b ∧ b < w.heap.size ∧ w.cell? ⟨b, i * 3, none⟩ = some (.int .i64 p.1) ∧ w.cell? ⟨b, i * 3 + 1, none⟩ = some (.int .i64 p.2.1) ∧ w.cell? ⟨b, i * 3 + 2, none⟩ = some (.int .i64 p.2.2) := by
  have hlt := (List.getElem?_eq_some_iff.1 hi).1
  obtain ⟨b, c, hv, hb, hl⟩ := own_form' h (by omega)
  simp only [Value.slice.injEq] at hv
  obtain ⟨rfl, -, rfl⟩ := hv
  obtain ⟨p1, p2, p3⟩ := plCells_get L i p hi
  have hlen := plCells_length L
  refine ⟨b, rfl, hb, hl, ?_, ?_, ?_⟩
  · rw [World.ownsRow.cellAt h (i * 3) (by omega)]; exact p1
  · rw [World.ownsRow.cellAt h (i * 3 + 1) (by omega)]; exact p2
  · rw [World.ownsRow.cellAt h (i * 3 + 2) (by omega)]; exact p3

set_option maxRecDepth 20000 in
set_option maxHeartbeats 2000000 in
theorem own_any {w : World} {base cap : Nat} {a : Option Addr} {L : List Pl} (h : PlacesOwn w base (.slice a L.length cap) L) (hL : L.length ≤ 65536) :
    Calls Try.prog 27 #[.slice a L.length cap] w fun e w' => (∃ v, e = .returned v ∧ PlsOwn w' w.heap.size v L) ∧ Below w.heap.size w w' := by
  obtain ⟨i0, hi0, hz1, hz2, hz3⟩ := info_parts info_pl
  have H := Lib.hid h
  clear h
  go_enter Try.func27, Try.ntmps27
  go_wp2_with fail
  go_loopw [3, 8] (fun v i wr => ∃ k : Nat, k ≤ L.length ∧ i = .int .i64 k ∧ PlsOwn wr w.heap.size v (L.take k) ∧ Below w.heap.size w wr) (fun _ i _ => L.length - (intOf i).toNat)
  case atStart => exact ⟨0, Nat.zero_le _, rfl, ⟨rfl, Or.inl ⟨rfl, rfl⟩⟩, Below.refl _ _⟩
  case round =>
    obtain ⟨k, hk, rfl, hown, hbel⟩ := hrel
    have HO := Lib.hid hown
    have HBE := Lib.hid hbel
    have hwl := hbel.size
    by_cases hlt : k < L.length
    · obtain ⟨⟨x, y, z⟩, hp⟩ : ∃ p, L[k]? = some p := ⟨L[k], by simp [hlt]⟩
      obtain ⟨gm, rfl, hgm1, hgm2, e0, e1, e2⟩ := PlacesOwn.read H.out hp
      rw [← hbel.cell (p := ⟨gm, k * 3, none⟩) hgm2] at e0
      rw [← hbel.cell (p := ⟨gm, k * 3 + 1, none⟩) hgm2] at e1
      rw [← hbel.cell (p := ⟨gm, k * 3 + 2, none⟩) hgm2] at e2
      dsimp only at e0 e1 e2
      have HSN := Lib.hid (take_snoc' L k _ hp)
      have htl : (L.take k).length = k := by rw [List.length_take]; omega
      have HTL := Lib.hid htl
      have hll : (L.take k).length ≤ 65536 := by omega
      generalize L.take k = M at *
      clear hown hbel hp htl
      go_wp2_with (at_builtin; refine wpList_append_own _ rfl _ _ 51 rfl w.heap.size 25 i0 (.agg #[.int .i64 0, .int .i64 0, .int .i64 0]) 3 24 Try.underlying51 hi0 hz1 hz2 hz3 rfl (by decide) _ _ _ rfl ((HO.out.alloc _).alloc _) ⟨wr.heap.size + 1, 0, none⟩ 1 1 [.int .i64 x, .int .i64 y, .int .i64 z] rfl rfl ?c1 ?c2 ?c3 ?c4 ?c5 ?_)
      case c1 => intro j u hu; have := cells_new (wr.alloc (.cells #[.int .i64 x, .int .i64 y, .int .i64 z] 30)) 25 [.int .i64 x, .int .i64 y, .int .i64 z] j u hu; simpa using this
      case c2 => intro u hu; simp at hu; rcases hu with rfl | rfl | rfl <;> rfl
      case c3 => unfold maxLen; omega
      case c4 => omega
      case c5 => simp; omega
      intro v' w1 hown1 hg1 _
      have HO1 := Lib.hid hown1
      have HG1 := Lib.hid hg1
      clear hown1 hg1
      go_wp2_with fail
      go_roundw
      case rel =>
        refine ⟨k + 1, by omega, by go_num, ?_, ((HBE.out.alloc hwl _).alloc (by simp; omega) _).grown HG1.out (by simp; omega) (fun k hk => (World.ownsRow.lt HO.out k hk).1)⟩
        rw [HSN.out]
        exact PlsOwn.snoc HO1.out
      case measure => simp [intOf]; omega
    · have hke : k = L.length := by omega
      subst hke
      go_wp2_with fail
      go_ret
      exact ⟨⟨_, rfl, by have := HO.out; rw [List.take_length] at this; exact this⟩, HBE.out⟩

theorem PlsOwn.plsAt {w : World} {base cap : Nat} {a : Option Addr} {L : List Pl} (h : PlsOwn w base (.slice a L.length cap) L) (hL : L.length ≤ 65536) : PlsAt w a (L.map castP) := by
  refine ⟨by rw [List.length_map]; omega, fun hne => ?_⟩
  have hl : L ≠ [] := fun e => hne (by rw [e]; rfl)
  obtain ⟨p, hp⟩ := List.exists_mem_of_ne_nil _ hl
  obtain ⟨i, hi⟩ := List.mem_iff_getElem?.1 hp
  obtain ⟨b, rfl, -, hb, -⟩ := PlsOwn.read h hi
  refine ⟨b, 0, rfl, hb, fun j q hj => ?_⟩
  rw [List.getElem?_map] at hj
  obtain ⟨q', hq', rfl⟩ := Option.map_eq_some_iff.1 hj
  rw [Nat.zero_add]
  exact PlsOwn.get h j q' hq'

end Go.Proofs.Ytmkcnpphdghbaaa
