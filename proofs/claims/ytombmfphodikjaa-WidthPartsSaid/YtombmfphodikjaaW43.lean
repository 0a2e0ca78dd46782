/- slices.Delete over a slice of one's own. -/
import Derived.Test.YtombmfphodikjaaW42
import Derived.Lib.SliceRun
import Derived.Deep.Upon
namespace Go.Proofs.Ytombmfphodikjaa
set_option linter.unusedSimpArgs false
set_option linter.unusedVariables false
open Go.RowKit Go.Maps

/-- Numbers that may be written. -/
structure Mine (w : World) (g m : Nat) (z : Nat → Int) : Prop where
  lt : g < w.heap.size
  cell : ∀ i, i < m → w.cell? ⟨g, i, none⟩ = some (.int .i64 (z i))
  free : ∀ i, i < m → w.frozen? ⟨g, i, none⟩ = false

theorem setCells_by (g : Nat) : ∀ (vs : List Value) (o : Nat) (w : World), w.grownBy (w.setCells g o vs) (some g) := by
  intro vs
  induction vs with
  | nil => intro o w; exact ⟨rfl, rfl, rfl, Nat.le_refl _, fun _ _ _ => rfl⟩
  | cons v r ih =>
    intro o w
    have h1 : w.grownBy (w.setCell ⟨g, o, none⟩ v) (some g) := ⟨rfl, rfl, rfl, by simp [World.setCell], fun k hk hne => Below.heap_setCell _ _ _ _ (fun e => hne (by rw [e]))⟩
    have h2 := ih (o + 1) (w.setCell ⟨g, o, none⟩ v)
    exact ⟨h2.os.trans h1.os, h2.tape.trans h1.tape, h2.output.trans h1.output, Nat.le_trans h1.size h2.size, fun k hk hne => (h2.block k (Nat.lt_of_lt_of_le hk h1.size) hne).trans (h1.block k hk hne)⟩
theorem grown_trans {a b c : World} {row : Option Nat} (h1 : a.grownBy b row) (h2 : b.grownBy c row) : a.grownBy c row :=
  ⟨h2.os.trans h1.os, h2.tape.trans h1.tape, h2.output.trans h1.output, Nat.le_trans h1.size h2.size, fun k hk hne => (h2.block k (Nat.lt_of_lt_of_le hk h1.size) hne).trans (h1.block k hk hne)⟩

set_option maxRecDepth 20000 in
set_option maxHeartbeats 2000000 in
theorem Delete_any {g i s cap : Nat} {z : Nat → Int} {w : World} (M : Mine w g (i + 1 + s) z) (hcap : i + 1 + s ≤ cap) (hmax : cap ≤ maxLen) :
    Calls Try.prog 85 #[.slice (some ⟨g, 0, none⟩) (i + 1 + s) cap, .int .i64 i, .int .i64 (i+1)] w fun e w' => e = .returned (.slice (some ⟨g, 0, none⟩) (i + s) cap) ∧ Mine w' g (i + s) (fun k => z (unD i k)) ∧ w.grownBy w' (some g) := by
  obtain ⟨i0, hi0, hz1, hz2, hz3⟩ := info_parts info_int
  unfold maxLen at hmax
  obtain ⟨news, hnews⟩ : ∃ news, news = (List.range s).map fun t => Value.int .i64 (z (i + 1 + t)) := ⟨_, rfl⟩
  have hlen : news.length = s := by rw [hnews]; simp
  have hget : ∀ t, t < s → news[t]? = some (.int .i64 (z (i + 1 + t))) := fun t ht => by rw [hnews]; exact map_range_get _ ht
  obtain ⟨A, hA, hsrc⟩ : ∃ A : Addr, (if cap = i + 1 then some (⟨g, 0, none⟩ : Addr) else some ⟨g, i + 1, none⟩) = some A ∧ Hid (∀ t u, news[t]? = some u → w.drew.cell? (A.add t) = some u) := by
    by_cases h : cap = i + 1
    · refine ⟨⟨g, 0, none⟩, by simp [h], fun t u hu => ?_⟩
      have h0 : news.length = 0 := by rw [hlen]; omega
      rw [List.length_eq_zero_iff.1 h0] at hu
      simp at hu
    · refine ⟨⟨g, i + 1, none⟩, by simp [h], fun t u hu => ?_⟩
      have ht : t < s := by
        have := (List.getElem?_eq_some_iff.1 hu).1
        rwa [hlen] at this
      rw [hget t ht] at hu
      rw [Addr.add_lit]
      exact (M.cell (i + 1 + t) (by omega)).trans hu
  have s1 : Hid (news.length = s * 1) := by rw [Nat.mul_one]; exact hlen
  have s2 : Hid (∀ u ∈ news, u.oneCell' = true) := by
    intro u hu
    rw [hnews] at hu
    obtain ⟨x, _, rfl⟩ := List.mem_map.1 hu
    rfl
  have s3 : Hid (∀ t, t < news.length → (w.drew.cell? ⟨g, 0 + i * 1 + t, none⟩).isSome = true ∧ w.drew.frozen? ⟨g, 0 + i * 1 + t, none⟩ = false) := by
    intro t ht
    rw [hlen] at ht
    rw [Nat.mul_one, Nat.zero_add]
    exact ⟨by show (w.cell? _).isSome = true; rw [M.cell (i + t) (by omega)]; rfl, M.free (i + t) (by omega)⟩
  obtain ⟨W1, hW1⟩ : ∃ W1, W1 = w.drew.setCells g (0 + i * 1) news := ⟨_, rfl⟩
  have M1 : Mine W1 g (i + 1 + s) (fun k => if k < i then z k else if k < i + s then z (k + 1) else z k) := by
    rw [hW1, Nat.zero_add, Nat.mul_one]
    refine ⟨Nat.lt_of_lt_of_le M.lt (setCells_by g news i w.drew).size, fun k hk => ?_, fun k hk => by rw [World.frozen?_setCells]; exact M.free k hk⟩
    by_cases h1 : k < i
    · rw [if_pos h1, World.cell?_setCells_out g news i w.drew ⟨g, k, none⟩ (fun _ _ => Or.inl h1)]
      exact M.cell k hk
    · rw [if_neg h1]
      by_cases h2 : k < i + s
      · rw [if_pos h2]
        have := World.cell?_setCells_in g news i w.drew (fun j hj => by rw [hlen] at hj; show (w.cell? _).isSome = true; rw [M.cell (i + j) (by omega)]; rfl) (k - i) (by rw [hlen]; omega)
        rw [show i + (k - i) = k by omega] at this
        rw [this, ← List.getElem?_eq_getElem, hget _ (by omega), show i + 1 + (k - i) = k + 1 by omega]
      · rw [if_neg h2, World.cell?_setCells_out g news i w.drew ⟨g, k, none⟩ (fun _ _ => Or.inr (by rw [hlen]; show i + s ≤ k; omega))]
        exact M.cell k hk
  have G1 : w.grownBy W1 (some g) := by
    rw [hW1]
    exact grown_trans (b := w.drew) ⟨rfl, rfl, rfl, Nat.le_refl _, fun _ _ _ => rfl⟩ (setCells_by g news _ w.drew)
  have hone : i + 1 + s - (i + s) = 1 := by omega
  have hcl : ∀ ty, (Builtin.clear_ #[22] ty #[.slice (some ⟨g, i + s, none⟩) (i + 1 + s - (i + s)) (cap - (i + s))]).run Try.prog W1 = .ok (.tuple #[]) (W1.setCells g (i + s) [.int .i64 0]) := by
    rw [hone]
    exact fun ty => Lib.run_clear_slice (P := Try.prog) W1 _ 3 ty (.int .i64 0) Try.underlying22 (fun w => by rfl) rfl rfl g (i + s) 1 _ (by omega) (fun t ht => by rw [show i + s + t = i + s by omega, M1.cell _ (by omega)]; rfl) (fun t ht => by rw [show i + s + t = i + s by omega]; exact M1.free _ (by omega))
  clear hone
  have HM1 := Lib.hid M1
  have HG1 := Lib.hid G1
  have hW : Hid (W1 = w.drew.setCells g (0 + i * 1) news) := hW1
  have hic : i ≤ cap := by omega
  have hjc : i + 1 ≤ cap := by omega
  have hx1 : (0 : Int) ≤ (i : Int) + 1 := by omega
  have hx2 : (i : Int) + 1 ≤ (i : Int) + 1 + s := by omega
  clear M M1 G1 hW1 hget hnews hlen
  go_enter Try.func85, Try.ntmps85
  go_wp2_with fail
  go_region_law (refine step_append_room rfl (.tmp 22) (.tmp 25) 22 rfl 3 i0 1 Try.underlying22 hi0 hz2 g 0 i cap (by simp [Act.eval, Act.put]) A s (cap - (i + 1)) news (by simp [Act.eval, Act.put]) s1.out hsrc.out s2.out (by omega) s3.out ?_; rw [← hW.out])
  go_wp2_with fail
  go_ret
  refine ⟨rfl, ⟨Nat.lt_of_lt_of_le HM1.out.lt (setCells_by g _ (i + s) W1).size, fun k hk => ?_, fun k hk => by rw [World.frozen?_setCells]; exact HM1.out.free k (by omega)⟩, grown_trans HG1.out (setCells_by g _ _ _)⟩
  rw [World.cell?_setCells_out g _ (i + s) W1 ⟨g, k, none⟩ (fun _ _ => Or.inl hk), HM1.out.cell k (by omega)]
  unfold unD
  by_cases h1 : k < i
  · rw [if_pos h1, if_pos h1]
  · rw [if_neg h1, if_neg h1, if_pos hk]
end Go.Proofs.Ytombmfphodikjaa
