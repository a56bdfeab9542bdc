/-
  The contract of span.Meet: of every two spans what they have in common, or that they have nothing; nothing that was there is written. No condition but that integers fit int64.
-/
import Derived.Test.YtfikkbmilhcahaaLeaf
import Derived.Deep.RegionHeld3
import Derived.Deep.DrawnRows
import Derived.Outline
namespace Go.Proofs.Ytfikkbmilhcahaa
open Go.ChangeShapes Go.WideShapes Go.ChangeAt Go.RowKit
attribute [local go_sem ↓] Go.wp_at_zero Go.wp_at_succ

theorem below3 {w w1 : World} {o1 o2 o3 : Obj} (hb : Below (((w.alloc o1).alloc o2).alloc o3).heap.size (((w.alloc o1).alloc o2).alloc o3) w1) : Below w.heap.size w w1 := by
  refine Below.trans ?_ (hb.mono (by simp; omega))
  exact (((Below.refl _ _).alloc (Nat.le_refl _) _).alloc (by simp) _).alloc (by simp; omega) _

theorem meet_a (f n g m : Int) (w : World) (hf : f ≤ 9223372036854775807) (h : ¬ (0 ≤ f ∧ 1 ≤ n ∧ n ≤ 64 - f)) :
    Calls Try.prog 81 #[.agg #[.int .i64 f, .int .i64 n], .agg #[.int .i64 g, .int .i64 m]] w fun e w' => e = .returned (.tuple #[.agg #[.int .i64 0, .int .i64 0], .bool false]) ∧ Below w.heap.size w w' := by
  have hh : Hid (¬ (0 ≤ f ∧ 1 ≤ n ∧ n ≤ 64 - f)) := h
  clear h
  go_enter Try.func81, Try.ntmps81
  go_wp2_with (go_at_call 80; refine (whole_no _ _ _ hf hh.out).mono ?_; rintro e w1 ⟨rfl, hb⟩; obtain ⟨hc, hfz⟩ := bcell hb)
  exact bodyPost_ret (v := .tuple #[.agg #[.int .i64 0, .int .i64 0], .bool false]) (by simp [results, Try.results81, go_sem, hc]) rfl ⟨rfl, ((below3 hb).setCell (by simp; omega) _).setCell (by simp; omega) _⟩

theorem meet_b (f n g m : Int) (w : World) (hg : g ≤ 9223372036854775807) (h1 : 0 ≤ f) (h2 : 1 ≤ n) (h3 : n ≤ 64 - f) (h : ¬ (0 ≤ g ∧ 1 ≤ m ∧ m ≤ 64 - g)) :
    Calls Try.prog 81 #[.agg #[.int .i64 f, .int .i64 n], .agg #[.int .i64 g, .int .i64 m]] w fun e w' => e = .returned (.tuple #[.agg #[.int .i64 0, .int .i64 0], .bool false]) ∧ Below w.heap.size w w' := by
  have hh : Hid (¬ (0 ≤ g ∧ 1 ≤ m ∧ m ≤ 64 - g)) := h
  clear h
  go_enter Try.func81, Try.ntmps81
  go_wp2_with fail
  refine (whole_yes _ _ _ ⟨h1, h2, h3⟩).mono ?_; rintro e w1 ⟨rfl, hb⟩; obtain ⟨hc, hfz⟩ := bcell hb
  go_wp2_with fail
  refine (whole_no _ _ _ hg hh.out).mono ?_; rintro e w2 ⟨rfl, hb2⟩; obtain ⟨hc2, hfz2⟩ := bcell hb2
  have hz : w.heap.size + 2 < w1.heap.size := by have := hb.size; simp at this; omega
  go_wp2
  exact bodyPost_ret (v := .tuple #[.agg #[.int .i64 0, .int .i64 0], .bool false]) (by simp [results, Try.results81, go_sem, hc2, hc, hz]) rfl ⟨rfl, (((below3 hb).trans (hb2.mono (by omega))).setCell (by simp; omega) _).setCell (by simp; omega) _⟩

/-- What stands in the three blocks that Meet and Join lay first (the boxes of both spans, the result), behind whatever is only new. -/
theorem cells3 {w w2 : World} {f n g m : Value} (hb : Below (((w.alloc (.cells #[f, n] 26)).alloc (.cells #[g, m] 26)).alloc (.cells #[.int .i64 0, .int .i64 0] 26)).heap.size (((w.alloc (.cells #[f, n] 26)).alloc (.cells #[g, m] 26)).alloc (.cells #[.int .i64 0, .int .i64 0] 26)) w2) :
    w.heap.size + 1 + 1 < w2.heap.size ∧ w2.cell? ⟨w.heap.size, 0, none⟩ = some f ∧ w2.cell? ⟨w.heap.size, 1, none⟩ = some n ∧ w2.cell? ⟨w.heap.size + 1, 0, none⟩ = some g ∧ w2.cell? ⟨w.heap.size + 1, 1, none⟩ = some m ∧
    w2.cell? ⟨w.heap.size + 1 + 1, 0, none⟩ = some (.int .i64 0) ∧ w2.cell? ⟨w.heap.size + 1 + 1, 1, none⟩ = some (.int .i64 0) ∧ w2.frozen? ⟨w.heap.size + 1 + 1, 0, none⟩ = false ∧ w2.frozen? ⟨w.heap.size + 1 + 1, 1, none⟩ = false := by
  obtain ⟨hc, hfz⟩ := bcell hb
  refine ⟨by have := hb.size; simp at this; omega, ?_, ?_, ?_, ?_, ?_, ?_, ?_, ?_⟩
  · rw [hc w.heap.size 0 (by simp; omega)]; simp [go_sem]
  · rw [hc w.heap.size 1 (by simp; omega)]; simp [go_sem]
  · rw [hc (w.heap.size + 1) 0 (by simp)]; simp [go_sem]
  · rw [hc (w.heap.size + 1) 1 (by simp)]; simp [go_sem]
  · rw [hc (w.heap.size + 1 + 1) 0 (by simp)]; simp [go_sem]
  · rw [hc (w.heap.size + 1 + 1) 1 (by simp)]; simp [go_sem]
  · rw [hfz (w.heap.size + 1 + 1) 0 (by simp)]; simp [go_sem]
  · rw [hfz (w.heap.size + 1 + 1) 1 (by simp)]; simp [go_sem]

/-- Two boxes of two cells each, and a third block, behind whatever is only new. -/
theorem keep2 {H : Nat} {f n g m : Value} {w2 w3 : World} (hz : H + 1 < w2.heap.size) (a0 : w2.cell? ⟨H, 0, none⟩ = some f) (a1 : w2.cell? ⟨H, 1, none⟩ = some n) (b0 : w2.cell? ⟨H + 1, 0, none⟩ = some g) (b1 : w2.cell? ⟨H + 1, 1, none⟩ = some m) (hb : Below w2.heap.size w2 w3) :
    w3.cell? ⟨H, 0, none⟩ = some f ∧ w3.cell? ⟨H, 1, none⟩ = some n ∧ w3.cell? ⟨H + 1, 0, none⟩ = some g ∧ w3.cell? ⟨H + 1, 1, none⟩ = some m ∧ Below w2.heap.size w2 w3 := by
  obtain ⟨hc, _⟩ := bcell hb
  exact ⟨by rw [hc _ _ (by omega)]; exact a0, by rw [hc _ _ (by omega)]; exact a1, by rw [hc _ _ hz]; exact b0, by rw [hc _ _ hz]; exact b1, hb⟩


theorem meet_none (f n g m lo hi : Int) (w : World) (h1 : 0 ≤ f) (h2 : 1 ≤ n) (h3 : n ≤ 64 - f) (k1 : 0 ≤ g) (k2 : 1 ≤ m) (k3 : m ≤ 64 - g)
    (hlo : (if f < g then g else f) = lo) (hhi : (if g + m < f + n then g + m else f + n) = hi) (hh : hi ≤ lo) :
    Calls Try.prog 81 #[.agg #[.int .i64 f, .int .i64 n], .agg #[.int .i64 g, .int .i64 m]] w fun e w' => e = .returned (.tuple #[.agg #[.int .i64 0, .int .i64 0], .bool false]) ∧ Below w.heap.size w w' := by
  go_enter Try.func81, Try.ntmps81
  go_wp2_with fail
  refine (whole_yes _ _ _ ⟨h1, h2, h3⟩).mono ?_; rintro e w1 ⟨rfl, hb⟩; obtain ⟨hc, hfz⟩ := bcell hb
  go_wp2_with fail
  refine (whole_yes _ _ _ ⟨k1, k2, k3⟩).mono ?_; rintro e w2 ⟨rfl, hb2⟩
  obtain ⟨hz2, a0, a1, b0, b1, r0, r1, z0, z1⟩ := cells3 (below_step hb hb2)
  have hB : Below w.heap.size w w2 := below3 (below_step hb hb2)
  clear hb hb2 hc hfz
  go_wp2_with fail
  go_region_held3 (fun w' => w'.cell? ⟨w.heap.size, 0, none⟩ = some (.int .i64 f) ∧ w'.cell? ⟨w.heap.size, 1, none⟩ = some (.int .i64 n) ∧ w'.cell? ⟨w.heap.size + 1, 0, none⟩ = some (.int .i64 g) ∧ w'.cell? ⟨w.heap.size + 1, 1, none⟩ = some (.int .i64 m) ∧ Below w2.heap.size w2 w')
    (first
      | exact ⟨a0, a1, b0, b1, (Below.refl _ _).drew⟩
      | exact keep2 (by omega) a0 a1 b0 b1 (below_step (below_drew hb3) hb4)
      | exact keep2 (by omega) a0 a1 b0 b1 (below_drew hb3))
    (first
      | (go_at_call_of 79 (Value.agg #[.int .i64 f, .int .i64 n]); refine (end_yes _ _ _ ⟨h1, h2, h3⟩).mono ?_; rintro e w3 ⟨rfl, hb3⟩)
      | (go_at_call_of 79 (Value.agg #[.int .i64 g, .int .i64 m]); refine (end_yes _ _ _ ⟨k1, k2, k3⟩).mono ?_; rintro e w4 ⟨rfl, hb4⟩))
  all_goals
    have hb5 : Below w2.heap.size w2 w4 := below_step (below_drew hb3) hb4
    obtain ⟨hc5, hf5⟩ := bcell hb5
    rw [← hc5 _ _ hz2] at r0 r1
    rw [← hf5 _ _ hz2] at z0 z1
    have hB5 : Below w.heap.size w w4 := below_step hB (hb5)
    clear hb3 hb4 hb5 hc5 hf5 a0 a1 b0 b1 hB hlo hhi
    go_wp2
    exact bodyPost_ret (v := .tuple #[.agg #[.int .i64 0, .int .i64 0], .bool false]) (by simp [results, Try.results81, go_sem, r0, r1]) rfl ⟨rfl, (hB5.setCell (by simp; omega) _).setCell (by simp; omega) _⟩
theorem meet_some (f n g m lo hi : Int) (w : World) (h1 : 0 ≤ f) (h2 : 1 ≤ n) (h3 : n ≤ 64 - f) (k1 : 0 ≤ g) (k2 : 1 ≤ m) (k3 : m ≤ 64 - g)
    (hlo : (if f < g then g else f) = lo) (hhi : (if g + m < f + n then g + m else f + n) = hi) (hh : lo < hi) (hl0 : 0 ≤ lo) (hh1 : hi ≤ 64) :
    Calls Try.prog 81 #[.agg #[.int .i64 f, .int .i64 n], .agg #[.int .i64 g, .int .i64 m]] w fun e w' => e = .returned (.tuple #[.agg #[.int .i64 lo, .int .i64 (hi - lo)], .bool true]) ∧ Below w.heap.size w w' := by
  go_enter Try.func81, Try.ntmps81
  go_wp2_with fail
  refine (whole_yes _ _ _ ⟨h1, h2, h3⟩).mono ?_; rintro e w1 ⟨rfl, hb⟩; obtain ⟨hc, hfz⟩ := bcell hb
  go_wp2_with fail
  refine (whole_yes _ _ _ ⟨k1, k2, k3⟩).mono ?_; rintro e w2 ⟨rfl, hb2⟩
  obtain ⟨hz2, a0, a1, b0, b1, r0, r1, z0, z1⟩ := cells3 (below_step hb hb2)
  have hB : Below w.heap.size w w2 := below3 (below_step hb hb2)
  clear hb hb2 hc hfz
  go_wp2_with fail
  go_region_held3 (fun w' => w'.cell? ⟨w.heap.size, 0, none⟩ = some (.int .i64 f) ∧ w'.cell? ⟨w.heap.size, 1, none⟩ = some (.int .i64 n) ∧ w'.cell? ⟨w.heap.size + 1, 0, none⟩ = some (.int .i64 g) ∧ w'.cell? ⟨w.heap.size + 1, 1, none⟩ = some (.int .i64 m) ∧ Below w2.heap.size w2 w')
    (first
      | exact ⟨a0, a1, b0, b1, (Below.refl _ _).drew⟩
      | exact keep2 (by omega) a0 a1 b0 b1 (below_step (below_drew hb3) hb4)
      | exact keep2 (by omega) a0 a1 b0 b1 (below_drew hb3))
    (first
      | (go_at_call_of 79 (Value.agg #[.int .i64 f, .int .i64 n]); refine (end_yes _ _ _ ⟨h1, h2, h3⟩).mono ?_; rintro e w3 ⟨rfl, hb3⟩)
      | (go_at_call_of 79 (Value.agg #[.int .i64 g, .int .i64 m]); refine (end_yes _ _ _ ⟨k1, k2, k3⟩).mono ?_; rintro e w4 ⟨rfl, hb4⟩))
  all_goals
    have hb5 : Below w2.heap.size w2 w4 := below_step (below_drew hb3) hb4
    obtain ⟨hc5, hf5⟩ := bcell hb5
    rw [← hc5 _ _ hz2] at r0 r1
    rw [← hf5 _ _ hz2] at z0 z1
    have hz4 : w.heap.size + 1 + 1 < w4.heap.size := by have := hb5.size; omega
    have hB5 : Below w.heap.size w w4 := below_step hB (hb5)
    clear hb3 hb4 hb5 hc5 hf5 a0 a1 b0 b1 hB hlo hhi
    go_wp2_with fail
    refine (between_any _ _ _ hl0 (by omega) (by omega) hh1).mono ?_; rintro e w6 ⟨rfl, hb6⟩
    obtain ⟨hc6, hf6⟩ := bcell hb6
    rw [← hc6 _ _ hz4] at r0 r1
    rw [← hf6 _ _ hz4] at z0 z1
    have hB6 : Below w.heap.size w w6 := below_step hB5 hb6
    clear hb6 hc6 hf6 hB5
    go_wp2
    exact bodyPost_ret (v := .tuple #[.agg #[.int .i64 lo, .int .i64 (hi - lo)], .bool true]) (by simp [results, Try.results81, go_sem, r0, r1]) rfl ⟨rfl, (hB6.setCell (by simp; omega) _).setCell (by simp; omega) _⟩
end Go.Proofs.Ytfikkbmilhcahaa
