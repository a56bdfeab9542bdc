/-
  The contract of span.Meet: of every two spans what they have in common, or that they have nothing; nothing that was there is written. No condition but that integers fit int64.
-/
import Derived.Test.YtnkfgefbiacagaaLeaf
import Derived.Deep.RegionHeld3
import Derived.Deep.DrawnRows
import Derived.Outline
namespace Go.Proofs.Ytnkfgefbiacagaa
open Go.ChangeShapes Go.WideShapes Go.ChangeAt Go.RowKit
attribute [local go_sem ↓] Go.wp_at_zero Go.wp_at_succ

theorem below3 {w w1 : World} {o1 o2 o3 : Obj} (hb : Below (((w.alloc o1).alloc o2).alloc o3).heap.size (((w.alloc o1).alloc o2).alloc o3) w1) : Below w.heap.size w w1 := by
  refine Below.trans ?_ (hb.mono (by simp; omega))
  exact (((Below.refl _ _).alloc (Nat.le_refl _) _).alloc (by simp) _).alloc (by simp; omega) _

/-- What stands in the three blocks that Meet and Join lay first (the boxes of both spans, the result), behind whatever is only new. -/
theorem cells3 {w w2 : World} {f n g m : Value} (hb : Below (((w.alloc (.cells #[f, n] 41)).alloc (.cells #[g, m] 41)).alloc (.cells #[.int .i64 0, .int .i64 0] 41)).heap.size (((w.alloc (.cells #[f, n] 41)).alloc (.cells #[g, m] 41)).alloc (.cells #[.int .i64 0, .int .i64 0] 41)) w2) :
    w.heap.size + 1 + 1 < w2.heap.size ∧ w2.cell? ⟨w.heap.size, 0, none⟩ = some f ∧ w2.cell? ⟨w.heap.size, 1, none⟩ = some n ∧ w2.cell? ⟨w.heap.size + 1, 0, none⟩ = some g ∧ w2.cell? ⟨w.heap.size + 1, 1, none⟩ = some m ∧
    w2.cell? ⟨w.heap.size + 1 + 1, 0, none⟩ = some (.int .i64 0) ∧ w2.cell? ⟨w.heap.size + 1 + 1, 1, none⟩ = some (.int .i64 0) ∧ w2.frozen? ⟨w.heap.size + 1 + 1, 0, none⟩ = false ∧ w2.frozen? ⟨w.heap.size + 1 + 1, 1, none⟩ = false := by
  obtain ⟨hc, hfz⟩ := bcell hb
  refine ⟨by have := hb.size; simp at this; omega, ?_, ?_, ?_, ?_, ?_, ?_, ?_, ?_⟩
  · rw [hc w.heap.size 0 (by simp; omega)]; simp [go_sem]
  · rw [hc w.heap.size 1 (by simp; omega)]; simp [go_sem]
  · rw [hc (w.heap.size + 1) 0 (by simp)]; simp [go_sem]
  · rw [hc (w.heap.size + 1) 1 (by simp)]; simp [go_sem]
  · rw [hc (w.heap.size + 1 + 1) 0 (by simp)]; simp [go_sem]
  · rw [hc (w.heap.size + 1 + 1) 1 (by simp)]; simp [go_sem]
  · rw [hfz (w.heap.size + 1 + 1) 0 (by simp)]; simp [go_sem]
  · rw [hfz (w.heap.size + 1 + 1) 1 (by simp)]; simp [go_sem]

/-- Two boxes of two cells each, and a third block, behind whatever is only new. -/
theorem keep2 {H : Nat} {f n g m : Value} {w2 w3 : World} (hz : H + 1 < w2.heap.size) (a0 : w2.cell? ⟨H, 0, none⟩ = some f) (a1 : w2.cell? ⟨H, 1, none⟩ = some n) (b0 : w2.cell? ⟨H + 1, 0, none⟩ = some g) (b1 : w2.cell? ⟨H + 1, 1, none⟩ = some m) (hb : Below w2.heap.size w2 w3) :
    w3.cell? ⟨H, 0, none⟩ = some f ∧ w3.cell? ⟨H, 1, none⟩ = some n ∧ w3.cell? ⟨H + 1, 0, none⟩ = some g ∧ w3.cell? ⟨H + 1, 1, none⟩ = some m ∧ Below w2.heap.size w2 w3 := by
  obtain ⟨hc, _⟩ := bcell hb
  exact ⟨by rw [hc _ _ (by omega)]; exact a0, by rw [hc _ _ (by omega)]; exact a1, by rw [hc _ _ hz]; exact b0, by rw [hc _ _ hz]; exact b1, hb⟩


end Go.Proofs.Ytnkfgefbiacagaa
