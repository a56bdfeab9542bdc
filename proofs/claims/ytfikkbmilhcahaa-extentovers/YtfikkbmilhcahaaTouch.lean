/-
  The contract of span.Touch of two whole spans of which the first does not begin behind the other's end: whether the other does not begin behind its end; nothing that was there is written.
-/
import Derived.Test.YtfikkbmilhcahaaMeet
namespace Go.Proofs.Ytfikkbmilhcahaa
open Go.ChangeShapes Go.WideShapes Go.ChangeAt Go.RowKit
attribute [local go_sem ↓] Go.wp_at_zero Go.wp_at_succ

theorem below2 {w w1 : World} {o1 o2 : Obj} (hb : Below ((w.alloc o1).alloc o2).heap.size ((w.alloc o1).alloc o2) w1) : Below w.heap.size w w1 := by
  refine Below.trans ?_ (hb.mono (by simp; omega))
  exact ((Below.refl _ _).alloc (Nat.le_refl _) _).alloc (by simp) _

theorem cells2 {w w2 : World} {f n g m : Value} (hb : Below ((w.alloc (.cells #[f, n] 26)).alloc (.cells #[g, m] 26)).heap.size ((w.alloc (.cells #[f, n] 26)).alloc (.cells #[g, m] 26)) w2) :
    w.heap.size + 1 < w2.heap.size ∧ w2.cell? ⟨w.heap.size, 0, none⟩ = some f ∧ w2.cell? ⟨w.heap.size, 1, none⟩ = some n ∧ w2.cell? ⟨w.heap.size + 1, 0, none⟩ = some g ∧ w2.cell? ⟨w.heap.size + 1, 1, none⟩ = some m := by
  obtain ⟨hc, hfz⟩ := bcell hb
  refine ⟨by have := hb.size; simp at this; omega, ?_, ?_, ?_, ?_⟩
  · rw [hc w.heap.size 0 (by simp; omega)]; simp [go_sem]
  · rw [hc w.heap.size 1 (by simp; omega)]; simp [go_sem]
  · rw [hc (w.heap.size + 1) 0 (by simp)]; simp [go_sem]
  · rw [hc (w.heap.size + 1) 1 (by simp)]; simp [go_sem]

theorem touch_yes (f n g m : Int) (w : World) (h1 : 0 ≤ f) (h2 : 1 ≤ n) (h3 : n ≤ 64 - f) (k1 : 0 ≤ g) (k2 : 1 ≤ m) (k3 : m ≤ 64 - g) (t1 : f ≤ g + m) :
    Calls Try.prog 46 #[.agg #[.int .i64 f, .int .i64 n], .agg #[.int .i64 g, .int .i64 m]] w fun e w' => e = .returned (.bool (decide (g ≤ f + n))) ∧ Below w.heap.size w w' := by
  go_enter Try.func46, Try.ntmps46
  go_wp2_with fail
  generalize hw2 : (w.alloc (Obj.cells #[Value.int IntKind.i64 f, Value.int IntKind.i64 n] 26)).alloc (Obj.cells #[Value.int IntKind.i64 g, Value.int IntKind.i64 m] 26) = w2
  have hb0 : Below ((w.alloc (Obj.cells #[Value.int IntKind.i64 f, Value.int IntKind.i64 n] 26)).alloc (Obj.cells #[Value.int IntKind.i64 g, Value.int IntKind.i64 m] 26)).heap.size ((w.alloc (Obj.cells #[Value.int IntKind.i64 f, Value.int IntKind.i64 n] 26)).alloc (Obj.cells #[Value.int IntKind.i64 g, Value.int IntKind.i64 m] 26)) w2 := by rw [hw2]; exact Below.refl _ _
  clear hw2
  obtain ⟨hz2, a0, a1, b0, b1⟩ := cells2 hb0
  have hB : Below w.heap.size w w2 := below2 hb0
  clear hb0
  go_region_held3 (fun w' => w'.cell? ⟨w.heap.size, 0, none⟩ = some (.int .i64 f) ∧ w'.cell? ⟨w.heap.size, 1, none⟩ = some (.int .i64 n) ∧ w'.cell? ⟨w.heap.size + 1, 0, none⟩ = some (.int .i64 g) ∧ w'.cell? ⟨w.heap.size + 1, 1, none⟩ = some (.int .i64 m) ∧ Below w2.heap.size w2 w')
    (first
      | exact ⟨a0, a1, b0, b1, (Below.refl _ _).drew⟩
      | exact keep2 (by omega) a0 a1 b0 b1 (below_step (below_step (below_step (below_drew hb3) hb4) hb5) hb6)
      | exact keep2 (by omega) a0 a1 b0 b1 (below_step (below_step (below_drew hb3) hb4) hb5)
      | exact keep2 (by omega) a0 a1 b0 b1 (below_step (below_drew hb3) hb4)
      | exact keep2 (by omega) a0 a1 b0 b1 (below_drew hb3))
    (first
      | (go_at_call_of 80 (Value.agg #[.int .i64 f, .int .i64 n]); refine (whole_yes _ _ _ ⟨h1, h2, h3⟩).mono ?_; rintro e w3 ⟨rfl, hb3⟩)
      | (go_at_call_of 80 (Value.agg #[.int .i64 g, .int .i64 m]); refine (whole_yes _ _ _ ⟨k1, k2, k3⟩).mono ?_; rintro e w4 ⟨rfl, hb4⟩)
      | (go_at_call_of 79 (Value.agg #[.int .i64 g, .int .i64 m]); refine (end_yes _ _ _ ⟨k1, k2, k3⟩).mono ?_; rintro e w5 ⟨rfl, hb5⟩)
      | (go_at_call_of 79 (Value.agg #[.int .i64 f, .int .i64 n]); refine (end_yes _ _ _ ⟨h1, h2, h3⟩).mono ?_; rintro e w6 ⟨rfl, hb6⟩))
  all_goals
    go_wp2
    go_ret
    exact ⟨rfl, below_step hB (below_step (below_step (below_step (below_drew hb3) hb4) hb5) hb6)⟩

end Go.Proofs.Ytfikkbmilhcahaa
