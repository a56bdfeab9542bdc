/-
  The contract of span.Less where both have all of the first span: it returns the nil list; nothing that was there is written.
-/
import Derived.Test.YtlncklbbfnmdiaaLess
namespace Go.Proofs.Ytlncklbbfnmdiaa
open Go.ChangeShapes Go.WideShapes Go.ChangeAt Go.RowKit
attribute [local go_sem ↓] Go.wp_at_zero Go.wp_at_succ

set_option maxRecDepth 100000 in
/-- Where both have the blocks from lo on and ahead of hi: nothing. -/
theorem less_zero (f n g m lo hi : Int) (w : World) (h1 : 0 ≤ f) (h2 : 1 ≤ n) (h3 : n ≤ 64 - f) (hl : f = lo) (hlh : lo < hi) (hr : hi = f + n)
    (ht : ∀ w, Calls Try.prog 11 #[.agg #[.int .i64 f, .int .i64 n], .agg #[.int .i64 g, .int .i64 m]] w fun e w' => e = .returned (.tuple #[.agg #[.int .i64 lo, .int .i64 (hi - lo)], .bool true]) ∧ Below w.heap.size w w') :
    Calls Try.prog 13 #[.agg #[.int .i64 f, .int .i64 n], .agg #[.int .i64 g, .int .i64 m]] w fun e w' => e = .returned (.slice none 0 0) ∧ Below w.heap.size w w' := by
  have hh : Hid (∀ w, Calls Try.prog 11 #[.agg #[.int .i64 f, .int .i64 n], .agg #[.int .i64 g, .int .i64 m]] w fun e w' => e = .returned (.tuple #[.agg #[.int .i64 lo, .int .i64 (hi - lo)], .bool true]) ∧ Below w.heap.size w w') := ht
  clear ht
  have q0 : 0 ≤ lo := by omega
  have q1 : hi ≤ 64 := by omega
  have q2 : hi ≤ f + n := by omega
  have q3 : f ≤ lo := by omega
  have q4 : ¬ f < lo := by omega
  have q5 : ¬ hi < f + n := by omega
  clear hl hr
  go_enter Try.func13, Try.ntmps13
  go_wp2_with fail
  refine (whole_yes _ _ _ ⟨h1, h2, h3⟩).mono ?_; rintro e w1 ⟨rfl, hb⟩
  obtain ⟨hz1, a0, a1, b0, b1⟩ := cells2 hb
  have hB1 : Below w.heap.size w w1 := below2 hb
  clear hb
  go_wp2_with fail
  refine (hh.out _).mono ?_; rintro e w2 ⟨rfl, hb2⟩
  obtain ⟨c0, c1, c2, c3, _⟩ := keep2 hz1 a0 a1 b0 b1 hb2
  have hz2 : w.heap.size + 1 < w2.heap.size := by have := hb2.size; omega
  have hz0 : w.heap.size < w2.heap.size := by omega
  have hB2 : Below w.heap.size w w2 := below_step hB1 hb2
  clear hb2 a0 a1 b0 b1 hB1 hz1 hh
  go_wp2_with fail
  generalize hw3 : w2.alloc (Obj.cells #[Value.int IntKind.i64 lo, Value.int IntKind.i64 (hi - lo)] 23) = w3
  have hb3 : Below (w2.alloc (Obj.cells #[Value.int IntKind.i64 lo, Value.int IntKind.i64 (hi - lo)] 23)).heap.size (w2.alloc (Obj.cells #[Value.int IntKind.i64 lo, Value.int IntKind.i64 (hi - lo)] 23)) w3 := by rw [hw3]; exact Below.refl _ _
  clear hw3
  obtain ⟨hc3, _⟩ := bcell hb3
  have s0 : w3.cell? ⟨w.heap.size, 0, none⟩ = some (.int .i64 f) := by rw [hc3 w.heap.size 0 (by simp; omega)]; simp [go_sem, hz0, c0]
  have s1 : w3.cell? ⟨w.heap.size, 1, none⟩ = some (.int .i64 n) := by rw [hc3 w.heap.size 1 (by simp; omega)]; simp [go_sem, hz0, c1]
  have t0 : w3.cell? ⟨w2.heap.size, 0, none⟩ = some (.int .i64 lo) := by rw [hc3 w2.heap.size 0 (by simp)]; simp [go_sem]
  have t1 : w3.cell? ⟨w2.heap.size, 1, none⟩ = some (.int .i64 (hi - lo)) := by rw [hc3 w2.heap.size 1 (by simp)]; simp [go_sem]
  have hq : w2.heap.size < w3.heap.size := by have := hb3.size; simp at this; omega
  have hp : w.heap.size < w3.heap.size := by omega
  have hB3 : Below w.heap.size w w3 := (hB2.alloc (by omega) _).trans (hb3.mono (by simp; omega))
  clear hb3 hc3 c0 c1 c2 c3 hB2 hz2
  generalize w2.heap.size = r at *
  go_region_held3 (fun w' => w'.cell? ⟨w.heap.size, 0, none⟩ = some (.int .i64 f) ∧ w'.cell? ⟨w.heap.size, 1, none⟩ = some (.int .i64 n) ∧ w'.cell? ⟨r, 0, none⟩ = some (.int .i64 lo) ∧ w'.cell? ⟨r, 1, none⟩ = some (.int .i64 (hi - lo)) ∧ Below w3.heap.size w3 w')
    (first
      | exact ⟨s0, s1, t0, t1, (Below.refl _ _).drew⟩
      | exact keepPQ hp hq s0 s1 t0 t1 (below_step (below_drew hx1) hx2)
      | exact keepPQ hp hq s0 s1 t0 t1 (below_drew hx1))
    (first
      | (go_at_call_of 16 (Value.agg #[.int .i64 lo, .int .i64 (hi - lo)]); refine (end_at lo (hi - lo) hi _ ⟨by omega, by omega, by omega⟩ (by omega)).mono ?_; rintro e x1 ⟨rfl, hx1⟩)
      | (go_at_call_of 16 (Value.agg #[.int .i64 f, .int .i64 n]); refine (end_yes _ _ _ ⟨h1, h2, h3⟩).mono ?_; rintro e x2 ⟨rfl, hx2⟩))
  all_goals
    go_wp2
    go_ret
    exact ⟨rfl, below_step hB3 (below_step (below_drew hx1) hx2)⟩
end Go.Proofs.Ytlncklbbfnmdiaa
