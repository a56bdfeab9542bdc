/-
  Meet, Join and Touch answer the same in either order, for every two spans; nothing that was there is written. No condition but that integers fit int64.
-/
import Derived.Test.YtlncklbbfnmdiaaAlive
namespace Go.Proofs.Ytlncklbbfnmdiaa
open Go.ChangeShapes Go.WideShapes Go.ChangeAt Go.RowKit

theorem meet_sym (f n g m : Int) (hf : f ≤ 9223372036854775807) (hg : g ≤ 9223372036854775807) :
    ∃ (x y : Int) (p : Bool), (∀ w, Calls Try.prog 11 #[.agg #[.int .i64 f, .int .i64 n], .agg #[.int .i64 g, .int .i64 m]] w fun e w' => e = .returned (.tuple #[.agg #[.int .i64 x, .int .i64 y], .bool p]) ∧ Below w.heap.size w w') ∧ (∀ w, Calls Try.prog 11 #[.agg #[.int .i64 g, .int .i64 m], .agg #[.int .i64 f, .int .i64 n]] w fun e w' => e = .returned (.tuple #[.agg #[.int .i64 x, .int .i64 y], .bool p]) ∧ Below w.heap.size w w') := by
  by_cases ha : 0 ≤ f ∧ 1 ≤ n ∧ n ≤ 64 - f
  · by_cases hb : 0 ≤ g ∧ 1 ≤ m ∧ m ≤ 64 - g
    · by_cases hl : (if f < g then g else f) < (if g + m < f + n then g + m else f + n)
      · refine ⟨_, _, true, fun w => meet_some f n g m _ _ w ha.1 ha.2.1 ha.2.2 hb.1 hb.2.1 hb.2.2 rfl rfl hl (by split <;> omega) (by split <;> omega), fun w => meet_some g m f n _ _ w hb.1 hb.2.1 hb.2.2 ha.1 ha.2.1 ha.2.2 ?_ ?_ hl (by split <;> omega) (by split <;> omega)⟩
        · split <;> split <;> omega
        · split <;> split <;> omega
      · refine ⟨0, 0, false, fun w => meet_none f n g m _ _ w ha.1 ha.2.1 ha.2.2 hb.1 hb.2.1 hb.2.2 rfl rfl (by omega), fun w => meet_none g m f n _ _ w hb.1 hb.2.1 hb.2.2 ha.1 ha.2.1 ha.2.2 rfl rfl ?_⟩
        revert hl
        split <;> split <;> split <;> split <;> omega
    · exact ⟨0, 0, false, fun w => meet_b f n g m w hg ha.1 ha.2.1 ha.2.2 hb, fun w => meet_a g m f n w hg hb⟩
  · by_cases hb : 0 ≤ g ∧ 1 ≤ m ∧ m ≤ 64 - g
    · exact ⟨0, 0, false, fun w => meet_a f n g m w hf ha, fun w => meet_b g m f n w hf hb.1 hb.2.1 hb.2.2 ha⟩
    · exact ⟨0, 0, false, fun w => meet_a f n g m w hf ha, fun w => meet_a g m f n w hg hb⟩

/-- Touch, whatever the spans: whole both, and neither begins behind the other's end. -/
theorem touch_any (f n g m : Int) (hf : f ≤ 9223372036854775807) (hg : g ≤ 9223372036854775807) (t : Bool)
    (ht : t = decide ((0 ≤ f ∧ 1 ≤ n ∧ n ≤ 64 - f) ∧ (0 ≤ g ∧ 1 ≤ m ∧ m ≤ 64 - g) ∧ f ≤ g + m ∧ g ≤ f + n)) : (∀ w, Calls Try.prog 20 #[.agg #[.int .i64 f, .int .i64 n], .agg #[.int .i64 g, .int .i64 m]] w fun e w' => e = .returned (.bool t) ∧ Below w.heap.size w w') := by
  intro w
  by_cases ha : 0 ≤ f ∧ 1 ≤ n ∧ n ≤ 64 - f
  · by_cases hb : 0 ≤ g ∧ 1 ≤ m ∧ m ≤ 64 - g
    · by_cases h1 : f ≤ g + m
      · have h := touch_yes f n g m w ha.1 ha.2.1 ha.2.2 hb.1 hb.2.1 hb.2.2 h1
        have e : decide (g ≤ f + n) = t := by rw [ht]; simp [ha, hb, h1]
        rw [e] at h
        exact h
      · have e : t = false := by rw [ht]; simp; omega
        rw [e]
        exact touch_c f n g m w ha.1 ha.2.1 ha.2.2 hb.1 hb.2.1 hb.2.2 (by omega)
    · have e : t = false := by rw [ht]; simp; omega
      rw [e]
      exact touch_b f n g m w ha.1 ha.2.1 ha.2.2 hg hb
  · have e : t = false := by rw [ht]; simp; omega
    rw [e]
    exact touch_a f n g m w hf ha

theorem touch_sym (f n g m : Int) (hf : f ≤ 9223372036854775807) (hg : g ≤ 9223372036854775807) :
    ∃ t : Bool, (∀ w, Calls Try.prog 20 #[.agg #[.int .i64 f, .int .i64 n], .agg #[.int .i64 g, .int .i64 m]] w fun e w' => e = .returned (.bool t) ∧ Below w.heap.size w w') ∧ (∀ w, Calls Try.prog 20 #[.agg #[.int .i64 g, .int .i64 m], .agg #[.int .i64 f, .int .i64 n]] w fun e w' => e = .returned (.bool t) ∧ Below w.heap.size w w') :=
  ⟨_, touch_any f n g m hf hg _ rfl, touch_any g m f n hg hf _ (by rw [decide_eq_decide]; omega)⟩

theorem join_sym (f n g m : Int) (hf : f ≤ 9223372036854775807) (hg : g ≤ 9223372036854775807) :
    ∃ (x y : Int) (p : Bool), (∀ w, Calls Try.prog 12 #[.agg #[.int .i64 f, .int .i64 n], .agg #[.int .i64 g, .int .i64 m]] w fun e w' => e = .returned (.tuple #[.agg #[.int .i64 x, .int .i64 y], .bool p]) ∧ Below w.heap.size w w') ∧ (∀ w, Calls Try.prog 12 #[.agg #[.int .i64 g, .int .i64 m], .agg #[.int .i64 f, .int .i64 n]] w fun e w' => e = .returned (.tuple #[.agg #[.int .i64 x, .int .i64 y], .bool p]) ∧ Below w.heap.size w w') := by
  by_cases h : (0 ≤ f ∧ 1 ≤ n ∧ n ≤ 64 - f) ∧ (0 ≤ g ∧ 1 ≤ m ∧ m ≤ 64 - g) ∧ f ≤ g + m ∧ g ≤ f + n
  · obtain ⟨ha, hb, h1, h2⟩ := h
    refine ⟨_, _, true, fun w => join_yes f n g m _ _ w ha.1 ha.2.1 ha.2.2 hb.1 hb.2.1 hb.2.2 h1 h2 rfl rfl (by split <;> omega) (by split <;> omega) (by split <;> omega) (by split <;> omega), fun w => join_yes g m f n _ _ w hb.1 hb.2.1 hb.2.2 ha.1 ha.2.1 ha.2.2 h2 h1 ?_ ?_ (by split <;> omega) (by split <;> omega) (by split <;> omega) (by split <;> omega)⟩
    · split <;> split <;> omega
    · split <;> split <;> omega
  · exact ⟨0, 0, false, fun w => join_no f n g m w (touch_any f n g m hf hg _ (by rw [decide_eq_false h])), fun w => join_no g m f n w (touch_any g m f n hg hf _ (by rw [eq_comm, decide_eq_false_iff_not]; omega))⟩

theorem meet_self (f n : Int) (w : World) (h1 : 0 ≤ f) (h2 : 1 ≤ n) (h3 : n ≤ 64 - f) :
    Calls Try.prog 11 #[.agg #[.int .i64 f, .int .i64 n], .agg #[.int .i64 f, .int .i64 n]] w fun e w' => e = .returned (.tuple #[.agg #[.int .i64 f, .int .i64 (f + n - f)], .bool true]) ∧ Below w.heap.size w w' :=
  meet_some f n f n f (f + n) w h1 h2 h3 h1 h2 h3 (by simp) (by simp) (by omega) h1 (by omega)

end Go.Proofs.Ytlncklbbfnmdiaa
