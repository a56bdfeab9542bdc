/-
  The contracts of span.Valid, span.Has, span.Blocks and of emulsionref1.Whole, for all integers: what each call returns; nothing that was there is written.
-/
import Derived.Test.YtnkfgefbiacagaaLeaf
import Derived.Outline
namespace Go.Proofs.Ytnkfgefbiacagaa
open Go.ChangeShapes Go.WideShapes Go.ChangeAt Go.RowKit

theorem valid_yes (f n k : Int) (w : World) (h1 : 0 ≤ f) (h2 : 1 ≤ n) (h3 : n ≤ 64 - f) :
    Calls Try.prog 30 #[.agg #[.int .i64 f, .int .i64 n], .int .i64 k] w fun e w' => e = .returned (.bool (decide (f + n ≤ k))) ∧ Below w.heap.size w w' := by
  go_enter Try.func30, Try.ntmps30
  go_wp2_with fail
  refine (whole_yes _ _ _ ⟨h1, h2, h3⟩).mono ?_; rintro e w1 ⟨rfl, hb⟩; obtain ⟨hc, hfz⟩ := bcell hb
  go_wp2
  go_ret
  exact ⟨rfl, ((Below.refl _ _).alloc (Nat.le_refl _) _).trans (hb.mono (by simp))⟩

theorem valid_no (f n k : Int) (w : World) (hf : f ≤ 9223372036854775807) (h : ¬ (0 ≤ f ∧ 1 ≤ n ∧ n ≤ 64 - f)) :
    Calls Try.prog 30 #[.agg #[.int .i64 f, .int .i64 n], .int .i64 k] w fun e w' => e = .returned (.bool false) ∧ Below w.heap.size w w' := by
  have hh : Hid (¬ (0 ≤ f ∧ 1 ≤ n ∧ n ≤ 64 - f)) := h
  clear h
  go_enter Try.func30, Try.ntmps30
  go_wp2_with fail
  refine (whole_no _ _ _ hf hh.out).mono ?_; rintro e w1 ⟨rfl, hb⟩; obtain ⟨hc, hfz⟩ := bcell hb
  go_wp2
  go_ret
  exact ⟨rfl, ((Below.refl _ _).alloc (Nat.le_refl _) _).trans (hb.mono (by simp))⟩

end Go.Proofs.Ytnkfgefbiacagaa
