/-
  The contract of the shelf's compare: how two items stand to each other; nothing that was there is written.
-/
import Derived.Test.YtdmamanlclajjaaGreatCalls
import Derived.Deep.QuietTactic
import Derived.BigQuiet
namespace Go.Proofs.YtdmamanlclajjaaGreat
open Go.ChangeShapes Go.WideShapes Go.ChangeAt Go.RowKit
theorem cmpI_or (a b c d : Int) : orZ (cmpZ a c) (cmpZ b d) = cmpI (a, b) (c, d) := rfl
set_option maxRecDepth 100000 in
theorem compare_any (a b c d : Int) (w : World) :
    Calls Tryz.prog 96 #[.agg #[.int .u32 a, .int .i64 b], .agg #[.int .u32 c, .int .i64 d]] w fun e w' => e = .returned (.int .i64 (cmpI (a, b) (c, d))) ∧ Below w.heap.size w w' := by
  rw [← cmpI_or]
  go_enter Tryz.func96, Tryz.ntmps96
  go_wp2_with fail
  have hB : Below w.heap.size w ((w.alloc (.cells #[.int .u32 a, .int .i64 b] 104)).alloc (.cells #[.int .u32 c, .int .i64 d] 104)) := ((Below.refl _ w).alloc (Nat.le_refl _) _).alloc (by simp) _
  go_region_held3 (fun w' => w'.cell? ⟨w.heap.size, 0, none⟩ = some (.int .u32 a) ∧ w'.cell? ⟨w.heap.size, 1, none⟩ = some (.int .i64 b) ∧ w'.cell? ⟨w.heap.size + 1, 0, none⟩ = some (.int .u32 c) ∧ w'.cell? ⟨w.heap.size + 1, 1, none⟩ = some (.int .i64 d) ∧ Below w.heap.size w w')
    (first
      | exact ⟨by simp [go_sem], by simp [go_sem], by simp [go_sem], by simp [go_sem], hB.drew⟩
      | exact ⟨by simp [go_sem], by simp [go_sem], by simp [go_sem], by simp [go_sem], (hB.alloc (by simp; omega) _).drew⟩)
    (first
      | (go_at_call 104; refine (cmp32 _ _ _).mono ?_; rintro e w1 ⟨rfl, rfl⟩)
      | (go_at_call 76; refine (cmp64 _ _ _).mono ?_; rintro e w1 ⟨rfl, rfl⟩)
      | (go_at_call 103; refine (or_any (cmpZ a c) (cmpZ b d) _ 2 _ (by simp [go_sem]) (by simp [go_sem])).mono ?_; rintro e w1 ⟨rfl, rfl⟩))
  all_goals go_wp2
  all_goals go_ret
  all_goals exact ⟨rfl, (hB.alloc (by simp; omega) _).drew⟩
end Go.Proofs.YtdmamanlclajjaaGreat
