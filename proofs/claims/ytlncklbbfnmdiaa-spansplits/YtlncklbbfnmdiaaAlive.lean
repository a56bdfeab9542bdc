/-
  The contract of emulsionlaw1.alive: it returns true, in whatever world; nothing that was there is written.
-/
import Derived.Test.YtlncklbbfnmdiaaLess
import Derived.Test.YtlncklbbfnmdiaaSmall
import Derived.Laws.OwnMore
namespace Go.Proofs.Ytlncklbbfnmdiaa
open Go.ChangeShapes Go.WideShapes Go.ChangeAt Go.RowKit

theorem alive_any (w : World) :
    Calls Try.prog 8 #[] w fun e w' => e = .returned (.bool true) ∧ Below w.heap.size w w' := by
  go_enter Try.func8, Try.ntmps8
  go_wp2_with fail
  refine (less_11 2 6 4 2 4 6 _ (by decide) (by decide) (by decide) (by decide) (by decide) (by decide) (fun w => meet_some 2 6 4 2 4 6 w (by decide) (by decide) (by decide) (by decide) (by decide) (by decide) rfl rfl (by decide) (by decide) (by decide))).mono ?_
  rintro e w1 ⟨v, rfl, hown, hb1⟩
  obtain ⟨g, cap, rfl, hg, hlt⟩ := hown.form (by decide)
  have d0 : w1.cell? ⟨g, 0, none⟩ = some (.int .i64 2) := hown.cellAt 0 (by decide)
  have d1 : w1.cell? ⟨g, 1, none⟩ = some (.int .i64 2) := hown.cellAt 1 (by decide)
  have d2 : w1.cell? ⟨g, 2, none⟩ = some (.int .i64 6) := hown.cellAt 2 (by decide)
  have d3 : w1.cell? ⟨g, 3, none⟩ = some (.int .i64 2) := hown.cellAt 3 (by decide)
  clear hown
  go_wp2_with fail
  refine (blocks_yes 7 2 _ (by decide) (by decide) (by decide)).mono ?_
  rintro e w2 ⟨rfl, hb2⟩
  obtain ⟨hc2, _⟩ := bcell hb2
  rw [← hc2 _ _ hlt] at d0 d1 d2 d3
  have hlt2 : g < w2.heap.size := by have := hb2.size; omega
  have hB : Below w.heap.size w w2 := below_step hb1 hb2
  clear hc2 hb1 hb2
  go_wp2
  go_ret
  exact ⟨rfl, hB.alloc hB.size _⟩
end Go.Proofs.Ytlncklbbfnmdiaa
