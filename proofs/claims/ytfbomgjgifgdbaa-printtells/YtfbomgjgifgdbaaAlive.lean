/-
  The contract of emulsionlaw7's alive: it returns true; nothing that was there is written.
-/
import Derived.Test.YtfbomgjgifgdbaaOf
namespace Go.Proofs.Ytfbomgjgifgdbaa
open Go.ChangeShapes Go.WideShapes Go.ChangeAt Go.RowKit
attribute [local go_sem] str_size

theorem turn33 (w : World) : Calls Try.prog 13 #[.int .u32 1, .int .i64 33] w fun e w' => e = .returned (.int .u32 2) ∧ w' = w := turn_any 1 33 (by decide) w
theorem bucket94 (w : World) : Calls Try.prog 15 #[.int .u32 9, .int .i64 4] w fun e w' => e = .returned (.int .i64 1) ∧ w' = w := bucket_yes 9 4 (by decide) (by decide) (by decide) w

set_option maxRecDepth 100000 in
theorem alive_any (w : World) : Calls Try.prog 8 #[] w fun e w' => e = .returned (.bool true) ∧ w' = w := by
  have h0 := Hid.intro (of_any [])
  have h1 := Hid.intro (rof_any [])
  go_enter Try.func8, Try.ntmps8
  go_wp2_with fail
  refine (turn33 _).mono ?_; rintro e w1 ⟨rfl, rfl⟩
  go_wp2_with fail
  refine (h0.out _ (by decide)).mono ?_; rintro e w1 ⟨rfl, rfl⟩
  go_wp2_with fail
  refine (h1.out _ (by decide)).mono ?_; rintro e w1 ⟨rfl, rfl⟩
  generalize ofN [] = z
  go_wp2_with fail
  refine (bucket94 _).mono ?_; rintro e w1 ⟨rfl, rfl⟩
  go_wp2
  go_ret
  exact ⟨rfl, rfl⟩
end Go.Proofs.Ytfbomgjgifgdbaa
