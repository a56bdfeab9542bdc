/-
  The statements' first call: alive answers true.
-/
import Derived.Test.YtohjdpdmabjdaaaDirtD
import Derived.Test.YtohjdpdmabjdaaaDirtC
namespace Go.Proofs.Ytohjdpdmabjdaaa
open Go.ChangeShapes Go.WideShapes Go.ChangeAt Go.RowKit
attribute [local go_sem ↓] Go.wp_at_zero Go.wp_at_succ

theorem e14 : orW 10 0 (spW (1, 3)) = 14 := by decide +kernel
theorem p14 : pop 14 = 3 := by decide +kernel
theorem p0 : pop 0 = 0 := by decide +kernel
theorem c10 : clamp 10 = 10 := by decide +kernel
theorem s14 : strOfNums (bytL 14 ((10 + 7) / 8)) = ⟨#[14, 0]⟩ := by decide +kernel

theorem alive_any (w : World) : Calls Try.prog 8 #[] w fun e w' => e = .returned (.bool true) ∧ Below w.heap.size w w' := by
  go_enter Try.func8, Try.ntmps8
  go_wp2_with fail
  refine (new_any 10 w).mono ?_; rintro e w1 ⟨rfl, hD, hb⟩
  rw [c10] at hD
  have hD' := Hid.intro hD
  have hz := hD.lt
  clear hD
  go_wp2_with fail
  refine (mark_any 1 3 hD'.out (by decide) (by decide) (by decide)).mono ?_; rintro e w2 ⟨rfl, hD2, hb2⟩
  rw [e14] at hD2
  rw [e14, p14, p0]
  have hb2' : Below w.heap.size w w2 := hb.trans (hb2.low (Nat.le_refl _) (by omega))
  clear hb hb2
  go_wp2_with fail
  refine (dbytes_any hD2 (by decide)).mono ?_; rintro e w3 ⟨rfl, hb3⟩
  rw [s14]
  have hD3 := hD2.stay hb3
  have hb3' := hb2'.trans (hb3.mono hb2'.size)
  clear hb3 hb2' hD2
  go_wp2_with fail
  refine (dhas_any 2 hD3 (by decide) (by decide)).mono ?_; rintro e w4 ⟨rfl, rfl⟩
  go_wp2_with fail
  refine (dcount_any hD3 (by decide)).mono ?_; rintro e w5 ⟨rfl, rfl⟩
  rw [p14]
  go_wp2
  go_ret
  exact ⟨rfl, hb3'⟩
end Go.Proofs.Ytohjdpdmabjdaaa
