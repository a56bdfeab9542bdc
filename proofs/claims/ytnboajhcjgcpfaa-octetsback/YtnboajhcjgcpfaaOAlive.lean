/-
  The contract of emulsionlaw13's alive: it returns true; nothing that was there is written.
-/
import Derived.Test.YtnboajhcjgcpfaaOIn
namespace Go.Proofs.Ytnboajhcjgcpfaa
open Go.ChangeShapes Go.WideShapes Go.ChangeAt Go.RowKit
attribute [local go_sem ↓] Go.wp_at_zero Go.wp_at_succ
attribute [local go_sem] str_size str_extract str_append str_toList

theorem alive_w1 : wNum (some []) 258 2 = some [2, 1] ∧ eNum 258 2 = 0 := by decide
theorem alive_w2 : wText (some [2, 1]) [97] = some [2, 1, 1, 97] ∧ eText [97] = 0 := by decide
theorem alive_n : nN (some [2, 1, 1, 97]) 2 = 258 := by decide

set_option maxRecDepth 100000 in
theorem alive_any (w : World) : Calls Try.prog 9 #[] w fun e w' => e = .returned (.bool true) ∧ Below w.heap.size w w' := by
  have h0 := Hid.intro (OutO.new w w.heap.size)
  have hb0 := Hid.intro (show Below w.heap.size w (w.alloc (.cells #[.slice none 0 0, .int .i64 0] 29)) from (Below.refl _ _).alloc (Nat.le_refl _) _)
  have hN := Hid.intro (num_any h0.out (Nat.le_refl _) (by decide) 258 2 (by decide))
  rw [alive_w1.1, alive_w1.2] at hN
  have hT := Hid.intro (fun w' (g : OutO w' w.heap.size w.heap.size (some [2, 1])) => text_any g (Nat.le_refl _) (by decide) [97])
  rw [alive_w2.1, alive_w2.2] at hT
  have hD := Hid.intro (fun w' (g : OutO w' w.heap.size w.heap.size (some [2, 1, 1, 97])) => done_any g)
  have hF := Hid.intro (from_any [2, 1, 1, 97])
  have hR := Hid.intro (fun w' p base (g : InO w' p (some [2, 1, 1, 97])) (hp : base ≤ p) => inum_any g hp 2)
  rw [alive_n] at hR
  change Hid (∀ w', _ → Calls Try.prog 19 _ w' fun e w' => e = .returned (.tuple #[.string (str [2, 1, 1, 97]), .int .i64 0]) ∧ _) at hD
  go_enter Try.func9, Try.ntmps9
  go_wp2_with fail
  refine hN.out.mono ?_; rintro e w1 ⟨rfl, a, _, c⟩
  have hT' := Hid.intro (hT.out _ a)
  have c1 := Hid.intro (hb0.out.trans c)
  clear a c
  go_wp2_with fail
  refine hT'.out.mono ?_; rintro e w2 ⟨rfl, a, _, c⟩
  have hD' := Hid.intro (hD.out _ a)
  have c2 := Hid.intro (c1.out.trans c)
  clear a c c1
  go_wp2_with fail
  refine hD'.out.mono ?_; rintro e w3 ⟨rfl, c⟩
  have c3 := Hid.intro (c2.out.trans (c.mono c2.out.size))
  clear c c2
  go_wp2_with fail
  refine (hF.out _).mono ?_; rintro e w4 ⟨rfl, a, c, _⟩
  have hR' := Hid.intro (hR.out _ _ w.heap.size a c3.out.size)
  have c4 := Hid.intro (c3.out.trans (c.mono c3.out.size))
  clear a c c3
  go_wp2_with fail
  refine hR'.out.mono ?_; rintro e w5 ⟨rfl, _, _, c⟩
  have c5 := Hid.intro (c4.out.trans c)
  clear c c4
  go_wp2
  go_ret
  exact ⟨rfl, c5.out⟩
end Go.Proofs.Ytnboajhcjgcpfaa
