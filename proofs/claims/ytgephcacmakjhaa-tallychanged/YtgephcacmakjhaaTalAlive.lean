/-
  The contract of emulsionlaw12's alive: it returns true; nothing that was there is written.
-/
import Derived.Test.YtgephcacmakjhaaTalOpen
namespace Go.Proofs.Ytgephcacmakjhaa
open Go.ChangeShapes Go.WideShapes Go.ChangeAt Go.RowKit
attribute [local go_sem] str_size str_extract str_append str_toList

theorem abc_eq : (⟨#[97, 98, 99]⟩ : ByteArray) = str [97, 98, 99] := rfl
theorem nil_eq : (⟨#[]⟩ : ByteArray) = str [] := rfl

set_option maxRecDepth 100000 in
theorem alive_any (w : World) : Calls Try.prog 8 #[] w fun e w' => e = .returned (.bool true) ∧ Below w.heap.size w w' := by
  have h0 := Hid.intro (fun w => of_any [] w (by decide))
  have h1 := Hid.intro (fun w => seal_any [97, 98, 99] w (by decide))
  have h2 := Hid.intro (fun w => open_yes [97, 98, 99] w (by decide))
  have h3 := Hid.intro (fun w => seal_any [] w (by decide))
  have hl := sld_length []
  rw [show ofN [] = 44257 from rfl] at h0
  generalize sld [97, 98, 99] = S at *
  generalize sld [] = E at *
  go_enter Try.func8, Try.ntmps8
  go_wp2_with fail
  refine (h1.out _).mono ?_; rintro e w1 ⟨rfl, hb1⟩
  go_wp2_with fail
  refine (h2.out _).mono ?_; rintro e w2 ⟨rfl, hb2⟩
  have hb2' := Hid.intro (hb1.trans (hb2.mono hb1.size))
  clear hb1 hb2
  go_wp2_with fail
  refine (h0.out _).mono ?_; rintro e w3 ⟨rfl, rfl⟩
  go_wp2_with fail
  refine (h3.out _).mono ?_; rintro e w4 ⟨rfl, hb4⟩
  have hb4' := Hid.intro (hb2'.out.trans (hb4.mono hb2'.out.size))
  clear hb4
  go_wp2
  go_ret
  exact ⟨rfl, hb4'.out⟩
end Go.Proofs.Ytgephcacmakjhaa
