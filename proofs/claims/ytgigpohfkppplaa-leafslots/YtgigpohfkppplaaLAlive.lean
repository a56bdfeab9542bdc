/-
  The contract of emulsionlaw15's alive: it returns true; nothing that was there is written.
-/
import Derived.Test.YtgigpohfkppplaaLParts
namespace Go.Proofs.Ytgigpohfkppplaa
open Go.ChangeShapes Go.WideShapes Go.ChangeAt Go.RowKit
attribute [local go_sem] str_size str_extract str_append str_toList

theorem abc_eq : str [97, 98, 99] = (⟨#[97, 98, 99]⟩ : ByteArray) := rfl
theorem rd_lay {T : List UInt8} (h : T.length ≤ 27) : rdS (layL T) = T ∧ rdE (layL T) = 0 := by
  have hI := isp_lay h
  refine ⟨by rw [rdS, if_pos hI, tk_lay h], ?_⟩
  unfold rdE; rw [if_neg (by rw [layL_length h]; decide), if_pos hI]
set_option maxRecDepth 100000 in
theorem alive_any (w : World) : Calls Try.prog 9 #[] w fun e w' => e = .returned (.bool true) ∧ Below w.heap.size w w' := by
  have h1 := Hid.intro (fun w => lay_some [97, 98, 99] w (by decide))
  have h2 := Hid.intro (fun w => read_any (layL [97, 98, 99]) w)
  obtain ⟨r1, r2⟩ := rd_lay (T := [97, 98, 99]) (by decide)
  rw [r1, r2, abc_eq] at h2
  have hl := layL_length (T := [97, 98, 99]) (by decide)
  have h3 := Hid.intro (fun w => need_any 28 w (by decide) (by decide))
  rw [show ned 28 = 2 by decide] at h3
  have h4 := Hid.intro (fun w => parts_any [97, 98, 99] w (by decide))
  rw [show need [(97 : UInt8), 98, 99].length = 1 by decide] at h4
  clear r1 r2
  generalize layL [97, 98, 99] = L at *
  go_enter Try.func9, Try.ntmps9
  go_wp2_with fail
  refine (h1.out _).mono ?_; rintro e w1 ⟨rfl, hb1⟩
  have hb1' := Hid.intro hb1
  clear hb1
  go_wp2_with fail
  refine (h2.out _).mono ?_; rintro e w2 ⟨rfl, hb2⟩
  have hb2' := Hid.intro (hb1'.out.trans (hb2.mono hb1'.out.size))
  clear hb2
  go_wp2_with fail
  refine (h3.out _).mono ?_; rintro e w3 ⟨rfl, hw3⟩
  obtain rfl : w2 = w3 := hw3.symm
  clear hw3
  go_wp2_with fail
  refine (h4.out _).mono ?_; rintro e w4 ⟨v, rfl, hv, hb4⟩
  obtain ⟨a, c, rfl⟩ := own_form5 hv
  have hb4' := Hid.intro (hb2'.out.trans (hb4.mono hb2'.out.size))
  clear hb4 hv
  go_wp2
  go_ret
  exact ⟨rfl, hb4'.out⟩
end Go.Proofs.Ytgigpohfkppplaa
