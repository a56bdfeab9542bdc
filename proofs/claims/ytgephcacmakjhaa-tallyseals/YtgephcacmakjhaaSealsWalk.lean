/-
  The walk of TallySeals, for every input: it returns true; nothing that was there is written.
-/
import Derived.Test.YtgephcacmakjhaaTalAlive
import Derived.Lib.MinMax
namespace Go.Proofs.Ytgephcacmakjhaa
open Go.ChangeShapes Go.WideShapes Go.ChangeAt Go.RowKit
attribute [local go_sem] str_size str_extract str_append str_toList

theorem four_in (k : Int) : ∃ j : Nat, (k.tmod 4 + 4).tmod 4 = (j : Int) ∧ j ≤ 3 := by
  have h1 := Int.lt_tmod_of_pos k (show (0 : Int) < 4 by decide)
  have h3 : (k.tmod 4 + 4).tmod 4 < 4 := Int.tmod_lt_of_pos _ (by decide)
  have h2 : 0 ≤ (k.tmod 4 + 4).tmod 4 := Int.tmod_nonneg _ (by omega)
  exact ⟨((k.tmod 4 + 4).tmod 4).toNat, by omega, by omega⟩

set_option maxHeartbeats 4000000 in
set_option maxRecDepth 100000 in
theorem seals_any (S : List UInt8) (k : Int) (w : World) :
    Calls Try.prog 6 #[.string (str S), .int .i64 k] w fun e w' => e = .returned (.bool true) ∧ Below w.heap.size w w' := by
  by_cases h1 : 2000 < S.length
  · have i1 : (2000 : Int) < (S.length : Int) := by omega
    go_enter Try.func6, Try.ntmps6
    go_wp2_with fail
    refine (alive_any _).mono ?_; rintro e w1 ⟨rfl, hb1⟩
    have hb1' := Hid.intro hb1
    go_wp2
    go_ret
    exact ⟨rfl, hb1'.out⟩
  have i1 : ¬ (2000 : Int) < (S.length : Int) := by omega
  have lA := sld_length S
  have hs := Hid.intro (fun w => seal_any S w (by omega))
  have hs2 := Hid.intro (fun w => seal_any (sld S) w (by omega))
  have ho1 := Hid.intro (fun w => open_yes (sld S) w (by omega))
  have ho2 := Hid.intro (fun w => open_yes S w (by omega))
  have hpre : (sld S).take S.length = S := by rw [sld]; exact List.take_left
  have lB := sld_length (sld S)
  generalize sld (sld S) = B at *
  generalize sld S = A at *
  obtain ⟨j, hj, hj3⟩ := four_in k
  have t1 := Int.lt_tmod_of_pos k (show (0 : Int) < 4 by decide)
  have t2 := Int.tmod_lt_of_pos k (show (0 : Int) < 4 by decide)
  generalize hA : k.tmod 4 = q at *
  have hsh := Hid.intro (fun w => open_short ([97, 98, 99].take j) w (by rw [List.length_take]; simp; omega))
  rw [← show ({ data := #[97, 98, 99] } : ByteArray).extract 0 j = str ([97, 98, 99].take j) from str_extract [97, 98, 99] 0 j] at hsh
  have j0 : (0 : Int) ≤ (j : Int) := Int.natCast_nonneg _
  have j3 : (j : Int) ≤ 3 := by omega
  have jm : min (j : Int) 3 = (j : Int) := by omega
  have wq : IntKind.i64.wrap (q + 4) = q + 4 := by rw [IntKind.wrap_i64]; omega
  go_enter Try.func6, Try.ntmps6
  go_wp2_with fail
  refine (alive_any _).mono ?_; rintro e w1 ⟨rfl, hb1⟩
  go_wp2_with fail
  refine (hs.out _).mono ?_; rintro e w2 ⟨rfl, hb2⟩
  have hb := hb1.trans (hb2.mono hb1.size)
  clear hb1 hb2
  go_wp2_with fail
  refine (hs2.out _).mono ?_; rintro e w3 ⟨rfl, hb3⟩
  have hb' := hb.trans (hb3.mono hb.size)
  clear hb hb3
  go_wp2_with fail
  refine (ho1.out _).mono ?_; rintro e w4 ⟨rfl, hb4⟩
  have hb := hb'.trans (hb4.mono hb'.size)
  clear hb' hb4
  go_wp2_with fail
  refine (ho2.out _).mono ?_; rintro e w5 ⟨rfl, hb5⟩
  have hb' := Hid.intro (hb.trans (hb5.mono hb.size))
  clear hb hb5
  go_wp2_with fail
  refine (hsh.out _).mono ?_; rintro e w6 ⟨rfl, rfl⟩
  generalize ({ data := #[97, 98, 99] } : ByteArray).extract 0 j = X at *
  have n0 : (0 : Int) ≤ (S.length : Int) := Int.natCast_nonneg _
  have n1 : (S.length : Int) ≤ (S.length : Int) + 4 := by omega
  go_wp2
  go_ret
  exact ⟨rfl, hb'.out⟩
end Go.Proofs.Ytgephcacmakjhaa
