/-
  The contracts of tally's Seal and Open, for every string: sealed bytes are the bytes and the four of their sum; opened they are the bytes, if the last four are those of the sum of the others.
-/
import Derived.Test.YtgephcacmakjhaaTalBytes
import Derived.Deep.RegionHeld3
namespace Go.Proofs.Ytgephcacmakjhaa
open Go.ChangeShapes Go.WideShapes Go.ChangeAt Go.RowKit
attribute [local go_sem] str_size str_extract str_append str_toList

theorem str_ne {S T : List UInt8} (h : ¬ S = T) : ((str S).toList == (str T).toList) = false := by
  rw [str_toList, str_toList]; exact beq_false_of_ne h
/-- Sealed bytes. -/
def sld (T : List UInt8) : List UInt8 := T ++ by4 (ofN T)
theorem sld_length (T : List UInt8) : (sld T).length = T.length + 4 := by rw [sld, List.length_append, by4_length]

set_option maxRecDepth 100000 in
theorem seal_any (T : List UInt8) (w : World) (hT : T.length ≤ 1000000) :
    Calls Try.prog 14 #[.string (str T)] w fun e w' => e = .returned (.string (str (sld T))) ∧ Below w.heap.size w w' := by
  unfold sld
  have h1 := Hid.intro (fun w => of_any T w hT)
  have h2 := Hid.intro (bytesOf_any (ofN T))
  have hZ := by4_length (ofN T)
  generalize hz : by4 (ofN T) = Z at *
  have hz' := Hid.intro hz
  clear hz
  generalize ofN T = z at *
  have i1 : ¬ 9223372036854775807 < T.length + Z.length := by omega
  go_enter Try.func14, Try.ntmps14
  go_wp2_with fail
  refine (h1.out _).mono ?_; rintro e w1 ⟨rfl, rfl⟩
  go_wp2_with fail
  refine (h2.out _).mono ?_; rintro e w1 ⟨rfl, hb⟩
  have hb' := Hid.intro hb
  go_wp2
  go_ret
  exact ⟨rfl, hb'.out⟩

theorem open_short (T : List UInt8) (w : World) (hT : T.length < 4) :
    Calls Try.prog 9 #[.string (str T)] w fun e w' => e = .returned (.tuple #[.string ByteArray.empty, .int .i64 8]) ∧ w' = w := by
  have i1 : (T.length : Int) < 4 := by omega
  have i2 : (T.length : Int) - 4 < 0 := by omega
  have i3 : decide ((T.length : Int) - 4 < 0) = true := decide_eq_true i2
  go_enter Try.func9, Try.ntmps9
  go_wp2
  go_ret2
  exact ⟨rfl, rfl⟩

set_option maxRecDepth 100000 in
theorem open_no (A B : List UInt8) (w : World) (hT : A.length ≤ 1000000) (hB : B.length = 4) (hn : B ≠ by4 (ofN A)) :
    Calls Try.prog 9 #[.string (str (A ++ B))] w fun e w' => e = .returned (.tuple #[.string ByteArray.empty, .int .i64 6]) ∧ Below w.heap.size w w' := by
  have h1 := Hid.intro (fun w => of_any A w hT)
  have h2 := Hid.intro (bytesOf_any (ofN A))
  have hl : (A ++ B).length = A.length + 4 := by rw [List.length_append, hB]
  have hd : (A ++ B).drop A.length = B := List.drop_left
  have ht : (A ++ B).take A.length = A := List.take_left
  have hb4 : B.take 4 = B := List.take_of_length_le (by omega)
  have hne : (B == by4 (ofN A)) = false := beq_false_of_ne hn
  generalize by4 (ofN A) = Z at *
  generalize ofN A = z at *
  clear hn
  generalize A ++ B = T at *
  have n0 : (0 : Int) ≤ (A.length : Int) := Int.natCast_nonneg _
  generalize A.length = n at *
  have n1 : (n : Int) ≤ (n : Int) + 4 := by omega
  go_enter Try.func9, Try.ntmps9
  go_wp2_with fail
  go_region_held3 (fun w' => Below w.heap.size w w')
    (first
      | exact (Below.refl _ _).drew
      | assumption)
    (first
      | (go_at_call 12; refine (h1.out _).mono ?_; rintro e w1 ⟨rfl, rfl⟩)
      | (go_at_call 15; refine (h2.out _).mono ?_; rintro e w2 ⟨rfl, hb⟩; have hB9 : Below w.heap.size w w2 := Below.trans (by assumption) (hb.mono (Below.size (by assumption)))))
  all_goals
    go_wp2
    go_ret2
    exact ⟨rfl, hB9⟩

set_option maxRecDepth 100000 in
theorem open_yes (A : List UInt8) (w : World) (hT : A.length ≤ 1000000) :
    Calls Try.prog 9 #[.string (str (sld A))] w fun e w' => e = .returned (.tuple #[.string (str A), .int .i64 0]) ∧ Below w.heap.size w w' := by
  unfold sld
  have h1 := Hid.intro (fun w => of_any A w hT)
  have h2 := Hid.intro (bytesOf_any (ofN A))
  have hB := by4_length (ofN A)
  have hl : (A ++ by4 (ofN A)).length = A.length + 4 := by rw [List.length_append, hB]
  have hd : (A ++ by4 (ofN A)).drop A.length = by4 (ofN A) := List.drop_left
  have ht : (A ++ by4 (ofN A)).take A.length = A := List.take_left
  have hb4 : (by4 (ofN A)).take 4 = by4 (ofN A) := List.take_of_length_le (by omega)
  have hne : (by4 (ofN A) == by4 (ofN A)) = true := BEq.rfl
  generalize A ++ by4 (ofN A) = T at *
  generalize by4 (ofN A) = Z at *
  generalize ofN A = z at *
  have n0 : (0 : Int) ≤ (A.length : Int) := Int.natCast_nonneg _
  generalize A.length = n at *
  have n1 : (n : Int) ≤ (n : Int) + 4 := by omega
  go_enter Try.func9, Try.ntmps9
  go_wp2_with fail
  go_region_held3 (fun w' => Below w.heap.size w w')
    (first
      | exact (Below.refl _ _).drew
      | assumption)
    (first
      | (go_at_call 12; refine (h1.out _).mono ?_; rintro e w1 ⟨rfl, rfl⟩)
      | (go_at_call 15; refine (h2.out _).mono ?_; rintro e w2 ⟨rfl, hb⟩; have hB9 : Below w.heap.size w w2 := Below.trans (by assumption) (hb.mono (Below.size (by assumption)))))
  all_goals
    go_wp2
    go_ret2
    exact ⟨rfl, hB9⟩
end Go.Proofs.Ytgephcacmakjhaa
