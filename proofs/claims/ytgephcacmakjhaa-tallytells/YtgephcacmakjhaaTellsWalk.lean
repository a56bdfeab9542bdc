/-
  The walk of TallyTells, for every input: it returns true; nothing that was there is written.
-/
import Derived.Test.YtgephcacmakjhaaTalAlive
namespace Go.Proofs.Ytgephcacmakjhaa
open Go.ChangeShapes Go.WideShapes Go.ChangeAt Go.RowKit
attribute [local go_sem] str_size str_extract str_append str_toList

set_option maxRecDepth 100000 in
theorem tells_great (S T : List UInt8) (w : World) (h1 : 3000 < S.length ∨ 3000 < T.length) :
    Calls Try.prog 3 #[.string (str S), .string (str T)] w fun e w' => e = .returned (.bool true) ∧ Below w.heap.size w w' := by
  by_cases g : 3000 < S.length
  · have i1 : (3000 : Int) < (S.length : Int) := by omega
    go_enter Try.func3, Try.ntmps3
    go_wp2_with fail
    refine (alive_any _).mono ?_; rintro e w1 ⟨rfl, hb1⟩
    have hb1' := Hid.intro hb1
    go_wp2
    go_ret
    exact ⟨rfl, hb1'.out⟩
  · have i1 : ¬ (3000 : Int) < (S.length : Int) := by omega
    have i2 : (3000 : Int) < (T.length : Int) := by omega
    go_enter Try.func3, Try.ntmps3
    go_wp2_with fail
    refine (alive_any _).mono ?_; rintro e w1 ⟨rfl, hb1⟩
    have hb1' := Hid.intro hb1
    go_wp2
    go_ret
    exact ⟨rfl, hb1'.out⟩

set_option maxHeartbeats 4000000 in
set_option maxRecDepth 100000 in
theorem tells_short (S T : List UInt8) (w : World) (hS : S.length ≤ 3000) (hT : T.length < 4) :
    Calls Try.prog 3 #[.string (str S), .string (str T)] w fun e w' => e = .returned (.bool true) ∧ Below w.heap.size w w' := by
  have i1 : ¬ (3000 : Int) < (S.length : Int) := by omega
  have o1 := Hid.intro (fun w => of_any S w (by omega))
  have r1 := Hid.intro (fun w => rof_any S w (by omega))
  have a1 := Hid.intro (fun w => add_any (ofN S) T w (ofN_lt _) (by omega))
  rw [ofN_append] at a1
  have r2 := Hid.intro (fun w => rof_any (S ++ T) w (by rw [List.length_append]; omega))
  have s1 := Hid.intro (fun w => seal_any S w (by omega))
  unfold sld at s1
  have m1 := Hid.intro (fun w => num_any (ofN S) w (ofN_lt _))
  have b1 := ofN_lt S
  have l4 := by4_length (ofN S)
  have x1 : ¬ 9223372036854775807 < S.length + T.length := by omega
  have x2 : ¬ 9223372036854775807 < S.length + (by4 (ofN S)).length := by omega
  have i2 : ¬ (3000 : Int) < (T.length : Int) := by omega
  have i3 : ¬ (0 : Int) ≤ (T.length : Int) - 4 := by omega
  have ho := Hid.intro (fun w => open_short T w hT)
  generalize by4 (ofN S) = Z at *
  generalize ofN S = zS at *
  generalize ofN (S ++ T) = zST at *
  have b2 : IntKind.i64.wrap (zS : Int) = (zS : Int) := by rw [IntKind.wrap_i64]; omega
  go_enter Try.func3, Try.ntmps3
  go_wp2_with fail
  refine (alive_any _).mono ?_; rintro e w1 ⟨rfl, hb1⟩
  have hb1' := Hid.intro hb1
  go_wp2_with fail
  refine (ho.out _).mono ?_; rintro e w2 ⟨rfl, rfl⟩
  go_wp2_with fail
  refine (o1.out _).mono ?_; rintro e w3 ⟨rfl, rfl⟩
  go_wp2_with fail
  refine (r1.out _).mono ?_; rintro e w4 ⟨rfl, rfl⟩
  go_wp2_with fail
  refine (o1.out _).mono ?_; rintro e w5 ⟨rfl, rfl⟩
  go_wp2_with fail
  refine (a1.out _).mono ?_; rintro e w6 ⟨rfl, rfl⟩
  go_wp2_with fail
  refine (r2.out _).mono ?_; rintro e w7 ⟨rfl, rfl⟩
  go_wp2_with fail
  refine (s1.out _).mono ?_; rintro e w8 ⟨rfl, hb8⟩
  have hb8' := hb1'.out.trans (hb8.mono hb1'.out.size)
  clear hb8
  go_wp2_with fail
  refine (r1.out _).mono ?_; rintro e w9 ⟨rfl, rfl⟩
  go_wp2_with fail
  refine (m1.out _).mono ?_; rintro e w10 ⟨rfl, hb10⟩
  have hbx := Hid.intro (hb8'.trans (hb10.mono hb8'.size))
  clear hb10 hb8'
  go_wp2
  go_ret
  exact ⟨rfl, hbx.out⟩

set_option maxHeartbeats 4000000 in
set_option maxRecDepth 100000 in
theorem tells_yes (S A : List UInt8) (w : World) (hS : S.length ≤ 3000) (hT : (sld A).length ≤ 3000) :
    Calls Try.prog 3 #[.string (str S), .string (str (sld A))] w fun e w' => e = .returned (.bool true) ∧ Below w.heap.size w w' := by
  have lA := sld_length A
  have hd : (sld A).drop A.length = by4 (ofN A) := List.drop_left
  have ht : (sld A).take A.length = A := List.take_left
  have ho := Hid.intro (fun w => open_yes A w (by omega))
  have rA := Hid.intro (fun w => rof_any A w (by omega))
  have mA := Hid.intro (fun w => num_any (ofN A) w (ofN_lt _))
  have c1 := ofN_lt A
  have hb4 : (by4 (ofN A)).take 4 = by4 (ofN A) := rfl
  have heq : (by4 (ofN A) == by4 (ofN A)) = true := BEq.rfl
  generalize sld A = T at *
  have i1 : ¬ (3000 : Int) < (S.length : Int) := by omega
  have o1 := Hid.intro (fun w => of_any S w (by omega))
  have r1 := Hid.intro (fun w => rof_any S w (by omega))
  have a1 := Hid.intro (fun w => add_any (ofN S) T w (ofN_lt _) (by omega))
  rw [ofN_append] at a1
  have r2 := Hid.intro (fun w => rof_any (S ++ T) w (by rw [List.length_append]; omega))
  have s1 := Hid.intro (fun w => seal_any S w (by omega))
  unfold sld at s1
  have m1 := Hid.intro (fun w => num_any (ofN S) w (ofN_lt _))
  have b1 := ofN_lt S
  have l4 := by4_length (ofN S)
  have x1 : ¬ 9223372036854775807 < S.length + T.length := by omega
  have x2 : ¬ 9223372036854775807 < S.length + (by4 (ofN S)).length := by omega
  generalize by4 (ofN A) = Y at *
  generalize ofN A = zA at *
  generalize by4 (ofN S) = Z at *
  generalize ofN S = zS at *
  generalize ofN (S ++ T) = zST at *
  have b2 : IntKind.i64.wrap (zS : Int) = (zS : Int) := by rw [IntKind.wrap_i64]; omega
  have c2 : IntKind.i64.wrap (zA : Int) = (zA : Int) := by rw [IntKind.wrap_i64]; omega
  have n0 : (0 : Int) ≤ (A.length : Int) := Int.natCast_nonneg _
  have i2 : ¬ (3000 : Int) < (A.length : Int) + 4 := by omega
  have n1 : (A.length : Int) ≤ (A.length : Int) + 4 := by omega
  generalize A.length = n at *
  go_enter Try.func3, Try.ntmps3
  go_wp2_with fail
  refine (alive_any _).mono ?_; rintro e w1 ⟨rfl, hb1⟩
  go_wp2_with fail
  refine (ho.out _).mono ?_; rintro e w2 ⟨rfl, hb2⟩
  have hb := hb1.trans (hb2.mono hb1.size)
  clear hb1 hb2
  go_wp2_with fail
  go_region_held3 (fun w' => Below w.heap.size w w')
    (first
      | exact (Below.drew hb)
      | assumption)
    (first
      | (go_at_call 11; refine (rA.out _).mono ?_; rintro e w1 ⟨rfl, rfl⟩)
      | (go_at_call 10; refine (mA.out _).mono ?_; rintro e w2 ⟨rfl, hb9⟩; have hB9 : Below w.heap.size w w2 := Below.trans (by assumption) (hb9.mono (Below.size (by assumption)))))
  all_goals
    have hB9' := Hid.intro hB9
    clear hb9
    go_wp2_with fail
    refine (o1.out _).mono ?_; rintro e w3 ⟨rfl, rfl⟩
    go_wp2_with fail
    refine (r1.out _).mono ?_; rintro e w4 ⟨rfl, rfl⟩
    go_wp2_with fail
    refine (o1.out _).mono ?_; rintro e w5 ⟨rfl, rfl⟩
    go_wp2_with fail
    refine (a1.out _).mono ?_; rintro e w6 ⟨rfl, rfl⟩
    go_wp2_with fail
    refine (r2.out _).mono ?_; rintro e w7 ⟨rfl, rfl⟩
    go_wp2_with fail
    refine (s1.out _).mono ?_; rintro e w8 ⟨rfl, hb8⟩
    have hb8' := hB9'.out.trans (hb8.mono hB9'.out.size)
    clear hb8
    go_wp2_with fail
    refine (r1.out _).mono ?_; rintro e w9 ⟨rfl, rfl⟩
    go_wp2_with fail
    refine (m1.out _).mono ?_; rintro e w10 ⟨rfl, hb10⟩
    have hbx := Hid.intro (hb8'.trans (hb10.mono hb8'.size))
    clear hb10 hb8'
    go_wp2
    go_ret
    exact ⟨rfl, hbx.out⟩

set_option maxHeartbeats 4000000 in
set_option maxRecDepth 100000 in
theorem tells_no (S A B : List UInt8) (w : World) (hS : S.length ≤ 3000) (hT : (A ++ B).length ≤ 3000) (hB : B.length = 4) (hn : B ≠ by4 (ofN A)) :
    Calls Try.prog 3 #[.string (str S), .string (str (A ++ B))] w fun e w' => e = .returned (.bool true) ∧ Below w.heap.size w w' := by
  have lA : (A ++ B).length = A.length + 4 := by rw [List.length_append, hB]
  have hd : (A ++ B).drop A.length = B := List.drop_left
  have ht : (A ++ B).take A.length = A := List.take_left
  have ho := Hid.intro (fun w => open_no A B w (by omega) hB hn)
  have rA := Hid.intro (fun w => rof_any A w (by omega))
  have mA := Hid.intro (fun w => num_any (ofN A) w (ofN_lt _))
  have c1 := ofN_lt A
  have hb4 : B.take 4 = B := List.take_of_length_le (by omega)
  have heq : (B == by4 (ofN A)) = false := beq_false_of_ne hn
  clear hn
  generalize A ++ B = T at *
  have i1 : ¬ (3000 : Int) < (S.length : Int) := by omega
  have o1 := Hid.intro (fun w => of_any S w (by omega))
  have r1 := Hid.intro (fun w => rof_any S w (by omega))
  have a1 := Hid.intro (fun w => add_any (ofN S) T w (ofN_lt _) (by omega))
  rw [ofN_append] at a1
  have r2 := Hid.intro (fun w => rof_any (S ++ T) w (by rw [List.length_append]; omega))
  have s1 := Hid.intro (fun w => seal_any S w (by omega))
  unfold sld at s1
  have m1 := Hid.intro (fun w => num_any (ofN S) w (ofN_lt _))
  have b1 := ofN_lt S
  have l4 := by4_length (ofN S)
  have x1 : ¬ 9223372036854775807 < S.length + T.length := by omega
  have x2 : ¬ 9223372036854775807 < S.length + (by4 (ofN S)).length := by omega
  generalize by4 (ofN A) = Y at *
  generalize ofN A = zA at *
  generalize by4 (ofN S) = Z at *
  generalize ofN S = zS at *
  generalize ofN (S ++ T) = zST at *
  have b2 : IntKind.i64.wrap (zS : Int) = (zS : Int) := by rw [IntKind.wrap_i64]; omega
  have c2 : IntKind.i64.wrap (zA : Int) = (zA : Int) := by rw [IntKind.wrap_i64]; omega
  have n0 : (0 : Int) ≤ (A.length : Int) := Int.natCast_nonneg _
  have i2 : ¬ (3000 : Int) < (A.length : Int) + 4 := by omega
  have n1 : (A.length : Int) ≤ (A.length : Int) + 4 := by omega
  generalize A.length = n at *
  go_enter Try.func3, Try.ntmps3
  go_wp2_with fail
  refine (alive_any _).mono ?_; rintro e w1 ⟨rfl, hb1⟩
  go_wp2_with fail
  refine (ho.out _).mono ?_; rintro e w2 ⟨rfl, hb2⟩
  have hb := hb1.trans (hb2.mono hb1.size)
  clear hb1 hb2
  go_wp2_with fail
  go_region_held3 (fun w' => Below w.heap.size w w')
    (first
      | exact (Below.drew hb)
      | assumption)
    (first
      | (go_at_call 11; refine (rA.out _).mono ?_; rintro e w1 ⟨rfl, rfl⟩)
      | (go_at_call 10; refine (mA.out _).mono ?_; rintro e w2 ⟨rfl, hb9⟩; have hB9 : Below w.heap.size w w2 := Below.trans (by assumption) (hb9.mono (Below.size (by assumption)))))
  all_goals
    have hB9' := Hid.intro hB9
    clear hb9
    go_wp2_with fail
    refine (o1.out _).mono ?_; rintro e w3 ⟨rfl, rfl⟩
    go_wp2_with fail
    refine (r1.out _).mono ?_; rintro e w4 ⟨rfl, rfl⟩
    go_wp2_with fail
    refine (o1.out _).mono ?_; rintro e w5 ⟨rfl, rfl⟩
    go_wp2_with fail
    refine (a1.out _).mono ?_; rintro e w6 ⟨rfl, rfl⟩
    go_wp2_with fail
    refine (r2.out _).mono ?_; rintro e w7 ⟨rfl, rfl⟩
    go_wp2_with fail
    refine (s1.out _).mono ?_; rintro e w8 ⟨rfl, hb8⟩
    have hb8' := hB9'.out.trans (hb8.mono hB9'.out.size)
    clear hb8
    go_wp2_with fail
    refine (r1.out _).mono ?_; rintro e w9 ⟨rfl, rfl⟩
    go_wp2_with fail
    refine (m1.out _).mono ?_; rintro e w10 ⟨rfl, hb10⟩
    have hbx := Hid.intro (hb8'.trans (hb10.mono hb8'.size))
    clear hb10 hb8'
    go_wp2
    go_ret
    exact ⟨rfl, hbx.out⟩

theorem tells_any (S T : List UInt8) (w : World) :
    Calls Try.prog 3 #[.string (str S), .string (str T)] w fun e w' => e = .returned (.bool true) ∧ Below w.heap.size w w' := by
  by_cases h1 : 3000 < S.length ∨ 3000 < T.length
  · exact tells_great S T w h1
  have hS : S.length ≤ 3000 := by omega
  have hT : T.length ≤ 3000 := by omega
  by_cases h4 : T.length < 4
  · exact tells_short S T w hS h4
  have e : T = T.take (T.length - 4) ++ T.drop (T.length - 4) := (List.take_append_drop _ _).symm
  have hl : (T.drop (T.length - 4)).length = 4 := by rw [List.length_drop]; omega
  generalize T.take (T.length - 4) = A at *
  generalize T.drop (T.length - 4) = B at *
  subst e
  by_cases hb : B = by4 (ofN A)
  · subst hb; exact tells_yes S A w hS hT
  · exact tells_no S A B w hS hT hl hb
end Go.Proofs.Ytgephcacmakjhaa
