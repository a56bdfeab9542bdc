/-
  FilmParts, walked.
-/
import Derived.Test.YtbebgogjpajghaaFilmF
namespace Go.Proofs.Ytbebgogjpajghaa
open Go.ChangeShapes Go.WideShapes Go.ChangeAt Go.RowKit
attribute [local go_sem ↓] Go.wp_at_zero Go.wp_at_succ
attribute [local go_sem] str_size str_extract str_append str_toList

set_option maxRecDepth 100000 in
theorem parts_out (B at_ cut : Int) (T : List UInt8) (w : World) (h : B < 1 ∨ 64 < B ∨ 200 < (T.length : Int) ∨ at_ < 0 ∨ B * 8 - T.length < at_) :
    Calls Try.prog 4 #[.int .i64 B, .int .i64 at_, .string (str T), .int .i64 cut] w fun e w' => e = .returned (.bool true) ∧ Below w.heap.size w w' := by
  by_cases h1 : B < 1
  · clear h
    go_enter Try.func4, Try.ntmps4
    go_wp2_with fail
    refine (alive_any _).mono ?_; rintro e w1 ⟨rfl, hb⟩
    go_wp2
    go_ret
    exact ⟨rfl, hb⟩
  by_cases h2 : 64 < B
  · clear h
    go_enter Try.func4, Try.ntmps4
    go_wp2_with fail
    refine (alive_any _).mono ?_; rintro e w1 ⟨rfl, hb⟩
    go_wp2
    go_ret
    exact ⟨rfl, hb⟩
  by_cases h3 : 200 < (T.length : Int)
  · clear h
    go_enter Try.func4, Try.ntmps4
    go_wp2_with fail
    refine (alive_any _).mono ?_; rintro e w1 ⟨rfl, hb⟩
    go_wp2
    go_ret
    exact ⟨rfl, hb⟩
  by_cases h4 : at_ < 0
  · clear h
    go_enter Try.func4, Try.ntmps4
    go_wp2_with fail
    refine (alive_any _).mono ?_; rintro e w1 ⟨rfl, hb⟩
    go_wp2
    go_ret
    exact ⟨rfl, hb⟩
  have h5 : B * 8 - T.length < at_ := by omega
  clear h
  go_enter Try.func4, Try.ntmps4
  go_wp2_with fail
  refine (alive_any _).mono ?_; rintro e w1 ⟨rfl, hb⟩
  go_wp2
  go_ret
  exact ⟨rfl, hb⟩

theorem wrS_mid {S T : List UInt8} {a : Nat} (h : a + T.length ≤ S.length) : ((wrS S (a : Int) T).drop a).take T.length = T := by
  unfold wrS; rw [if_pos (by omega)]
  simp only [Int.toNat_natCast]
  rw [List.append_assoc, List.drop_left' (by simp; omega), List.take_left' rfl]
theorem allZ_rep (n : Nat) : allZ (List.replicate n 0) = true := by simp [allZ]
theorem wrS_lo {n a : Nat} {T : List UInt8} (h : a + T.length ≤ n) : allZ ((wrS (List.replicate n 0) (a : Int) T).take a) = true := by
  unfold wrS; rw [if_pos (by simp; omega)]
  simp only [Int.toNat_natCast]
  rw [List.append_assoc, List.take_left' (by simp; omega), List.take_replicate]
  exact allZ_rep _
theorem wrS_hi {n a : Nat} {T : List UInt8} (h : a + T.length ≤ n) : allZ ((wrS (List.replicate n 0) (a : Int) T).drop (a + T.length)) = true := by
  unfold wrS; rw [if_pos (by simp; omega)]
  simp only [Int.toNat_natCast]
  rw [List.drop_left' (by simp; omega), List.drop_replicate]
  exact allZ_rep _
theorem remK (cut : Int) (n : Nat) (h : n ≤ 200) : ∃ K : Nat, (wrap64 (wrap64 (cut.tmod ((n : Int) + 1) + (n : Int)) + 1)).tmod ((n : Int) + 1) = (K : Int) ∧ K ≤ n := by
  have a := Int.tmod_lt_of_pos cut (b := (n : Int) + 1) (by omega)
  have b := Int.lt_tmod_of_pos cut (b := (n : Int) + 1) (by omega)
  have e1 : wrap64 (cut.tmod ((n : Int) + 1) + (n : Int)) = cut.tmod ((n : Int) + 1) + (n : Int) := by unfold wrap64; omega
  rw [e1]
  have e2 : wrap64 (cut.tmod ((n : Int) + 1) + (n : Int) + 1) = cut.tmod ((n : Int) + 1) + (n : Int) + 1 := by unfold wrap64; omega
  rw [e2]
  have c := Int.tmod_nonneg ((n : Int) + 1) (a := cut.tmod ((n : Int) + 1) + (n : Int) + 1) (by omega)
  have d := Int.tmod_lt_of_pos (cut.tmod ((n : Int) + 1) + (n : Int) + 1) (b := (n : Int) + 1) (by omega)
  exact ⟨((cut.tmod ((n : Int) + 1) + (n : Int) + 1).tmod ((n : Int) + 1)).toNat, by omega, by omega⟩
theorem wrS_in {S T : List UInt8} {a : Nat} (h : a + T.length ≤ S.length) : wrS S (a : Int) T = S.take a ++ T ++ S.drop (a + T.length) := by
  unfold wrS; rw [if_pos (by omega)]; simp
theorem wrS_get {S T : List UInt8} {a : Nat} (h : a + T.length ≤ S.length) (j : Nat) : (wrS S (a : Int) T)[j]? = if j < a then S[j]? else if j < a + T.length then T[j - a]? else S[j]? := by
  rw [wrS_in h]
  by_cases c1 : j < a
  · rw [if_pos c1, List.append_assoc, List.getElem?_append_left (by simp; omega), List.getElem?_take_of_lt c1]
  · rw [if_neg c1]
    by_cases c2 : j < a + T.length
    · rw [if_pos c2, List.getElem?_append_left (by simp; omega), List.getElem?_append_right (by simp; omega)]
      congr 1; simp; omega
    · rw [if_neg c2, List.getElem?_append_right (by simp; omega), List.getElem?_drop]
      congr 1; simp; omega
theorem wrS_two {S T : List UInt8} {a K : Nat} (h : a + T.length ≤ S.length) (hK : K ≤ T.length) : wrS (wrS S ((a : Int) + (K : Int)) (T.drop K)) (a : Int) (T.take K) = wrS S (a : Int) T := by
  rw [← Int.natCast_add]
  apply List.ext_getElem?
  intro j
  have l1 : (T.take K).length = K := by simp; omega
  have l2 : (T.drop K).length = T.length - K := by simp
  rw [wrS_get (by rw [wrS_length]; omega), wrS_get (by omega), wrS_get h, l1, l2]
  by_cases c1 : j < a
  · simp [c1, show j < a + K by omega]
  · by_cases c2 : j < a + K
    · rw [if_neg c1, if_pos c2, if_neg c1, if_pos (by omega), List.getElem?_take_of_lt (by omega)]
    · rw [if_neg c1, if_neg c2, if_neg c2, if_neg c1]
      by_cases c3 : j < a + T.length
      · rw [if_pos (by omega), if_pos c3, List.getElem?_drop]; congr 1; omega
      · rw [if_neg (by omega), if_neg c3]

set_option maxRecDepth 100000 in
theorem parts_walk (B a : Nat) (cut : Int) (T : List UInt8) (w : World) (h1 : 1 ≤ B) (h2 : B ≤ 64) (h3 : T.length ≤ 200) (h4 : (a : Int) ≤ B * 8 - T.length) :
    Calls Try.prog 4 #[.int .i64 (B : Int), .int .i64 (a : Int), .string (str T), .int .i64 cut] w fun e w' => e = .returned (.bool true) ∧ Below w.heap.size w w' := by
  have q1 : ¬ (B : Int) < 1 := by omega
  have q2 : ¬ (64 : Int) < (B : Int) := by omega
  have q3 : ¬ (200 : Int) < (T.length : Int) := by omega
  have q4 : ¬ (a : Int) < 0 := by omega
  have q5 : ¬ ((B : Int) * 8 - T.length < (a : Int)) := by omega
  go_enter Try.func4, Try.ntmps4
  go_wp2_with fail
  refine (alive_any _).mono ?_; rintro e w1 ⟨rfl, hb⟩
  go_wp2_with fail
  refine (new_any B _ h1 h2).mono ?_; rintro e w2 ⟨rfl, hX, hb2⟩
  have hX' := Hid.intro hX
  have hlX := Hid.intro hX.lt
  clear hX
  have hz1 := hb.size
  have hB2 : Below w.heap.size w w2 := hb.trans (hb2.mono hb.size)
  clear hb hb2
  generalize hx1 : w1.heap.size = gx at *
  clear hx1
  generalize hx2 : gx + 1 = bx at *
  have hx2' := Hid.intro hx2
  clear hx2
  go_wp2_with fail
  refine (new_any B _ h1 h2).mono ?_; rintro e w3 ⟨rfl, hY, hb3⟩
  have hlY := hY.lt
  have hz2 := hB2.size
  have hX3 := Hid.intro (hX'.out.below hb3)
  have hB3 : Below w.heap.size w w3 := hB2.trans (hb3.mono hB2.size)
  clear hX' hB2 hb3
  obtain ⟨K, hK, hKn⟩ := remK cut T.length h3
  generalize hy1 : w2.heap.size = gy at *
  generalize hy2 : gy + 1 = byy at *
  have hne : Hid (bx ≠ byy ∧ bx ≠ gy ∧ gx ≠ byy ∧ gx ≠ gy ∧ w.heap.size ≤ gy) := Hid.intro (by have := hlX.out; omega)
  clear hlY hlX hx2' hy2 hz2 hy1
  have hY' := Hid.intro hY
  have hB3' := Hid.intro hB3
  clear hY hB3
  generalize hZ : List.replicate (B * 8) (0 : UInt8) = Z at *
  have hZl : Z.length = B * 8 := by rw [← hZ]; simp
  have hZ' := Hid.intro hZ
  have hZl' := Hid.intro hZl
  clear hZ hZl
  go_wp2_with fail
  refine (write_any (a : Int) T hX3.out hZl'.out h1 h2 (by omega)).mono ?_; rintro e w4 ⟨rfl, hX4, hb4⟩
  have hX4' := Hid.intro hX4
  have hY4 := Hid.intro (hY'.out.but hb4 (by have := hne.out; omega) (by have := hne.out; omega))
  have hB4 := Hid.intro (hB3'.out.trans (hb4.low hz1 hB3'.out.size))
  clear hX4 hb4 hX3 hY' hB3'
  rw [if_pos (by have := hZl'.out; omega)]
  go_wp2_with fail
  refine (write_any _ _ hY4.out hZl'.out h1 h2 (by omega)).mono ?_; rintro e w5 ⟨rfl, hY5, hb5⟩
  have hY5' := Hid.intro hY5
  have hX5 := Hid.intro (hX4'.out.but hb5 (by have := hne.out; omega) (by have := hne.out; omega))
  have hB5 := Hid.intro (hB4.out.trans (hb5.low hne.out.2.2.2.2 hB4.out.size))
  clear hY5 hb5 hX4' hY4 hB4
  rw [if_pos (by have := hZl'.out; simp; omega)]
  go_wp2_with fail
  refine (write_any _ _ hY5'.out ((wrS_length _ _ _).trans hZl'.out) h1 h2 (by omega)).mono ?_; rintro e w6 ⟨rfl, hY6, hb6⟩
  have hX6 := Hid.intro (hX5.out.but hb6 (by have := hne.out; omega) (by have := hne.out; omega))
  have hB6 := Hid.intro (hB5.out.trans (hb6.low hne.out.2.2.2.2 hB5.out.size))
  rw [if_pos (by have := hZl'.out; rw [wrS_length]; simp; omega)]
  rw [List.take_of_length_le (by simp), wrS_two (by have := hZl'.out; omega) hKn] at hY6
  have hY6' := Hid.intro hY6
  clear hb6 hX5 hY5' hB5 hY6
  have e0 : (wrS Z (a : Int) T).length = B * 8 := (wrS_length _ _ _).trans hZl'.out
  have e1 : ((wrS Z (a : Int) T).drop a).take T.length = T := wrS_mid (by have := hZl'.out; omega)
  have e2 : allZ ((wrS Z (a : Int) T).take a) = true := by rw [← hZ'.out]; exact wrS_lo (by omega)
  have e3 : allZ ((wrS Z (a : Int) T).drop (a + T.length)) = true := by rw [← hZ'.out]; exact wrS_hi (by omega)
  have e0' := Hid.intro e0
  have e1' := Hid.intro e1
  have e2' := Hid.intro e2
  have e3' := Hid.intro e3
  clear e0 e1 e2 e3 hZ' hZl'
  generalize wrS Z (a : Int) T = X at *
  go_wp2_with fail
  refine (fbytes_any hX6.out).mono ?_; rintro e w7 ⟨rfl, rfl⟩
  go_wp2_with fail
  refine (fbytes_any hY6'.out).mono ?_; rintro e w8 ⟨rfl, rfl⟩
  go_wp2_with fail
  refine (unlike_any (.inr ⟨_, _, B, rfl, hX6.out, e0'.out, h1, h2⟩) (.inr ⟨_, _, B, rfl, hY6'.out, e0'.out, h1, h2⟩)).mono ?_; rintro e w9 ⟨v, ps, rfl, hc, hin, ⟨base, hbs, hown⟩, hb9⟩
  obtain rfl : ps = [] := canon_ext hc trivial (fun k => by rw [hin]; exact ⟨fun h => absurd rfl h.2.2, fun h => absurd h (in_nil k)⟩)
  obtain ⟨av, cv, rfl⟩ := own_slice hown
  have hB9 := Hid.intro (hB6.out.trans (hb9.mono hB6.out.size))
  clear hc hin hown hb9 hbs hB6 hY6' hX6
  have x0 : (X.length : Int) = (B : Int) * 8 := by have := e0'.out; omega
  have e1 := e1'.out
  have x1 : X.length ≤ 512 := by have := e0'.out; omega
  go_wp2_with fail
  refine (zero_any _ _ (by simp; omega)).mono ?_; rintro e w10 ⟨rfl, rfl⟩
  rw [e2'.out]
  go_wp2_with fail
  refine (zero_any _ _ (by simp; omega)).mono ?_; rintro e w11 ⟨rfl, rfl⟩
  rw [List.take_of_length_le (by simp), e3'.out]
  go_wp2
  go_ret
  exact ⟨rfl, hB9.out⟩

theorem parts_any (B at_ cut : Int) (s : ByteArray) (w : World) :
    Calls Try.prog 4 #[.int .i64 B, .int .i64 at_, .string s, .int .i64 cut] w fun e w' => e = .returned (.bool true) ∧ Below w.heap.size w w' := by
  obtain ⟨T, rfl⟩ := str_ex s
  by_cases h : B < 1 ∨ 64 < B ∨ 200 < (T.length : Int) ∨ at_ < 0 ∨ B * 8 - T.length < at_
  · exact parts_out B at_ cut T w h
  · obtain ⟨b, rfl⟩ : ∃ b : Nat, B = b := ⟨B.toNat, by omega⟩
    obtain ⟨a, rfl⟩ : ∃ a : Nat, at_ = a := ⟨at_.toNat, by omega⟩
    exact parts_walk b a cut T w (by omega) (by omega) (by omega) (by omega)
end Go.Proofs.Ytbebgogjpajghaa
