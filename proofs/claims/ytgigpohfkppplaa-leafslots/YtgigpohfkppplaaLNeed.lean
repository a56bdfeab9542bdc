/-
  The contracts of the small calls: Need and the document's Need, Zeros, page, Leaf, Unleaf.
-/
import Derived.Test.YtgigpohfkppplaaLTal
import Derived.Test.YtgigpohfkppplaaLPage
namespace Go.Proofs.Ytgigpohfkppplaa
open Go.ChangeShapes Go.WideShapes Go.ChangeAt Go.RowKit
attribute [local go_sem] str_size str_extract str_append str_toList

/-- Need, of all integers. -/
def ned (n : Int) : Int := if n < 1 then 0 else (n - 1) / 27 + 1
theorem ned_nat (n : Nat) : ned (n : Int) = (need n : Int) := by
  unfold ned need; split <;> omega
theorem need_any (n : Int) (w : World) (h : n ≤ 9223372036854775807) (h2 : -9223372036854775808 ≤ n) :
    Calls Try.prog 16 #[.int .i64 n] w fun e w' => e = .returned (.int .i64 (ned n)) ∧ w' = w := by
  by_cases c : n < 1
  · go_enter Try.func16, Try.ntmps16
    go_wp2
    go_ret
    exact ⟨by simp [ned, c], rfl⟩
  · go_enter Try.func16, Try.ntmps16
    go_wp2
    go_ret
    exact ⟨by simp [ned]; omega, rfl⟩
theorem rneed_any (n : Int) (w : World) (h : n ≤ 1099511627776) (h2 : 1 ≤ n) :
    Calls Try.prog 15 #[.int .i64 n] w fun e w' => e = .returned (.int .i64 (ned n)) ∧ w' = w := by
  have e : (n + 26) / 27 = (n - 1) / 27 + 1 := by omega
  go_enter Try.func15, Try.ntmps15
  go_wp2
  go_ret
  exact ⟨by simp [ned]; omega, rfl⟩

theorem nums_zer (n : Nat) : strOfNums (List.replicate n (0 : Int)) = str (zer n) := by
  rw [← nums_str, zer, List.map_replicate]; rfl
theorem zeros_any (n : Nat) (w : World) (hn : n ≤ 1000) :
    Calls Try.prog 64 #[.int .i64 (n : Int)] w fun e w' => e = .returned (.string (str (zer n))) ∧ Below w.heap.size w w' := by
  obtain ⟨w1, hmk, hbs, hbl, hsz⟩ := make_bytes w n hn
  have hcv := run_convert_bytes_arg (P := Try.prog) w1 54 5 Try.underlying54 Try.underlying5 w.heap.size 0 n n (List.replicate n 0) (List.length_replicate) (fun j hj => by rw [Nat.zero_add, (hbs j hj).1]; simp [List.getD, hj]) 9 Try.underlying9
  rw [nums_zer] at hcv
  have hbl' := Hid.intro hbl
  clear hbs hbl hsz
  generalize hz : zer n = Z at *
  have hz' := Hid.intro hz
  clear hz
  go_enter Try.func64, Try.ntmps64
  go_wp2
  go_ret
  exact ⟨rfl, hbl'.out⟩

theorem by4_num (t : Nat) : by4 t = num t 4 := by
  simp [by4, num, Nat.div_div_eq_div_mul]
theorem page_any (B : List UInt8) (w : World) (hB : B.length ≤ 28) :
    Calls Try.prog 27 #[.string (str B)] w fun e w' => e = .returned (.string (str (pgL B))) ∧ Below w.heap.size w w' := by
  have h1 := Hid.intro (fun w => zeros_any (28 - B.length) w (by omega))
  have h2 := Hid.intro (fun w => rof_any (pad B) w (by rw [pad_length hB]; omega))
  have h3 := Hid.intro (fun w => rnum_any (ofN (pad B)) 4 w (ofN_lt _) (by omega))
  have e1 : ((28 - B.length : Nat) : Int) = 28 - (B.length : Int) := by omega
  rw [e1] at h1
  have hl := pad_length hB
  have hz := zer_length (28 - B.length)
  have hnl := num_length 4 (ofN (pad B))
  have hr : Hid (pgL B = pad B ++ num (ofN (pad B)) 4) := by rw [← by4_num]; exact rfl
  have hp : B ++ zer (28 - B.length) = pad B := rfl
  rw [hr.out]
  generalize zer (28 - B.length) = Z at *
  have hnb := ofN_lt (pad B)
  generalize num (ofN (pad B)) 4 = Y at *
  generalize ofN (pad B) = t at *
  generalize pad B = X at *
  go_enter Try.func27, Try.ntmps27
  go_wp2_with fail
  refine (h1.out _).mono ?_; rintro e w1 ⟨rfl, hb1⟩
  have hb1' := Hid.intro hb1
  clear hb1
  go_wp2_with fail
  refine (h2.out _).mono ?_; rintro e w2 ⟨rfl, rfl⟩
  go_wp2_with fail
  refine (h3.out _).mono ?_; rintro e w3 ⟨rfl, hb3⟩
  have hb3' := Hid.intro (hb1'.out.trans (hb3.mono hb1'.out.size))
  clear hb3
  go_wp2
  go_ret
  exact ⟨rfl, hb3'.out⟩
theorem num_one {n : Nat} (h : n < 256) : num n 1 = [UInt8.ofNat n] := by
  rw [num, num, Nat.mod_eq_of_lt h]
theorem rleaf_any (T : List UInt8) (w : World) (hT : T.length ≤ 27) :
    Calls Try.prog 11 #[.string (str T)] w fun e w' => e = .returned (.string (str (layL T))) ∧ Below w.heap.size w w' := by
  have h1 := Hid.intro (fun w => rnum_any T.length 1 w (by omega) (by omega))
  have h2 := Hid.intro (fun w => page_any (num T.length 1 ++ T) w (by rw [List.length_append, num_length]; omega))
  have hr : Hid (layL T = pgL (num T.length 1 ++ T)) := by rw [num_one (by omega)]; exact rfl
  rw [hr.out]
  have hl := num_length 1 T.length
  generalize num T.length 1 = N at *
  generalize hY : pgL (N ++ T) = Y at *
  clear hr
  go_enter Try.func11, Try.ntmps11
  go_wp2_with fail
  refine (h1.out _).mono ?_; rintro e w1 ⟨rfl, hb1⟩
  have hb1' := Hid.intro hb1
  clear hb1
  go_wp2_with fail
  refine (h2.out _).mono ?_; rintro e w2 ⟨rfl, hb2⟩
  have hb2' := Hid.intro (hb1'.out.trans (hb2.mono hb1'.out.size))
  clear hb2
  go_wp2
  go_ret
  exact ⟨rfl, hb2'.out⟩
end Go.Proofs.Ytgigpohfkppplaa
