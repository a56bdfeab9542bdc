/-
  The walks of PrintBuckets, PrintTurns, PrintMixes, for every input: each returns true; nothing that was there is written.
-/
import Derived.Test.YtfbomgjgifgdbaaAlive
namespace Go.Proofs.Ytfbomgjgifgdbaa
open Go.ChangeShapes Go.WideShapes Go.ChangeAt Go.RowKit

theorem sub_rem (x n : Int) : (x - x % n) % n = 0 := by
  rw [Int.sub_emod, Int.emod_emod, Int.sub_self, Int.zero_emod]

set_option maxRecDepth 100000 in
theorem buckets_any (x : Nat) (n : Int) (hx : x < 4294967296) (w : World) :
    Calls Try.prog 7 #[.int .u32 (x : Int), .int .i64 n] w fun e w' => e = .returned (.bool true) ∧ w' = w := by
  by_cases h1 : n < 1
  · go_enter Try.func7, Try.ntmps7
    go_wp2_with fail
    refine (alive_any _).mono ?_; rintro e w1 ⟨rfl, rfl⟩
    go_wp2
    go_ret
    exact ⟨rfl, rfl⟩
  · by_cases h2 : 1000 < n
    · go_enter Try.func7, Try.ntmps7
      go_wp2_with fail
      refine (alive_any _).mono ?_; rintro e w1 ⟨rfl, rfl⟩
      go_wp2
      go_ret
      exact ⟨rfl, rfl⟩
    · have hb := Hid.intro (bucket_yes x n hx (by omega) (by omega))
      have hb1 := Hid.intro (bucket_yes x 1 hx (by omega) (by omega))
      have h3 : 0 ≤ (x : Int) % n := Int.emod_nonneg _ (by omega)
      have h4 : (x : Int) % n < n := Int.emod_lt_of_pos _ (by omega)
      have h5 : ((x : Int) - (x : Int) % n) % n = 0 := sub_rem _ _
      have h6 : (x : Int) % n ≤ x := by
        have a1 := Int.mul_ediv_add_emod (x : Int) n
        have a2 : 0 ≤ n * ((x : Int) / n) := Int.mul_nonneg (by omega) (Int.ediv_nonneg (by omega) (by omega))
        omega
      generalize hk : (x : Int) % n = k at *
      have hk' := Hid.intro hk
      clear hk
      have h7 : ((x : Int) - k).tmod n = 0 := by rw [Int.tmod_eq_emod_of_nonneg (by omega)]; exact h5
      go_enter Try.func7, Try.ntmps7
      go_wp2_with fail
      refine (alive_any _).mono ?_; rintro e w1 ⟨rfl, rfl⟩
      go_wp2_with fail
      refine (hb.out _).mono ?_; rintro e w1 ⟨rfl, rfl⟩
      go_wp2_with fail
      refine (bucket_no x 0 (by decide) _).mono ?_; rintro e w1 ⟨rfl, rfl⟩
      go_wp2_with fail
      refine (hb1.out _).mono ?_; rintro e w1 ⟨rfl, rfl⟩
      rw [Int.emod_one]
      go_wp2
      go_ret
      exact ⟨rfl, rfl⟩
theorem low5_nat (m : Nat) : low5 (m : Int) = m % 32 := by unfold low5; omega
theorem turn_back (x m : Nat) (hx : x < 4294967296) : rot (low5 (32 - (m : Int) % 32)) (rot (low5 (m : Int)) x) = x := by
  have e : low5 (32 - (m : Int) % 32) = (32 - m % 32) % 32 := by unfold low5; omega
  rw [rot_add, e, low5_nat, ← rot_mod x hx, show ((32 - m % 32) % 32 + m % 32) % 32 = 0 by omega]; rfl
theorem turn_both (x m n : Nat) (hx : x < 4294967296) : rot (low5 (n : Int)) (rot (low5 (m : Int)) x) = rot (low5 ((m : Int) + (n : Int))) x := by
  have e : low5 ((m : Int) + (n : Int)) = (m + n) % 32 := by unfold low5; omega
  rw [rot_add, e, low5_nat, low5_nat, ← rot_mod x hx (n % 32 + m % 32)]
  congr 1; omega

set_option maxRecDepth 100000 in
theorem turns_any (x : Nat) (m n : Int) (hx : x < 4294967296) (w : World) :
    Calls Try.prog 4 #[.int .u32 (x : Int), .int .i64 m, .int .i64 n] w fun e w' => e = .returned (.bool true) ∧ w' = w := by
  by_cases h1 : m < 0
  · go_enter Try.func4, Try.ntmps4
    go_wp2_with fail
    refine (alive_any _).mono ?_; rintro e w1 ⟨rfl, rfl⟩
    go_wp2
    go_ret
    exact ⟨rfl, rfl⟩
  by_cases h2 : n < 0
  · go_enter Try.func4, Try.ntmps4
    go_wp2_with fail
    refine (alive_any _).mono ?_; rintro e w1 ⟨rfl, rfl⟩
    go_wp2
    go_ret
    exact ⟨rfl, rfl⟩
  by_cases h3 : 1000 < m
  · go_enter Try.func4, Try.ntmps4
    go_wp2_with fail
    refine (alive_any _).mono ?_; rintro e w1 ⟨rfl, rfl⟩
    go_wp2
    go_ret
    exact ⟨rfl, rfl⟩
  by_cases h4 : 1000 < n
  · go_enter Try.func4, Try.ntmps4
    go_wp2_with fail
    refine (alive_any _).mono ?_; rintro e w1 ⟨rfl, rfl⟩
    go_wp2
    go_ret
    exact ⟨rfl, rfl⟩
  obtain ⟨M, rfl⟩ := Int.eq_ofNat_of_zero_le (show 0 ≤ m by omega)
  obtain ⟨N, rfl⟩ := Int.eq_ofNat_of_zero_le (show 0 ≤ n by omega)
  have hy := Hid.intro (rot_lt (low5 (M : Int)) x hx)
  have b1 := Hid.intro (turn_back x M hx)
  have b2 := Hid.intro (turn_both x M N hx)
  have t1 := Hid.intro (turn_any x (M : Int) hx)
  have t2 := Hid.intro (turn_any x ((M : Int) + (N : Int)) hx)
  generalize rot (low5 (M : Int)) x = y at *
  generalize rot (low5 ((M : Int) + (N : Int))) x = z at *
  go_enter Try.func4, Try.ntmps4
  go_wp2_with fail
  refine (alive_any _).mono ?_; rintro e w1 ⟨rfl, rfl⟩
  go_wp2_with fail
  refine (t1.out _).mono ?_; rintro e w1 ⟨rfl, rfl⟩
  go_wp2_with fail
  refine (turn_any _ _ hy.out _).mono ?_; rintro e w1 ⟨rfl, rfl⟩
  rw [b1.out]
  go_wp2_with fail
  refine (t1.out _).mono ?_; rintro e w1 ⟨rfl, rfl⟩
  go_wp2_with fail
  refine (turn_any _ _ hy.out _).mono ?_; rintro e w1 ⟨rfl, rfl⟩
  rw [b2.out]
  go_wp2_with fail
  refine (t2.out _).mono ?_; rintro e w1 ⟨rfl, rfl⟩
  go_wp2_with fail
  refine (turn_any _ _ hx _).mono ?_; rintro e w1 ⟨rfl, rfl⟩
  rw [show rot (low5 0) x = x from rfl]
  go_wp2_with fail
  refine (turn_any _ _ hx _).mono ?_; rintro e w1 ⟨rfl, rfl⟩
  rw [show rot (low5 32) x = x from rfl]
  go_wp2
  go_ret
  exact ⟨rfl, rfl⟩

set_option maxRecDepth 100000 in
theorem mixes_any (a b c : Nat) (ha : a < 4294967296) (hb : b < 4294967296) (hc : c < 4294967296) (w : World) :
    Calls Try.prog 5 #[.int .u32 (a : Int), .int .u32 (b : Int), .int .u32 (c : Int)] w fun e w' => e = .returned (.bool true) ∧ w' = w := by
  have m1 := Hid.intro (mix_any a b ha hb)
  have m2 := Hid.intro (mix_any a c ha hc)
  have m3 := Hid.intro (mix_any b a hb ha)
  have m4 := Hid.intro (mix_any c a hc ha)
  by_cases h : b = c
  · subst h
    generalize mixN a b = p at *
    generalize mixN b a = q at *
    go_enter Try.func5, Try.ntmps5
    go_wp2_with fail
    refine (alive_any _).mono ?_; rintro e w1 ⟨rfl, rfl⟩
    go_wp2_with fail
    refine (m1.out _).mono ?_; rintro e w1 ⟨rfl, rfl⟩
    go_wp2_with fail
    refine (m1.out _).mono ?_; rintro e w1 ⟨rfl, rfl⟩
    go_wp2_with fail
    refine (m3.out _).mono ?_; rintro e w1 ⟨rfl, rfl⟩
    go_wp2_with fail
    refine (m3.out _).mono ?_; rintro e w1 ⟨rfl, rfl⟩
    go_wp2
    go_ret
    exact ⟨rfl, rfl⟩
  · have n1 : ¬ mixN a b = mixN a c := fun e => h ((mixN_right a b c ha hb hc).1 e)
    have n2 : ¬ mixN b a = mixN c a := fun e => h ((mixN_left a b c ha hb hc).1 e)
    generalize mixN a b = p1 at *
    generalize mixN a c = p2 at *
    generalize mixN b a = q1 at *
    generalize mixN c a = q2 at *
    have k0 : ((b : Int) == (c : Int)) = false := beq_eq_false_iff_ne.2 (by omega)
    have k1 : ((p1 : Int) == (p2 : Int)) = false := beq_eq_false_iff_ne.2 (by omega)
    have k2 : ((q1 : Int) == (q2 : Int)) = false := beq_eq_false_iff_ne.2 (by omega)
    go_enter Try.func5, Try.ntmps5
    go_wp2_with fail
    refine (alive_any _).mono ?_; rintro e w1 ⟨rfl, rfl⟩
    go_wp2_with fail
    refine (m1.out _).mono ?_; rintro e w1 ⟨rfl, rfl⟩
    go_wp2_with fail
    refine (m2.out _).mono ?_; rintro e w1 ⟨rfl, rfl⟩
    go_wp2_with fail
    refine (m3.out _).mono ?_; rintro e w1 ⟨rfl, rfl⟩
    go_wp2_with fail
    refine (m4.out _).mono ?_; rintro e w1 ⟨rfl, rfl⟩
    go_wp2
    go_ret
    exact ⟨rfl, rfl⟩
end Go.Proofs.Ytfbomgjgifgdbaa
