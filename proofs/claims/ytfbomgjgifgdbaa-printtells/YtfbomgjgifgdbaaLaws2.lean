/-
  The walks of PrintTells and PrintLengths, for every input: each returns true; nothing that was there is written.
-/
import Derived.Test.YtfbomgjgifgdbaaLaws
namespace Go.Proofs.Ytfbomgjgifgdbaa
open Go.ChangeShapes Go.WideShapes Go.ChangeAt Go.RowKit
attribute [local go_sem] str_size

set_option maxRecDepth 100000 in
theorem tells_any (S : List UInt8) (x y : Nat) (n : Int) (hx : x < 4294967296) (hy : y < 4294967296) (hn : n ≤ 9223372036854775807) (w : World) :
    Calls Try.prog 3 #[.string (str S), .int .u32 (x : Int), .int .u32 (y : Int), .int .i64 n] w fun e w' => e = .returned (.bool true) ∧ w' = w := by
  by_cases h1 : 600 < S.length
  · have i1 : (600 : Int) < (S.length : Int) := by omega
    go_enter Try.func3, Try.ntmps3
    go_wp2_with fail
    refine (alive_any _).mono ?_; rintro e w1 ⟨rfl, rfl⟩
    go_wp2
    go_ret
    exact ⟨rfl, rfl⟩
  have i1 : ¬ (600 : Int) < (S.length : Int) := by omega
  have o1 := Hid.intro (fun w => of_any S w (by omega))
  have o2 := Hid.intro (fun w => rof_any S w (by omega))
  have m1 := Hid.intro (mix_any x y hx hy)
  have m2 := Hid.intro (rmix_any x y hx hy)
  have t1 := Hid.intro (turn_any x n hx)
  have t2 := Hid.intro (rturn_any x n hx)
  generalize ofN S = p at *
  generalize mixN x y = q at *
  generalize rot (low5 n) x = r at *
  by_cases h2 : 1 ≤ n
  · have b1 := Hid.intro (bucket_yes x n hx h2 hn)
    have h3 : 0 ≤ (x : Int) % n := Int.emod_nonneg _ (by omega)
    have h4 : (x : Int) % n < n := Int.emod_lt_of_pos _ (by omega)
    go_enter Try.func3, Try.ntmps3
    go_wp2_with fail
    refine (alive_any _).mono ?_; rintro e w1 ⟨rfl, rfl⟩
    go_wp2_with fail
    refine (o1.out _).mono ?_; rintro e w1 ⟨rfl, rfl⟩
    go_wp2_with fail
    refine (o2.out _).mono ?_; rintro e w1 ⟨rfl, rfl⟩
    go_wp2_with fail
    refine (m1.out _).mono ?_; rintro e w1 ⟨rfl, rfl⟩
    go_wp2_with fail
    refine (m2.out _).mono ?_; rintro e w1 ⟨rfl, rfl⟩
    go_wp2_with fail
    refine (t1.out _).mono ?_; rintro e w1 ⟨rfl, rfl⟩
    go_wp2_with fail
    refine (t2.out _).mono ?_; rintro e w1 ⟨rfl, rfl⟩
    go_wp2_with fail
    refine (b1.out _).mono ?_; rintro e w1 ⟨rfl, rfl⟩
    go_wp2
    go_ret
    exact ⟨rfl, rfl⟩
  · have b1 := Hid.intro (bucket_no x n h2)
    go_enter Try.func3, Try.ntmps3
    go_wp2_with fail
    refine (alive_any _).mono ?_; rintro e w1 ⟨rfl, rfl⟩
    go_wp2_with fail
    refine (o1.out _).mono ?_; rintro e w1 ⟨rfl, rfl⟩
    go_wp2_with fail
    refine (o2.out _).mono ?_; rintro e w1 ⟨rfl, rfl⟩
    go_wp2_with fail
    refine (m1.out _).mono ?_; rintro e w1 ⟨rfl, rfl⟩
    go_wp2_with fail
    refine (m2.out _).mono ?_; rintro e w1 ⟨rfl, rfl⟩
    go_wp2_with fail
    refine (t1.out _).mono ?_; rintro e w1 ⟨rfl, rfl⟩
    go_wp2_with fail
    refine (t2.out _).mono ?_; rintro e w1 ⟨rfl, rfl⟩
    go_wp2_with fail
    refine (b1.out _).mono ?_; rintro e w1 ⟨rfl, rfl⟩
    go_wp2
    go_ret
    exact ⟨rfl, rfl⟩

theorem str_zero : (⟨#[0]⟩ : ByteArray) = str [0] := rfl
theorem ofN_zero (S : List UInt8) (h : S.length ≤ 500) : ofN (S ++ [0]) = mixN (mixN (foldN 2166136261 S) 0) (S.length + 1) := by
  unfold ofN
  rw [foldN_snoc, List.length_append, List.length_singleton, Nat.mod_eq_of_lt (show S.length + 1 < 4294967296 by omega)]; rfl

set_option maxRecDepth 100000 in
theorem lengths_any (S : List UInt8) (w : World) :
    Calls Try.prog 6 #[.string (str S)] w fun e w' => e = .returned (.bool true) ∧ w' = w := by
  by_cases h1 : 500 < S.length
  · have i1 : (500 : Int) < (S.length : Int) := by omega
    go_enter Try.func6, Try.ntmps6
    go_wp2_with fail
    refine (alive_any _).mono ?_; rintro e w1 ⟨rfl, rfl⟩
    go_wp2
    go_ret
    exact ⟨rfl, rfl⟩
  have i1 : ¬ (500 : Int) < (S.length : Int) := by omega
  have o1 := Hid.intro (fun w => of_any S w (by omega))
  have o2 := Hid.intro (fun w => of_any (S ++ [0]) w (by simp; omega))
  rw [ofN_zero S (by omega)] at o2
  have e1 : ofN S = mixN (foldN 2166136261 S) S.length := by unfold ofN; rw [Nat.mod_eq_of_lt (show S.length < 4294967296 by omega)]
  rw [e1] at o1
  clear e1
  go_enter Try.func6, Try.ntmps6
  go_wp2_with fail
  refine (alive_any _).mono ?_; rintro e w1 ⟨rfl, rfl⟩
  go_wp2_with fail
  go_loopw [3, 4] (fun xv iv wr => ∃ i : Nat, i ≤ S.length ∧ xv = .int .u32 ((foldN 2166136261 (S.take i) : Nat) : Int) ∧ iv = .int .i64 i ∧ wr = w1) (fun _ iv _ => S.length - (intOf iv).toNat)
  case atStart => exact ⟨0, Nat.zero_le _, rfl, rfl, rfl⟩
  case round =>
    obtain ⟨i, hi, rfl, rfl, rfl⟩ := hrel
    have i0 : (0 : Int) ≤ (i : Int) := Int.natCast_nonneg _
    by_cases hl : i < S.length
    · have i2 : (i : Int) < (S.length : Int) := by omega
      obtain ⟨x, hx⟩ : ∃ x, S[i]? = some x := ⟨S[i], by simp [hl]⟩
      have hat := str_at S i x hx wr
      have hx' := Hid.intro (foldN_take 2166136261 hx)
      clear hx
      have hX := Hid.intro (foldN_lt (S.take i) 2166136261 (by decide))
      have hm : x.toNat < 256 := x.toNat_lt
      unfold bV at hat
      generalize foldN 2166136261 (S.take i) = X at *
      generalize x.toNat = m at *
      go_wp2_with fail
      refine (mix_any X m hX.out (by omega) _).mono ?_; rintro e w4 ⟨rfl, rfl⟩
      go_wp2
      go_roundw
      case rel => exact ⟨i + 1, by omega, by rw [hx'.out], by go_num, trivial⟩
      case measure => simp [intOf]; omega
    · have hii : i = S.length := by omega
      subst hii
      rw [List.take_length]
      have hX := Hid.intro (foldN_lt S 2166136261 (by decide))
      have hw : IntKind.u32.wrap (S.length : Int) = (S.length : Int) := by rw [IntKind.wrap_u32']; omega
      generalize foldN 2166136261 S = X at *
      have m1 := Hid.intro (mix_any X S.length hX.out (by omega))
      have m2 := Hid.intro (mix_any X 0 hX.out (by omega))
      have m3 := Hid.intro (mix_any (mixN X 0) (S.length + 1) (mixN_lt _ _) (by omega))
      have hsz : ¬ 9223372036854775807 < S.length + 1 := by omega
      generalize mixN X S.length = p at *
      generalize mixN X 0 = q at *
      generalize mixN q (S.length + 1) = r at *
      go_wp2_with fail
      refine (o1.out _).mono ?_; rintro e w1 ⟨rfl, rfl⟩
      go_wp2_with fail
      refine (m1.out _).mono ?_; rintro e w1 ⟨rfl, rfl⟩
      rw [← str_append] at o2
      go_wp2_with fail
      refine (o2.out _).mono ?_; rintro e w1 ⟨rfl, rfl⟩
      go_wp2_with fail
      refine (m2.out _).mono ?_; rintro e w1 ⟨rfl, rfl⟩
      go_wp2_with fail
      refine (m3.out _).mono ?_; rintro e w1 ⟨rfl, rfl⟩
      go_wp2
      go_ret
      exact ⟨rfl, rfl⟩
end Go.Proofs.Ytfbomgjgifgdbaa
