/-
  The contracts of plate's small functions: isNone, ready, On, Pages, has, fits; of a word's bit: has, put, cut.
-/
import Derived.Test.YtjjfdkgnagfbcaaPObj
namespace Go.Proofs.Ytjjfdkgnagfbcaa
open Go.ChangeShapes Go.WideShapes Go.ChangeAt Go.RowKit
attribute [local go_sem ↓] Go.wp_at_zero Go.wp_at_succ
attribute [local go_sem] str_size str_extract str_append str_toList

def pP (p : Nat) : Value := .pointer (some ⟨p, 0, none⟩)
theorem isNone_any {w : World} {p gl gf : Nat} {M : MS} (h : PO w p gl gf M) : Calls Try.prog 28 #[.pointer (some ⟨p, 0, none⟩)] w fun e w' => e = .returned (.bool false) ∧ w' = w := by
  obtain ⟨vl, vf, hb, _, _⟩ := h.mem
  obtain ⟨c0, c1, c2, c3, c4, c8, c9, fz⟩ := cells_of hb
  clear h hb
  go_enter Try.func28, Try.ntmps28
  go_wp2
  go_ret
  exact ⟨rfl, rfl⟩
theorem isNone_nil (w : World) : Calls Try.prog 28 #[.pointer none] w fun e w' => e = .returned (.bool true) ∧ w' = w := by
  go_enter Try.func28, Try.ntmps28
  go_wp2
  go_ret
  exact ⟨rfl, rfl⟩
theorem ready_any {w : World} {p gl gf : Nat} {M : MS} (h : PO w p gl gf M) : Calls Try.prog 30 #[.pointer (some ⟨p, 0, none⟩)] w fun e w' => e = .returned (.int .i64 (mReady M)) ∧ w' = w := by
  have hn := Hid.intro (isNone_any h)
  obtain ⟨vl, vf, hb, _, _⟩ := h.mem
  obtain ⟨c0, c1, c2, c3, c4, c8, c9, fz⟩ := cells_of hb
  clear h hb
  unfold mReady
  cases ho : M.on with
  | true =>
    rw [ho] at c1
    clear ho
    go_enter Try.func30, Try.ntmps30
    go_wp2_with fail
    refine hn.out.mono ?_; rintro e w1 ⟨rfl, rfl⟩
    go_wp2
    go_ret
    exact ⟨rfl, rfl⟩
  | false =>
    rw [ho] at c1
    clear ho
    go_enter Try.func30, Try.ntmps30
    go_wp2_with fail
    refine hn.out.mono ?_; rintro e w1 ⟨rfl, rfl⟩
    go_wp2
    go_ret
    exact ⟨rfl, rfl⟩
theorem ready_nil (w : World) : Calls Try.prog 30 #[.pointer none] w fun e w' => e = .returned (.int .i64 1) ∧ w' = w := by
  go_enter Try.func30, Try.ntmps30
  go_wp2_with fail
  refine (isNone_nil w).mono ?_; rintro e w1 ⟨rfl, rfl⟩
  go_wp2
  go_ret
  exact ⟨rfl, rfl⟩
theorem on_any {w : World} {p gl gf : Nat} {M : MS} (h : PO w p gl gf M) : Calls Try.prog 24 #[.pointer (some ⟨p, 0, none⟩)] w fun e w' => e = .returned (.bool M.on) ∧ w' = w := by
  have hn := Hid.intro (ready_any h)
  clear h
  unfold mReady at hn
  cases ho : M.on with
  | true =>
    rw [ho] at hn
    clear ho
    simp only [if_true] at hn
    go_enter Try.func24, Try.ntmps24
    go_wp2_with fail
    refine hn.out.mono ?_; rintro e w1 ⟨rfl, rfl⟩
    go_wp2
    go_ret
    exact ⟨rfl, rfl⟩
  | false =>
    rw [ho] at hn
    clear ho
    simp only [Bool.false_eq_true, if_false] at hn
    go_enter Try.func24, Try.ntmps24
    go_wp2_with fail
    refine hn.out.mono ?_; rintro e w1 ⟨rfl, rfl⟩
    go_wp2
    go_ret
    exact ⟨rfl, rfl⟩
theorem on_nil (w : World) : Calls Try.prog 24 #[.pointer none] w fun e w' => e = .returned (.bool false) ∧ w' = w := by
  go_enter Try.func24, Try.ntmps24
  go_wp2_with fail
  refine (ready_nil w).mono ?_; rintro e w1 ⟨rfl, rfl⟩
  go_wp2
  go_ret
  exact ⟨rfl, rfl⟩
theorem pages_any {w : World} {p gl gf : Nat} {M : MS} (h : PO w p gl gf M) : Calls Try.prog 21 #[.pointer (some ⟨p, 0, none⟩)] w fun e w' => e = .returned (.int .i64 (M.L.length : Int)) ∧ w' = w := by
  obtain ⟨vl, vf, hb, hl, _⟩ := h.mem
  obtain ⟨c0, c1, c2, c3, c4, c8, c9, fz⟩ := cells_of hb
  obtain ⟨cap, rfl, _⟩ := hl.form
  clear h hb hl
  generalize M.L.length = n at *
  go_enter Try.func21, Try.ntmps21
  go_wp2
  go_ret
  exact ⟨rfl, rfl⟩
theorem pages_nil (w : World) : Calls Try.prog 21 #[.pointer none] w fun e w' => e = .returned (.int .i64 0) ∧ w' = w := by
  go_enter Try.func21, Try.ntmps21
  go_wp2
  go_ret
  exact ⟨rfl, rfl⟩
theorem hasp_any {w : World} {p gl gf : Nat} {M : MS} (h : PO w p gl gf M) (k : Int) : Calls Try.prog 42 #[.pointer (some ⟨p, 0, none⟩), .int .i64 k] w fun e w' => e = .returned (.bool (has0 M k)) ∧ w' = w := by
  have hp := Hid.intro (pages_any h)
  clear h
  unfold has0
  generalize (M.L.length : Int) = n at *
  by_cases h0 : 0 ≤ k
  · by_cases h1 : k < n
    · rw [decide_eq_true ⟨h0, h1⟩]
      go_enter Try.func42, Try.ntmps42
      go_wp2_with fail
      refine hp.out.mono ?_; rintro e w1 ⟨rfl, rfl⟩
      go_wp2
      go_ret
      exact ⟨rfl, rfl⟩
    · rw [decide_eq_false (fun h => h1 h.2)]
      go_enter Try.func42, Try.ntmps42
      go_wp2_with fail
      refine hp.out.mono ?_; rintro e w1 ⟨rfl, rfl⟩
      go_wp2
      go_ret
      refine ⟨?_, rfl⟩
      show Ending.returned (.bool (decide (k < n))) = _
      rw [decide_eq_false (by omega)]
  · rw [decide_eq_false (fun h => h0 h.1)]
    go_enter Try.func42, Try.ntmps42
    go_wp2
    go_ret
    exact ⟨rfl, rfl⟩
theorem hasp_nil (k : Int) (w : World) : Calls Try.prog 42 #[.pointer none, .int .i64 k] w fun e w' => e = .returned (.bool false) ∧ w' = w := by
  by_cases h0 : 0 ≤ k
  · have h1 : ¬ k < 0 := by omega
    go_enter Try.func42, Try.ntmps42
    go_wp2_with fail
    refine (pages_nil w).mono ?_; rintro e w1 ⟨rfl, rfl⟩
    go_wp2
    go_ret
    refine ⟨?_, rfl⟩
    show Ending.returned (.bool (decide (k < 0))) = _
    rw [decide_eq_false (by omega)]
  · go_enter Try.func42, Try.ntmps42
    go_wp2
    go_ret
    exact ⟨rfl, rfl⟩
theorem fits_any {w : World} {p gl gf : Nat} {M : MS} (h : PO w p gl gf M) (k : Int) (S : List UInt8) : Calls Try.prog 31 #[.pointer (some ⟨p, 0, none⟩), .int .i64 k, .string (str S)] w fun e w' => e = .returned (.bool (fitB M k S)) ∧ w' = w := by
  have hp := Hid.intro (hasp_any h k)
  clear h
  unfold fitB
  unfold has0 at hp
  by_cases h1 : 0 ≤ k ∧ k < M.L.length
  · rw [decide_eq_true h1] at hp ⊢
    by_cases h2 : S.length = 32
    · rw [decide_eq_true h2]
      have h3 : (S.length : Int) = 32 := by omega
      clear h2
      go_enter Try.func31, Try.ntmps31
      go_wp2_with fail
      refine hp.out.mono ?_; rintro e w1 ⟨rfl, rfl⟩
      go_wp2
      go_ret
      exact ⟨rfl, rfl⟩
    · rw [decide_eq_false h2]
      have h3 : ((S.length : Int) == 32) = false := beq_false_of_ne (by omega)
      clear h2
      go_enter Try.func31, Try.ntmps31
      go_wp2_with fail
      refine hp.out.mono ?_; rintro e w1 ⟨rfl, rfl⟩
      go_wp2
      go_ret
      exact ⟨rfl, rfl⟩
  · rw [decide_eq_false h1] at hp ⊢
    go_enter Try.func31, Try.ntmps31
    go_wp2_with fail
    refine hp.out.mono ?_; rintro e w1 ⟨rfl, rfl⟩
    go_wp2
    go_ret
    exact ⟨rfl, rfl⟩
theorem fits_nil (k : Int) (S : List UInt8) (w : World) : Calls Try.prog 31 #[.pointer none, .int .i64 k, .string (str S)] w fun e w' => e = .returned (.bool false) ∧ w' = w := by
  go_enter Try.func31, Try.ntmps31
  go_wp2_with fail
  refine (hasp_nil k w).mono ?_; rintro e w1 ⟨rfl, rfl⟩
  go_wp2
  go_ret
  exact ⟨rfl, rfl⟩

/-! ### Bits -/
theorem shr6 (k : Nat) (h : k < 64) : (k : Int) / 64 = 0 := by omega
theorem and63 (k : Nat) (h : k < 64) : bits .and .i64 (k : Int) 63 = (k : Int) := by
  have h1 : (BitVec.ofInt 64 (k : Int)).toNat = k := by rw [BitVec.ofInt_natCast, BitVec.toNat_ofNat]; exact Nat.mod_eq_of_lt (by omega)
  have h2 : (BitVec.ofInt 64 63).toNat = 2 ^ 6 - 1 := rfl
  show IntKind.i64.wrap ((BitVec.ofInt 64 (k : Int) &&& BitVec.ofInt 64 63).toNat : Int) = _
  rw [BitVec.toNat_and, h1, h2, Nat.and_two_pow_sub_one_eq_mod, IntKind.wrap_i64]
  omega
set_option maxRecDepth 100000 in
theorem bhas_any {w : World} {b o W : Nat} (k : Nat) (hc : w.cell? ⟨b, o, none⟩ = some (.int .u64 (W : Int))) (hW : W < 18446744073709551616) (hk : k < 64) :
    Calls Try.prog 43 #[.pointer (some ⟨b, o, none⟩), .int .i64 (k : Int)] w fun e w' => e = .returned (.bool (W.testBit k)) ∧ w' = w := by
  have h0 : (0 : Int) ≤ (k : Int) := by omega
  have h1 : (k : Int) < 64 := by omega
  have h2 := shr6 k hk
  have h3 := and63 k hk
  go_enter Try.func43, Try.ntmps43
  go_wp2
  go_ret
  refine ⟨?_, rfl⟩
  show Ending.returned (.bool (bits .and .u64 ((W : Int) / 2 ^ k) 1 == 1)) = _
  rw [← bit_eq W k hW]
  rfl
set_option maxRecDepth 100000 in
theorem bput_any {w : World} {b o W : Nat} (k : Nat) (hc : w.cell? ⟨b, o, none⟩ = some (.int .u64 (W : Int))) (hf : w.frozen? ⟨b, o, none⟩ = false) (hW : W < 18446744073709551616) (hk : k < 64) :
    Calls Try.prog 32 #[.pointer (some ⟨b, o, none⟩), .int .i64 (k : Int)] w fun e w' => e = .returned (.tuple #[]) ∧ w' = (w.setCell ⟨b, o, none⟩ (.int .u64 ((onW W k : Nat) : Int))).drew := by
  have h0 : (0 : Int) ≤ (k : Int) := by omega
  have h1 : (k : Int) < 64 := by omega
  have h2 := shr6 k hk
  have h3 := and63 k hk
  have e0 := shl1 k hk
  have e1 : bits .or .u64 (W : Int) ((2 ^ k : Nat) : Int) = ((onW W k : Nat) : Int) := u64_or_nat _ _ hW (two_lt k hk)
  generalize onW W k = V at *
  generalize 2 ^ k = P at *
  clear hW hk
  go_enter Try.func32, Try.ntmps32
  go_wp2_with fail
  go_region
  all_goals
    go_end0
    exact ⟨rfl, rfl⟩
set_option maxRecDepth 100000 in
theorem bcut_any {w : World} {b o W : Nat} (k : Nat) (hc : w.cell? ⟨b, o, none⟩ = some (.int .u64 (W : Int))) (hf : w.frozen? ⟨b, o, none⟩ = false) (hW : W < 18446744073709551616) (hk : k < 64) :
    Calls Try.prog 44 #[.pointer (some ⟨b, o, none⟩), .int .i64 (k : Int)] w fun e w' => e = .returned (.tuple #[]) ∧ w' = (w.setCell ⟨b, o, none⟩ (.int .u64 ((offW W k : Nat) : Int))).drew := by
  have h0 : (0 : Int) ≤ (k : Int) := by omega
  have h1 : (k : Int) < 64 := by omega
  have h2 := shr6 k hk
  have h3 := and63 k hk
  have e0 := shl1 k hk
  have e1 : bits .andNot .u64 (W : Int) ((2 ^ k : Nat) : Int) = ((offW W k : Nat) : Int) := u64_andNot_nat _ _ hW (two_lt k hk)
  generalize offW W k = V at *
  generalize 2 ^ k = P at *
  clear hW hk
  go_enter Try.func44, Try.ntmps44
  go_wp2_with fail
  go_region
  all_goals
    go_end0
    exact ⟨rfl, rfl⟩
end Go.Proofs.Ytjjfdkgnagfbcaa
