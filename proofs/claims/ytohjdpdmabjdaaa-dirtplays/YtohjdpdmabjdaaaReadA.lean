/-
  The contract of dirt.Read.
-/
import Derived.Test.YtohjdpdmabjdaaaDirtC
import Derived.Test.YtohjdpdmabjdaaaDirtD
namespace Go.Proofs.Ytohjdpdmabjdaaa
open Go.ChangeShapes Go.WideShapes Go.ChangeAt Go.RowKit
attribute [local go_sem ↓] Go.wp_at_zero Go.wp_at_succ

/-- The byte i of a string; 0, where there is none. -/
def byteAt (S : ByteArray) (i : Nat) : Nat := if h : i < S.size then S[i].toNat else 0
theorem byteAt_lt (S : ByteArray) (i : Nat) : byteAt S i < 256 := by
  unfold byteAt
  split
  · exact UInt8.toNat_lt _
  · omega
theorem byteAt_in (S : ByteArray) (i : Nat) (h : i < S.size) : S[i].toNat = byteAt S i := by unfold byteAt; rw [dif_pos h]
/-- The word of the first n bytes of a string. -/
def rdW (S : ByteArray) : Nat → Nat
  | 0 => 0
  | i + 1 => rdW S i ||| (byteAt S i * 2 ^ (i * 8))
theorem shift_lt (a i : Nat) (h : a < 256) : a * 2 ^ (i * 8) < 2 ^ ((i + 1) * 8) := by
  have e : 2 ^ ((i + 1) * 8) = 256 * 2 ^ (i * 8) := by rw [Nat.add_mul, Nat.pow_add, Nat.mul_comm]
  rw [e]
  exact Nat.mul_lt_mul_of_pos_right h (Nat.two_pow_pos _)
theorem rdW_lt (S : ByteArray) : ∀ i, rdW S i < 2 ^ (i * 8)
  | 0 => by show 0 < 1; decide
  | i + 1 => by
    refine Nat.or_lt_two_pow (Nat.lt_of_lt_of_le (rdW_lt S i) (Nat.pow_le_pow_right (by decide) (by omega))) (shift_lt _ _ (byteAt_lt S i))
theorem rdW_bit (S : ByteArray) : ∀ i j, (rdW S i).testBit j = (decide (j < i * 8) && (byteAt S (j / 8)).testBit (j % 8))
  | 0, j => by simp [rdW]
  | i + 1, j => by
    have e : rdW S (i + 1) = rdW S i ||| (byteAt S i * 2 ^ (i * 8)) := rfl
    rw [e, Nat.testBit_or, rdW_bit S i j, ← Nat.shiftLeft_eq, Nat.testBit_shiftLeft]
    by_cases h1 : j < i * 8
    · rw [decide_eq_true h1, decide_eq_false (by omega : ¬ j ≥ i * 8), decide_eq_true (by omega : j < (i + 1) * 8)]
      simp
    · by_cases h2 : j < (i + 1) * 8
      · rw [decide_eq_false h1, decide_eq_true (by omega : j ≥ i * 8), decide_eq_true h2, show j / 8 = i by omega, show j - i * 8 = j % 8 by omega]
        simp
      · rw [decide_eq_false h1, decide_eq_true (by omega : j ≥ i * 8), decide_eq_false h2]
        have : (byteAt S i).testBit (j - i * 8) = false := by
          refine Nat.testBit_lt_two_pow (Nat.lt_of_lt_of_le (byteAt_lt S i) ?_)
          have : 2 ^ 8 ≤ 2 ^ (j - i * 8) := Nat.pow_le_pow_right (by decide) (by omega)
          simpa using this
        simp [this]
theorem pow64 (i : Nat) (h : i ≤ 8) : 2 ^ (i * 8) ≤ 18446744073709551616 := two64 (i * 8) (by omega)
theorem or_step (S : ByteArray) (i : Nat) (hi : i < 8) (hs : i < S.size) :
    bits .or .u64 ((rdW S i : Nat) : Int) (IntKind.u64.wrap (IntKind.u64.wrap ((S[i].toNat : Nat) : Int) * 2 ^ (i * 8))) = ((rdW S (i + 1) : Nat) : Int) := by
  have h1 := shift_lt (byteAt S i) i (byteAt_lt S i)
  have h2 := pow64 (i + 1) (by omega)
  have h3 := rdW_lt S i
  have h4 := pow64 i (by omega)
  have h5 := byteAt_lt S i
  rw [byteAt_in S i hs, IntKind.wrap_u64 ((byteAt S i : Nat) : Int), show ((byteAt S i : Nat) : Int) % 18446744073709551616 = ((byteAt S i : Nat) : Int) by omega]
  have e2 : ((byteAt S i : Nat) : Int) * 2 ^ (i * 8) = ((byteAt S i * 2 ^ (i * 8) : Nat) : Int) := by rw [Int.natCast_mul, Int.natCast_pow]; rfl
  rw [e2, IntKind.wrap_u64, show ((byteAt S i * 2 ^ (i * 8) : Nat) : Int) % 18446744073709551616 = ((byteAt S i * 2 ^ (i * 8) : Nat) : Int) by omega]
  exact u64_or_nat _ _ (by omega) (by omega)
theorem high_zero (W B : Nat) (hB : B ≤ 64) (hW : W < 18446744073709551616) : W &&& (18446744073709551615 - (2 ^ B - 1)) = 0 ↔ W < 2 ^ B := by
  have hp := two64 B hB
  have h0 := Nat.two_pow_pos B
  have e : ∀ i, (18446744073709551615 - (2 ^ B - 1)).testBit i = (decide (i < 64) && !decide (i < B)) := by
    intro i
    have := Nat.testBit_two_pow_sub_succ (x := 2 ^ B - 1) (n := 64) (by omega) i
    rw [Nat.testBit_two_pow_sub_one] at this
    rw [← this]
    congr 1
    omega
  constructor
  · intro h
    apply Nat.lt_pow_two_of_testBit
    intro i hi
    have := congrArg (fun x => x.testBit i) h
    simp only [Nat.testBit_and, Nat.zero_testBit, e] at this
    by_cases h64 : i < 64
    · rw [decide_eq_true h64, decide_eq_false (by omega)] at this
      simpa using this
    · exact Nat.testBit_lt_two_pow (Nat.lt_of_lt_of_le hW (by have : 2 ^ 64 ≤ 2 ^ i := Nat.pow_le_pow_right (by decide) (by omega); simpa using this))
  · intro h
    apply Nat.eq_of_testBit_eq
    intro i
    rw [Nat.testBit_and, e, Nat.zero_testBit]
    by_cases hi : i < B
    · simp [hi]
    · rw [Nat.testBit_lt_two_pow (Nat.lt_of_lt_of_le h (Nat.pow_le_pow_right (by decide) (by omega)))]; rfl

theorem read_arg (S : ByteArray) (b : Int) (w : World) (h : ¬ (0 ≤ b ∧ b ≤ 64)) :
    Calls Try.prog 28 #[.string S, .int .i64 b] w fun e w' => e = .returned (.tuple #[.pointer none, .int .i64 1]) ∧ Below w.heap.size w w' := by
  by_cases h1 : 0 ≤ b
  · have h2 : ¬ b ≤ 64 := by omega
    clear h
    go_enter Try.func28, Try.ntmps28
    go_wp2
    exact bodyPost_ret (v := .tuple #[.pointer none, .int .i64 1]) (by simp [results, Try.results28, go_sem]) rfl ⟨rfl, Below.refl _ _⟩
  · clear h
    go_enter Try.func28, Try.ntmps28
    go_wp2
    exact bodyPost_ret (v := .tuple #[.pointer none, .int .i64 1]) (by simp [results, Try.results28, go_sem]) rfl ⟨rfl, Below.refl _ _⟩

theorem read_len (S : ByteArray) (B : Nat) (w : World) (hB : B ≤ 64) (h : S.size ≠ (B + 7) / 8) :
    Calls Try.prog 28 #[.string S, .int .i64 (B : Int)] w fun e w' => e = .returned (.tuple #[.pointer none, .int .i64 8]) ∧ Below w.heap.size w w' := by
  have q1 : ¬ (B : Int) < 0 := by omega
  have q2 : ¬ (64 : Int) < (B : Int) := by omega
  have hbc : Hid (∀ z, Calls Try.prog 39 #[.int .i64 (B : Int)] z fun e w' => e = .returned (.int .i64 (((B + 7) / 8 : Nat) : Int)) ∧ w' = z) := fun z => byteCount_any B z hB
  generalize (B + 7) / 8 = n at *
  have q3 : ¬ (S.size : Int) = (n : Int) := by omega
  clear h
  go_enter Try.func28, Try.ntmps28
  go_wp2_with fail
  refine (hbc.out _).mono ?_; rintro e w1 ⟨rfl, rfl⟩
  go_wp2
  exact bodyPost_ret (v := .tuple #[.pointer none, .int .i64 8]) (by simp [results, Try.results28, go_sem]) rfl ⟨rfl, Below.refl _ _⟩

theorem dobj_new2 (w : World) (B W : Nat) : DObj (w.alloc (.cells #[.int .i64 (B : Int), .int .u64 (W : Int)] 66)) w.heap.size B W := heap_alloc_new w _
theorem read_walk (S : ByteArray) (B n V : Nat) (w : World) (hB : B ≤ 64) (hBn : (B + 7) / 8 = n) (h : S.size = n) (hV : Hid (rdW S n = V)) :
    Calls Try.prog 28 #[.string S, .int .i64 (B : Int)] w fun e w' => (V < 2 ^ B ∧ e = .returned (.tuple #[.pointer (some ⟨w.heap.size, 0, none⟩), .int .i64 0]) ∧ DObj w' w.heap.size B V ∧ Below w.heap.size w w') ∨ (¬ V < 2 ^ B ∧ e = .returned (.tuple #[.pointer none, .int .i64 8]) ∧ Below w.heap.size w w') := by
  have q1 : ¬ (B : Int) < 0 := by omega
  have q2 : ¬ (64 : Int) < (B : Int) := by omega
  have hbc : Hid (∀ z, Calls Try.prog 39 #[.int .i64 (B : Int)] z fun e w' => e = .returned (.int .i64 (((B + 7) / 8 : Nat) : Int)) ∧ w' = z) := fun z => byteCount_any B z hB
  have hlow : Hid (∀ z, Calls Try.prog 33 #[.int .i64 (B : Int)] z fun e w' => e = .returned (.int .u64 ((2 ^ B - 1 : Nat) : Int)) ∧ w' = z) := fun z => low_any B z hB
  have hn : n ≤ 8 := by omega
  rw [hBn] at hbc
  subst h
  clear hBn
  go_enter Try.func28, Try.ntmps28
  go_wp2_with fail
  refine (hbc.out _).mono ?_; rintro e w1 ⟨rfl, rfl⟩
  go_wp2_with fail
  go_loopw [6, 21] (fun nv iv wr => ∃ (i : Nat), i ≤ S.size ∧ iv = .int .i64 i ∧ nv = .int .u64 (rdW S i : Nat) ∧ wr = w1) (fun _ iv _ => S.size - (intOf iv).toNat)
  case atStart => exact ⟨0, Nat.zero_le _, rfl, rfl, rfl⟩
  case round =>
    obtain ⟨i, hi, rfl, rfl, rfl⟩ := hrel
    have i0 : (0 : Int) ≤ (i : Int) := Int.natCast_nonneg _
    by_cases hl : i < S.size
    · have i1 : (i : Int) < (S.size : Int) := by omega
      have hor := Hid.intro (or_step S i (by omega) hl)
      go_wp2
      exact ⟨⟨i + 1, by omega, by go_num, by rw [hor.out], trivial⟩, by simp [intOf]; omega⟩
    · obtain rfl : i = S.size := by omega
      rw [hV.out]
      have hW64 : V < 18446744073709551616 := by rw [← hV.out]; exact Nat.lt_of_lt_of_le (rdW_lt S S.size) (pow64 _ (by omega))
      have hl2 : 2 ^ B - 1 < 18446744073709551616 := by have := two64 B hB; have := Nat.two_pow_pos B; omega
      have hz := high_zero (V) B hB hW64
      have e1 : bits .andNot .u64 ((V : Nat) : Int) ((2 ^ B - 1 : Nat) : Int) = ((V &&& (18446744073709551615 - (2 ^ B - 1)) : Nat) : Int) := u64_andNot_nat _ _ hW64 hl2
      by_cases hw : V < 2 ^ B
      · have hz' := hz.2 hw
        rw [hz'] at e1
        have hw' := Hid.intro hw
        clear hz hz' hw hW64 hl2
        generalize 2 ^ B - 1 = L at *
        go_wp2_with fail
        refine (hlow.out _).mono ?_; rintro e w2 ⟨rfl, rfl⟩
        go_wp2
        exact bodyPost_ret (v := .tuple #[.pointer (some ⟨w2.heap.size, 0, none⟩), .int .i64 0]) (by simp [results, Try.results28, go_sem]) rfl (.inl ⟨hw'.out, rfl, dobj_new2 w2 B V, (Below.refl _ _).alloc (Nat.le_refl _) _⟩)
      · have hz' : ¬ (V &&& (18446744073709551615 - (2 ^ B - 1))) = 0 := fun x => hw (hz.1 x)
        have hw' := Hid.intro hw
        clear hz hw hW64 hl2
        generalize (V &&& (18446744073709551615 - (2 ^ B - 1))) = Y at *
        generalize 2 ^ B - 1 = L at *
        have hy : ¬ (Y : Int) = 0 := by omega
        go_wp2_with fail
        refine (hlow.out _).mono ?_; rintro e w2 ⟨rfl, rfl⟩
        go_wp2
        exact bodyPost_ret (v := .tuple #[.pointer none, .int .i64 8]) (by simp [results, Try.results28, go_sem]) rfl (.inr ⟨hw'.out, rfl, Below.refl _ _⟩)
theorem read_ok (S : ByteArray) (B n : Nat) (w : World) (hB : B ≤ 64) (hBn : (B + 7) / 8 = n) (h : S.size = n) (hw : rdW S n < 2 ^ B) :
    Calls Try.prog 28 #[.string S, .int .i64 (B : Int)] w fun e w' => e = .returned (.tuple #[.pointer (some ⟨w.heap.size, 0, none⟩), .int .i64 0]) ∧ DObj w' w.heap.size B (rdW S n) ∧ Below w.heap.size w w' :=
  (read_walk S B n _ w hB hBn h rfl).mono fun _ _ hx => hx.elim (fun x => x.2) (fun x => absurd hw x.1)
theorem read_bad (S : ByteArray) (B n : Nat) (w : World) (hB : B ≤ 64) (hBn : (B + 7) / 8 = n) (h : S.size = n) (hw : ¬ rdW S n < 2 ^ B) :
    Calls Try.prog 28 #[.string S, .int .i64 (B : Int)] w fun e w' => e = .returned (.tuple #[.pointer none, .int .i64 8]) ∧ Below w.heap.size w w' :=
  (read_walk S B n _ w hB hBn h rfl).mono fun _ _ hx => hx.elim (fun x => absurd x.1 hw) (fun x => x.2)
end Go.Proofs.Ytohjdpdmabjdaaa
