/-
  The contracts of dirt's add, Mark, Or, New; what words they leave.
-/
import Derived.Test.YtohjdpdmabjdaaaDirtA
import Derived.Test.YtohjdpdmabjdaaaPuts
namespace Go.Proofs.Ytohjdpdmabjdaaa
open Go.ChangeShapes Go.WideShapes Go.ChangeAt Go.RowKit
attribute [local go_sem ↓] Go.wp_at_zero Go.wp_at_succ

/-- The word with those of another that there are. -/
def orW (B W X : Nat) : Nat := W ||| (X &&& (2 ^ B - 1))
theorem two64 (B : Nat) (h : B ≤ 64) : 2 ^ B ≤ 18446744073709551616 := by
  have := Nat.pow_le_pow_right (n := 2) (by decide) h
  simpa using this
theorem orW_lt (B W X : Nat) (hW : W < 2 ^ B) : orW B W X < 2 ^ B := by
  unfold orW
  refine Nat.or_lt_two_pow hW (Nat.lt_of_le_of_lt Nat.and_le_right ?_)
  have := Nat.two_pow_pos B
  omega
theorem orW_bit (B W X k : Nat) : (orW B W X).testBit k = (W.testBit k || (decide (k < B) && X.testBit k)) := by
  unfold orW
  rw [Nat.testBit_or, Nat.testBit_and, Nat.testBit_two_pow_sub_one, Bool.and_comm]

set_option maxRecDepth 100000 in
theorem add_any {w : World} {b B W : Nat} (X : Nat) (h : DObj w b B W) (hB : B ≤ 64) (hW : W < 2 ^ B) (hX : X < 18446744073709551616) :
    Calls Try.prog 32 #[.pointer (some ⟨b, 0, none⟩), .int .u64 (X : Int)] w fun e w' => e = .returned (.int .i64 ((pop (orW B W X) : Nat) - (pop W : Nat))) ∧ DObj w' b B (orW B W X) ∧ But b w w' := by
  have hW' : W < 18446744073709551616 := Nat.lt_of_lt_of_le hW (two64 B hB)
  have hV' : orW B W X < 18446744073709551616 := Nat.lt_of_lt_of_le (orW_lt B W X hW) (two64 B hB)
  have hl : 2 ^ B - 1 < 18446744073709551616 := by have := two64 B hB; have := Nat.two_pow_pos B; omega
  have e1 : bits .and .u64 (X : Int) ((2 ^ B - 1 : Nat) : Int) = ((X &&& (2 ^ B - 1) : Nat) : Int) := u64_and_nat _ _ hX hl
  have e2 : bits .or .u64 (W : Int) ((X &&& (2 ^ B - 1) : Nat) : Int) = ((orW B W X : Nat) : Int) := u64_or_nat _ _ hW' (Nat.lt_of_le_of_lt Nat.and_le_right hl)
  have p1 := pop_le W
  have p2 := pop_le (orW B W X)
  have hh : Hid (DObj w b B W) := h
  obtain ⟨c0, c1, c2, c3⟩ := h.cells
  have hlow : Hid (∀ z, Calls Try.prog 33 #[.int .i64 (B : Int)] z fun e w' => e = .returned (.int .u64 ((2 ^ B - 1 : Nat) : Int)) ∧ w' = z) := fun z => low_any B z hB
  clear h
  generalize 2 ^ B - 1 = L at *
  generalize X &&& L = XL at *
  generalize orW B W X = V at *
  go_enter Try.func32, Try.ntmps32
  go_wp2_with fail
  refine (dcount_any hh.out hW').mono ?_; rintro e w1 ⟨rfl, rfl⟩
  go_wp2_with fail
  have hD : Hid (DObj (w1.setCell ⟨b, 1, none⟩ (.int .u64 (V : Int))).drew b B V) := (hh.out.store (V := V)).stay below_drw
  have hBt : Hid (But b w1 (w1.setCell ⟨b, 1, none⟩ (.int .u64 (V : Int))).drew) := ((But.of (Below.refl _ w1)).setCell 1 _).trans (But.of below_drw)
  go_region_with (go_at_call 33; refine (hlow.out _).mono ?_; rintro e w2 ⟨rfl, rfl⟩)
  all_goals
    go_wp2_with fail
    refine (dcount_any hD.out hV').mono ?_; rintro e w3 ⟨rfl, rfl⟩
    go_wp2
    go_ret
    exact ⟨rfl, hD.out, hBt.out⟩
/-- The word of a span. -/
def spW (s : Sp) : Nat := if Wh s then (2 ^ s.2.toNat - 1) * 2 ^ s.1.toNat else 0
theorem spW_bit (s : Sp) (k : Nat) : (spW s).testBit k = decide (hasW s (k : Int)) := by
  unfold spW
  split
  · rename_i h
    rw [← Nat.shiftLeft_eq, Nat.testBit_shiftLeft, Nat.testBit_two_pow_sub_one, ← Bool.decide_and]
    congr 1
    apply propext
    obtain ⟨h1, h2, h3⟩ := id h
    unfold hasW
    constructor
    · rintro ⟨a, b⟩; exact ⟨h, by omega, by omega⟩
    · rintro ⟨_, a, b⟩; omega
  · rename_i h
    rw [Nat.zero_testBit, decide_eq_false (fun x => h x.1)]
theorem spW_lt (s : Sp) : spW s < 18446744073709551616 := by
  have : spW s < 2 ^ 64 := Nat.lt_pow_two_of_testBit _ (fun i hi => by
    rw [spW_bit, decide_eq_false]
    rintro ⟨⟨h1, h2, h3⟩, h4, h5⟩
    omega)
  simpa using this
theorem mark_none (s : Sp) (w : World) : Calls Try.prog 12 #[.pointer none, .agg #[.int .i64 s.1, .int .i64 s.2]] w fun e w' => e = .returned (.int .i64 0) ∧ Below w.heap.size w w' := by
  go_enter Try.func12, Try.ntmps12
  go_wp2
  go_ret
  exact ⟨rfl, (Below.refl _ _).alloc (Nat.le_refl _) _⟩
theorem mark_no {w : World} {b B W : Nat} (f n : Int) (h : DObj w b B W) (hs : ¬ Wh (f, n)) (hf : f ≤ 9223372036854775807) :
    Calls Try.prog 12 #[.pointer (some ⟨b, 0, none⟩), .agg #[.int .i64 f, .int .i64 n]] w fun e w' => e = .returned (.int .i64 0) ∧ DObj w' b B W ∧ But b w w' := by
  have hs' : Hid (¬ Wh (f, n)) := hs
  clear hs
  go_enter Try.func12, Try.ntmps12
  go_wp2_with fail
  refine (valid_no _ _ _ _ hf hs'.out).mono ?_; rintro e w1 ⟨rfl, hb⟩
  have hb' : Below w.heap.size w w1 := ((Below.refl _ _).alloc (Nat.le_refl _) _).trans (hb.mono (by simp))
  go_wp2
  go_ret
  exact ⟨rfl, h.stay hb', But.of hb'⟩
set_option maxRecDepth 100000 in
theorem mark_yes {w : World} {b B W : Nat} (f n : Int) (h : DObj w b B W) (hs : Wh (f, n)) (hB : B ≤ 64) (hW : W < 2 ^ B) :
    Calls Try.prog 12 #[.pointer (some ⟨b, 0, none⟩), .agg #[.int .i64 f, .int .i64 n]] w fun e w' => e = .returned (.int .i64 ((pop (orW B W (spW (f, n))) : Nat) - (pop W : Nat))) ∧ DObj w' b B (orW B W (spW (f, n))) ∧ But b w w' := by
  have hs' : Hid (Wh (f, n)) := hs
  obtain ⟨F, rfl⟩ : ∃ F : Nat, f = (F : Int) := ⟨f.toNat, by have := hs.1; simp only at this; omega⟩
  obtain ⟨N, rfl⟩ : ∃ N : Nat, n = (N : Int) := ⟨n.toNat, by have := hs.2.1; simp only at this; omega⟩
  have hN : N ≤ 64 := by have := hs.2.2; have := hs.1; simp only at *; omega
  have hF : F ≤ 64 := by have := hs.2.2; have := hs.2.1; simp only at *; omega
  have f0 : (0 : Int) ≤ (F : Int) := by omega
  have hh : Hid (DObj w b B W) := h
  have hlow : Hid (∀ z, Calls Try.prog 33 #[.int .i64 (N : Int)] z fun e w' => e = .returned (.int .u64 ((2 ^ N - 1 : Nat) : Int)) ∧ w' = z) := fun z => low_any N z hN
  have hX := spW_lt ((F : Int), (N : Int))
  have e0 : IntKind.u64.wrap (((2 ^ N - 1 : Nat) : Int) * 2 ^ F) = ((spW ((F : Int), (N : Int)) : Nat) : Int) := by
    have e1 : (2 ^ N - 1) * 2 ^ F = spW ((F : Int), (N : Int)) := by unfold spW; rw [if_pos hs]; simp
    have e2 : ((2 ^ N - 1 : Nat) : Int) * 2 ^ F = (((2 ^ N - 1) * 2 ^ F : Nat) : Int) := by rw [Int.natCast_mul, Int.natCast_pow]; rfl
    rw [e2, e1, IntKind.wrap_u64]
    omega
  clear hs h
  generalize 2 ^ N - 1 = L at *
  generalize spW ((F : Int), (N : Int)) = X at *
  go_enter Try.func12, Try.ntmps12
  go_wp2_with fail
  refine (valid_t _ _ _ hs'.out).mono ?_; rintro e w1 ⟨rfl, hb⟩
  obtain ⟨q0, q1, q2, q3⟩ := (Box.new w (.int .i64 (F : Int)) (.int .i64 (N : Int)) 39).below hb (by simp)
  have hb' : Below w.heap.size w w1 := ((Below.refl _ _).alloc (Nat.le_refl _) _).trans (hb.mono (by simp))
  have hD : Hid (DObj w1 b B W) := hh.out.stay hb'
  have hb2 : Hid (But b w w1) := But.of hb'
  clear hb hb'
  generalize w.heap.size = O at *
  go_wp2_with fail
  go_region_with (first | (go_at_call 33; refine (hlow.out _).mono ?_; rintro e w2 ⟨rfl, rfl⟩) | (go_at_call 32; refine (add_any X (?_ : DObj _ b B W) hB hW hX).mono ?_; exact hD.out.stay below_drw; rintro e w3 ⟨rfl, hD3, hb3⟩))
  all_goals
    go_wp2
    go_ret
    exact ⟨rfl, hD3, (hb2.out.trans (But.of below_drw)).trans hb3⟩
theorem mark_any {w : World} {b B W : Nat} (f n : Int) (h : DObj w b B W) (hf : f ≤ 9223372036854775807) (hB : B ≤ 64) (hW : W < 2 ^ B) :
    Calls Try.prog 12 #[.pointer (some ⟨b, 0, none⟩), .agg #[.int .i64 f, .int .i64 n]] w fun e w' => e = .returned (.int .i64 ((pop (orW B W (spW (f, n))) : Nat) - (pop W : Nat))) ∧ DObj w' b B (orW B W (spW (f, n))) ∧ But b w w' := by
  by_cases hs : Wh (f, n)
  · exact mark_yes f n h hs hB hW
  · have e : orW B W (spW (f, n)) = W := by unfold orW spW; rw [if_neg hs]; simp
    rw [e, Int.sub_self]
    exact mark_no f n h hs hf
theorem or_nil1 (v : Value) (w : World) : Calls Try.prog 13 #[.pointer none, v] w fun e w' => e = .returned (.int .i64 0) ∧ w' = w := by
  go_enter Try.func13, Try.ntmps13
  go_wp2
  go_ret
  exact ⟨rfl, rfl⟩
theorem or_nil2 (a : Addr) (w : World) : Calls Try.prog 13 #[.pointer (some a), .pointer none] w fun e w' => e = .returned (.int .i64 0) ∧ w' = w := by
  go_enter Try.func13, Try.ntmps13
  go_wp2
  go_ret
  exact ⟨rfl, rfl⟩
theorem or_any {w : World} {b B W c C X : Nat} (h : DObj w b B W) (k : DObj w c C X) (hB : B ≤ 64) (hW : W < 2 ^ B) (hX : X < 18446744073709551616) :
    Calls Try.prog 13 #[.pointer (some ⟨b, 0, none⟩), .pointer (some ⟨c, 0, none⟩)] w fun e w' => e = .returned (.int .i64 ((pop (orW B W X) : Nat) - (pop W : Nat))) ∧ DObj w' b B (orW B W X) ∧ But b w w' := by
  obtain ⟨c0, c1, c2, c3⟩ := k.cells
  have hh : Hid (DObj w b B W) := h
  clear h
  go_enter Try.func13, Try.ntmps13
  go_wp2_with fail
  refine (add_any X hh.out hB hW hX).mono ?_; rintro e w1 ⟨rfl, h1, h2⟩
  go_wp2
  go_ret
  exact ⟨rfl, h1, h2⟩
/-- The nearer end. -/
def clamp (n : Int) : Nat := if n < 0 then 0 else if 64 < n then 64 else n.toNat
theorem clamp_le (n : Int) : clamp n ≤ 64 := by unfold clamp; split; omega; split <;> omega
theorem dobj_new (w : World) (m : Int) (B : Nat) (h : m = (B : Int)) : DObj (w.alloc (.cells #[.int .i64 m, .int .u64 0] 66)) w.heap.size B 0 := by
  subst h; exact heap_alloc_new w _
theorem new_any (n : Int) (w : World) :
    Calls Try.prog 9 #[.int .i64 n] w fun e w' => e = .returned (.pointer (some ⟨w.heap.size, 0, none⟩)) ∧ DObj w' w.heap.size (clamp n) 0 ∧ Below w.heap.size w w' := by
  go_enter Try.func9, Try.ntmps9
  go_wp2
  all_goals
    go_ret
    refine ⟨rfl, dobj_new w _ _ ?_, (Below.refl _ _).alloc (Nat.le_refl _) _⟩
    unfold clamp
    (repeat' split) <;> omega
end Go.Proofs.Ytohjdpdmabjdaaa
