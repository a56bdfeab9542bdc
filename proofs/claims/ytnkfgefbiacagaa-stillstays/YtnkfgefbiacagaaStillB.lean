/-
  The contract of still's Let.
-/
import Derived.Test.YtnkfgefbiacagaaStillA
namespace Go.Proofs.Ytnkfgefbiacagaa
open Go.ChangeShapes Go.WideShapes Go.ChangeAt Go.RowKit
attribute [local go_sem ↓] Go.wp_at_zero Go.wp_at_succ
attribute [local go_sem] str_size str_extract str_append str_toList

theorem two_lt (k : Nat) (h : k < 64) : 2 ^ k < 18446744073709551616 := by
  have : 2 ^ k < 2 ^ 64 := Nat.pow_lt_pow_right (by decide) h
  simpa using this
theorem shl1 (k : Nat) (h : k < 64) : IntKind.u64.wrap ((2 : Int) ^ k) = ((2 ^ k : Nat) : Int) := by
  have := two_lt k h
  have e : ((2 : Int) ^ k) = ((2 ^ k : Nat) : Int) := by simp
  rw [IntKind.wrap_u64, e]
  generalize 2 ^ k = P at *
  omega
/-- The word with block k, and without it. -/
def onW (W k : Nat) : Nat := W ||| 2 ^ k
def offW (W k : Nat) : Nat := W &&& (18446744073709551615 - 2 ^ k)
theorem or_lt {a b : Nat} (ha : a < 18446744073709551616) (hb : b < 18446744073709551616) : a ||| b < 18446744073709551616 := by
  have := Nat.or_lt_two_pow (n := 64) (x := a) (y := b) (by simpa using ha) (by simpa using hb)
  simpa using this
theorem onW_lt {W k : Nat} (hW : W < 18446744073709551616) (hk : k < 64) : onW W k < 18446744073709551616 := or_lt hW (two_lt k hk)
theorem offW_lt {W k : Nat} (hW : W < 18446744073709551616) : offW W k < 18446744073709551616 := Nat.lt_of_le_of_lt Nat.and_le_left hW
theorem onW_bit (W k j : Nat) : (onW W k).testBit j = (W.testBit j || decide (k = j)) := by
  unfold onW; rw [Nat.testBit_or, Nat.testBit_two_pow]
theorem offW_bit {W k : Nat} (hW : W < 18446744073709551616) (hk : k < 64) (j : Nat) : (offW W k).testBit j = (W.testBit j && !decide (k = j)) := by
  unfold offW
  rw [Nat.testBit_and]
  have hp := two_lt k hk
  have := Nat.testBit_two_pow_sub_succ (x := 2 ^ k) (n := 64) (by simpa using hp) j
  have e64 : (2 : Nat) ^ 64 - (2 ^ k + 1) = 18446744073709551615 - 2 ^ k := by omega
  rw [e64] at this
  rw [this, Nat.testBit_two_pow]
  by_cases hj : j < 64
  · simp [hj]
  · have : W.testBit j = false := Nat.testBit_lt_two_pow (Nat.lt_of_lt_of_le (m := 2 ^ 64) (by simpa using hW) (Nat.pow_le_pow_right (by decide) (by omega)))
    simp [this]

set_option maxRecDepth 100000 in
theorem let_no {w : World} {s f g B K G : Nat} {O : List (List UInt8)} {S : List UInt8} (k : Nat) (h : SObj w s f K G O) (hF : FObj w f g S) (hl : S.length = B * 8) (h2 : B ≤ 64) (hk : k < B) (hg : G.testBit k = true) :
    Calls Try.prog 15 #[.pointer (some ⟨s, 0, none⟩), .int .i64 (k : Int)] w fun e w' => e = .returned (.bool false) ∧ w' = w := by
  obtain ⟨c0, c1, c2, c3⟩ := h.cells
  have hh := Hid.intro (has_any G k w h.hG (by omega))
  rw [hg] at hh
  have hn := Hid.intro (now_any h)
  have hbl := Hid.intro (fblocks_B hF hl)
  have k64 : k < 64 := by omega
  have k0 : (0 : Int) ≤ (k : Int) := by omega
  have k1 : (k : Int) < (B : Int) := by omega
  clear h hF hl hg
  go_enter Try.func15, Try.ntmps15
  go_wp2_with fail
  refine hn.out.mono ?_; rintro e w2 ⟨rfl, rfl⟩
  go_wp2_with fail
  refine hbl.out.mono ?_; rintro e w3 ⟨rfl, rfl⟩
  go_wp2_with fail
  refine hh.out.mono ?_; rintro e w4 ⟨rfl, rfl⟩
  go_wp2
  go_ret
  exact ⟨rfl, rfl⟩
set_option maxRecDepth 100000 in
theorem let_yes {w : World} {s f g B K G : Nat} {O : List (List UInt8)} {S : List UInt8} (k : Nat) (h : SObj w s f K G O) (hF : FObj w f g S) (hl : S.length = B * 8) (h2 : B ≤ 64) (hk : k < B) (hg : G.testBit k = false) :
    Calls Try.prog 15 #[.pointer (some ⟨s, 0, none⟩), .int .i64 (k : Int)] w fun e w' => e = .returned (.bool true) ∧ SObj w' s f (offW K k) (onW G k) (O.set k []) ∧ But s w w' := by
  obtain ⟨c0, c1, c2, c3⟩ := h.cells
  have hh := Hid.intro (has_any G k w h.hG (by omega))
  rw [hg] at hh
  have hn := Hid.intro (now_any h)
  have hbl := Hid.intro (fblocks_B hF hl)
  have k64 : k < 64 := by omega
  have k0 : (0 : Int) ≤ (k : Int) := by omega
  have k1 : (k : Int) < (B : Int) := by omega
  have k2 : (k : Int) < 64 := by omega
  have f2 := c3 2
  have f1 := c3 1
  have f3 := c3 (3 + k)
  have co := h.old k (O[k]'(by rw [h.len]; omega)) (by simp)
  have e0 := shl1 k k64
  have e1 : bits .or .u64 (G : Int) ((2 ^ k : Nat) : Int) = ((onW G k : Nat) : Int) := u64_or_nat _ _ h.hG (two_lt k k64)
  have e2 : bits .andNot .u64 (K : Int) ((2 ^ k : Nat) : Int) = ((offW K k : Nat) : Int) := u64_andNot_nat _ _ h.hK (two_lt k k64)
  have hlt := h.lt
  have hend : Hid (∀ w', w' = ((((w.setCell ⟨s, 2, none⟩ (.int .u64 ((onW G k : Nat) : Int))).setCell ⟨s, 1, none⟩ (.int .u64 ((offW K k : Nat) : Int)))).setCell ⟨s, 3 + k, none⟩ (.string (str []))).drew.drew → SObj w' s f (offW K k) (onW G k) (O.set k []) ∧ But s w w') := Hid.intro (fun w' hw => by
    subst hw
    refine ⟨((((h.setG (onW_lt h.hG k64)).setK (offW_lt h.hK)).setO k []).below below_drw).below below_drw, ?_⟩
    exact ((((((But.of (Below.refl _ _)).setCell 2 _).setCell 1 _).setCell (3 + k) _).trans (But.of below_drw)).trans (But.of below_drw)))
  generalize onW G k = G' at *
  generalize offW K k = K' at *
  generalize 2 ^ k = P at *
  generalize O[k]'(by rw [h.len]; omega) = T at *
  clear h hF hl hg c3
  go_enter Try.func15, Try.ntmps15
  go_wp2_with fail
  refine hn.out.mono ?_; rintro e w2 ⟨rfl, rfl⟩
  go_wp2_with fail
  refine hbl.out.mono ?_; rintro e w3 ⟨rfl, rfl⟩
  go_wp2_with fail
  refine hh.out.mono ?_; rintro e w4 ⟨rfl, rfl⟩
  go_wp2_with fail
  go_region
  all_goals
    go_wp2_with fail
    go_region
    all_goals
      go_wp2
      go_ret
      exact ⟨rfl, hend.out _ rfl⟩
end Go.Proofs.Ytnkfgefbiacagaa
