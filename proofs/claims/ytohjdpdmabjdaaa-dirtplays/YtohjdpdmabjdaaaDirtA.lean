/-
  The words of package dirt: how many bits are set, the lowest n bits, how many bytes n bits need; a Dirt in memory; the contracts of dirt.low, byteCount, Count, Blocks, Has, add, and of bits.OnesCount64.
-/
import Derived.Test.YtohjdpdmabjdaaaRowz
import Derived.Test.YtohjdpdmabjdaaaPop
import Derived.Outline
import Derived.Deep.CutRange
namespace Go.Proofs.Ytohjdpdmabjdaaa
open Go.ChangeShapes Go.WideShapes Go.ChangeAt Go.RowKit
attribute [local go_sem ↓] Go.wp_at_zero Go.wp_at_succ

def I1 (x : Int) : Int := IntKind.u64.wrap (bits .and .u64 (x / 2) 6148914691236517205 + bits .and .u64 x 6148914691236517205)
def I2 (x : Int) : Int := IntKind.u64.wrap (bits .and .u64 (x / 4) 3689348814741910323 + bits .and .u64 x 3689348814741910323)
def I3 (x : Int) : Int := bits .and .u64 (IntKind.u64.wrap (x / 16 + x)) 1085102592571150095
theorem s1_le (x : Nat) : s1 8 x ≤ 12297829382473034410 := by
  have h1 := Nat.and_le_right (n := x / 2) (m := rep 85 8)
  have h2 := Nat.and_le_right (n := x) (m := rep 85 8)
  have h3 : rep 85 8 = 6148914691236517205 := rfl
  unfold s1; omega
theorem s2_le (x : Nat) : s2 8 x ≤ 7378697629483820646 := by
  have h1 := Nat.and_le_right (n := x / 4) (m := rep 51 8)
  have h2 := Nat.and_le_right (n := x) (m := rep 51 8)
  have h3 : rep 51 8 = 3689348814741910323 := rfl
  unfold s2; omega
theorem s3_le (x : Nat) : s3 8 x ≤ 1085102592571150095 := by
  have h1 := Nat.and_le_right (n := x / 16 + x) (m := rep 15 8)
  have h3 : rep 15 8 = 1085102592571150095 := rfl
  unfold s3; omega
theorem u64_and_c (a b : Nat) (c : Int) (hc : c = (b : Int)) (ha : a < 18446744073709551616) (hb : b < 18446744073709551616) : bits .and .u64 (a : Int) c = ((a &&& b : Nat) : Int) := by
  subst hc; exact u64_and_nat a b ha hb
theorem I1_eq (X : Nat) (h : X < 18446744073709551616) : I1 (X : Int) = ((s1 8 X : Nat) : Int) := by
  unfold I1
  rw [show (X : Int) / 2 = ((X / 2 : Nat) : Int) by omega, u64_and_c _ 6148914691236517205 6148914691236517205 rfl (by omega) (by decide), u64_and_c _ 6148914691236517205 6148914691236517205 rfl (by omega) (by decide), IntKind.wrap_u64]
  have := s1_le X
  unfold s1 at this ⊢
  rw [show rep 85 8 = 6148914691236517205 from rfl] at this ⊢
  omega
theorem I2_eq (X : Nat) (h : X < 18446744073709551616) : I2 (X : Int) = ((s2 8 X : Nat) : Int) := by
  unfold I2
  rw [show (X : Int) / 4 = ((X / 4 : Nat) : Int) by omega, u64_and_c _ 3689348814741910323 3689348814741910323 rfl (by omega) (by decide), u64_and_c _ 3689348814741910323 3689348814741910323 rfl (by omega) (by decide), IntKind.wrap_u64]
  have := s2_le X
  unfold s2 at this ⊢
  rw [show rep 51 8 = 3689348814741910323 from rfl] at this ⊢
  omega
theorem I3_eq (X : Nat) (h : X ≤ 7378697629483820646) : I3 (X : Int) = ((s3 8 X : Nat) : Int) := by
  unfold I3
  rw [IntKind.wrap_u64, show ((X : Int) / 16 + (X : Int)) % 18446744073709551616 = ((X / 16 + X : Nat) : Int) by omega, u64_and_c _ 1085102592571150095 1085102592571150095 rfl (by omega) (by decide)]
  rfl
theorem ones_any (X : Nat) (w : World) (h : X < 18446744073709551616) :
    Calls Try.prog 38 #[.int .u64 (X : Int)] w fun e w' => e = .returned (.int .i64 (pop X : Nat)) ∧ w' = w := by
  have hp : Hid (fold3 (s3 8 (s2 8 (s1 8 X))) = pop X) := swar X h
  have e1 := I1_eq X h
  unfold I1 at e1
  go_enter Try.func38, Try.ntmps38
  go_upto_region 2 with fail
  have b1 := s1_le X
  clear e1
  generalize s1 8 X = y1 at *
  have e2 := I2_eq y1 (by omega)
  unfold I2 at e2
  go_upto_region 3 with fail
  have b2 := s2_le y1
  clear e2 b1
  generalize s2 8 y1 = y2 at *
  have e3 := I3_eq y2 b2
  unfold I3 at e3
  rw [IntKind.wrap_u64, show ((y2 : Int) / 16 + (y2 : Int)) % 18446744073709551616 = (y2 : Int) / 16 + (y2 : Int) by omega] at e3
  go_upto_region 4 with fail
  have b3 := s3_le y2
  clear e3 b2
  generalize s3 8 y2 = y3 at *
  go_wp2
  go_ret
  refine ⟨?_, rfl⟩
  show Ending.returned (.int .i64 (bits .and .i64 ((y3 : Int) + (y3 : Int) / 256 + ((y3 : Int) + (y3 : Int) / 256) / 65536 + ((y3 : Int) + (y3 : Int) / 256 + ((y3 : Int) + (y3 : Int) / 256) / 65536) / 4294967296) 127)) = _
  rw [i64_and127, ← hp.out]
  rfl

theorem low_eq : ∀ n : Fin 65, IntKind.u64.wrap (IntKind.u64.wrap ((2 : Int) ^ n.val) - 1) = ((2 ^ n.val - 1 : Nat) : Int) := by decide +kernel
theorem low_any (n : Nat) (w : World) (h : n ≤ 64) :
    Calls Try.prog 33 #[.int .i64 (n : Int)] w fun e w' => e = .returned (.int .u64 ((2 ^ n - 1 : Nat) : Int)) ∧ w' = w := by
  have h0 : (0 : Int) ≤ (n : Int) := by omega
  go_enter Try.func33, Try.ntmps33
  go_wp2
  go_ret
  refine ⟨?_, rfl⟩
  show Ending.returned (.int .u64 (IntKind.u64.wrap (IntKind.u64.wrap (2 ^ n) - 1))) = _
  rw [low_eq ⟨n, by omega⟩]
theorem byteCount_any (n : Nat) (w : World) (h : n ≤ 64) :
    Calls Try.prog 39 #[.int .i64 (n : Int)] w fun e w' => e = .returned (.int .i64 (((n + 7) / 8 : Nat) : Int)) ∧ w' = w := by
  have h0 : (0 : Int) ≤ (n : Int) := by omega
  go_enter Try.func39, Try.ntmps39
  go_wp2
  go_ret
  refine ⟨?_, rfl⟩
  show Ending.returned (.int .i64 (((n : Int) + 8 - 1) / 8)) = _
  rw [show ((n : Int) + 8 - 1) / 8 = (((n + 7) / 8 : Nat) : Int) by omega]

/-- A *Dirt: block b holds for how many blocks it is and the word of its marks. -/
def DObj (w : World) (b B W : Nat) : Prop := w.heap[b]? = some (.cells #[.int .i64 (B : Int), .int .u64 (W : Int)] 66 (0, 0))
theorem DObj.lt {w : World} {b B W : Nat} (h : DObj w b B W) : b < w.heap.size := lt_of_block h
theorem DObj.below {w w' : World} {b B W : Nat} {n : Nat} (h : DObj w b B W) (hb : Below n w w') (hn : b < n) : DObj w' b B W := by
  unfold DObj; rw [hb.block b hn]; exact h
theorem DObj.stay {w w' : World} {b B W : Nat} (h : DObj w b B W) (hb : Below w.heap.size w w') : DObj w' b B W := h.below hb h.lt
theorem DObj.but {w w' : World} {b x B W : Nat} (h : DObj w b B W) (hb : But x w w') (hne : b ≠ x) : DObj w' b B W := by
  unfold DObj; rw [hb.block b h.lt hne]; exact h
theorem DObj.cells {w : World} {b B W : Nat} (h : DObj w b B W) : w.cell? ⟨b, 0, none⟩ = some (.int .i64 (B : Int)) ∧ w.cell? ⟨b, 1, none⟩ = some (.int .u64 (W : Int)) ∧ w.frozen? ⟨b, 0, none⟩ = false ∧ w.frozen? ⟨b, 1, none⟩ = false := by
  unfold DObj at h
  exact ⟨by simp [World.cell?, h], by simp [World.cell?, h], by simp [World.frozen?, h], by simp [World.frozen?, h]⟩
theorem DObj.store {w : World} {b B W V : Nat} (h : DObj w b B W) : DObj (w.setCell ⟨b, 1, none⟩ (.int .u64 (V : Int))) b B V := by
  unfold DObj at h ⊢
  simp [World.setCell, Array.getElem?_modify, h]

theorem count_none (w : World) : Calls Try.prog 20 #[.pointer none] w fun e w' => e = .returned (.int .i64 0) ∧ w' = w := by
  go_enter Try.func20, Try.ntmps20
  go_wp2
  go_ret
  exact ⟨rfl, rfl⟩
theorem dcount_any {w : World} {b B W : Nat} (h : DObj w b B W) (hW : W < 18446744073709551616) :
    Calls Try.prog 20 #[.pointer (some ⟨b, 0, none⟩)] w fun e w' => e = .returned (.int .i64 (pop W : Nat)) ∧ w' = w := by
  obtain ⟨c0, c1, _, _⟩ := h.cells
  go_enter Try.func20, Try.ntmps20
  go_wp2_with fail
  refine (ones_any _ _ hW).mono ?_; rintro e w1 ⟨rfl, rfl⟩
  go_wp2
  go_ret
  exact ⟨rfl, rfl⟩
theorem blocks_none (w : World) : Calls Try.prog 24 #[.pointer none] w fun e w' => e = .returned (.int .i64 0) ∧ w' = w := by
  go_enter Try.func24, Try.ntmps24
  go_wp2
  go_ret
  exact ⟨rfl, rfl⟩
theorem blocks_any {w : World} {b B W : Nat} (h : DObj w b B W) :
    Calls Try.prog 24 #[.pointer (some ⟨b, 0, none⟩)] w fun e w' => e = .returned (.int .i64 (B : Int)) ∧ w' = w := by
  obtain ⟨c0, c1, _, _⟩ := h.cells
  go_enter Try.func24, Try.ntmps24
  go_wp2
  go_ret
  exact ⟨rfl, rfl⟩
theorem wipe_none (w : World) : Calls Try.prog 14 #[.pointer none] w fun e w' => e = .returned (.tuple #[]) ∧ w' = w := by
  go_enter Try.func14, Try.ntmps14
  go_wp2
  go_end0
  exact ⟨rfl, rfl⟩
theorem wipe_any {w : World} {b B W : Nat} (h : DObj w b B W) :
    Calls Try.prog 14 #[.pointer (some ⟨b, 0, none⟩)] w fun e w' => e = .returned (.tuple #[]) ∧ DObj w' b B 0 ∧ But b w w' := by
  obtain ⟨c0, c1, c2, c3⟩ := h.cells
  have h' : Hid (DObj w b B W) := h
  clear h
  go_enter Try.func14, Try.ntmps14
  go_wp2
  go_end0
  exact ⟨rfl, h'.out.store (V := 0), (But.of (Below.refl _ w)).setCell 1 _⟩
theorem has_none (k : Int) (w : World) : Calls Try.prog 21 #[.pointer none, .int .i64 k] w fun e w' => e = .returned (.bool false) ∧ w' = w := by
  by_cases h : 0 ≤ k
  · go_enter Try.func21, Try.ntmps21
    go_wp2_with fail
    refine (blocks_none _).mono ?_; rintro e w1 ⟨rfl, rfl⟩
    go_wp2
    go_ret
    exact ⟨rfl, rfl⟩
  · go_enter Try.func21, Try.ntmps21
    go_wp2
    go_ret
    exact ⟨rfl, rfl⟩
theorem bit_eq (W k : Nat) (hW : W < 18446744073709551616) : (decide (bits .and .u64 ((W : Int) / 2 ^ k) 1 = 1)) = W.testBit k := by
  have e : (W : Int) / 2 ^ k = ((W / 2 ^ k : Nat) : Int) := by rw [Int.natCast_ediv]; simp
  have hl : W / 2 ^ k ≤ W := Nat.div_le_self _ _
  rw [e, u64_and_c _ 1 1 rfl (by omega) (by decide), Nat.and_one_is_mod, Nat.testBit_eq_decide_div_mod_eq]
  congr 1
  apply propext
  omega
theorem dhas_any {w : World} {b B W : Nat} (k : Int) (h : DObj w b B W) (hW : W < 18446744073709551616) (hB : B ≤ 64) :
    Calls Try.prog 21 #[.pointer (some ⟨b, 0, none⟩), .int .i64 k] w fun e w' => e = .returned (.bool (decide (0 ≤ k ∧ k < (B : Int)) && W.testBit k.toNat)) ∧ w' = w := by
  obtain ⟨c0, c1, _, _⟩ := h.cells
  by_cases h0 : 0 ≤ k
  · by_cases h1 : k < (B : Int)
    · obtain ⟨K, rfl⟩ : ∃ K : Nat, k = (K : Int) := ⟨k.toNat, by omega⟩
      have hh : DObj w b B W := h
      go_enter Try.func21, Try.ntmps21
      go_wp2_with fail
      refine (blocks_any hh).mono ?_; rintro e w1 ⟨rfl, rfl⟩
      go_wp2
      go_ret
      refine ⟨?_, rfl⟩
      show Ending.returned (.bool (bits .and .u64 ((W : Int) / 2 ^ K) 1 == 1)) = _
      rw [← bit_eq W (K : Int).toNat hW, decide_eq_true ⟨h0, h1⟩, Bool.true_and, Int.toNat_natCast]
      rfl
    · rw [decide_eq_false (by omega), Bool.false_and]
      have hh : DObj w b B W := h
      go_enter Try.func21, Try.ntmps21
      go_wp2_with fail
      refine (blocks_any hh).mono ?_; rintro e w1 ⟨rfl, rfl⟩
      go_wp2
      go_ret
      exact ⟨rfl, rfl⟩
  · rw [decide_eq_false (by omega), Bool.false_and]
    go_enter Try.func21, Try.ntmps21
    go_wp2
    go_ret
    exact ⟨rfl, rfl⟩
end Go.Proofs.Ytohjdpdmabjdaaa
