/-
  Marks as bytes, and back.
-/
import Derived.Test.YtohjdpdmabjdaaaReadA
namespace Go.Proofs.Ytohjdpdmabjdaaa
open Go.ChangeShapes Go.WideShapes Go.ChangeAt Go.RowKit

/-- The bytes that Bytes tells. -/
def bstr (W n : Nat) : ByteArray := strOfNums (bytL W n)
theorem bstr_size (W n : Nat) : (bstr W n).size = n := by unfold bstr; rw [strOfNums_size, bytL_length]
theorem byt_lt (W i : Nat) : byt W i < 256 := by unfold byt; omega
theorem bstr_at (W n i : Nat) (h : i < n) : byteAt (bstr W n) i = byt W i := by
  have hs : i < (bstr W n).size := by rw [bstr_size]; exact h
  have hb := byt_lt W i
  unfold byteAt
  rw [dif_pos hs]
  have : (bstr W n)[i] = UInt8.ofNat (byt W i) := by
    show (bstr W n).data[i]'(by exact hs) = _
    have e : (bstr W n).data = ((bytL W n).map fun n => UInt8.ofNat n.toNat).toArray := rfl
    simp only [e, bytL, List.map_map, List.getElem_toArray, List.getElem_map, List.getElem_range]
    simp
  rw [this]
  simp
  omega
theorem byt_bit (W i k : Nat) (hk : k < 8) : (byt W i).testBit k = W.testBit (i * 8 + k) := by
  unfold byt
  rw [show (256 : Nat) = 2 ^ 8 from rfl, Nat.testBit_mod_two_pow, Nat.testBit_div_two_pow, decide_eq_true hk, Bool.true_and]
  congr 1
  omega
theorem rdW_bstr (W n : Nat) (h : W < 2 ^ (n * 8)) : rdW (bstr W n) n = W := by
  apply Nat.eq_of_testBit_eq
  intro j
  rw [rdW_bit]
  by_cases hj : j < n * 8
  · rw [decide_eq_true hj, Bool.true_and, bstr_at W n (j / 8) (by omega), byt_bit W (j / 8) (j % 8) (by omega)]
    congr 1
    omega
  · rw [decide_eq_false hj, Bool.false_and, Nat.testBit_lt_two_pow (Nat.lt_of_lt_of_le h (Nat.pow_le_pow_right (by decide) (by omega)))]
theorem rdW_B (W B : Nat) (h : W < 2 ^ B) : rdW (bstr W ((B + 7) / 8)) ((B + 7) / 8) = W :=
  rdW_bstr W _ (Nat.lt_of_lt_of_le h (Nat.pow_le_pow_right (by decide) (by omega)))
theorem toList_inj' {S T : ByteArray} (h : S.toList = T.toList) : S = T := by
  rw [ByteArray.toList_eq, ByteArray.toList_eq] at h
  cases S; cases T
  simp only [ByteArray.mk.injEq]
  exact Array.toList_inj.1 h
theorem bstr_ne {W V B : Nat} (hW : W < 2 ^ B) (hV : V < 2 ^ B) (h : W ≠ V) : ((bstr W ((B + 7) / 8)).toList == (bstr V ((B + 7) / 8)).toList) = false := by
  rw [beq_eq_false_iff_ne]
  intro e
  apply h
  rw [← rdW_B W B hW, toList_inj' e, rdW_B V B hV]
theorem upS_ne {W V B : Nat} (hB : B ≤ 64) (hW : W < 2 ^ B) (hV : V < 2 ^ B) (h : W ≠ V) : ¬ upS W B = upS V B := by
  intro e
  apply h
  apply Nat.eq_of_testBit_eq
  intro k
  by_cases hk : k < B
  · have a := (upS_spec W B hB).2 (k : Int)
    have b := (upS_spec V B hB).2 (k : Int)
    rw [e, b] at a
    simp only [Int.toNat_natCast] at a
    have a' : V.testBit k = true ↔ W.testBit k = true := ⟨fun x => (a.1 ⟨by omega, by omega, x⟩).2.2, fun x => (a.2 ⟨by omega, by omega, x⟩).2.2⟩
    cases hw : W.testBit k <;> cases hv : V.testBit k <;> simp_all
  · have e1 : W.testBit k = false := Nat.testBit_lt_two_pow (Nat.lt_of_lt_of_le hW (Nat.pow_le_pow_right (by decide) (by omega)))
    have e2 : V.testBit k = false := Nat.testBit_lt_two_pow (Nat.lt_of_lt_of_le hV (Nat.pow_le_pow_right (by decide) (by omega)))
    rw [e1, e2]
end Go.Proofs.Ytohjdpdmabjdaaa
