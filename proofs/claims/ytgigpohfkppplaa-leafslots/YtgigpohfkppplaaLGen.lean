/-
  The contracts of genOf and namesOf.
-/
import Derived.Test.YtgigpohfkppplaaLNames
namespace Go.Proofs.Ytgigpohfkppplaa
open Go.ChangeShapes Go.WideShapes Go.ChangeAt Go.RowKit
attribute [local go_sem] str_size str_extract str_append str_toList

theorem or_up (a x k : Nat) (h : a < 2 ^ k) : a ||| (2 ^ k * x) = a + 2 ^ k * x := by
  have e : 2 ^ k * x = x <<< k := by rw [Nat.shiftLeft_eq, Nat.mul_comm]
  rw [e, Nat.or_comm, ← Nat.shiftLeft_add_eq_or_of_lt h, Nat.add_comm]
theorem pow256 (i : Nat) : 256 ^ i = 2 ^ (i * 8) := by rw [Nat.mul_comm, Nat.pow_mul]
theorem vl_up {S : List UInt8} {i : Nat} {x : UInt8} (h : S[i]? = some x) (hi : i < 4) : ∃ M : Nat, IntKind.u32.wrap ((x.toNat : Int) * 2 ^ (i * 8)) = (M : Int) ∧ bits .or .u32 (vl (S.take i) : Int) (M : Int) = (vl (S.take (i + 1)) : Int) := by
  have hx := x.toNat_lt
  have hl : vl (S.take i) < 256 ^ i := Nat.lt_of_lt_of_le (vl_lt _) (Nat.pow_le_pow_right (by decide) (by rw [List.length_take]; omega))
  have hp : 2 ^ (i * 8) ≤ 16777216 := by
    have : 2 ^ (i * 8) ≤ 2 ^ 24 := Nat.pow_le_pow_right (by decide) (by omega)
    exact this
  have hM : 2 ^ (i * 8) * x.toNat < 4294967296 := by
    have : 2 ^ (i * 8) * x.toNat ≤ 16777216 * x.toNat := Nat.mul_le_mul_right _ hp
    omega
  have ha : vl (S.take i) < 4294967296 := by rw [pow256] at hl; omega
  refine ⟨2 ^ (i * 8) * x.toNat, ?_, ?_⟩
  · rw [show (x.toNat : Int) * 2 ^ (i * 8) = ((2 ^ (i * 8) * x.toNat : Nat) : Int) by rw [Int.natCast_mul, Int.mul_comm]; simp, wrap32, Nat.mod_eq_of_lt hM]
  · rw [u32_or _ _ ha hM, or_up _ _ _ (by rw [← pow256]; exact hl), vl_take h, pow256]

set_option maxRecDepth 100000 in
theorem genOf_any (P : List UInt8) (w : World) (hl : P.length = 32) :
    Calls Try.prog 31 #[.string (str P)] w fun e w' => e = .returned (.int .i64 (sgL P : Int)) ∧ w' = w := by
  have hS : Hid (sgL P = vl ((P.drop 1).take 4)) := Hid.intro rfl
  have hls : (P.drop 1).length = 31 := by rw [List.length_drop]; omega
  have hlt : vl ((P.drop 1).take 4) < 4294967296 := Nat.lt_of_lt_of_le (vl_lt _) (by rw [List.length_take, hls]; decide)
  generalize sgL P = G at *
  go_enter Try.func31, Try.ntmps31
  go_wp2_with fail
  go_loopw [3, 4] (fun gv iv wr => ∃ i : Nat, i ≤ 4 ∧ gv = .int .u32 (vl ((P.drop 1).take i) : Int) ∧ iv = .int .i64 ((i : Int) + 1) ∧ wr = w) (fun _ iv _ => (5 - intOf iv).toNat)
  case atStart => exact ⟨0, Nat.zero_le _, rfl, rfl, rfl⟩
  case round =>
    obtain ⟨i, hi, rfl, rfl, rfl⟩ := hrel
    have i0 : (0 : Int) ≤ (i : Int) := Int.natCast_nonneg _
    by_cases hlt4 : i < 4
    · have i1 : (i : Int) < 4 := by omega
      obtain ⟨x, hx⟩ : ∃ x, (P.drop 1)[i]? = some x := ⟨(P.drop 1)[i]'(by omega), List.getElem?_eq_getElem _⟩
      have hat := str_at P (i + 1) x (by rw [List.getElem?_drop, Nat.add_comm] at hx; exact hx) wr
      have hc : ((i + 1 : Nat) : Int) = (i : Int) + 1 := by omega
      rw [hc] at hat
      unfold bV at hat
      obtain ⟨M, hM1, hM2⟩ := vl_up hx hlt4
      have hm : x.toNat < 256 := x.toNat_lt
      obtain ⟨V1, hV1⟩ : ∃ V1, Hid (vl ((P.drop 1).take (i + 1)) = V1) := ⟨_, rfl⟩
      rw [hV1.out] at hM2
      have hlen : (P.length : Int) = 32 := by omega
      clear hx hl hls hlt hc
      generalize vl ((P.drop 1).take i) = V at *
      generalize x.toNat = m at *
      go_wp2
      go_roundw
      case rel => exact ⟨i + 1, by omega, by rw [hV1.out]; first | done | rw [← hM2, ← hM1, IntKind.wrap_u32'], by go_num, trivial⟩
      case measure => simp [intOf]; omega
    · obtain rfl : i = 4 := by omega
      generalize vl ((P.drop 1).take 4) = V at *
      have hv : (V : Int) < 4294967296 := by omega
      go_wp2
      go_ret
      exact ⟨by rw [hS.out]; rfl, rfl⟩
end Go.Proofs.Ytgigpohfkppplaa
