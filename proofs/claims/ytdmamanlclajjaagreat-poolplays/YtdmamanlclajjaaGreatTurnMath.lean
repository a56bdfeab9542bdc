/-
  Numbers of 32 bits that are turned and mixed, as natural numbers: turned once (r1), so many times (rot), mixed (mixN), all bytes (ofN); turned 32 times a number is as it was; what is mixed into the same is the same.
-/
import Derived.Test.YtdmamanlclajjaaGreatMath
import Derived.WalkKit
import Derived.ProofKit
import Derived.WalkSpells
import Derived.Below
import Derived.Laws.BitsAllLaws
import Derived.Laws.Bits64
namespace Go.Proofs.YtdmamanlclajjaaGreat
open Go.ChangeShapes Go.WideShapes Go.ChangeAt Go.RowKit

def r1 (x : Nat) : Nat := (2 * x) % 4294967296 + x / 2147483648
def rot : Nat → Nat → Nat
  | 0, x => x
  | k + 1, x => r1 (rot k x)
def mixN (a b : Nat) : Nat := (rot 5 a ^^^ b) * 2654435761 % 4294967296
def foldN : Nat → List UInt8 → Nat
  | x, [] => x
  | x, c :: S => foldN (mixN x c.toNat) S
def ofN (S : List UInt8) : Nat := mixN (foldN 2166136261 S) (S.length % 4294967296)

theorem r1_lt (x : Nat) (h : x < 4294967296) : r1 x < 4294967296 := by unfold r1; omega
theorem rot_lt (k x : Nat) (h : x < 4294967296) : rot k x < 4294967296 := by
  induction k with
  | zero => exact h
  | succ k ih => exact r1_lt _ ih
theorem rot_add (a b x : Nat) : rot a (rot b x) = rot (a + b) x := by
  induction a with
  | zero => simp [rot]
  | succ a ih => rw [Nat.succ_add]; simp only [rot, ih]
theorem r1_at (A D x : Nat) (hA : 0 < A) (e : A * D = 2147483648) (hx : x < 4294967296) : r1 ((x % (A * 2)) * D + x / (A * 2)) = (x % A) * (D * 2) + x / A := by
  rw [Nat.mod_mul, ← Nat.div_div_eq_div_mul]
  have hu : x % A < A := Nat.mod_lt _ hA
  have hy : x / A < D * 2 := by rw [Nat.div_lt_iff_lt_mul hA, Nat.mul_comm, ← Nat.mul_assoc, e]; omega
  generalize x % A = u at *
  generalize x / A = y at *
  have h1 : (u + A * (y % 2)) * D = u * D + (y % 2) * 2147483648 := by rw [Nat.add_mul, Nat.mul_right_comm, e, Nat.mul_comm 2147483648]
  have h2 : u * D + D ≤ 2147483648 := by
    have := Nat.mul_le_mul_right D (show u + 1 ≤ A from hu)
    rw [e, Nat.add_mul, Nat.one_mul] at this; exact this
  have h3 : u * (D * 2) = 2 * (u * D) := by rw [Nat.mul_comm D 2, Nat.mul_left_comm]
  rw [h1, h3]
  generalize u * D = z at *
  unfold r1; omega
theorem rot_step (k x : Nat) (hx : x < 4294967296) (hk : k < 32) (e : rot k x = (x % 2 ^ (32 - k)) * 2 ^ k + x / 2 ^ (32 - k)) :
    rot (k + 1) x = (x % 2 ^ (32 - (k + 1))) * 2 ^ (k + 1) + x / 2 ^ (32 - (k + 1)) := by
  rw [rot, e, show 32 - k = (32 - (k + 1)) + 1 by omega, Nat.pow_succ, Nat.pow_succ]
  exact r1_at _ _ x (Nat.two_pow_pos _) (by rw [← Nat.pow_add, show 32 - (k + 1) + k = 31 by omega]) hx
theorem rot_eq (x : Nat) (hx : x < 4294967296) : ∀ k, k ≤ 32 → rot k x = (x % 2 ^ (32 - k)) * 2 ^ k + x / 2 ^ (32 - k)
  | 0, _ => by simp only [rot, Nat.sub_zero, Nat.reducePow]; omega
  | k + 1, h => rot_step k x hx (by omega) (rot_eq x hx k (by omega))
theorem rot_32 (x : Nat) (hx : x < 4294967296) : rot 32 x = x := by
  rw [rot_eq x hx 32 (by omega)]; simp only [Nat.sub_self, Nat.reducePow]; omega
theorem rot_per (x : Nat) (hx : x < 4294967296) (m : Nat) : ∀ q, rot (m + 32 * q) x = rot m x
  | 0 => rfl
  | q + 1 => by rw [Nat.mul_succ, ← Nat.add_assoc, ← rot_add, rot_32 x hx]; exact rot_per x hx m q
theorem rot_mod (x : Nat) (hx : x < 4294967296) (m : Nat) : rot (m % 32) x = rot m x := by
  rw [← rot_per x hx (m % 32) (m / 32), Nat.mod_add_div]

/-- The program's own word for it: two shifts, and or. -/
theorem rot_or (x k : Nat) (hx : x < 4294967296) (hk : k < 32) : (x * 2 ^ k % 4294967296) ||| (x / 2 ^ (32 - k)) = rot k x := by
  rw [rot_eq x hx k (by omega)]
  have e : 4294967296 = 2 ^ (32 - k) * 2 ^ k := by rw [← Nat.pow_add, Nat.sub_add_cancel (by omega)]
  rw [e, Nat.mul_mod_mul_right]
  have hq : x / 2 ^ (32 - k) < 2 ^ k := by
    rw [Nat.div_lt_iff_lt_mul (Nat.two_pow_pos _), Nat.mul_comm, ← e]; exact hx
  rw [← Nat.shiftLeft_eq, ← Nat.shiftLeft_add_eq_or_of_lt hq]

theorem mixN_lt (a b : Nat) : mixN a b < 4294967296 := Nat.mod_lt _ (by decide)
theorem foldN_lt (S : List UInt8) : ∀ x, x < 4294967296 → foldN x S < 4294967296 := by
  induction S with
  | nil => intro x h; rw [foldN]; exact h
  | cons c S ih => intro x _; rw [foldN]; exact ih _ (mixN_lt _ _)

/-- The factor has an inverse: nothing is lost by the product. -/
theorem mul_back (a : Nat) (h : a < 4294967296) : a * 2654435761 % 4294967296 * 244002641 % 4294967296 = a := by
  rw [Nat.mod_mul_mod, Nat.mul_assoc, show 2654435761 * 244002641 = 1 + 4294967296 * 150801925 from rfl, Nat.mul_add, Nat.mul_one, Nat.mul_left_comm, Nat.add_mul_mod_self_left, Nat.mod_eq_of_lt h]
theorem mul_inj (a b : Nat) (ha : a < 4294967296) (hb : b < 4294967296) (e : a * 2654435761 % 4294967296 = b * 2654435761 % 4294967296) : a = b := by
  rw [← mul_back a ha, ← mul_back b hb, e]
theorem xor_lt (a b : Nat) (ha : a < 4294967296) (hb : b < 4294967296) : a ^^^ b < 4294967296 := Nat.xor_lt_two_pow (n := 32) ha hb
theorem xor_back (a b : Nat) : a ^^^ (a ^^^ b) = b := by rw [← Nat.xor_assoc, Nat.xor_self, Nat.zero_xor]
theorem rot_inj (k a b : Nat) (ha : a < 4294967296) (hb : b < 4294967296) (hk : k ≤ 32) (e : rot k a = rot k b) : a = b := by
  rw [← rot_32 a ha, ← rot_32 b hb, show 32 = (32 - k) + k by omega, ← rot_add, ← rot_add, e]
theorem mixN_right (a b c : Nat) (ha : a < 4294967296) (hb : b < 4294967296) (hc : c < 4294967296) : mixN a b = mixN a c ↔ b = c := by
  constructor
  · intro e
    have := mul_inj _ _ (xor_lt _ _ (rot_lt 5 a ha) hb) (xor_lt _ _ (rot_lt 5 a ha) hc) e
    rw [← xor_back (rot 5 a) b, this, xor_back]
  · rintro rfl; rfl
theorem mixN_left (a b c : Nat) (ha : a < 4294967296) (hb : b < 4294967296) (hc : c < 4294967296) : mixN b a = mixN c a ↔ b = c := by
  constructor
  · intro e
    have := mul_inj _ _ (xor_lt _ _ (rot_lt 5 b hb) ha) (xor_lt _ _ (rot_lt 5 c hc) ha) e
    refine rot_inj 5 b c hb hc (by omega) ?_
    rw [← xor_back a (rot 5 b), Nat.xor_comm a (rot 5 b), this, Nat.xor_comm (rot 5 c) a, xor_back]
  · rintro rfl; rfl
theorem foldN_snoc (S : List UInt8) (c : UInt8) : ∀ x, foldN x (S ++ [c]) = mixN (foldN x S) c.toNat := by
  induction S with
  | nil => intro x; rw [List.nil_append, foldN, foldN, foldN]
  | cons d S ih => intro x; rw [List.cons_append, foldN, foldN]; exact ih _
theorem foldN_take {S : List UInt8} {i : Nat} {c : UInt8} (x : Nat) (h : S[i]? = some c) : foldN x (S.take (i + 1)) = mixN (foldN x (S.take i)) c.toNat := by
  rw [List.take_add_one, h, Option.toList_some, foldN_snoc]

/-! ### The model's words for it. -/
theorem wrap32 (n : Nat) : IntKind.u32.wrap (n : Int) = ((n % 4294967296 : Nat) : Int) := by
  rw [IntKind.wrap_u32']; omega
theorem u32_or (a b : Nat) (ha : a < 4294967296) (hb : b < 4294967296) : bits .or .u32 (a : Int) (b : Int) = ((a ||| b : Nat) : Int) := by
  have hx : a ||| b < 4294967296 := Nat.or_lt_two_pow (n := 32) ha hb
  have h1 : (BitVec.ofInt 32 (a : Int)).toNat = a := by rw [BitVec.ofInt_natCast, BitVec.toNat_ofNat]; exact Nat.mod_eq_of_lt (by omega)
  have h2 : (BitVec.ofInt 32 (b : Int)).toNat = b := by rw [BitVec.ofInt_natCast, BitVec.toNat_ofNat]; exact Nat.mod_eq_of_lt (by omega)
  show IntKind.u32.wrap ((BitVec.ofInt 32 (a : Int) ||| BitVec.ofInt 32 (b : Int)).toNat : Int) = _
  rw [BitVec.toNat_or, h1, h2, wrap32, Nat.mod_eq_of_lt hx]
theorem u32_xor (a b : Nat) (ha : a < 4294967296) (hb : b < 4294967296) : bits .xor .u32 (a : Int) (b : Int) = ((a ^^^ b : Nat) : Int) := by
  have hx := xor_lt a b ha hb
  have h1 : (BitVec.ofInt 32 (a : Int)).toNat = a := by rw [BitVec.ofInt_natCast, BitVec.toNat_ofNat]; exact Nat.mod_eq_of_lt (by omega)
  have h2 : (BitVec.ofInt 32 (b : Int)).toNat = b := by rw [BitVec.ofInt_natCast, BitVec.toNat_ofNat]; exact Nat.mod_eq_of_lt (by omega)
  show IntKind.u32.wrap ((BitVec.ofInt 32 (a : Int) ^^^ BitVec.ofInt 32 (b : Int)).toNat : Int) = _
  rw [BitVec.toNat_xor, h1, h2, wrap32, Nat.mod_eq_of_lt hx]
/-- The lowest five bits of an int, whatever its sign. -/
def low5 (n : Int) : Nat := (n % 32).toNat
theorem low5_lt (n : Int) : low5 n < 32 := by unfold low5; omega
theorem and31_u64 (n : Int) : bits .and .u64 (IntKind.u64.wrap n) 31 = ((low5 n : Nat) : Int) := by
  have h2 : (BitVec.ofInt 64 31).toNat = 2 ^ 5 - 1 := rfl
  have h1 : (BitVec.ofInt 64 (IntKind.u64.wrap n)).toNat = (n % 18446744073709551616).toNat := by
    rw [IntKind.wrap_u64, BitVec.toNat_ofInt]
    have : ((2 ^ 64 : Nat) : Int) = 18446744073709551616 := rfl
    rw [this, Int.emod_emod]
  show IntKind.u64.wrap ((BitVec.ofInt 64 (IntKind.u64.wrap n) &&& BitVec.ofInt 64 31).toNat : Int) = _
  rw [BitVec.toNat_and, h1, h2, Nat.and_two_pow_sub_one_eq_mod, IntKind.wrap_u64]
  unfold low5; omega
theorem and31_i64 (n : Int) : bits .and .i64 n 31 = ((low5 n : Nat) : Int) := by
  have h2 : (BitVec.ofInt 64 31).toNat = 2 ^ 5 - 1 := rfl
  have h1 : (BitVec.ofInt 64 n).toNat = (n % 18446744073709551616).toNat := by
    rw [BitVec.toNat_ofInt]; rfl
  show IntKind.i64.wrap ((BitVec.ofInt 64 n &&& BitVec.ofInt 64 31).toNat : Int) = _
  rw [BitVec.toNat_and, h1, h2, Nat.and_two_pow_sub_one_eq_mod, IntKind.wrap_i64]
  unfold low5; omega
end Go.Proofs.YtdmamanlclajjaaGreat
