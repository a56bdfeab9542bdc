/-
  The contracts of package print's Turn, Mix and Of, for every string: what each returns; nothing that was there is written.
-/
import Derived.Test.YtdmamanlclajjaaGreatTurnMath
import Derived.Test.YtdmamanlclajjaaGreatLen
import Derived.Laws.IdiomStrings
import Derived.Laws.BytesArg
import Derived.Laws.DeepStrings4
import Derived.Lib.Strings
namespace Go.Proofs.YtdmamanlclajjaaGreat
open Go.ChangeShapes Go.WideShapes Go.ChangeAt Go.RowKit

theorem turn_any (x : Nat) (n : Int) (hx : x < 4294967296) (w : World) :
    Calls Tryz.prog 97 #[.int .u32 (x : Int), .int .i64 n] w fun e w' => e = .returned (.int .u32 ((rot (low5 n) x : Nat) : Int)) ∧ w' = w := by
  have e1 := and31_u64 n
  have hk := low5_lt n
  generalize low5 n = k at e1 hk
  obtain ⟨A, e2, B, e3, e4⟩ : ∃ A : Nat, IntKind.u32.wrap ((x : Int) * 2 ^ k) = (A : Int) ∧ ∃ B : Nat, (x : Int) / 2 ^ (32 - k) = (B : Int) ∧ bits .or .u32 (A : Int) (B : Int) = ((rot k x : Nat) : Int) :=
    ⟨x * 2 ^ k % 4294967296, by rw [← wrap32]; simp, x / 2 ^ (32 - k), by simp, by
      rw [u32_or _ _ (Nat.mod_lt _ (by decide)) (Nat.lt_of_le_of_lt (Nat.div_le_self _ _) hx), rot_or x k hx hk]⟩
  generalize rot k x = R at e4
  go_enter Tryz.func97, Tryz.ntmps97
  go_wp2
  go_ret
  exact ⟨rfl, rfl⟩

theorem mix_any (a b : Nat) (ha : a < 4294967296) (hb : b < 4294967296) (w : World) :
    Calls Tryz.prog 73 #[.int .u32 (a : Int), .int .u32 (b : Int)] w fun e w' => e = .returned (.int .u32 ((mixN a b : Nat) : Int)) ∧ w' = w := by
  have e1 := u32_xor (rot 5 a) b (rot_lt 5 a ha) hb
  have e2 : IntKind.u32.wrap (((rot 5 a ^^^ b : Nat) : Int) * 2654435761) = ((mixN a b : Nat) : Int) := by
    rw [mixN, ← wrap32]; simp
  go_enter Tryz.func73, Tryz.ntmps73
  go_wp2_with (go_at_call 97; refine (turn_any _ _ ha _).mono ?_; rintro e w1 ⟨rfl, rfl⟩; rw [show low5 5 = 5 from rfl])
  go_ret
  exact ⟨rfl, rfl⟩

/-- A string of these bytes. -/
def str (S : List UInt8) : ByteArray := ⟨S.toArray⟩
theorem str_size (S : List UInt8) : (str S).size = S.length := by simp [str, ByteArray.size]
theorem str_append (S T : List UInt8) : str S ++ str T = str (S ++ T) := by
  apply ByteArray.ext; simp [str]
theorem str_ex (s : ByteArray) : ∃ S, s = str S := ⟨s.data.toList, by apply ByteArray.ext; simp [str]⟩
def bV (x : UInt8) : Value := .int .u8 (x.toNat : Int)
theorem str_at (T : List UInt8) (i : Nat) (x : UInt8) (h : T[i]? = some x) (w : World) : (Instr.index 9 (.string (str T)) (.int .i64 (i : Int))).run Tryz.prog w = .ok (bV x) w := by
  obtain ⟨h1, h2⟩ := List.getElem?_eq_some_iff.1 h
  rw [run_index_string w 9 (str T) .i64 (i : Int) Tryz.underlying9, dif_pos (by rw [str_size]; omega)]
  subst h2
  rfl
attribute [local go_sem] str_size

set_option maxRecDepth 100000 in
theorem of_any (T : List UInt8) (w : World) (hT : T.length ≤ 1000000) :
    Calls Tryz.prog 36 #[.string (str T)] w fun e w' => e = .returned (.int .u32 ((ofN T : Nat) : Int)) ∧ w' = w := by
  go_enter Tryz.func36, Tryz.ntmps36
  go_wp2_with fail
  go_loopw [3, 7] (fun xv iv wr => ∃ i : Nat, i ≤ T.length ∧ xv = .int .u32 ((foldN 2166136261 (T.take i) : Nat) : Int) ∧ iv = .int .i64 i ∧ wr = w) (fun _ iv _ => T.length - (intOf iv).toNat)
  case atStart => exact ⟨0, Nat.zero_le _, rfl, rfl, rfl⟩
  case round =>
    obtain ⟨i, hi, rfl, rfl, rfl⟩ := hrel
    have i0 : (0 : Int) ≤ (i : Int) := Int.natCast_nonneg _
    by_cases hl : i < T.length
    · have i1 : (i : Int) < (T.length : Int) := by omega
      obtain ⟨x, hx⟩ : ∃ x, T[i]? = some x := ⟨T[i], by simp [hl]⟩
      have hat := str_at T i x hx wr
      have hx' := Hid.intro (foldN_take 2166136261 hx)
      clear hx
      have hX := Hid.intro (foldN_lt (T.take i) 2166136261 (by decide))
      have hm : x.toNat < 256 := x.toNat_lt
      unfold bV at hat
      generalize foldN 2166136261 (T.take i) = X at *
      generalize x.toNat = m at *
      go_wp2_with fail
      refine (mix_any X m hX.out (by omega) _).mono ?_; rintro e w4 ⟨rfl, rfl⟩
      go_wp2
      go_roundw
      case rel => exact ⟨i + 1, by omega, by rw [hx'.out], by go_num, trivial⟩
      case measure => simp [intOf]; omega
    · have hii : i = T.length := by omega
      subst hii
      rw [List.take_length]
      have hX := Hid.intro (foldN_lt T 2166136261 (by decide))
      have hw : IntKind.u32.wrap (T.length : Int) = (T.length : Int) := by rw [IntKind.wrap_u32']; omega
      go_wp2_with fail
      refine (mix_any _ T.length hX.out (by omega) _).mono ?_; rintro e w4 ⟨rfl, rfl⟩
      go_wp2
      go_ret
      exact ⟨by unfold ofN; rw [Nat.mod_eq_of_lt (show T.length < 4294967296 by omega)]; rfl, rfl⟩

end Go.Proofs.YtdmamanlclajjaaGreat
