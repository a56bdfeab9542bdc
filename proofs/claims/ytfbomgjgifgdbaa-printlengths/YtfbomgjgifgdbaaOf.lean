/-
  The contracts of package print's Of and of the document's Print, for every string: what each returns; nothing that was there is written.
-/
import Derived.Test.YtfbomgjgifgdbaaCalls
import Derived.Laws.IdiomStrings
import Derived.Laws.BytesArg
import Derived.Laws.DeepStrings4
import Derived.Lib.Strings
namespace Go.Proofs.Ytfbomgjgifgdbaa
open Go.ChangeShapes Go.WideShapes Go.ChangeAt Go.RowKit

/-- A string of these bytes. -/
def str (S : List UInt8) : ByteArray := ⟨S.toArray⟩
theorem str_size (S : List UInt8) : (str S).size = S.length := by simp [str, ByteArray.size]
theorem str_append (S T : List UInt8) : str S ++ str T = str (S ++ T) := by
  apply ByteArray.ext; simp [str]
theorem str_ex (s : ByteArray) : ∃ S, s = str S := ⟨s.data.toList, by apply ByteArray.ext; simp [str]⟩
def bV (x : UInt8) : Value := .int .u8 (x.toNat : Int)
theorem str_at (T : List UInt8) (i : Nat) (x : UInt8) (h : T[i]? = some x) (w : World) : (Instr.index 9 (.string (str T)) (.int .i64 (i : Int))).run Try.prog w = .ok (bV x) w := by
  obtain ⟨h1, h2⟩ := List.getElem?_eq_some_iff.1 h
  rw [run_index_string w 9 (str T) .i64 (i : Int) Try.underlying9, dif_pos (by rw [str_size]; omega)]
  subst h2
  rfl
attribute [local go_sem] str_size

set_option maxRecDepth 100000 in
theorem of_any (T : List UInt8) (w : World) (hT : T.length ≤ 1000000) :
    Calls Try.prog 9 #[.string (str T)] w fun e w' => e = .returned (.int .u32 ((ofN T : Nat) : Int)) ∧ w' = w := by
  go_enter Try.func9, Try.ntmps9
  go_wp2_with fail
  go_loopw [3, 7] (fun xv iv wr => ∃ i : Nat, i ≤ T.length ∧ xv = .int .u32 ((foldN 2166136261 (T.take i) : Nat) : Int) ∧ iv = .int .i64 i ∧ wr = w) (fun _ iv _ => T.length - (intOf iv).toNat)
  case atStart => exact ⟨0, Nat.zero_le _, rfl, rfl, rfl⟩
  case round =>
    obtain ⟨i, hi, rfl, rfl, rfl⟩ := hrel
    have i0 : (0 : Int) ≤ (i : Int) := Int.natCast_nonneg _
    by_cases hl : i < T.length
    · have i1 : (i : Int) < (T.length : Int) := by omega
      obtain ⟨x, hx⟩ : ∃ x, T[i]? = some x := ⟨T[i], by simp [hl]⟩
      have hat := str_at T i x hx wr
      have hx' := Hid.intro (foldN_take 2166136261 hx)
      clear hx
      have hX := Hid.intro (foldN_lt (T.take i) 2166136261 (by decide))
      have hm : x.toNat < 256 := x.toNat_lt
      unfold bV at hat
      generalize foldN 2166136261 (T.take i) = X at *
      generalize x.toNat = m at *
      go_wp2_with fail
      refine (mix_any X m hX.out (by omega) _).mono ?_; rintro e w4 ⟨rfl, rfl⟩
      go_wp2
      go_roundw
      case rel => exact ⟨i + 1, by omega, by rw [hx'.out], by go_num, trivial⟩
      case measure => simp [intOf]; omega
    · have hii : i = T.length := by omega
      subst hii
      rw [List.take_length]
      have hX := Hid.intro (foldN_lt T 2166136261 (by decide))
      have hw : IntKind.u32.wrap (T.length : Int) = (T.length : Int) := by rw [IntKind.wrap_u32']; omega
      go_wp2_with fail
      refine (mix_any _ T.length hX.out (by omega) _).mono ?_; rintro e w4 ⟨rfl, rfl⟩
      go_wp2
      go_ret
      exact ⟨by unfold ofN; rw [Nat.mod_eq_of_lt (show T.length < 4294967296 by omega)]; rfl, rfl⟩

set_option maxRecDepth 100000 in
theorem rof_any (T : List UInt8) (w : World) (hT : T.length ≤ 1000000) :
    Calls Try.prog 10 #[.string (str T)] w fun e w' => e = .returned (.int .u32 ((ofN T : Nat) : Int)) ∧ w' = w := by
  go_enter Try.func10, Try.ntmps10
  go_wp2_with fail
  go_loopw [3, 4] (fun xv iv wr => ∃ i : Nat, i ≤ T.length ∧ xv = .int .u32 ((foldN 2166136261 (T.take i) : Nat) : Int) ∧ iv = .int .i64 i ∧ wr = w) (fun _ iv _ => T.length - (intOf iv).toNat)
  case atStart => exact ⟨0, Nat.zero_le _, rfl, rfl, rfl⟩
  case round =>
    obtain ⟨i, hi, rfl, rfl, rfl⟩ := hrel
    have i0 : (0 : Int) ≤ (i : Int) := Int.natCast_nonneg _
    by_cases hl : i < T.length
    · have i1 : (i : Int) < (T.length : Int) := by omega
      obtain ⟨x, hx⟩ : ∃ x, T[i]? = some x := ⟨T[i], by simp [hl]⟩
      have hat := str_at T i x hx wr
      have hx' := Hid.intro (foldN_take 2166136261 hx)
      clear hx
      have hX := Hid.intro (foldN_lt (T.take i) 2166136261 (by decide))
      have hm : x.toNat < 256 := x.toNat_lt
      unfold bV at hat
      generalize foldN 2166136261 (T.take i) = X at *
      generalize x.toNat = m at *
      go_wp2_with fail
      refine (rmix_any X m hX.out (by omega) _).mono ?_; rintro e w4 ⟨rfl, rfl⟩
      go_wp2
      go_roundw
      case rel => exact ⟨i + 1, by omega, by rw [hx'.out], by go_num, trivial⟩
      case measure => simp [intOf]; omega
    · have hii : i = T.length := by omega
      subst hii
      rw [List.take_length]
      have hX := Hid.intro (foldN_lt T 2166136261 (by decide))
      have hw : IntKind.u32.wrap (T.length : Int) = (T.length : Int) := by rw [IntKind.wrap_u32']; omega
      go_wp2_with fail
      refine (rmix_any _ T.length hX.out (by omega) _).mono ?_; rintro e w4 ⟨rfl, rfl⟩
      go_wp2
      go_ret
      exact ⟨by unfold ofN; rw [Nat.mod_eq_of_lt (show T.length < 4294967296 by omega)]; rfl, rfl⟩
end Go.Proofs.Ytfbomgjgifgdbaa
