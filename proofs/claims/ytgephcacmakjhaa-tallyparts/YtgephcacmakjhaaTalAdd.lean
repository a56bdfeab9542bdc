/-
  The contracts of tally's Add and Of and of the document's Tally, for every string: what each returns; nothing that was there is written.
-/
import Derived.Test.YtgephcacmakjhaaTalMath
import Derived.Outline
import Derived.Laws.IdiomStrings
import Derived.Laws.BytesArg
import Derived.Laws.DeepStrings4
import Derived.Lib.Strings
namespace Go.Proofs.Ytgephcacmakjhaa
open Go.ChangeShapes Go.WideShapes Go.ChangeAt Go.RowKit

/-- A string of these bytes. -/
def str (S : List UInt8) : ByteArray := ⟨S.toArray⟩
theorem str_size (S : List UInt8) : (str S).size = S.length := by simp [str, ByteArray.size]
theorem str_extract (S : List UInt8) (a b : Nat) : (str S).extract a b = str ((S.drop a).take (b - a)) := ByteArray.extract_mk S a b
theorem str_append (S T : List UInt8) : str S ++ str T = str (S ++ T) := by
  apply ByteArray.ext; simp [str]
theorem str_inj {S T : List UInt8} : str S = str T ↔ S = T := by
  constructor
  · intro h; have := congrArg (fun x => x.data.toList) h; simpa [str] using this
  · rintro rfl; rfl
theorem str_ex (s : ByteArray) : ∃ S, s = str S := ⟨s.data.toList, by apply ByteArray.ext; simp [str]⟩
theorem str_toList (S : List UInt8) : (str S).toList = S := by rw [Go.Lib.toList_data]; rfl
def bV (x : UInt8) : Value := .int .u8 (x.toNat : Int)
theorem bV_one (x : UInt8) : (bV x).oneCell' = true := rfl
theorem str_at (T : List UInt8) (i : Nat) (x : UInt8) (h : T[i]? = some x) (w : World) : (Instr.index 9 (.string (str T)) (.int .i64 (i : Int))).run Try.prog w = .ok (bV x) w := by
  obtain ⟨h1, h2⟩ := List.getElem?_eq_some_iff.1 h
  rw [run_index_string w 9 (str T) .i64 (i : Int) Try.underlying9, dif_pos (by rw [str_size]; omega)]
  subst h2
  rfl
attribute [local go_sem] str_size

theorem stp_1 (p : Nat × Nat) (c : Nat) : (stp p c).1 = (p.1 + c) % 65521 := rfl
theorem stp_2 (p : Nat × Nat) (c : Nat) : (stp p c).2 = (p.2 + (p.1 + c) % 65521) % 65521 := rfl

set_option maxRecDepth 100000 in
theorem add_any (t : Nat) (T : List UInt8) (w : World) (ht : t < 4294967296) (hT : T.length ≤ 1000000) :
    Calls Try.prog 13 #[.int .u32 (t : Int), .string (str T)] w fun e w' => e = .returned (.int .u32 ((w32 (tl (sp t) T) : Nat) : Int)) ∧ w' = w := by
  have e1 := wrap16 t
  have e2 : (t : Int) / 65536 = (((sp t).2 : Nat) : Int) := by unfold sp; simp
  have e3 : t % 65536 = (sp t).1 := rfl
  rw [e3] at e1
  have hq := Hid.intro (sp_lo ht)
  have hq1 := (sp_lo ht).1
  have hq2 := (sp_lo ht).2
  have e4 : IntKind.u32.wrap (((sp t).1 : Nat) : Int) = (((sp t).1 : Nat) : Int) := by rw [wrap32, Nat.mod_eq_of_lt (by omega)]
  clear e3
  generalize sp t = q at *
  go_enter Try.func13, Try.ntmps13
  go_wp2_with fail
  go_loopw [5, 6, 15] (fun lv hv iv wr => ∃ i : Nat, i ≤ T.length ∧ lv = .int .u32 ((tl q (T.take i)).1 : Int) ∧ hv = .int .u32 ((tl q (T.take i)).2 : Int) ∧ iv = .int .i64 i ∧ wr = w) (fun _ _ iv _ => T.length - (intOf iv).toNat)
  case atStart =>
    refine ⟨0, Nat.zero_le _, ?_, ?_, rfl, rfl⟩
    · rw [List.take_zero, tl_nil]
    · rw [List.take_zero, tl_nil]
  case round =>
    obtain ⟨i, hi, rfl, rfl, rfl, rfl⟩ := hrel
    have i0 : (0 : Int) ≤ (i : Int) := Int.natCast_nonneg _
    have hX := Hid.intro (tl_lo (T.take i) q hq.out)
    have hx1 := hX.out.1
    have hx2 := hX.out.2
    clear e1 e2 e4 hq1 hq2
    by_cases hl : i < T.length
    · have i1 : (i : Int) < (T.length : Int) := by omega
      obtain ⟨x, hx⟩ : ∃ x, T[i]? = some x := ⟨T[i], by simp [hl]⟩
      have hat := str_at T i x hx wr
      have hx' := Hid.intro (tl_take q hx)
      clear hx
      have hm : x.toNat < 256 := x.toNat_lt
      unfold bV at hat
      generalize tl q (T.take i) = X at *
      generalize x.toNat = m at *
      obtain ⟨A, B⟩ := X
      simp only at hx1 hx2
      go_wp2
      go_roundw
      case rel => exact ⟨i + 1, by omega, by rw [hx'.out, stp_1]; go_num, by rw [hx'.out, stp_2]; go_num, by go_num, trivial⟩
      case measure => simp [intOf]; omega
    · have hii : i = T.length := by omega
      subst hii
      rw [List.take_length] at hX hx1 hx2 ⊢
      have hb := bits_halves hX.out
      generalize hxe : tl q T = X at *
      have hxe' := Hid.intro hxe
      clear hxe
      have hs : IntKind.u32.wrap ((X.2 : Int) * 65536) = ((X.2 * 65536 : Nat) : Int) := by
        rw [show (X.2 : Int) * 65536 = ((X.2 * 65536 : Nat) : Int) by simp, wrap32, Nat.mod_eq_of_lt (by omega)]
      generalize X.2 * 65536 = Y at *
      generalize hz : w32 X = Z at *
      have hz' := Hid.intro hz
      clear hz
      go_wp2
      go_ret
      exact ⟨by rw [hxe'.out, hz'.out]; rfl, rfl⟩

theorem of_any (T : List UInt8) (w : World) (hT : T.length ≤ 1000000) :
    Calls Try.prog 12 #[.string (str T)] w fun e w' => e = .returned (.int .u32 ((ofN T : Nat) : Int)) ∧ w' = w := by
  have h := Hid.intro (add_any 44257 T w (by decide) hT)
  rw [show w32 (tl (sp 44257) T) = ofN T from rfl] at h
  generalize ofN T = z at *
  go_enter Try.func12, Try.ntmps12
  go_wp2_with fail
  refine h.out.mono ?_; rintro e w1 ⟨rfl, rfl⟩
  go_wp2
  go_ret
  exact ⟨rfl, rfl⟩

set_option maxRecDepth 100000 in
theorem rof_any (T : List UInt8) (w : World) (hT : T.length ≤ 1000000) :
    Calls Try.prog 11 #[.string (str T)] w fun e w' => e = .returned (.int .u32 ((ofN T : Nat) : Int)) ∧ w' = w := by
  unfold ofN tal
  have hq := Hid.intro start_sm.lo
  go_enter Try.func11, Try.ntmps11
  go_wp2_with fail
  generalize hqq : ((44257, 0) : Nat × Nat) = q at *
  go_loopw [3, 4, 5] (fun lv hv iv wr => ∃ i : Nat, i ≤ T.length ∧ lv = .int .u32 ((tl q (T.take i)).1 : Int) ∧ hv = .int .u32 ((tl q (T.take i)).2 : Int) ∧ iv = .int .i64 i ∧ wr = w) (fun _ _ iv _ => T.length - (intOf iv).toNat)
  case atStart => exact ⟨0, Nat.zero_le _, by rw [List.take_zero, tl_nil, ← hqq]; rfl, by rw [List.take_zero, tl_nil, ← hqq]; rfl, rfl, rfl⟩
  case round =>
    obtain ⟨i, hi, rfl, rfl, rfl, rfl⟩ := hrel
    have i0 : (0 : Int) ≤ (i : Int) := Int.natCast_nonneg _
    have hX := Hid.intro (tl_lo (T.take i) q hq.out)
    have hx1 := hX.out.1
    have hx2 := hX.out.2
    have hqq' := Hid.intro hqq
    clear hqq
    by_cases hl : i < T.length
    · have i1 : (i : Int) < (T.length : Int) := by omega
      obtain ⟨x, hx⟩ : ∃ x, T[i]? = some x := ⟨T[i], by simp [hl]⟩
      have hat := str_at T i x hx wr
      have hx' := Hid.intro (tl_take q hx)
      clear hx
      have hm : x.toNat < 256 := x.toNat_lt
      unfold bV at hat
      generalize tl q (T.take i) = X at *
      generalize x.toNat = m at *
      obtain ⟨A, B⟩ := X
      simp only at hx1 hx2
      go_wp2
      go_roundw
      case rel => exact ⟨i + 1, by omega, by rw [hx'.out, stp_1]; go_num, by rw [hx'.out, stp_2]; go_num, by go_num, trivial⟩
      case measure => simp [intOf]; omega
    · have hii : i = T.length := by omega
      subst hii
      rw [List.take_length] at hX hx1 hx2 ⊢
      generalize hxe : tl q T = X at *
      have hxe' := Hid.intro hxe
      clear hxe
      obtain ⟨A, B⟩ := X
      simp only at hx1 hx2
      go_wp2
      go_ret
      exact ⟨by rw [hqq'.out, hxe'.out]; unfold w32; go_num, rfl⟩
end Go.Proofs.Ytgephcacmakjhaa
