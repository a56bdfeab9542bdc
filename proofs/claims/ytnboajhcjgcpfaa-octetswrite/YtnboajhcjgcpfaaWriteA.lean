/-
  A nil *Out; OctetsWrite of inputs that are too long.
-/
import Derived.Test.YtnboajhcjgcpfaaLightW
import Derived.Test.YtnboajhcjgcpfaaOAlive
namespace Go.Proofs.Ytnboajhcjgcpfaa
open Go.ChangeShapes Go.WideShapes Go.ChangeAt Go.RowKit
attribute [local go_sem ↓] Go.wp_at_zero Go.wp_at_succ
attribute [local go_sem] str_size str_extract str_append str_toList

set_option maxRecDepth 100000 in
theorem num_nil (w : World) : Calls Try.prog 10 #[.pointer none, .int .i64 1, .int .i64 1] w fun e w' => e = .returned (.int .i64 1) ∧ Below w.heap.size w w' := by
  have hc := Hid.intro (cnt_any 1 w)
  rw [show decide ((1 : Int) ≤ 1 ∧ (1 : Int) ≤ 4) = true from by decide] at hc
  have hsz := Hid.intro (size_any 1 w (by decide) (by decide))
  rw [show szN 1 = 1 by decide] at hsz
  obtain ⟨w1, hmk, hbs, hbl1, hsz1⟩ := make_bytes w 1 (by omega)
  have hmk' : (Instr.makeSlice 26 (.int .i64 1) (.int .i64 1)).run Try.prog w = .ok (.slice (some ⟨w.heap.size, 0, none⟩) 1 1) w1 := hmk
  have hbl' := Hid.intro hbl1
  have hbs' := Hid.intro hbs
  have hsz' := Hid.intro hsz1
  clear hmk hbl1 hbs hsz1
  go_enter Try.func10, Try.ntmps10
  go_wp2_with fail
  refine hc.out.mono ?_; rintro e w2 ⟨rfl, rfl⟩
  go_wp2_with fail
  refine hsz.out.mono ?_; rintro e w2 ⟨rfl, rfl⟩
  go_wp2_with fail
  go_loopw [28] (fun iv wr => ∃ i : Nat, i ≤ 1 ∧ iv = .int .i64 i ∧ Below w2.heap.size w2 wr ∧ (∃ x, BS wr w2.heap.size 1 x)) (fun iv _ => 1 - (intOf iv).toNat)
  case atStart => exact ⟨0, Nat.zero_le _, rfl, hbl'.out, _, hbs'.out⟩
  case round =>
    clear hmk'
    obtain ⟨i, hi, rfl, hB, x, hx⟩ := hrel
    have hB' := Hid.intro hB
    have hx' := Hid.intro hx
    by_cases h0 : i = 0
    · subst h0
      obtain ⟨g1, g2⟩ := hx 0 (by decide)
      clear hx hB
      generalize w2.heap.size = G at *
      go_wp2
      go_roundw
      case rel => exact ⟨1, by omega, by go_num, hB'.out.setCell (Nat.le_refl _) _, _, hx'.out.set _⟩
      case measure => simp [intOf] <;> omega
    · obtain rfl : i = 1 := by omega
      clear hx hB
      go_wp2_with fail
      refine (put_nil _ _).mono ?_; rintro e w3 ⟨rfl, rfl⟩
      go_wp2
      go_ret
      exact ⟨rfl, hB'.out⟩
set_option maxRecDepth 100000 in
theorem text_nil (w : World) : Calls Try.prog 13 #[.pointer none, .string ByteArray.empty] w fun e w' => e = .returned (.int .i64 1) ∧ Below w.heap.size w w' := by
  obtain ⟨i0, hi0, hz0', hz1', hz2'⟩ := info_parts Try.info5
  have hof := Hid.intro (own_fresh w [Value.int .u8 0] (by unfold maxLen; simp))
  go_enter Try.func13, Try.ntmps13
  go_wp2_with (at_builtin; refine Go.Lib.wpList_append_own_string _ rfl _ _ 26 9 rfl w.heap.size 5 i0 Try.underlying26 Try.underlying9 hi0 hz0' hz1' hz2' _ 1 [.int .u8 0] rfl hof.out ByteArray.empty rfl (by decide) (by decide) (by simp) ?_; intro v5 w5 hown5 hgrow5 hat5)
  have hB5 := Hid.intro (((Below.refl w.heap.size w).alloc (Nat.le_refl _) (.cells #[.int .u8 0] 5)).grown hgrow5 (by simp) (fun j hj => by cases hj; exact Nat.le_refl _))
  clear hown5 hgrow5 hat5
  refine (put_nil _ _).mono ?_; rintro e w3 ⟨rfl, rfl⟩
  go_wp2
  go_ret
  exact ⟨rfl, hB5.out⟩

set_option maxRecDepth 100000 in
theorem write_early {W : World} {v : Value} {os : List OpE} (h : OpsAt W v os) (hL : LightB os = false) : Calls Try.prog 3 #[v] W fun e w' => e = .returned (.bool true) ∧ Below W.heap.size W w' := by
  have hl := Hid.intro (light_any h)
  rw [hL] at hl
  clear h hL
  go_enter Try.func3, Try.ntmps3
  go_wp2_with fail
  refine hl.out.mono ?_; rintro e w1 ⟨rfl, rfl⟩
  go_wp2_with fail
  refine (alive_any _).mono ?_; rintro e w2 ⟨rfl, c⟩
  have c' := Hid.intro c
  clear c
  go_wp2
  go_ret
  exact ⟨rfl, c'.out⟩
end Go.Proofs.Ytnboajhcjgcpfaa
