/-
  The contracts of the document's Zeros and of the law's Page.
-/
import Derived.Test.YtjjfdkgnagfbcaaPRot
namespace Go.Proofs.Ytjjfdkgnagfbcaa
open Go.ChangeShapes Go.WideShapes Go.ChangeAt Go.RowKit
attribute [local go_sem ↓] Go.wp_at_zero Go.wp_at_succ
attribute [local go_sem] str_size str_extract str_append str_toList

theorem zeros_any (n : Nat) (hn : n ≤ 1000) (w : World) : Calls Try.prog 25 #[.int .i64 (n : Int)] w fun e w' => e = .returned (.string (str (List.replicate n 0))) ∧ Below w.heap.size w w' := by
  obtain ⟨w1, hmk, hbs, hbl1, hsz1⟩ := make_bytes w n hn
  have hcv : (convert 51 9 (.slice (some ⟨w.heap.size, 0, none⟩) n n)).run Try.prog w1 = .ok (.string (str (List.replicate n 0))) w1 := by
    rw [← nums_str]
    refine run_convert_bytes_arg (P := Try.prog) w1 51 5 Try.underlying51 Try.underlying5 w.heap.size 0 n n _ (by simp) (fun j hj => ?_) 9 Try.underlying9
    rw [Nat.zero_add, (hbs j hj).1]
    simp [List.getD, hj]
  have hB := Hid.intro hbl1
  have hn0 : (0 : Int) ≤ (n : Int) := Int.natCast_nonneg _
  clear hbs hbl1 hsz1
  go_enter Try.func25, Try.ntmps25
  go_wp2
  go_ret
  exact ⟨rfl, hB.out⟩
/-- A page that begins with bytes. -/
def pgS (S : List UInt8) : List UInt8 := S.take 32 ++ List.replicate (32 - S.length) 0
theorem pgS_length (S : List UInt8) : (pgS S).length = 32 := by simp [pgS]; omega
set_option maxRecDepth 100000 in
theorem page_any (S : List UInt8) (w : World) : Calls Try.prog 14 #[.string (str S)] w fun e w' => e = .returned (.string (str (pgS S))) ∧ Below w.heap.size w w' := by
  have l0 : (0 : Int) ≤ (S.length : Int) := Int.natCast_nonneg _
  by_cases h : S.length ≤ 32
  · have hmin : min (S.length : Int) 32 = (S.length : Int) := by omega
    have hz := Hid.intro (zeros_any (32 - S.length) (by omega))
    have hc : ((32 - S.length : Nat) : Int) = 32 - (S.length : Int) := by omega
    rw [hc] at hz
    have hs : IntKind.i64.wrap (32 - (S.length : Int)) = 32 - (S.length : Int) := by rw [IntKind.wrap_i64]; omega
    have hps : Hid (S ++ List.replicate (32 - S.length) 0 = pgS S) := Hid.intro (by unfold pgS; rw [List.take_of_length_le h])
    have htk : List.take S.length S = S := List.take_length
    have hfit : ¬ 9223372036854775807 < S.length + (32 - S.length) := by omega
    have hll : S.length ≤ S.length := Nat.le_refl _
    go_enter Try.func14, Try.ntmps14
    go_wp2_with fail
    refine (hz.out _).mono ?_; rintro e w1 ⟨rfl, hb⟩
    have hb' := Hid.intro hb
    clear hb
    go_wp2
    go_ret
    exact ⟨by rw [← hps.out]; rfl, hb'.out⟩
  · have hmin : min (S.length : Int) 32 = 32 := by omega
    have hz : Hid (∀ w, Calls Try.prog 25 #[.int .i64 0] w fun e w' => e = .returned (.string (str (List.replicate 0 0))) ∧ Below w.heap.size w w') := Hid.intro (zeros_any 0 (by omega))
    have hps : Hid (S.take 32 ++ List.replicate 0 0 = pgS S) := Hid.intro (by unfold pgS; rw [show 32 - S.length = 0 by omega])
    have hl : (S.take 32).length = 32 := by simp; omega
    have hle : (32 : Int) ≤ (S.length : Int) := by omega
    go_enter Try.func14, Try.ntmps14
    go_wp2_with fail
    refine (hz.out _).mono ?_; rintro e w1 ⟨rfl, hb⟩
    have hb' := Hid.intro hb
    clear hb
    go_wp2
    go_ret
    exact ⟨by rw [← hps.out, List.replicate_zero, List.append_nil]; rfl, hb'.out⟩
end Go.Proofs.Ytjjfdkgnagfbcaa
