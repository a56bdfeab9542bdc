/-
  The contracts of the book's SameInts, and of the law's Is: a disk and the document's that are the same.
-/
import Derived.Test.YtjjfdkgnagfbcaaRE
namespace Go.Proofs.Ytjjfdkgnagfbcaa
open Go.ChangeShapes Go.WideShapes Go.ChangeAt Go.RowKit
attribute [local go_sem ↓] Go.wp_at_zero Go.wp_at_succ
attribute [local go_sem] str_size str_extract str_append str_toList

theorem own_below {w w' : World} {base : Nat} {e : TypeId} {sz n : Nat} {v : Value} {xs : List Value} (h : w.ownsRow base e sz v n xs) (hb : Below w.heap.size w w') : w'.ownsRow base e sz v n xs :=
  own_keep h fun g hg _ => hb.block g (own_lt h hg)
set_option maxRecDepth 100000 in
theorem sameInts_any {w : World} {b1 b2 : Nat} {u v : Value} {l : List Nat} (hu : w.ownsRow b1 3 1 u l.length (intsV l)) (hv : w.ownsRow b2 3 1 v l.length (intsV l)) (hl : l.length ≤ 1000000) :
    Calls Try.prog 26 #[u, v] w fun e w' => e = .returned (.bool true) ∧ Below w.heap.size w w' := by
  obtain ⟨a1, c1, rfl⟩ := own_form hu
  obtain ⟨a2, c2, rfl⟩ := own_form hv
  have hu' := Hid.intro hu
  have hv' := Hid.intro hv
  clear hu hv
  generalize hn : l.length = n at *
  have hn' := Hid.intro hn
  clear hn
  have n0 : (0 : Int) ≤ (n : Int) := Int.natCast_nonneg _
  go_enter Try.func26, Try.ntmps26
  go_wp2_with fail
  go_loopw [5] (fun iv wr => ∃ i : Nat, i ≤ n ∧ iv = .int .i64 (i : Int) ∧ Below w.heap.size w wr) (fun iv _ => n - (intOf iv).toNat)
  case atStart => exact ⟨0, Nat.zero_le _, rfl, Below.refl _ _⟩
  case round =>
    obtain ⟨i, hi, rfl, hB⟩ := hrel
    have i0 : (0 : Int) ≤ (i : Int) := Int.natCast_nonneg _
    have hB' := Hid.intro hB
    clear hB
    by_cases hlt : i < n
    · have i1 : (i : Int) < (n : Int) := by omega
      obtain ⟨k, hk⟩ : ∃ k, l[i]? = some k := ⟨_, List.getElem?_eq_getElem (by rw [hn'.out]; exact hlt)⟩
      obtain ⟨g1, rfl, _, q1⟩ := own_int (own_below hu'.out hB'.out) hk
      obtain ⟨g2, rfl, _, q2⟩ := own_int (own_below hv'.out hB'.out) hk
      clear hk
      go_wp2_with fail
      go_region
      all_goals
        go_wp2
        go_roundw
        case rel => exact ⟨i + 1, by omega, by go_num, hB'.out.drew⟩
        case measure => simp [intOf]; omega
    · have him : i = n := by omega
      subst him
      have i1 : ¬ (i : Int) < (i : Int) := by omega
      go_wp2
      go_ret
      exact ⟨rfl, hB'.out⟩
end Go.Proofs.Ytjjfdkgnagfbcaa
