/-
  The contracts of the document's Whole and of span.Valid.
-/
import Derived.Test.YtnboajhcjgcpfaaLeaf
import Derived.Outline
namespace Go.Proofs.Ytnboajhcjgcpfaa
open Go.ChangeShapes Go.WideShapes Go.ChangeAt Go.RowKit

theorem refWhole_yes (f n : Int) (w : World) (h : 0 ≤ f ∧ 1 ≤ n ∧ n ≤ 64 - f) :
    Calls Try.prog 78 #[.agg #[.int .i64 f, .int .i64 n]] w fun e w' => e = .returned (.bool true) ∧ Below w.heap.size w w' := by
  obtain ⟨h1, h2, h3⟩ := h
  have h4 : f ≤ 64 := by omega
  have h5 : n ≤ 64 := by omega
  have h6 : f + n ≤ 64 := by omega
  go_enter Try.func78, Try.ntmps78
  go_wp2
  go_ret
  exact ⟨rfl, (Below.refl _ _).alloc (Nat.le_refl _) _⟩
theorem refWhole_no (f n : Int) (w : World) (h : ¬ (0 ≤ f ∧ 1 ≤ n ∧ n ≤ 64 - f)) :
    Calls Try.prog 78 #[.agg #[.int .i64 f, .int .i64 n]] w fun e w' => e = .returned (.bool false) ∧ Below w.heap.size w w' := by
  by_cases h1 : 0 ≤ f
  · by_cases h2 : f ≤ 64
    · by_cases h3 : 1 ≤ n
      · by_cases h4 : n ≤ 64
        · have h5 : ¬ f + n ≤ 64 := by omega
          clear h
          go_enter Try.func78, Try.ntmps78
          go_wp2
          go_ret
          exact ⟨rfl, (Below.refl _ _).alloc (Nat.le_refl _) _⟩
        · clear h
          go_enter Try.func78, Try.ntmps78
          go_wp2
          go_ret
          exact ⟨rfl, (Below.refl _ _).alloc (Nat.le_refl _) _⟩
      · clear h
        go_enter Try.func78, Try.ntmps78
        go_wp2
        go_ret
        exact ⟨rfl, (Below.refl _ _).alloc (Nat.le_refl _) _⟩
    · clear h
      go_enter Try.func78, Try.ntmps78
      go_wp2
      go_ret
      exact ⟨rfl, (Below.refl _ _).alloc (Nat.le_refl _) _⟩
  · clear h
    go_enter Try.func78, Try.ntmps78
    go_wp2
    go_ret
    exact ⟨rfl, (Below.refl _ _).alloc (Nat.le_refl _) _⟩
theorem valid_yes (f n k : Int) (w : World) (h1 : 0 ≤ f) (h2 : 1 ≤ n) (h3 : n ≤ 64 - f) :
    Calls Try.prog 74 #[.agg #[.int .i64 f, .int .i64 n], .int .i64 k] w fun e w' => e = .returned (.bool (decide (f + n ≤ k))) ∧ Below w.heap.size w w' := by
  go_enter Try.func74, Try.ntmps74
  go_wp2_with fail
  refine (whole_yes _ _ _ ⟨h1, h2, h3⟩).mono ?_; rintro e w1 ⟨rfl, hb⟩; obtain ⟨hc, hfz⟩ := bcell hb
  go_wp2
  go_ret
  exact ⟨rfl, ((Below.refl _ _).alloc (Nat.le_refl _) _).trans (hb.mono (by simp))⟩
theorem valid_no (f n k : Int) (w : World) (hf : f ≤ 9223372036854775807) (h : ¬ (0 ≤ f ∧ 1 ≤ n ∧ n ≤ 64 - f)) :
    Calls Try.prog 74 #[.agg #[.int .i64 f, .int .i64 n], .int .i64 k] w fun e w' => e = .returned (.bool false) ∧ Below w.heap.size w w' := by
  have hh : Hid (¬ (0 ≤ f ∧ 1 ≤ n ∧ n ≤ 64 - f)) := h
  clear h
  go_enter Try.func74, Try.ntmps74
  go_wp2_with fail
  refine (whole_no _ _ _ hf hh.out).mono ?_; rintro e w1 ⟨rfl, hb⟩; obtain ⟨hc, hfz⟩ := bcell hb
  go_wp2
  go_ret
  exact ⟨rfl, ((Below.refl _ _).alloc (Nat.le_refl _) _).trans (hb.mono (by simp))⟩
end Go.Proofs.Ytnboajhcjgcpfaa
