/-
  The contracts of span.Valid, span.Has, span.Blocks and of emulsionref1.Whole, for all integers: what each call returns; nothing that was there is written.
-/
import Derived.Test.YtfaecglmpkcjlaaLeaf
import Derived.Outline
namespace Go.Proofs.Ytfaecglmpkcjlaa
open Go.ChangeShapes Go.WideShapes Go.ChangeAt Go.RowKit

theorem refWhole_yes (f n : Int) (w : World) (h : 0 ≤ f ∧ 1 ≤ n ∧ n ≤ 64 - f) :
    Calls Try.prog 6 #[.agg #[.int .i64 f, .int .i64 n]] w fun e w' => e = .returned (.bool true) ∧ Below w.heap.size w w' := by
  obtain ⟨h1, h2, h3⟩ := h
  have h4 : f ≤ 64 := by omega
  have h5 : n ≤ 64 := by omega
  have h6 : f + n ≤ 64 := by omega
  go_enter Try.func6, Try.ntmps6
  go_wp2
  go_ret
  exact ⟨rfl, (Below.refl _ _).alloc (Nat.le_refl _) _⟩

theorem refWhole_no (f n : Int) (w : World) (h : ¬ (0 ≤ f ∧ 1 ≤ n ∧ n ≤ 64 - f)) :
    Calls Try.prog 6 #[.agg #[.int .i64 f, .int .i64 n]] w fun e w' => e = .returned (.bool false) ∧ Below w.heap.size w w' := by
  by_cases h1 : 0 ≤ f
  · by_cases h2 : f ≤ 64
    · by_cases h3 : 1 ≤ n
      · by_cases h4 : n ≤ 64
        · have h5 : ¬ f + n ≤ 64 := by omega
          clear h
          go_enter Try.func6, Try.ntmps6
          go_wp2
          go_ret
          exact ⟨rfl, (Below.refl _ _).alloc (Nat.le_refl _) _⟩
        · clear h
          go_enter Try.func6, Try.ntmps6
          go_wp2
          go_ret
          exact ⟨rfl, (Below.refl _ _).alloc (Nat.le_refl _) _⟩
      · clear h
        go_enter Try.func6, Try.ntmps6
        go_wp2
        go_ret
        exact ⟨rfl, (Below.refl _ _).alloc (Nat.le_refl _) _⟩
    · clear h
      go_enter Try.func6, Try.ntmps6
      go_wp2
      go_ret
      exact ⟨rfl, (Below.refl _ _).alloc (Nat.le_refl _) _⟩
  · clear h
    go_enter Try.func6, Try.ntmps6
    go_wp2
    go_ret
    exact ⟨rfl, (Below.refl _ _).alloc (Nat.le_refl _) _⟩

theorem valid_yes (f n k : Int) (w : World) (h1 : 0 ≤ f) (h2 : 1 ≤ n) (h3 : n ≤ 64 - f) :
    Calls Try.prog 11 #[.agg #[.int .i64 f, .int .i64 n], .int .i64 k] w fun e w' => e = .returned (.bool (decide (f + n ≤ k))) ∧ Below w.heap.size w w' := by
  go_enter Try.func11, Try.ntmps11
  go_wp2_with fail
  refine (whole_yes _ _ _ ⟨h1, h2, h3⟩).mono ?_; rintro e w1 ⟨rfl, hb⟩; obtain ⟨hc, hfz⟩ := bcell hb
  go_wp2
  go_ret
  exact ⟨rfl, ((Below.refl _ _).alloc (Nat.le_refl _) _).trans (hb.mono (by simp))⟩

theorem valid_no (f n k : Int) (w : World) (hf : f ≤ 9223372036854775807) (h : ¬ (0 ≤ f ∧ 1 ≤ n ∧ n ≤ 64 - f)) :
    Calls Try.prog 11 #[.agg #[.int .i64 f, .int .i64 n], .int .i64 k] w fun e w' => e = .returned (.bool false) ∧ Below w.heap.size w w' := by
  have hh : Hid (¬ (0 ≤ f ∧ 1 ≤ n ∧ n ≤ 64 - f)) := h
  clear h
  go_enter Try.func11, Try.ntmps11
  go_wp2_with fail
  refine (whole_no _ _ _ hf hh.out).mono ?_; rintro e w1 ⟨rfl, hb⟩; obtain ⟨hc, hfz⟩ := bcell hb
  go_wp2
  go_ret
  exact ⟨rfl, ((Below.refl _ _).alloc (Nat.le_refl _) _).trans (hb.mono (by simp))⟩

theorem has_no (f n k : Int) (w : World) (hf : f ≤ 9223372036854775807) (h : ¬ (0 ≤ f ∧ 1 ≤ n ∧ n ≤ 64 - f)) :
    Calls Try.prog 17 #[.agg #[.int .i64 f, .int .i64 n], .int .i64 k] w fun e w' => e = .returned (.bool false) ∧ Below w.heap.size w w' := by
  have hh : Hid (¬ (0 ≤ f ∧ 1 ≤ n ∧ n ≤ 64 - f)) := h
  clear h
  go_enter Try.func17, Try.ntmps17
  go_wp2_with fail
  refine (whole_no _ _ _ hf hh.out).mono ?_; rintro e w1 ⟨rfl, hb⟩; obtain ⟨hc, hfz⟩ := bcell hb
  go_wp2
  go_ret
  exact ⟨rfl, ((Below.refl _ _).alloc (Nat.le_refl _) _).trans (hb.mono (by simp))⟩

theorem has_below (f n k : Int) (w : World) (h1 : 0 ≤ f) (h2 : 1 ≤ n) (h3 : n ≤ 64 - f) (h4 : ¬ f ≤ k) :
    Calls Try.prog 17 #[.agg #[.int .i64 f, .int .i64 n], .int .i64 k] w fun e w' => e = .returned (.bool false) ∧ Below w.heap.size w w' := by
  go_enter Try.func17, Try.ntmps17
  go_wp2_with fail
  refine (whole_yes _ _ _ ⟨h1, h2, h3⟩).mono ?_; rintro e w1 ⟨rfl, hb⟩; obtain ⟨hc, hfz⟩ := bcell hb
  go_wp2
  go_ret
  exact ⟨rfl, ((Below.refl _ _).alloc (Nat.le_refl _) _).trans (hb.mono (by simp))⟩

theorem has_yes (f n k : Int) (w : World) (h1 : 0 ≤ f) (h2 : 1 ≤ n) (h3 : n ≤ 64 - f) (h4 : f ≤ k) :
    Calls Try.prog 17 #[.agg #[.int .i64 f, .int .i64 n], .int .i64 k] w fun e w' => e = .returned (.bool (decide (k < f + n))) ∧ Below w.heap.size w w' := by
  go_enter Try.func17, Try.ntmps17
  go_wp2_with fail
  refine (whole_yes _ _ _ ⟨h1, h2, h3⟩).mono ?_; rintro e w1 ⟨rfl, hb⟩; obtain ⟨hc, hfz⟩ := bcell hb
  go_wp2_with fail
  refine (end_yes _ _ _ ⟨h1, h2, h3⟩).mono ?_; rintro e w2 ⟨rfl, hb2⟩
  go_wp2
  go_ret
  exact ⟨rfl, ((Below.refl _ _).alloc (Nat.le_refl _) _).trans ((below_step hb hb2).mono (by simp))⟩

theorem blocks_no (a n : Int) (w : World) (h : ¬ (0 ≤ a ∧ 1 ≤ n ∧ n ≤ 512 - a)) (ha : a ≤ 9223372036854775807) :
    Calls Try.prog 19 #[.int .i64 a, .int .i64 n] w fun e w' => e = .returned (.tuple #[.agg #[.int .i64 0, .int .i64 0], .bool false]) ∧ Below w.heap.size w w' := by
  by_cases h1 : 0 ≤ a
  · by_cases h2 : 1 ≤ n
    · have h3 : 512 - a < n := by omega
      clear h
      go_enter Try.func19, Try.ntmps19
      go_wp2
      exact bodyPost_ret (v := .tuple #[.agg #[.int .i64 0, .int .i64 0], .bool false]) (by simp [results, Try.results19, go_sem]) rfl ⟨rfl, (Below.refl _ _).alloc (Nat.le_refl _) _⟩
    · clear h
      go_enter Try.func19, Try.ntmps19
      go_wp2
      exact bodyPost_ret (v := .tuple #[.agg #[.int .i64 0, .int .i64 0], .bool false]) (by simp [results, Try.results19, go_sem]) rfl ⟨rfl, (Below.refl _ _).alloc (Nat.le_refl _) _⟩
  · clear h
    go_enter Try.func19, Try.ntmps19
    go_wp2
    exact bodyPost_ret (v := .tuple #[.agg #[.int .i64 0, .int .i64 0], .bool false]) (by simp [results, Try.results19, go_sem]) rfl ⟨rfl, (Below.refl _ _).alloc (Nat.le_refl _) _⟩

theorem blocks_yes (a n : Int) (w : World) (h1 : 0 ≤ a) (h2 : 1 ≤ n) (h3 : n ≤ 512 - a) :
    Calls Try.prog 19 #[.int .i64 a, .int .i64 n] w fun e w' => e = .returned (.tuple #[.agg #[.int .i64 (a / 8), .int .i64 ((a + n - 1) / 8 + 1 - a / 8)], .bool true]) ∧ Below w.heap.size w w' := by
  go_enter Try.func19, Try.ntmps19
  go_wp2_with fail
  refine (between_any _ _ _ (by omega) (by omega) (by omega) (by omega)).mono ?_; rintro e w1 ⟨rfl, hb⟩; obtain ⟨hc, hfz⟩ := bcell hb
  go_wp2
  exact bodyPost_ret (v := .tuple #[.agg #[.int .i64 (a / 8), .int .i64 ((a + n - 1) / 8 + 1 - a / 8)], .bool true]) (by simp [results, Try.results19, go_sem, hc]) rfl ⟨rfl, ((((Below.refl _ _).alloc (Nat.le_refl _) _).trans (hb.mono (by simp))).setCell (by simp) _).setCell (by simp) _⟩
end Go.Proofs.Ytfaecglmpkcjlaa
