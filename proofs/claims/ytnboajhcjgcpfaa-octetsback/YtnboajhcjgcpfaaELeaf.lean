/-
  The contracts of package extent's leaves and of the document's Alone.
-/
import Derived.Test.YtnboajhcjgcpfaaEMath
import Derived.Test.YtnboajhcjgcpfaaOBase
namespace Go.Proofs.Ytnboajhcjgcpfaa
open Go.ChangeShapes Go.WideShapes Go.ChangeAt Go.RowKit

theorem spanOf_any (f n d : Int) (w : World) :
    Calls Try.prog 75 #[.agg #[.int .i64 f, .int .i64 n, .int .i64 d]] w fun e w' => e = .returned (.agg #[.int .i64 f, .int .i64 n]) ∧ Below w.heap.size w w' := by
  go_enter Try.func75, Try.ntmps75
  go_wp2
  exact bodyPost_ret (v := .agg #[.int .i64 f, .int .i64 n]) (by simp [results, Try.results75, go_sem]) rfl ⟨rfl, ((Below.refl _ _).alloc (Nat.le_refl _) _).alloc (by simp) _⟩
theorem tidy_zero (f n d : Int) (w : World) (h1 : 0 ≤ f) (h2 : 1 ≤ n) (h3 : n ≤ 64 - f) (hd : d = 0) :
    Calls Try.prog 73 #[.agg #[.int .i64 f, .int .i64 n, .int .i64 d]] w fun e w' => e = .returned (.bool true) ∧ Below w.heap.size w w' := by
  have h4 : f + n ≤ 64 := by omega
  have h5 : n ≤ 64 := by omega
  subst hd
  go_enter Try.func73, Try.ntmps73
  go_wp2_with fail
  refine (spanOf_any _ _ _ _).mono ?_; rintro e w1 ⟨rfl, hb⟩
  go_wp2_with fail
  refine (valid_yes _ _ _ _ h1 h2 h3).mono ?_; rintro e w2 ⟨rfl, hb2⟩
  have hB := below_step hb hb2
  obtain ⟨hc, hfz⟩ := bcell hB
  clear hb hb2
  go_wp2
  go_ret
  exact ⟨rfl, ((Below.refl _ _).alloc (Nat.le_refl _) _).trans (hB.mono (by simp))⟩
theorem tidy_pos (f n d : Int) (w : World) (h1 : 0 ≤ f) (h2 : 1 ≤ n) (h3 : n ≤ 64 - f) (hd : 1 ≤ d) (hd2 : d ≤ 61 - n) :
    Calls Try.prog 73 #[.agg #[.int .i64 f, .int .i64 n, .int .i64 d]] w fun e w' => e = .returned (.bool true) ∧ Below w.heap.size w w' := by
  have h4 : f + n ≤ 64 := by omega
  have h5 : n ≤ 64 := by omega
  have e1 : (d == 0) = false := by simp; omega
  go_enter Try.func73, Try.ntmps73
  go_wp2_with fail
  refine (spanOf_any _ _ _ _).mono ?_; rintro e w1 ⟨rfl, hb⟩
  go_wp2_with fail
  refine (valid_yes _ _ _ _ h1 h2 h3).mono ?_; rintro e w2 ⟨rfl, hb2⟩
  have hB := below_step hb hb2
  obtain ⟨hc, hfz⟩ := bcell hB
  clear hb hb2
  go_wp2
  go_ret
  exact ⟨rfl, ((Below.refl _ _).alloc (Nat.le_refl _) _).trans (hB.mono (by simp))⟩
theorem tidy_big (f n d : Int) (w : World) (h1 : 0 ≤ f) (h2 : 1 ≤ n) (h3 : n ≤ 64 - f) (hd : 1 ≤ d) (hd2 : ¬ d ≤ 61 - n) :
    Calls Try.prog 73 #[.agg #[.int .i64 f, .int .i64 n, .int .i64 d]] w fun e w' => e = .returned (.bool false) ∧ Below w.heap.size w w' := by
  have h4 : f + n ≤ 64 := by omega
  have h5 : n ≤ 64 := by omega
  have e1 : (d == 0) = false := by simp; omega
  have e2 : decide (d ≤ 61 - n) = false := by simp; omega
  clear hd2
  go_enter Try.func73, Try.ntmps73
  go_wp2_with fail
  refine (spanOf_any _ _ _ _).mono ?_; rintro e w1 ⟨rfl, hb⟩
  go_wp2_with fail
  refine (valid_yes _ _ _ _ h1 h2 h3).mono ?_; rintro e w2 ⟨rfl, hb2⟩
  have hB := below_step hb hb2
  obtain ⟨hc, hfz⟩ := bcell hB
  clear hb hb2
  go_wp2
  go_ret
  exact ⟨rfl, ((Below.refl _ _).alloc (Nat.le_refl _) _).trans (hB.mono (by simp))⟩
theorem tidy_neg (f n d : Int) (w : World) (h1 : 0 ≤ f) (h2 : 1 ≤ n) (h3 : n ≤ 64 - f) (hd : ¬ 0 ≤ d) :
    Calls Try.prog 73 #[.agg #[.int .i64 f, .int .i64 n, .int .i64 d]] w fun e w' => e = .returned (.bool false) ∧ Below w.heap.size w w' := by
  have h4 : f + n ≤ 64 := by omega
  have h5 : n ≤ 64 := by omega
  go_enter Try.func73, Try.ntmps73
  go_wp2_with fail
  refine (spanOf_any _ _ _ _).mono ?_; rintro e w1 ⟨rfl, hb⟩
  go_wp2_with fail
  refine (valid_yes _ _ _ _ h1 h2 h3).mono ?_; rintro e w2 ⟨rfl, hb2⟩
  have hB := below_step hb hb2
  obtain ⟨hc, hfz⟩ := bcell hB
  clear hb hb2
  go_wp2
  go_ret
  exact ⟨rfl, ((Below.refl _ _).alloc (Nat.le_refl _) _).trans (hB.mono (by simp))⟩
theorem tidy_span (f n d : Int) (w : World) (hf : f ≤ 9223372036854775807) (h : ¬ (0 ≤ f ∧ 1 ≤ n ∧ n ≤ 64 - f)) :
    Calls Try.prog 73 #[.agg #[.int .i64 f, .int .i64 n, .int .i64 d]] w fun e w' => e = .returned (.bool false) ∧ Below w.heap.size w w' := by
  have hh : Hid (¬ (0 ≤ f ∧ 1 ≤ n ∧ n ≤ 64 - f)) := h
  clear h
  go_enter Try.func73, Try.ntmps73
  go_wp2_with fail
  refine (spanOf_any _ _ _ _).mono ?_; rintro e w1 ⟨rfl, hb⟩
  go_wp2_with fail
  refine (valid_no _ _ _ _ hf hh.out).mono ?_; rintro e w2 ⟨rfl, hb2⟩
  have hB := below_step hb hb2
  obtain ⟨hc, hfz⟩ := bcell hB
  clear hb hb2
  go_wp2
  go_ret
  exact ⟨rfl, ((Below.refl _ _).alloc (Nat.le_refl _) _).trans (hB.mono (by simp))⟩
/-- isTidy of every extent. -/
theorem tidy_any (f n d : Int) (w : World) (hf : f ≤ 9223372036854775807) :
    Calls Try.prog 73 #[.agg #[.int .i64 f, .int .i64 n, .int .i64 d]] w fun e w' => e = .returned (.bool (decide (Al (f, n, d)))) ∧ Below w.heap.size w w' := by
  by_cases h : 0 ≤ f ∧ 1 ≤ n ∧ n ≤ 64 - f
  · obtain ⟨h1, h2, h3⟩ := h
    by_cases hd : d = 0
    · rw [decide_eq_true (show Al (f, n, d) from ⟨h1, h2, h3, by simp only; omega, .inl hd⟩)]; exact tidy_zero f n d w h1 h2 h3 hd
    · by_cases hd0 : 0 ≤ d
      · by_cases hd2 : d ≤ 61 - n
        · rw [decide_eq_true (show Al (f, n, d) from ⟨h1, h2, h3, hd0, .inr (by simp only; omega)⟩)]; exact tidy_pos f n d w h1 h2 h3 (by omega) hd2
        · rw [decide_eq_false (show ¬ Al (f, n, d) from fun g => by unfold Al at g; simp only at g; omega)]; exact tidy_big f n d w h1 h2 h3 (by omega) hd2
      · rw [decide_eq_false (show ¬ Al (f, n, d) from fun g => by unfold Al at g; simp only at g; omega)]; exact tidy_neg f n d w h1 h2 h3 hd0
  · rw [decide_eq_false (show ¬ Al (f, n, d) from fun g => h ⟨g.1, g.2.1, g.2.2.1⟩)]; exact tidy_span f n d w hf h
theorem on_apart (f n d g m c : Int) (w : World) (h1 : 0 ≤ f) (h2 : 1 ≤ n) (h3 : n ≤ 64 - f) (_ : 0 ≤ d) (_ : d ≤ 60) (h : ¬ f + n = g) :
    Calls Try.prog 77 #[.agg #[.int .i64 f, .int .i64 n, .int .i64 d], .agg #[.int .i64 g, .int .i64 m, .int .i64 c]] w fun e w' => e = .returned (.bool false) ∧ Below w.heap.size w w' := by
  go_enter Try.func77, Try.ntmps77
  go_wp2
  go_ret
  exact ⟨rfl, ((Below.refl _ _).alloc (Nat.le_refl _) _).alloc (by simp) _⟩
theorem on_00 (f n d g m c : Int) (w : World) (h1 : 0 ≤ f) (h2 : 1 ≤ n) (h3 : n ≤ 64 - f) (_ : 0 ≤ d) (_ : d ≤ 60) (h : f + n = g) (hd : d = 0) (hc : c = 0) :
    Calls Try.prog 77 #[.agg #[.int .i64 f, .int .i64 n, .int .i64 d], .agg #[.int .i64 g, .int .i64 m, .int .i64 c]] w fun e w' => e = .returned (.bool true) ∧ Below w.heap.size w w' := by
  subst hd hc
  go_enter Try.func77, Try.ntmps77
  go_wp2
  go_ret
  exact ⟨rfl, ((Below.refl _ _).alloc (Nat.le_refl _) _).alloc (by simp) _⟩
theorem on_01 (f n d g m c : Int) (w : World) (h1 : 0 ≤ f) (h2 : 1 ≤ n) (h3 : n ≤ 64 - f) (_ : 0 ≤ d) (_ : d ≤ 60) (h : f + n = g) (hd : d = 0) (hc : ¬ c = 0) :
    Calls Try.prog 77 #[.agg #[.int .i64 f, .int .i64 n, .int .i64 d], .agg #[.int .i64 g, .int .i64 m, .int .i64 c]] w fun e w' => e = .returned (.bool false) ∧ Below w.heap.size w w' := by
  subst hd
  have e1 : (c == 0) = false := by simp; omega
  have e2 : (0 == c) = false := by simp; omega
  clear hc
  go_enter Try.func77, Try.ntmps77
  go_wp2
  go_ret
  exact ⟨rfl, ((Below.refl _ _).alloc (Nat.le_refl _) _).alloc (by simp) _⟩
theorem on_10 (f n d g m c : Int) (w : World) (h1 : 0 ≤ f) (h2 : 1 ≤ n) (h3 : n ≤ 64 - f) (_ : 0 ≤ d) (_ : d ≤ 60) (h : f + n = g) (hd : ¬ d = 0) (hc : c = 0) :
    Calls Try.prog 77 #[.agg #[.int .i64 f, .int .i64 n, .int .i64 d], .agg #[.int .i64 g, .int .i64 m, .int .i64 c]] w fun e w' => e = .returned (.bool false) ∧ Below w.heap.size w w' := by
  subst hc
  have e1 : (d == 0) = false := by simp; omega
  clear hd
  go_enter Try.func77, Try.ntmps77
  go_wp2
  go_ret
  exact ⟨rfl, ((Below.refl _ _).alloc (Nat.le_refl _) _).alloc (by simp) _⟩
theorem on_yes (f n d g m c : Int) (w : World) (h1 : 0 ≤ f) (h2 : 1 ≤ n) (h3 : n ≤ 64 - f) (_ : 0 ≤ d) (_ : d ≤ 60) (h : f + n = g) (hd : ¬ d = 0) (hc : ¬ c = 0) (he : c = d + n) :
    Calls Try.prog 77 #[.agg #[.int .i64 f, .int .i64 n, .int .i64 d], .agg #[.int .i64 g, .int .i64 m, .int .i64 c]] w fun e w' => e = .returned (.bool true) ∧ Below w.heap.size w w' := by
  have e1 : (d == 0) = false := by simp; omega
  have e2 : (c == 0) = false := by simp; omega
  have e3 : (c == d + n) = true := by simp [he]
  clear hd hc he
  go_enter Try.func77, Try.ntmps77
  go_wp2
  go_ret
  exact ⟨rfl, ((Below.refl _ _).alloc (Nat.le_refl _) _).alloc (by simp) _⟩
theorem on_no (f n d g m c : Int) (w : World) (h1 : 0 ≤ f) (h2 : 1 ≤ n) (h3 : n ≤ 64 - f) (_ : 0 ≤ d) (_ : d ≤ 60) (h : f + n = g) (hd : ¬ d = 0) (hc : ¬ c = 0) (he : ¬ c = d + n) :
    Calls Try.prog 77 #[.agg #[.int .i64 f, .int .i64 n, .int .i64 d], .agg #[.int .i64 g, .int .i64 m, .int .i64 c]] w fun e w' => e = .returned (.bool false) ∧ Below w.heap.size w w' := by
  have e1 : (d == 0) = false := by simp; omega
  have e2 : (c == 0) = false := by simp; omega
  have e3 : (c == d + n) = false := by simp; omega
  clear hd hc he
  go_enter Try.func77, Try.ntmps77
  go_wp2
  go_ret
  exact ⟨rfl, ((Below.refl _ _).alloc (Nat.le_refl _) _).alloc (by simp) _⟩
/-- goesOn of a tidy extent and any other. -/
theorem on_any (f n d g m c : Int) (w : World) (h : Al (f, n, d)) :
    Calls Try.prog 77 #[.agg #[.int .i64 f, .int .i64 n, .int .i64 d], .agg #[.int .i64 g, .int .i64 m, .int .i64 c]] w fun e w' => e = .returned (.bool (decide (On (f, n, d) (g, m, c)))) ∧ Below w.heap.size w w' := by
  obtain ⟨h1, h2, h3, h4, h5⟩ : 0 ≤ f ∧ 1 ≤ n ∧ n ≤ 64 - f ∧ 0 ≤ d ∧ d ≤ 60 := by unfold Al at h; simp only at h; omega
  by_cases he : f + n = g
  · by_cases hd : d = 0
    · by_cases hc : c = 0
      · rw [decide_eq_true (show On (f, n, d) (g, m, c) from ⟨he, .inl ⟨hd, hc⟩⟩)]; exact on_00 f n d g m c w h1 h2 h3 h4 h5 he hd hc
      · rw [decide_eq_false (show ¬ On (f, n, d) (g, m, c) from fun o => by unfold On at o; simp only at o; omega)]; exact on_01 f n d g m c w h1 h2 h3 h4 h5 he hd hc
    · by_cases hc : c = 0
      · rw [decide_eq_false (show ¬ On (f, n, d) (g, m, c) from fun o => by unfold On at o; simp only at o; omega)]; exact on_10 f n d g m c w h1 h2 h3 h4 h5 he hd hc
      · by_cases hx : c = d + n
        · rw [decide_eq_true (show On (f, n, d) (g, m, c) from ⟨he, .inr ⟨hd, hc, hx⟩⟩)]; exact on_yes f n d g m c w h1 h2 h3 h4 h5 he hd hc hx
        · rw [decide_eq_false (show ¬ On (f, n, d) (g, m, c) from fun o => by unfold On at o; simp only at o; omega)]; exact on_no f n d g m c w h1 h2 h3 h4 h5 he hd hc hx
  · rw [decide_eq_false (show ¬ On (f, n, d) (g, m, c) from fun o => he o.1)]; exact on_apart f n d g m c w h1 h2 h3 h4 h5 he
theorem alone_zero (f n d : Int) (w : World) (h1 : 0 ≤ f) (h2 : 1 ≤ n) (h3 : n ≤ 64 - f) (hd : d = 0) :
    Calls Try.prog 39 #[.agg #[.int .i64 f, .int .i64 n, .int .i64 d]] w fun e w' => e = .returned (.bool true) ∧ Below w.heap.size w w' := by
  have h4 : f + n ≤ 64 := by omega
  have h5 : n ≤ 64 := by omega
  subst hd
  go_enter Try.func39, Try.ntmps39
  go_wp2_with (go_at_call 78; refine (refWhole_yes _ _ _ ⟨h1, h2, h3⟩).mono ?_; rintro e w2 ⟨rfl, hB⟩; obtain ⟨hc, hfz⟩ := bcell hB)
  go_ret
  exact ⟨rfl, ((Below.refl _ _).alloc (Nat.le_refl _) _).trans (hB.mono (by simp))⟩
theorem alone_pos (f n d : Int) (w : World) (h1 : 0 ≤ f) (h2 : 1 ≤ n) (h3 : n ≤ 64 - f) (hd : 1 ≤ d) (hd2 : d + n ≤ 61) :
    Calls Try.prog 39 #[.agg #[.int .i64 f, .int .i64 n, .int .i64 d]] w fun e w' => e = .returned (.bool true) ∧ Below w.heap.size w w' := by
  have h4 : f + n ≤ 64 := by omega
  have h5 : n ≤ 64 := by omega
  have h6 : d ≤ 60 := by omega
  have h7 : n ≤ 60 := by omega
  go_enter Try.func39, Try.ntmps39
  go_wp2_with (go_at_call 78; refine (refWhole_yes _ _ _ ⟨h1, h2, h3⟩).mono ?_; rintro e w2 ⟨rfl, hB⟩; obtain ⟨hc, hfz⟩ := bcell hB)
  go_ret
  exact ⟨rfl, ((Below.refl _ _).alloc (Nat.le_refl _) _).trans (hB.mono (by simp))⟩
theorem alone_big1 (f n d : Int) (w : World) (h1 : 0 ≤ f) (h2 : 1 ≤ n) (h3 : n ≤ 64 - f) (_ : 1 ≤ d) (hd2 : ¬ d ≤ 60) :
    Calls Try.prog 39 #[.agg #[.int .i64 f, .int .i64 n, .int .i64 d]] w fun e w' => e = .returned (.bool false) ∧ Below w.heap.size w w' := by
  have h4 : f + n ≤ 64 := by omega
  have h5 : n ≤ 64 := by omega
  have e1 : (d == 0) = false := by simp; omega
  go_enter Try.func39, Try.ntmps39
  go_wp2_with (go_at_call 78; refine (refWhole_yes _ _ _ ⟨h1, h2, h3⟩).mono ?_; rintro e w2 ⟨rfl, hB⟩; obtain ⟨hc, hfz⟩ := bcell hB)
  go_ret
  exact ⟨rfl, ((Below.refl _ _).alloc (Nat.le_refl _) _).trans (hB.mono (by simp))⟩
theorem alone_big2 (f n d : Int) (w : World) (h1 : 0 ≤ f) (h2 : 1 ≤ n) (h3 : n ≤ 64 - f) (hd : 1 ≤ d) (hd2 : d ≤ 60) (hd3 : ¬ n ≤ 60) :
    Calls Try.prog 39 #[.agg #[.int .i64 f, .int .i64 n, .int .i64 d]] w fun e w' => e = .returned (.bool false) ∧ Below w.heap.size w w' := by
  have h4 : f + n ≤ 64 := by omega
  have h5 : n ≤ 64 := by omega
  have e1 : (d == 0) = false := by simp; omega
  go_enter Try.func39, Try.ntmps39
  go_wp2_with (go_at_call 78; refine (refWhole_yes _ _ _ ⟨h1, h2, h3⟩).mono ?_; rintro e w2 ⟨rfl, hB⟩; obtain ⟨hc, hfz⟩ := bcell hB)
  go_ret
  exact ⟨rfl, ((Below.refl _ _).alloc (Nat.le_refl _) _).trans (hB.mono (by simp))⟩
theorem alone_big3 (f n d : Int) (w : World) (h1 : 0 ≤ f) (h2 : 1 ≤ n) (h3 : n ≤ 64 - f) (hd : 1 ≤ d) (hd2 : d ≤ 60) (hd3 : n ≤ 60) (hd4 : ¬ d + n ≤ 61) :
    Calls Try.prog 39 #[.agg #[.int .i64 f, .int .i64 n, .int .i64 d]] w fun e w' => e = .returned (.bool false) ∧ Below w.heap.size w w' := by
  have h4 : f + n ≤ 64 := by omega
  have h5 : n ≤ 64 := by omega
  have e1 : (d == 0) = false := by simp; omega
  have e2 : decide (d + n ≤ 61) = false := by simp; omega
  clear hd4
  go_enter Try.func39, Try.ntmps39
  go_wp2_with (go_at_call 78; refine (refWhole_yes _ _ _ ⟨h1, h2, h3⟩).mono ?_; rintro e w2 ⟨rfl, hB⟩; obtain ⟨hc, hfz⟩ := bcell hB)
  go_ret
  exact ⟨rfl, ((Below.refl _ _).alloc (Nat.le_refl _) _).trans (hB.mono (by simp))⟩
theorem alone_neg (f n d : Int) (w : World) (h1 : 0 ≤ f) (h2 : 1 ≤ n) (h3 : n ≤ 64 - f) (hd : ¬ 0 ≤ d) :
    Calls Try.prog 39 #[.agg #[.int .i64 f, .int .i64 n, .int .i64 d]] w fun e w' => e = .returned (.bool false) ∧ Below w.heap.size w w' := by
  have h4 : f + n ≤ 64 := by omega
  have h5 : n ≤ 64 := by omega
  go_enter Try.func39, Try.ntmps39
  go_wp2_with (go_at_call 78; refine (refWhole_yes _ _ _ ⟨h1, h2, h3⟩).mono ?_; rintro e w2 ⟨rfl, hB⟩; obtain ⟨hc, hfz⟩ := bcell hB)
  go_ret
  exact ⟨rfl, ((Below.refl _ _).alloc (Nat.le_refl _) _).trans (hB.mono (by simp))⟩
theorem alone_span (f n d : Int) (w : World) (h : ¬ (0 ≤ f ∧ 1 ≤ n ∧ n ≤ 64 - f)) :
    Calls Try.prog 39 #[.agg #[.int .i64 f, .int .i64 n, .int .i64 d]] w fun e w' => e = .returned (.bool false) ∧ Below w.heap.size w w' := by
  have hh : Hid (¬ (0 ≤ f ∧ 1 ≤ n ∧ n ≤ 64 - f)) := h
  clear h
  go_enter Try.func39, Try.ntmps39
  go_wp2_with (go_at_call 78; refine (refWhole_no _ _ _ hh.out).mono ?_; rintro e w2 ⟨rfl, hB⟩; obtain ⟨hc, hfz⟩ := bcell hB)
  go_ret
  exact ⟨rfl, ((Below.refl _ _).alloc (Nat.le_refl _) _).trans (hB.mono (by simp))⟩
/-- The document's Alone of every extent. -/
theorem alone_any (f n d : Int) (w : World) :
    Calls Try.prog 39 #[.agg #[.int .i64 f, .int .i64 n, .int .i64 d]] w fun e w' => e = .returned (.bool (decide (Al (f, n, d)))) ∧ Below w.heap.size w w' := by
  by_cases h : 0 ≤ f ∧ 1 ≤ n ∧ n ≤ 64 - f
  · obtain ⟨h1, h2, h3⟩ := h
    by_cases hd : d = 0
    · rw [decide_eq_true (show Al (f, n, d) from ⟨h1, h2, h3, by simp only; omega, .inl hd⟩)]; exact alone_zero f n d w h1 h2 h3 hd
    · by_cases hd0 : 0 ≤ d
      · by_cases hd2 : d + n ≤ 61
        · rw [decide_eq_true (show Al (f, n, d) from ⟨h1, h2, h3, hd0, .inr hd2⟩)]; exact alone_pos f n d w h1 h2 h3 (by omega) hd2
        · by_cases hd3 : d ≤ 60
          · by_cases hn : n ≤ 60
            · rw [decide_eq_false (show ¬ Al (f, n, d) from fun g => by unfold Al at g; simp only at g; omega)]; exact alone_big3 f n d w h1 h2 h3 (by omega) hd3 hn hd2
            · rw [decide_eq_false (show ¬ Al (f, n, d) from fun g => by unfold Al at g; simp only at g; omega)]; exact alone_big2 f n d w h1 h2 h3 (by omega) hd3 hn
          · rw [decide_eq_false (show ¬ Al (f, n, d) from fun g => by unfold Al at g; simp only at g; omega)]; exact alone_big1 f n d w h1 h2 h3 (by omega) hd3
      · rw [decide_eq_false (show ¬ Al (f, n, d) from fun g => by unfold Al at g; simp only at g; omega)]; exact alone_neg f n d w h1 h2 h3 hd0
  · rw [decide_eq_false (show ¬ Al (f, n, d) from fun g => h ⟨g.1, g.2.1, g.2.2.1⟩)]; exact alone_span f n d w h
end Go.Proofs.Ytnboajhcjgcpfaa
