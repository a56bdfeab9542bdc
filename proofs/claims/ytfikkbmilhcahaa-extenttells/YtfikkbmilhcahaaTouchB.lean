/-
  The contract of span.Touch of two whole spans of which the first does not begin behind the other's end: whether the other does not begin behind its end; nothing that was there is written.
-/
import Derived.Test.YtfikkbmilhcahaaMeet
namespace Go.Proofs.Ytfikkbmilhcahaa
open Go.ChangeShapes Go.WideShapes Go.ChangeAt Go.RowKit
attribute [local go_sem ↓] Go.wp_at_zero Go.wp_at_succ

theorem below2 {w w1 : World} {o1 o2 : Obj} (hb : Below ((w.alloc o1).alloc o2).heap.size ((w.alloc o1).alloc o2) w1) : Below w.heap.size w w1 := by
  refine Below.trans ?_ (hb.mono (by simp; omega))
  exact ((Below.refl _ _).alloc (Nat.le_refl _) _).alloc (by simp) _

theorem cells2 {w w2 : World} {f n g m : Value} (hb : Below ((w.alloc (.cells #[f, n] 26)).alloc (.cells #[g, m] 26)).heap.size ((w.alloc (.cells #[f, n] 26)).alloc (.cells #[g, m] 26)) w2) :
    w.heap.size + 1 < w2.heap.size ∧ w2.cell? ⟨w.heap.size, 0, none⟩ = some f ∧ w2.cell? ⟨w.heap.size, 1, none⟩ = some n ∧ w2.cell? ⟨w.heap.size + 1, 0, none⟩ = some g ∧ w2.cell? ⟨w.heap.size + 1, 1, none⟩ = some m := by
  obtain ⟨hc, hfz⟩ := bcell hb
  refine ⟨by have := hb.size; simp at this; omega, ?_, ?_, ?_, ?_⟩
  · rw [hc w.heap.size 0 (by simp; omega)]; simp [go_sem]
  · rw [hc w.heap.size 1 (by simp; omega)]; simp [go_sem]
  · rw [hc (w.heap.size + 1) 0 (by simp)]; simp [go_sem]
  · rw [hc (w.heap.size + 1) 1 (by simp)]; simp [go_sem]

theorem touch_yes (f n g m : Int) (w : World) (h1 : 0 ≤ f) (h2 : 1 ≤ n) (h3 : n ≤ 64 - f) (k1 : 0 ≤ g) (k2 : 1 ≤ m) (k3 : m ≤ 64 - g) (t1 : f ≤ g + m) :
    Calls Try.prog 46 #[.agg #[.int .i64 f, .int .i64 n], .agg #[.int .i64 g, .int .i64 m]] w fun e w' => e = .returned (.bool (decide (g ≤ f + n))) ∧ Below w.heap.size w w' := by
  go_enter Try.func46, Try.ntmps46
  go_wp2_with fail
  generalize hw2 : (w.alloc (Obj.cells #[Value.int IntKind.i64 f, Value.int IntKind.i64 n] 26)).alloc (Obj.cells #[Value.int IntKind.i64 g, Value.int IntKind.i64 m] 26) = w2
  have hb0 : Below ((w.alloc (Obj.cells #[Value.int IntKind.i64 f, Value.int IntKind.i64 n] 26)).alloc (Obj.cells #[Value.int IntKind.i64 g, Value.int IntKind.i64 m] 26)).heap.size ((w.alloc (Obj.cells #[Value.int IntKind.i64 f, Value.int IntKind.i64 n] 26)).alloc (Obj.cells #[Value.int IntKind.i64 g, Value.int IntKind.i64 m] 26)) w2 := by rw [hw2]; exact Below.refl _ _
  clear hw2
  obtain ⟨hz2, a0, a1, b0, b1⟩ := cells2 hb0
  have hB : Below w.heap.size w w2 := below2 hb0
  clear hb0
  go_region_held3 (fun w' => w'.cell? ⟨w.heap.size, 0, none⟩ = some (.int .i64 f) ∧ w'.cell? ⟨w.heap.size, 1, none⟩ = some (.int .i64 n) ∧ w'.cell? ⟨w.heap.size + 1, 0, none⟩ = some (.int .i64 g) ∧ w'.cell? ⟨w.heap.size + 1, 1, none⟩ = some (.int .i64 m) ∧ Below w2.heap.size w2 w')
    (first
      | exact ⟨a0, a1, b0, b1, (Below.refl _ _).drew⟩
      | exact keep2 (by omega) a0 a1 b0 b1 (below_step (below_step (below_step (below_drew hb3) hb4) hb5) hb6)
      | exact keep2 (by omega) a0 a1 b0 b1 (below_step (below_step (below_drew hb3) hb4) hb5)
      | exact keep2 (by omega) a0 a1 b0 b1 (below_step (below_drew hb3) hb4)
      | exact keep2 (by omega) a0 a1 b0 b1 (below_drew hb3))
    (first
      | (go_at_call_of 80 (Value.agg #[.int .i64 f, .int .i64 n]); refine (whole_yes _ _ _ ⟨h1, h2, h3⟩).mono ?_; rintro e w3 ⟨rfl, hb3⟩)
      | (go_at_call_of 80 (Value.agg #[.int .i64 g, .int .i64 m]); refine (whole_yes _ _ _ ⟨k1, k2, k3⟩).mono ?_; rintro e w4 ⟨rfl, hb4⟩)
      | (go_at_call_of 79 (Value.agg #[.int .i64 g, .int .i64 m]); refine (end_yes _ _ _ ⟨k1, k2, k3⟩).mono ?_; rintro e w5 ⟨rfl, hb5⟩)
      | (go_at_call_of 79 (Value.agg #[.int .i64 f, .int .i64 n]); refine (end_yes _ _ _ ⟨h1, h2, h3⟩).mono ?_; rintro e w6 ⟨rfl, hb6⟩))
  all_goals
    go_wp2
    go_ret
    exact ⟨rfl, below_step hB (below_step (below_step (below_step (below_drew hb3) hb4) hb5) hb6)⟩

end Go.Proofs.Ytfikkbmilhcahaa

namespace Go.Proofs.Ytfikkbmilhcahaa
open Go.ChangeShapes Go.WideShapes Go.ChangeAt Go.RowKit
attribute [local go_sem ↓] Go.wp_at_zero Go.wp_at_succ

theorem touch_a (f n g m : Int) (w : World) (hf : f ≤ 9223372036854775807) (h : ¬ (0 ≤ f ∧ 1 ≤ n ∧ n ≤ 64 - f)) :
    Calls Try.prog 46 #[.agg #[.int .i64 f, .int .i64 n], .agg #[.int .i64 g, .int .i64 m]] w fun e w' => e = .returned (.bool false) ∧ Below w.heap.size w w' := by
  have hh : Hid (¬ (0 ≤ f ∧ 1 ≤ n ∧ n ≤ 64 - f)) := h
  clear h
  go_enter Try.func46, Try.ntmps46
  go_wp2_with fail
  generalize hw2 : (w.alloc (Obj.cells #[Value.int IntKind.i64 f, Value.int IntKind.i64 n] 26)).alloc (Obj.cells #[Value.int IntKind.i64 g, Value.int IntKind.i64 m] 26) = w2
  have hb0 : Below ((w.alloc (Obj.cells #[Value.int IntKind.i64 f, Value.int IntKind.i64 n] 26)).alloc (Obj.cells #[Value.int IntKind.i64 g, Value.int IntKind.i64 m] 26)).heap.size ((w.alloc (Obj.cells #[Value.int IntKind.i64 f, Value.int IntKind.i64 n] 26)).alloc (Obj.cells #[Value.int IntKind.i64 g, Value.int IntKind.i64 m] 26)) w2 := by rw [hw2]; exact Below.refl _ _
  clear hw2
  obtain ⟨hz2, a0, a1, b0, b1⟩ := cells2 hb0
  have hB : Below w.heap.size w w2 := below2 hb0
  clear hb0
  refine wp_region_any (by kernel_rfl) ?_
  change wpAny _ _ _ _ _ _ _ (World.drew _)
  refine wpAny_ready (rs := [0]) (by kernel_rfl) (by simp) ?_
  refine AllReady.cons rfl (fun K hK => ?_) AllReady.nil
  go_simp
  refine hK _ _ ?_; clear hK K
  refine wpAny_ready (rs := [1]) (by kernel_rfl) (by simp) ?_
  refine AllReady.cons rfl (fun K hK => ?_) AllReady.nil
  go_simp
  refine (whole_no _ _ _ hf hh.out).mono ?_; rintro e w3 ⟨rfl, hb3⟩
  go_wp2_with fail
  refine wpAny_ready (rs := [2]) (by kernel_rfl) (by simp) ?_
  refine AllReady.cons rfl (fun K hK => ?_) AllReady.nil
  go_simp
  refine hK _ _ ?_; clear hK K
  refine wpAny_take (i := 3) rfl (by kernel_rfl) (by kernel_rfl) (by kernel_rfl) (fun _ _ _ h => h) (Or.inr ⟨by rfl, rfl⟩) ?_
  refine wpAny_take (i := 4) rfl (by kernel_rfl) (by kernel_rfl) (by kernel_rfl) (fun _ _ _ h => h) (Or.inr ⟨by rfl, rfl⟩) ?_
  refine wpAny_ready (rs := [5]) (by kernel_rfl) (by simp) ?_
  refine AllReady.cons rfl (fun K hK => ?_) AllReady.nil
  go_simp
  refine hK _ _ ?_; clear hK K
  refine wpAny_ready (rs := [6]) (by kernel_rfl) (by simp) ?_
  refine AllReady.cons rfl (fun K hK => ?_) AllReady.nil
  go_simp
  refine hK _ _ ?_; clear hK K
  refine wpAny_take (i := 7) rfl (by kernel_rfl) (by kernel_rfl) (by kernel_rfl) (fun _ _ _ h => h) (Or.inr ⟨by rfl, rfl⟩) ?_
  refine wpAny_take (i := 8) rfl (by kernel_rfl) (by kernel_rfl) (by kernel_rfl) (fun _ _ _ h => h) (Or.inr ⟨by rfl, rfl⟩) ?_
  refine wpAny_take (i := 9) rfl (by kernel_rfl) (by kernel_rfl) (by kernel_rfl) (fun _ _ _ h => h) (Or.inr ⟨by rfl, rfl⟩) ?_
  refine wpAny_take (i := 10) rfl (by kernel_rfl) (by kernel_rfl) (by kernel_rfl) (fun _ _ _ h => h) (Or.inr ⟨by rfl, rfl⟩) ?_
  refine wpAny_take (i := 11) rfl (by kernel_rfl) (by kernel_rfl) (by kernel_rfl) (fun _ _ _ h => h) (Or.inr ⟨by rfl, rfl⟩) ?_
  refine wpAny_ready (rs := [12]) (by kernel_rfl) (by simp) ?_
  refine AllReady.cons rfl (fun K hK => ?_) AllReady.nil
  go_simp
  refine hK _ _ ?_; clear hK K
  refine wpAny_ready (rs := [13]) (by kernel_rfl) (by simp) ?_
  refine AllReady.cons rfl (fun K hK => ?_) AllReady.nil
  go_simp
  refine hK _ _ ?_; clear hK K
  refine wpAny_take (i := 14) rfl (by kernel_rfl) (by kernel_rfl) (by kernel_rfl) (fun _ _ _ h => h) (Or.inr ⟨by rfl, rfl⟩) ?_
  refine wpAny_take (i := 15) rfl (by kernel_rfl) (by kernel_rfl) (by kernel_rfl) (fun _ _ _ h => h) (Or.inr ⟨by rfl, rfl⟩) ?_
  refine wpAny_take (i := 16) rfl (by kernel_rfl) (by kernel_rfl) (by kernel_rfl) (fun _ _ _ h => h) (Or.inr ⟨by rfl, rfl⟩) ?_
  refine wpAny_take (i := 17) rfl (by kernel_rfl) (by kernel_rfl) (by kernel_rfl) (fun _ _ _ h => h) (Or.inr ⟨by rfl, rfl⟩) ?_
  refine wpAny_take (i := 18) rfl (by kernel_rfl) (by kernel_rfl) (by kernel_rfl) (fun _ _ _ h => h) (Or.inr ⟨by rfl, rfl⟩) ?_
  refine wpAny_ready (rs := [19]) (by kernel_rfl) (by simp) ?_
  refine AllReady.cons rfl (fun K hK => ?_) AllReady.nil
  go_simp
  refine hK _ _ ?_; clear hK K
  refine wpAny_ready (rs := [20]) (by kernel_rfl) (by simp) ?_
  refine AllReady.cons rfl (fun K hK => ?_) AllReady.nil
  go_simp
  refine hK _ _ ?_; clear hK K
  refine wpAny_done (by kernel_rfl) ?_ _
  go_wp2
  go_ret
  exact ⟨rfl, below_step hB (below_drew hb3)⟩

theorem touch_b (f n g m : Int) (w : World) (h1 : 0 ≤ f) (h2 : 1 ≤ n) (h3 : n ≤ 64 - f) (hg : g ≤ 9223372036854775807) (h : ¬ (0 ≤ g ∧ 1 ≤ m ∧ m ≤ 64 - g)) :
    Calls Try.prog 46 #[.agg #[.int .i64 f, .int .i64 n], .agg #[.int .i64 g, .int .i64 m]] w fun e w' => e = .returned (.bool false) ∧ Below w.heap.size w w' := by
  have hh : Hid (¬ (0 ≤ g ∧ 1 ≤ m ∧ m ≤ 64 - g)) := h
  clear h
  go_enter Try.func46, Try.ntmps46
  go_wp2_with fail
  generalize hw2 : (w.alloc (Obj.cells #[Value.int IntKind.i64 f, Value.int IntKind.i64 n] 26)).alloc (Obj.cells #[Value.int IntKind.i64 g, Value.int IntKind.i64 m] 26) = w2
  have hb0 : Below ((w.alloc (Obj.cells #[Value.int IntKind.i64 f, Value.int IntKind.i64 n] 26)).alloc (Obj.cells #[Value.int IntKind.i64 g, Value.int IntKind.i64 m] 26)).heap.size ((w.alloc (Obj.cells #[Value.int IntKind.i64 f, Value.int IntKind.i64 n] 26)).alloc (Obj.cells #[Value.int IntKind.i64 g, Value.int IntKind.i64 m] 26)) w2 := by rw [hw2]; exact Below.refl _ _
  clear hw2
  obtain ⟨hz2, a0, a1, b0, b1⟩ := cells2 hb0
  have hB : Below w.heap.size w w2 := below2 hb0
  clear hb0
  refine wp_region_any (by kernel_rfl) ?_
  change wpAny _ _ _ _ _ _ _ (World.drew _)
  refine wpAny_ready (rs := [0]) (by kernel_rfl) (by simp) ?_
  refine AllReady.cons rfl (fun K hK => ?_) AllReady.nil
  go_simp
  refine hK _ _ ?_; clear hK K
  refine wpAny_ready (rs := [1]) (by kernel_rfl) (by simp) ?_
  refine AllReady.cons rfl (fun K hK => ?_) AllReady.nil
  go_simp
  refine (whole_yes _ _ _ ⟨h1, h2, h3⟩).mono ?_; rintro e w3 ⟨rfl, hb3⟩; obtain ⟨c0, c1, c2, c3, _⟩ := keep2 (by omega) a0 a1 b0 b1 (below_drew hb3)
  go_wp2_with fail
  refine wpAny_ready (rs := [2]) (by kernel_rfl) (by simp) ?_
  refine AllReady.cons rfl (fun K hK => ?_) AllReady.nil
  go_simp
  refine hK _ _ ?_; clear hK K
  refine wpAny_ready (rs := [3]) (by kernel_rfl) (by simp) ?_
  refine AllReady.cons rfl (fun K hK => ?_) AllReady.nil
  go_simp
  refine hK _ _ ?_; clear hK K
  refine wpAny_ready (rs := [4]) (by kernel_rfl) (by simp) ?_
  refine AllReady.cons rfl (fun K hK => ?_) AllReady.nil
  go_simp
  refine (whole_no _ _ _ hg hh.out).mono ?_; rintro e w4 ⟨rfl, hb4⟩
  go_wp2_with fail
  refine wpAny_ready (rs := [5]) (by kernel_rfl) (by simp) ?_
  refine AllReady.cons rfl (fun K hK => ?_) AllReady.nil
  go_simp
  refine hK _ _ ?_; clear hK K
  refine wpAny_ready (rs := [6]) (by kernel_rfl) (by simp) ?_
  refine AllReady.cons rfl (fun K hK => ?_) AllReady.nil
  go_simp
  refine hK _ _ ?_; clear hK K
  refine wpAny_take (i := 7) rfl (by kernel_rfl) (by kernel_rfl) (by kernel_rfl) (fun _ _ _ h => h) (Or.inr ⟨by rfl, rfl⟩) ?_
  refine wpAny_take (i := 8) rfl (by kernel_rfl) (by kernel_rfl) (by kernel_rfl) (fun _ _ _ h => h) (Or.inr ⟨by rfl, rfl⟩) ?_
  refine wpAny_take (i := 9) rfl (by kernel_rfl) (by kernel_rfl) (by kernel_rfl) (fun _ _ _ h => h) (Or.inr ⟨by rfl, rfl⟩) ?_
  refine wpAny_take (i := 10) rfl (by kernel_rfl) (by kernel_rfl) (by kernel_rfl) (fun _ _ _ h => h) (Or.inr ⟨by rfl, rfl⟩) ?_
  refine wpAny_take (i := 11) rfl (by kernel_rfl) (by kernel_rfl) (by kernel_rfl) (fun _ _ _ h => h) (Or.inr ⟨by rfl, rfl⟩) ?_
  refine wpAny_ready (rs := [12]) (by kernel_rfl) (by simp) ?_
  refine AllReady.cons rfl (fun K hK => ?_) AllReady.nil
  go_simp
  refine hK _ _ ?_; clear hK K
  refine wpAny_ready (rs := [13]) (by kernel_rfl) (by simp) ?_
  refine AllReady.cons rfl (fun K hK => ?_) AllReady.nil
  go_simp
  refine hK _ _ ?_; clear hK K
  refine wpAny_take (i := 14) rfl (by kernel_rfl) (by kernel_rfl) (by kernel_rfl) (fun _ _ _ h => h) (Or.inr ⟨by rfl, rfl⟩) ?_
  refine wpAny_take (i := 15) rfl (by kernel_rfl) (by kernel_rfl) (by kernel_rfl) (fun _ _ _ h => h) (Or.inr ⟨by rfl, rfl⟩) ?_
  refine wpAny_take (i := 16) rfl (by kernel_rfl) (by kernel_rfl) (by kernel_rfl) (fun _ _ _ h => h) (Or.inr ⟨by rfl, rfl⟩) ?_
  refine wpAny_take (i := 17) rfl (by kernel_rfl) (by kernel_rfl) (by kernel_rfl) (fun _ _ _ h => h) (Or.inr ⟨by rfl, rfl⟩) ?_
  refine wpAny_take (i := 18) rfl (by kernel_rfl) (by kernel_rfl) (by kernel_rfl) (fun _ _ _ h => h) (Or.inr ⟨by rfl, rfl⟩) ?_
  refine wpAny_ready (rs := [19]) (by kernel_rfl) (by simp) ?_
  refine AllReady.cons rfl (fun K hK => ?_) AllReady.nil
  go_simp
  refine hK _ _ ?_; clear hK K
  refine wpAny_ready (rs := [20]) (by kernel_rfl) (by simp) ?_
  refine AllReady.cons rfl (fun K hK => ?_) AllReady.nil
  go_simp
  refine hK _ _ ?_; clear hK K
  refine wpAny_done (by kernel_rfl) ?_ _
  go_wp2
  go_ret
  exact ⟨rfl, below_step hB (below_step (below_drew hb3) hb4)⟩

theorem touch_c (f n g m : Int) (w : World) (h1 : 0 ≤ f) (h2 : 1 ≤ n) (h3 : n ≤ 64 - f) (k1 : 0 ≤ g) (k2 : 1 ≤ m) (k3 : m ≤ 64 - g) (t1 : g + m < f) :
    Calls Try.prog 46 #[.agg #[.int .i64 f, .int .i64 n], .agg #[.int .i64 g, .int .i64 m]] w fun e w' => e = .returned (.bool false) ∧ Below w.heap.size w w' := by
  have hd : decide (f ≤ g + m) = false := by simp; omega
  go_enter Try.func46, Try.ntmps46
  go_wp2_with fail
  generalize hw2 : (w.alloc (Obj.cells #[Value.int IntKind.i64 f, Value.int IntKind.i64 n] 26)).alloc (Obj.cells #[Value.int IntKind.i64 g, Value.int IntKind.i64 m] 26) = w2
  have hb0 : Below ((w.alloc (Obj.cells #[Value.int IntKind.i64 f, Value.int IntKind.i64 n] 26)).alloc (Obj.cells #[Value.int IntKind.i64 g, Value.int IntKind.i64 m] 26)).heap.size ((w.alloc (Obj.cells #[Value.int IntKind.i64 f, Value.int IntKind.i64 n] 26)).alloc (Obj.cells #[Value.int IntKind.i64 g, Value.int IntKind.i64 m] 26)) w2 := by rw [hw2]; exact Below.refl _ _
  clear hw2
  obtain ⟨hz2, a0, a1, b0, b1⟩ := cells2 hb0
  have hB : Below w.heap.size w w2 := below2 hb0
  clear hb0
  refine wp_region_held_drew (S := fun w' => w'.cell? ⟨w.heap.size, 0, none⟩ = some (.int .i64 f) ∧ w'.cell? ⟨w.heap.size, 1, none⟩ = some (.int .i64 n) ∧ w'.cell? ⟨w.heap.size + 1, 0, none⟩ = some (.int .i64 g) ∧ w'.cell? ⟨w.heap.size + 1, 1, none⟩ = some (.int .i64 m) ∧ Below w2.heap.size w2 w') (by kernel_rfl) (⟨a0, a1, b0, b1, (Below.refl _ _).drew⟩) (fun hHeld => ?_)
  refine wpAnyH_take (i := 0) (v := .agg #[.int .i64 f, .int .i64 n]) rfl (by kernel_rfl) (by kernel_rfl) (by kernel_rfl) (fun _ _ _ h => h) (Or.inl ⟨by rfl, fun w hSw => by obtain ⟨s0, s1, s2, s3, s4⟩ := hSw; go_simp⟩) hHeld ?_
  refine wpAnyH_ready (rs := [1]) (by kernel_rfl) (by simp) ?_
  refine AllReadyH.cons rfl (fun K hK => ?_) AllReadyH.nil
  go_simp
  refine (whole_yes _ _ _ ⟨h1, h2, h3⟩).mono ?_; rintro e w3 ⟨rfl, hb3⟩
  refine hK.out _ _ (keep2 (by omega) a0 a1 b0 b1 (below_drew hb3)) (fun hHeld => ?_); clear hK K
  refine wpAnyH_ready (rs := [2]) (by kernel_rfl) (by simp) ?_
  refine AllReadyH.cons rfl (fun K hK => ?_) AllReadyH.nil
  go_simp
  refine hK.out _ _ (hHeld) (fun hHeld => ?_); clear hK K
  refine wpAnyH_take (i := 3) (v := .agg #[.int .i64 g, .int .i64 m]) rfl (by kernel_rfl) (by kernel_rfl) (by kernel_rfl) (fun _ _ _ h => h) (Or.inl ⟨by rfl, fun w hSw => by obtain ⟨s0, s1, s2, s3, s4⟩ := hSw; go_simp⟩) hHeld ?_
  refine wpAnyH_ready (rs := [4]) (by kernel_rfl) (by simp) ?_
  refine AllReadyH.cons rfl (fun K hK => ?_) AllReadyH.nil
  go_simp
  refine (whole_yes _ _ _ ⟨k1, k2, k3⟩).mono ?_; rintro e w4 ⟨rfl, hb4⟩
  refine hK.out _ _ (keep2 (by omega) a0 a1 b0 b1 (below_step (below_drew hb3) hb4)) (fun hHeld => ?_); clear hK K
  refine wpAnyH_ready (rs := [5]) (by kernel_rfl) (by simp) ?_
  refine AllReadyH.cons rfl (fun K hK => ?_) AllReadyH.nil
  go_simp
  refine hK.out _ _ (hHeld) (fun hHeld => ?_); clear hK K
  refine wpAnyH_ready (rs := [6]) (by kernel_rfl) (by simp) ?_
  refine AllReadyH.cons rfl (fun K hK => ?_) AllReadyH.nil
  go_simp
  refine hK.out _ _ (hHeld) (fun hHeld => ?_); clear hK K
  refine wpAnyH_take (i := 7) (v := .pointer (some ⟨w.heap.size, 0, none⟩)) rfl (by kernel_rfl) (by kernel_rfl) (by kernel_rfl) (fun _ _ _ h => h) (Or.inl ⟨by rfl, fun w hSw => by obtain ⟨s0, s1, s2, s3, s4⟩ := hSw; go_simp⟩) hHeld ?_
  refine wpAnyH_take (i := 8) (v := .int .i64 f) rfl (by kernel_rfl) (by kernel_rfl) (by kernel_rfl) (fun _ _ _ h => h) (Or.inl ⟨by rfl, fun w hSw => by obtain ⟨s0, s1, s2, s3, s4⟩ := hSw; go_simp⟩) hHeld ?_
  refine wpAnyH_take (i := 9) (v := .agg #[.int .i64 g, .int .i64 m]) rfl (by kernel_rfl) (by kernel_rfl) (by kernel_rfl) (fun _ _ _ h => h) (Or.inl ⟨by rfl, fun w hSw => by obtain ⟨s0, s1, s2, s3, s4⟩ := hSw; go_simp⟩) hHeld ?_
  refine wpAnyH_ready (rs := [10]) (by kernel_rfl) (by simp) ?_
  refine AllReadyH.cons rfl (fun K hK => ?_) AllReadyH.nil
  go_simp
  refine (end_yes _ _ _ ⟨k1, k2, k3⟩).mono ?_; rintro e w5 ⟨rfl, hb5⟩
  refine hK.out _ _ (keep2 (by omega) a0 a1 b0 b1 (below_step (below_step (below_drew hb3) hb4) hb5)) (fun hHeld => ?_); clear hK K
  refine wpAnyH_ready (rs := [11]) (by kernel_rfl) (by simp) ?_
  refine AllReadyH.cons rfl (fun K hK => ?_) AllReadyH.nil
  go_simp
  refine hK.out _ _ (hHeld) (fun hHeld => ?_); clear hK K
  refine wpAnyH_ready (rs := [12]) (by kernel_rfl) (by simp) ?_
  refine AllReadyH.cons rfl (fun K hK => ?_) AllReadyH.nil
  go_simp
  refine hK.out _ _ (hHeld) (fun hHeld => ?_); clear hK K
  refine wpAnyH_ready (rs := [13]) (by kernel_rfl) (by simp) ?_
  refine AllReadyH.cons rfl (fun K hK => ?_) AllReadyH.nil
  go_simp
  refine hK.out _ _ (hHeld) (fun hHeld => ?_); clear hK K
  refine wpAnyH_take (i := 14) rfl (by kernel_rfl) (by kernel_rfl) (by kernel_rfl) (fun _ _ _ h => h) (Or.inr ⟨by rfl, rfl⟩) hHeld ?_
  refine wpAnyH_take (i := 15) rfl (by kernel_rfl) (by kernel_rfl) (by kernel_rfl) (fun _ _ _ h => h) (Or.inr ⟨by rfl, rfl⟩) hHeld ?_
  refine wpAnyH_take (i := 16) rfl (by kernel_rfl) (by kernel_rfl) (by kernel_rfl) (fun _ _ _ h => h) (Or.inr ⟨by rfl, rfl⟩) hHeld ?_
  refine wpAnyH_take (i := 17) rfl (by kernel_rfl) (by kernel_rfl) (by kernel_rfl) (fun _ _ _ h => h) (Or.inr ⟨by rfl, rfl⟩) hHeld ?_
  refine wpAnyH_take (i := 18) rfl (by kernel_rfl) (by kernel_rfl) (by kernel_rfl) (fun _ _ _ h => h) (Or.inr ⟨by rfl, rfl⟩) hHeld ?_
  refine wpAnyH_ready (rs := [19]) (by kernel_rfl) (by simp) ?_
  refine AllReadyH.cons rfl (fun K hK => ?_) AllReadyH.nil
  go_simp
  refine hK.out _ _ (hHeld) (fun hHeld => ?_); clear hK K
  refine wpAnyH_ready (rs := [20]) (by kernel_rfl) (by simp) ?_
  refine AllReadyH.cons rfl (fun K hK => ?_) AllReadyH.nil
  go_simp
  refine hK.out _ _ (hHeld) (fun hHeld => ?_); clear hK K
  refine wpAnyH_done (by kernel_rfl) ?_ _
  go_wp2
  go_ret
  exact ⟨rfl, below_step hB (below_step (below_step (below_drew hb3) hb4) hb5)⟩

end Go.Proofs.Ytfikkbmilhcahaa
