/-
  The contract of emulsionlaw2.alive: true; nothing that was there is written.
-/
import Derived.Test.YtpdbnldbdmhhfaaCuts
import Derived.Test.YtpdbnldbdmhhfaaSame
namespace Go.Proofs.Ytpdbnldbdmhhfaa
open Go.ChangeShapes Go.WideShapes Go.ChangeAt Go.RowKit
attribute [local go_sem ↓] Go.wp_at_zero Go.wp_at_succ

theorem cells_two (w : World) (a b c d : Int) : Cells (w.alloc (.cells #[.int .i64 a, .int .i64 b, .int .i64 c, .int .i64 d] 49)) w.heap.size 0 [(a, b), (c, d)] := by
  intro i p hp
  match i, hp with
  | 0, hp => simp at hp; subst hp; simp [go_sem]
  | 1, hp => simp at hp; subst hp; simp [go_sem]
theorem cells_one (w : World) (a b : Int) : Cells (w.alloc (.cells #[.int .i64 a, .int .i64 b] 49)) w.heap.size 0 [(a, b)] := by
  intro i p hp
  match i, hp with
  | 0, hp => simp at hp; subst hp; simp [go_sem]

theorem But.belowAt {x B : Nat} {w w' : World} (h : But x w w') (hx : B ≤ x) (hB : B ≤ w.heap.size) : Below B w w' := ⟨h.os, h.tape, h.output, h.size, fun k hk => h.block k (by omega) (by omega)⟩
theorem fits2 : Fits [((0 : Int), (2 : Int)), (2, 3)] := by intro p hp; simp at hp; rcases hp with rfl | rfl <;> decide
theorem fits1 : Fits [((1 : Int), (1 : Int))] := by intro p hp; simp at hp; subst hp; decide
theorem put2 : putR [] [((0 : Int), (2 : Int)), (2, 3)] = [(0, 5)] := by decide
theorem cut1 : cutR [((0 : Int), (5 : Int))] [(1, 1)] = [(0, 1), (2, 3)] := by decide
theorem can1 : Canon [((0 : Int), (5 : Int))] := by simp [Canon, Wh]
theorem can2 : Canon [((0 : Int), (1 : Int)), (2, 3)] := by simp [Canon, Wh]

theorem alive_of (w : World) (g : Nat) (h : Row w (.slice (some ⟨g, 0, none⟩) 2 2) [(0, 2), (2, 3)]) :
    Calls Try.prog 10 #[.slice (some ⟨g, 0, none⟩) 2 2] w fun e w' => e = .returned (.pointer (some ⟨w.heap.size, 0, none⟩)) ∧ Hid (RObj w' w.heap.size [(0, 5)]) ∧ Below w.heap.size w w' := by
  have := of_any h fits2 (by decide)
  rwa [put2] at this
theorem alive_cut (w : World) (b g : Nat) (hb : RObj w b [(0, 5)]) (h : Row w (.slice (some ⟨g, 0, none⟩) 1 1) [(1, 1)]) :
    Calls Try.prog 15 #[.pointer (some ⟨b, 0, none⟩), .slice (some ⟨g, 0, none⟩) 1 1] w fun e w' => e = .returned (.int .i64 1) ∧ Hid (RObj w' b [(0, 1), (2, 3)]) ∧ But b w w' := by
  have := cut_any hb can1 h fits1 (by decide)
  rwa [cut1] at this
theorem alive_count (w : World) (b : Nat) (hb : RObj w b [(0, 1), (2, 3)]) :
    Calls Try.prog 23 #[.pointer (some ⟨b, 0, none⟩)] w fun e w' => e = .returned (.int .i64 4) ∧ Below w.heap.size w w' := count_any hb can2
theorem alive_all (w : World) (b : Nat) (hb : RObj w b [(0, 1), (2, 3)]) :
    Calls Try.prog 18 #[.pointer (some ⟨b, 0, none⟩)] w fun e w' => ∃ g c, e = .returned (.slice (some ⟨g, 0, none⟩) 2 c) ∧ w'.cell? ⟨g, 0, none⟩ = some (.int .i64 0) ∧ w'.cell? ⟨g, 1, none⟩ = some (.int .i64 1) ∧ w'.cell? ⟨g, 2, none⟩ = some (.int .i64 2) ∧ w'.cell? ⟨g, 3, none⟩ = some (.int .i64 3) ∧ Below w.heap.size w w' := by
  refine (all_any hb (by decide)).mono ?_
  rintro e w' ⟨v, rfl, ho, hb⟩
  rcases own_row ho with ⟨_, h⟩ | ⟨g, o, cap, rfl, _, hc⟩
  · cases h
  · have ho' : o = 0 := by
      rcases ho.2 with ⟨h, _⟩ | ⟨g, cap, cur, h, _⟩
      · cases h
      · cases h; rfl
    subst ho'
    have c0 := hc 0 _ rfl
    have c1 := hc 1 _ rfl
    simp only at c0 c1
    exact ⟨g, cap, rfl, by simpa using c0.1, by simpa using c0.2, by simpa using c1.1, by simpa using c1.2, hb⟩

set_option maxRecDepth 100000 in
theorem alive_any (w : World) : Calls Try.prog 8 #[] w fun e w' => e = .returned (.bool true) ∧ Below w.heap.size w w' := by
  have hba : Below w.heap.size w (w.alloc (.cells #[.int .i64 0, .int .i64 2, .int .i64 2, .int .i64 3] 49)) := (Below.refl _ _).alloc (Nat.le_refl _) _
  have hrow : Hid (Row (w.alloc (.cells #[.int .i64 0, .int .i64 2, .int .i64 2, .int .i64 3] 49)) (.slice (some ⟨w.heap.size, 0, none⟩) 2 2) [(0, 2), (2, 3)]) := .inr ⟨w.heap.size, 0, 2, rfl, by simp, cells_two w 0 2 2 3⟩
  go_enter Try.func8, Try.ntmps8
  go_wp2_with fail
  refine (alive_of _ _ hrow.out).mono ?_; rintro e w1 ⟨rfl, hr1, hb1⟩
  have hr1' : Hid (RObj w1 (w.heap.size + 1) [(0, 5)]) := Hid.intro (by have := hr1.out; simpa using this)
  have hB1 : Below w.heap.size w w1 := hba.trans (hb1.mono (by simp))
  have hz1 : w.heap.size + 1 < w1.heap.size := hr1'.out.lt
  clear hr1 hb1 hba hrow
  have hba2 : Below w1.heap.size w1 (w1.alloc (.cells #[.int .i64 1, .int .i64 1] 49)) := (Below.refl _ _).alloc (Nat.le_refl _) _
  have hrow2 : Hid (Row (w1.alloc (.cells #[.int .i64 1, .int .i64 1] 49)) (.slice (some ⟨w1.heap.size, 0, none⟩) 1 1) [(1, 1)]) := .inr ⟨w1.heap.size, 0, 1, rfl, by simp, cells_one w1 1 1⟩
  go_wp2_with fail
  refine (alive_cut _ _ _ (hr1'.out.below hba2) hrow2.out).mono ?_; rintro e w2 ⟨rfl, hr2, hb2⟩
  have hB2 : Below w.heap.size w w2 := hB1.trans (((But.of hba2).trans hb2).belowAt (by omega) hB1.size)
  clear hrow2 hba2 hb2 hr1' hB1
  go_wp2_with fail
  refine (alive_all _ _ hr2.out).mono ?_; rintro e w3 ⟨g, c, rfl, c0, c1, c2, c3, hb3⟩
  have hr3 : Hid (RObj w3 (w.heap.size + 1) [(0, 1), (2, 3)]) := hr2.out.below hb3
  have hB3 := below_step hB2 hb3
  clear hB2 hb3 hr2
  go_wp2_with fail
  refine (alive_count _ _ hr3.out).mono ?_; rintro e w4 ⟨rfl, hb4⟩
  go_wp2
  go_ret
  exact ⟨rfl, below_step hB3 hb4⟩
end Go.Proofs.Ytpdbnldbdmhhfaa
