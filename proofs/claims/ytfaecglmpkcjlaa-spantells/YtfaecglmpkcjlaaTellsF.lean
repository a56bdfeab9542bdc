/-
  Helpers of the great test of SpanTells.
-/
import Derived.Test.YtfaecglmpkcjlaaTellsC
import Derived.Test.YtfaecglmpkcjlaaTellsE
namespace Go.Proofs.Ytfaecglmpkcjlaa
open Go.ChangeShapes Go.WideShapes Go.ChangeAt Go.RowKit
attribute [local go_sem ↓] Go.wp_at_zero Go.wp_at_succ


theorem s21 {wc w : World} {A Bb M J u : Nat} {f n g m mf mn jf jn : Value} {Bo : List Sp} (ba : Hid (Box wc A f n)) (bb : Hid (Box wc Bb g m)) (bm : Hid (Box wc M mf mn)) (bj : Hid (Box wc J jf jn)) (au : Hid (Arr wc u Bo)) (hb : Below wc.heap.size wc w) :
    w.cell? ⟨A, 0, none⟩ = some f ∧ w.cell? ⟨A, 1, none⟩ = some n ∧ w.cell? ⟨Bb, 0, none⟩ = some g ∧ w.cell? ⟨Bb, 1, none⟩ = some m ∧ w.cell? ⟨M, 0, none⟩ = some mf ∧ w.cell? ⟨M, 1, none⟩ = some mn ∧ w.cell? ⟨J, 0, none⟩ = some jf ∧ w.cell? ⟨J, 1, none⟩ = some jn ∧ w.rangeAt u 0 (bv (bitsOf Bo)) :=
  ⟨(ba.out.here hb).1, (ba.out.here hb).2.1, (bb.out.here hb).1, (bb.out.here hb).2.1, (bm.out.here hb).1, (bm.out.here hb).2.1, (bj.out.here hb).1, (bj.out.here hb).2.1, (au.out.below hb).2⟩
theorem row_new (w : World) (x y : Int) : Row (w.alloc (.cells #[.int .i64 x, .int .i64 y] 23)) (.slice (some ⟨w.heap.size, 0, none⟩) 1 1) [(x, y)] := by
  refine .inr ⟨w.heap.size, 0, 1, rfl, by simp, fun i p hp => ?_⟩
  match i, hp with
  | 0, hp => simp at hp; subst hp; simp [go_sem]
end Go.Proofs.Ytfaecglmpkcjlaa
