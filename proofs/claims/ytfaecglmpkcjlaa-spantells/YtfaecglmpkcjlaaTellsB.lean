/-
  Pieces of the translation of SpanTells; sets in memory.
-/
import Derived.Test.YtfaecglmpkcjlaaTellsA
namespace Go.Proofs.Ytfaecglmpkcjlaa
open Go.ChangeShapes Go.WideShapes Go.ChangeAt Go.RowKit
attribute [local go_sem ↓] Go.wp_at_zero Go.wp_at_succ


def findRegion (n : Nat) : Code → Option Code
  | .region id ops m => if id = n then some (.region id ops m) else none
  | .loop c => findRegion n c
  | .seq a b => match findRegion n a with
    | some c => some c
    | none => findRegion n b
  | .block _ c => findRegion n c
  | .scope c => findRegion n c
  | .cond _ a b => match findRegion n a with
    | some c => some c
    | none => findRegion n b
  | _ => none
def isTmp : Operand → Nat → Bool
  | .tmp k, n => k == n
  | _, _ => false
def findCond (n : Nat) : Code → Option Code
  | .cond c a b => if isTmp c n then some (.cond c a b) else match findCond n a with
    | some c => some c
    | none => findCond n b
  | .loop c => findCond n c
  | .seq a b => match findCond n a with
    | some c => some c
    | none => findCond n b
  | .block _ c => findCond n c
  | .scope c => findCond n c
  | _ => none
noncomputable def reg3 : Code := ((Try.f3.body.bind (findRegion 3)).getD .skip)
noncomputable def reg4 : Code := ((Try.f3.body.bind (findRegion 4)).getD .skip)
noncomputable def reg12 : Code := ((Try.f3.body.bind (findRegion 12)).getD .skip)
noncomputable def reg21 : Code := ((Try.f3.body.bind (findRegion 21)).getD .skip)
noncomputable def reg23 : Code := ((Try.f3.body.bind (findRegion 23)).getD .skip)
noncomputable def reg25 : Code := ((Try.f3.body.bind (findRegion 25)).getD .skip)
noncomputable def if19 : Code := ((Try.f3.body.bind (findCond 112)).getD .skip)

theorem Arr.zero (w : World) : Arr (w.alloc (.cells (List.replicate 64 (Value.bool false)).toArray 26)) w.heap.size [] := by
  refine ⟨⟨_, by have := heap_alloc_new w (.cells (List.replicate 64 (Value.bool false)).toArray 26); simpa using this, by simp⟩, ?_⟩
  rw [show bv (bitsOf []) = List.replicate 64 (Value.bool false) from by rw [bitsOf_nil]; simp [bv]]
  exact range_new
theorem Arr.butAt {w w' : World} {X Z : Nat} {ps : List Sp} (h : Arr w X ps) (hb : But Z w w') (hne : X ≠ Z) : Arr w' X ps := h.same (hb.block X h.lt hne)
theorem Box.here {w w' : World} {H : Nat} {x y : Value} (h : Box w H x y) (hb : Below w.heap.size w w') : Box w' H x y := h.below hb h.lt

/-- What a span is as a set. -/
theorem put_one (p : Sp) : putR [] [p] = if Wh p then [p] else [] := by
  simp only [putR, withG]; rfl
end Go.Proofs.Ytfaecglmpkcjlaa
