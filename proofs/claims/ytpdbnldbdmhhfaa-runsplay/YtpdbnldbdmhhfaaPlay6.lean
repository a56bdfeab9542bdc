/-
  RunsPlay's 'if', taken out of the translation.
-/
import Derived.Test.YtpdbnldbdmhhfaaPlay5
namespace Go.Proofs.Ytpdbnldbdmhhfaa
def isTmp : Operand → Nat → Bool
  | .tmp k, n => k == n
  | _, _ => false
def findCond (n : Nat) : Code → Option Code
  | .cond c a b => if isTmp c n then some (.cond c a b) else match findCond n a with
    | some c => some c
    | none => findCond n b
  | .loop c => findCond n c
  | .seq a b => match findCond n a with
    | some c => some c
    | none => findCond n b
  | .block _ c => findCond n c
  | .scope c => findCond n c
  | _ => none
noncomputable def if66 : Code := ((Try.f3.body.bind (findCond 66)).getD .skip)
end Go.Proofs.Ytpdbnldbdmhhfaa
