/-
  No cell of these rows narrows 'for every input' (looked for: loops, veiled, ifaces, maps, wideKeys, modest, calm, conditions, laid).
  DERIVED. THE GIVEN ROWS OF THIS SEAT. 5 by the template 'for every input the law returns true; each argument reads behind the call as it read before'; 0 by the template 'total and deterministic' (their statements: YtnboajhcjgcpfaaTotals.lean).
  GIVEN WITH THE SEED: the statements are not yours to turn. If you find one false, say at which input.
  Laid BY PROGRAM, IN A SANDBOX (cutbox-rows.mjs): the forced cells as the released guide's own fill.sh prints them over the translation ea52537078413ac9… (all of the seat's roots in one cut). By AI agents, Wed Nov 11 2026. No macro, syntax, notation, axiom, sorry.
-/
import Derived.Test.YtnboajhcjgcpfaaChecked
import GoSem.Claim
import GoSem.ClaimJoined
import GoSem.ClaimMapViews
import Derived.JoinedTies
import Derived.KernelRfl
namespace Go.Proofs.Ytnboajhcjgcpfaa
/- THE CELL 'sum', in the pinned program and in every row, IS THE sha256 OF THE DUMP (.gsa) THAT YtnboajhcjgcpfaaProg.lean LOADS. Nothing in Lean hashes anything: it is a label: what it is worth is what the hold of that sum in a sandbox is worth. -/
noncomputable def Try.pinned : Pinned := { name := "ytnboajhcjgcpfaa", sum := "ea52537078413ac963c09523787f6a8e24ae138f45bef20cb4bc0529fae6607b", checked := Try.checked }
namespace Rows
def none {H : Type} : Left H := { results := [], args := [] }

/-- 'emulsionlaw13.OctetsWrite': WHATEVER THE INPUT: true; the input reads as it did. -/
def octetsWriteSpec : ChangeSpec := { name := "octetsWrite", fn := fun _ => fun
  | [d] => { results := [.lit (.bool true)], args := [d] }
  | _ => none }
def octetsWriteRow : OpenClaim := { program := "ytnboajhcjgcpfaa", sum := "ea52537078413ac963c09523787f6a8e24ae138f45bef20cb4bc0529fae6607b", func := "emulsion/emulsionlaw13.OctetsWrite", spec := "octetsWrite", apart := false }
def OctetsWriteSaid : Prop := octetsWriteRow.holds Try.pinned (OpenSpec.ofChange octetsWriteSpec)

/-- ITS FALSE NEIGHBOUR: 'it returns false'. Refute it at one input. -/
def octetsWriteWrong : ChangeSpec := { name := "octetsWrite", fn := fun _ => fun
  | [d] => { results := [.lit (.bool false)], args := [d] }
  | _ => none }
def OctetsWriteWrongFalsely : Prop := octetsWriteRow.holds Try.pinned (OpenSpec.ofChange octetsWriteWrong)

/-- 'emulsionlaw13.OctetsRead': WHATEVER THE INPUT: true; the input reads as it did. -/
def octetsReadSpec : ChangeSpec := { name := "octetsRead", fn := fun _ => fun
  | [d1, d2] => { results := [.lit (.bool true)], args := [d1, d2] }
  | _ => none }
def octetsReadRow : OpenClaim := { program := "ytnboajhcjgcpfaa", sum := "ea52537078413ac963c09523787f6a8e24ae138f45bef20cb4bc0529fae6607b", func := "emulsion/emulsionlaw13.OctetsRead", spec := "octetsRead", apart := false }
def OctetsReadSaid : Prop := octetsReadRow.holds Try.pinned (OpenSpec.ofChange octetsReadSpec)

/-- ITS FALSE NEIGHBOUR: 'it returns false'. Refute it at one input. -/
def octetsReadWrong : ChangeSpec := { name := "octetsRead", fn := fun _ => fun
  | [d1, d2] => { results := [.lit (.bool false)], args := [d1, d2] }
  | _ => none }
def OctetsReadWrongFalsely : Prop := octetsReadRow.holds Try.pinned (OpenSpec.ofChange octetsReadWrong)

/-- 'emulsionlaw13.OctetsBack': WHATEVER THE INPUT: true; the input reads as it did. -/
def octetsBackSpec : ChangeSpec := { name := "octetsBack", fn := fun _ => fun
  | [d] => { results := [.lit (.bool true)], args := [d] }
  | _ => none }
def octetsBackRow : OpenClaim := { program := "ytnboajhcjgcpfaa", sum := "ea52537078413ac963c09523787f6a8e24ae138f45bef20cb4bc0529fae6607b", func := "emulsion/emulsionlaw13.OctetsBack", spec := "octetsBack", apart := false }
def OctetsBackSaid : Prop := octetsBackRow.holds Try.pinned (OpenSpec.ofChange octetsBackSpec)

/-- ITS FALSE NEIGHBOUR: 'it returns false'. Refute it at one input. -/
def octetsBackWrong : ChangeSpec := { name := "octetsBack", fn := fun _ => fun
  | [d] => { results := [.lit (.bool false)], args := [d] }
  | _ => none }
def OctetsBackWrongFalsely : Prop := octetsBackRow.holds Try.pinned (OpenSpec.ofChange octetsBackWrong)

/-- 'emulsionlaw13.OctetsNums': WHATEVER THE INPUT: true; the input reads as it did. -/
def octetsNumsSpec : ChangeSpec := { name := "octetsNums", fn := fun _ => fun
  | [d1, d2] => { results := [.lit (.bool true)], args := [d1, d2] }
  | _ => none }
def octetsNumsRow : OpenClaim := { program := "ytnboajhcjgcpfaa", sum := "ea52537078413ac963c09523787f6a8e24ae138f45bef20cb4bc0529fae6607b", func := "emulsion/emulsionlaw13.OctetsNums", spec := "octetsNums", apart := false }
def OctetsNumsSaid : Prop := octetsNumsRow.holds Try.pinned (OpenSpec.ofChange octetsNumsSpec)

/-- ITS FALSE NEIGHBOUR: 'it returns false'. Refute it at one input. -/
def octetsNumsWrong : ChangeSpec := { name := "octetsNums", fn := fun _ => fun
  | [d1, d2] => { results := [.lit (.bool false)], args := [d1, d2] }
  | _ => none }
def OctetsNumsWrongFalsely : Prop := octetsNumsRow.holds Try.pinned (OpenSpec.ofChange octetsNumsWrong)

/-- 'emulsionlaw13.OctetsShort': WHATEVER THE INPUT: true; the input reads as it did. -/
def octetsShortSpec : ChangeSpec := { name := "octetsShort", fn := fun _ => fun
  | [d1, d2, d3] => { results := [.lit (.bool true)], args := [d1, d2, d3] }
  | _ => none }
def octetsShortRow : OpenClaim := { program := "ytnboajhcjgcpfaa", sum := "ea52537078413ac963c09523787f6a8e24ae138f45bef20cb4bc0529fae6607b", func := "emulsion/emulsionlaw13.OctetsShort", spec := "octetsShort", apart := false }
def OctetsShortSaid : Prop := octetsShortRow.holds Try.pinned (OpenSpec.ofChange octetsShortSpec)

/-- ITS FALSE NEIGHBOUR: 'it returns false'. Refute it at one input. -/
def octetsShortWrong : ChangeSpec := { name := "octetsShort", fn := fun _ => fun
  | [d1, d2, d3] => { results := [.lit (.bool false)], args := [d1, d2, d3] }
  | _ => none }
def OctetsShortWrongFalsely : Prop := octetsShortRow.holds Try.pinned (OpenSpec.ofChange octetsShortWrong)

/- THE SECOND FORM. 'bulk': how many values and letters a reading holds, each counted each time it is reached (what is shared counts as often as it is met; a slice's spare places count too). A statement '..UptoSaid' is the law's where the arguments, and the package variables that the reading takes, are together of bulk at most 1048576: NARROWER than '..Said'. Prove '..Said' where nothing that the law and all that it calls make is longer than what came in: it says more and counts as full. Else prove '..UptoSaid'. A law counts once. -/
mutual
def uptoBulk {H : Type} : DataW H → Nat
  | .lit (.string bytes) => bytes.length + 1
  | .lit _ => 1
  | .nil => 1
  | .ptr d => uptoBulk d + 1
  | .slice elems spare => uptoBulkAll elems + uptoBulkAll spare + 1
  | .agg parts => uptoBulkAll parts + 1
  | .iface _ d => uptoBulk d + 1
  | .map entries => uptoBulkEntries entries + 1
  | .held _ => 1
def uptoBulkAll {H : Type} : List (DataW H) → Nat
  | [] => 0
  | d :: r => uptoBulk d + uptoBulkAll r
def uptoBulkEntries {H : Type} : List (Lit × DataW H) → Nat
  | [] => 0
  | x :: r => uptoBulkEntry x + uptoBulkEntries r
def uptoBulkEntry {H : Type} : Lit × DataW H → Nat
  | (.string bytes, d) => bytes.length + uptoBulk d + 1
  | (_, d) => uptoBulk d + 1
 end
def uptoSmall : (H : Type) → List (DataW H) → Bool := fun _ ds => decide (uptoBulkAll ds ≤ 1048576)
def OpenSpec.upto (s : _root_.Go.ChangeSpec) : _root_.Go.OpenSpec := { _root_.Go.OpenSpec.ofChange s with cond := some uptoSmall }

/-- 'emulsionlaw13.OctetsWrite', WHERE WHAT IT READS IS OF BULK AT MOST 1048576: true; the input reads as it did. -/
def octetsWriteUptoRow : OpenClaim := { program := "ytnboajhcjgcpfaa", sum := "ea52537078413ac963c09523787f6a8e24ae138f45bef20cb4bc0529fae6607b", func := "emulsion/emulsionlaw13.OctetsWrite", spec := "octetsWrite", apart := false, narrowed := true }
def OctetsWriteUptoSaid : Prop := octetsWriteUptoRow.holds Try.pinned (OpenSpec.upto octetsWriteSpec)

/-- 'emulsionlaw13.OctetsRead', WHERE WHAT IT READS IS OF BULK AT MOST 1048576: true; the input reads as it did. -/
def octetsReadUptoRow : OpenClaim := { program := "ytnboajhcjgcpfaa", sum := "ea52537078413ac963c09523787f6a8e24ae138f45bef20cb4bc0529fae6607b", func := "emulsion/emulsionlaw13.OctetsRead", spec := "octetsRead", apart := false, narrowed := true }
def OctetsReadUptoSaid : Prop := octetsReadUptoRow.holds Try.pinned (OpenSpec.upto octetsReadSpec)

/-- 'emulsionlaw13.OctetsBack', WHERE WHAT IT READS IS OF BULK AT MOST 1048576: true; the input reads as it did. -/
def octetsBackUptoRow : OpenClaim := { program := "ytnboajhcjgcpfaa", sum := "ea52537078413ac963c09523787f6a8e24ae138f45bef20cb4bc0529fae6607b", func := "emulsion/emulsionlaw13.OctetsBack", spec := "octetsBack", apart := false, narrowed := true }
def OctetsBackUptoSaid : Prop := octetsBackUptoRow.holds Try.pinned (OpenSpec.upto octetsBackSpec)

/-- 'emulsionlaw13.OctetsNums', WHERE WHAT IT READS IS OF BULK AT MOST 1048576: true; the input reads as it did. -/
def octetsNumsUptoRow : OpenClaim := { program := "ytnboajhcjgcpfaa", sum := "ea52537078413ac963c09523787f6a8e24ae138f45bef20cb4bc0529fae6607b", func := "emulsion/emulsionlaw13.OctetsNums", spec := "octetsNums", apart := false, narrowed := true }
def OctetsNumsUptoSaid : Prop := octetsNumsUptoRow.holds Try.pinned (OpenSpec.upto octetsNumsSpec)

/-- 'emulsionlaw13.OctetsShort', WHERE WHAT IT READS IS OF BULK AT MOST 1048576: true; the input reads as it did. -/
def octetsShortUptoRow : OpenClaim := { program := "ytnboajhcjgcpfaa", sum := "ea52537078413ac963c09523787f6a8e24ae138f45bef20cb4bc0529fae6607b", func := "emulsion/emulsionlaw13.OctetsShort", spec := "octetsShort", apart := false, narrowed := true }
def OctetsShortUptoSaid : Prop := octetsShortUptoRow.holds Try.pinned (OpenSpec.upto octetsShortSpec)

end Rows
end Go.Proofs.Ytnboajhcjgcpfaa
