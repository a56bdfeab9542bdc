/-
  No cell of these rows narrows 'for every input' (looked for: loops, veiled, ifaces, maps, wideKeys, modest, calm, conditions, laid).
  DERIVED. THE GIVEN ROWS OF THIS SEAT. 6 by the template 'for every input the law returns true; each argument reads behind the call as it read before'; 0 by the template 'total and deterministic' (their statements: YtgigpohfkppplaaTotals.lean).
  GIVEN WITH THE SEED: the statements are not yours to turn. If you find one false, say at which input.
  Laid BY PROGRAM, IN A SANDBOX (cutbox-rows.mjs): the forced cells as the released guide's own fill.sh prints them over the translation f7c93b30056a7daf… (all of the seat's roots in one cut). By AI agents, Wed Nov 11 2026. No macro, syntax, notation, axiom, sorry.
-/
import Derived.Test.YtgigpohfkppplaaChecked
import GoSem.Claim
import GoSem.ClaimJoined
import GoSem.ClaimMapViews
import Derived.JoinedTies
import Derived.KernelRfl
namespace Go.Proofs.Ytgigpohfkppplaa
/- THE CELL 'sum', in the pinned program and in every row, IS THE sha256 OF THE DUMP (.gsa) THAT YtgigpohfkppplaaProg.lean LOADS. Nothing in Lean hashes anything: it is a label: what it is worth is what the hold of that sum in a sandbox is worth. -/
noncomputable def Try.pinned : Pinned := { name := "ytgigpohfkppplaa", sum := "f7c93b30056a7daf7e79d4e5bc9b8d75217dc8f861ea1d95f95582d444321655", checked := Try.checked }
namespace Rows
def none {H : Type} : Left H := { results := [], args := [] }

/-- 'emulsionlaw15.LeafTells': WHATEVER THE INPUT: true; the input reads as it did. -/
def leafTellsSpec : ChangeSpec := { name := "leafTells", fn := fun _ => fun
  | [d1, d2, d3] => { results := [.lit (.bool true)], args := [d1, d2, d3] }
  | _ => none }
def leafTellsRow : OpenClaim := { program := "ytgigpohfkppplaa", sum := "f7c93b30056a7daf7e79d4e5bc9b8d75217dc8f861ea1d95f95582d444321655", func := "emulsion/emulsionlaw15.LeafTells", spec := "leafTells", apart := false }
def LeafTellsSaid : Prop := leafTellsRow.holds Try.pinned (OpenSpec.ofChange leafTellsSpec)

/-- ITS FALSE NEIGHBOUR: 'it returns false'. Refute it at one input. -/
def leafTellsWrong : ChangeSpec := { name := "leafTells", fn := fun _ => fun
  | [d1, d2, d3] => { results := [.lit (.bool false)], args := [d1, d2, d3] }
  | _ => none }
def LeafTellsWrongFalsely : Prop := leafTellsRow.holds Try.pinned (OpenSpec.ofChange leafTellsWrong)

/-- 'emulsionlaw15.LeafSlots': WHATEVER THE INPUT: true; the input reads as it did. -/
def leafSlotsSpec : ChangeSpec := { name := "leafSlots", fn := fun _ => fun
  | [d1, d2, d3] => { results := [.lit (.bool true)], args := [d1, d2, d3] }
  | _ => none }
def leafSlotsRow : OpenClaim := { program := "ytgigpohfkppplaa", sum := "f7c93b30056a7daf7e79d4e5bc9b8d75217dc8f861ea1d95f95582d444321655", func := "emulsion/emulsionlaw15.LeafSlots", spec := "leafSlots", apart := false }
def LeafSlotsSaid : Prop := leafSlotsRow.holds Try.pinned (OpenSpec.ofChange leafSlotsSpec)

/-- ITS FALSE NEIGHBOUR: 'it returns false'. Refute it at one input. -/
def leafSlotsWrong : ChangeSpec := { name := "leafSlots", fn := fun _ => fun
  | [d1, d2, d3] => { results := [.lit (.bool false)], args := [d1, d2, d3] }
  | _ => none }
def LeafSlotsWrongFalsely : Prop := leafSlotsRow.holds Try.pinned (OpenSpec.ofChange leafSlotsWrong)

/-- 'emulsionlaw15.LeafChanged': WHATEVER THE INPUT: true; the input reads as it did. -/
def leafChangedSpec : ChangeSpec := { name := "leafChanged", fn := fun _ => fun
  | [d1, d2, d3, d4] => { results := [.lit (.bool true)], args := [d1, d2, d3, d4] }
  | _ => none }
def leafChangedRow : OpenClaim := { program := "ytgigpohfkppplaa", sum := "f7c93b30056a7daf7e79d4e5bc9b8d75217dc8f861ea1d95f95582d444321655", func := "emulsion/emulsionlaw15.LeafChanged", spec := "leafChanged", apart := false }
def LeafChangedSaid : Prop := leafChangedRow.holds Try.pinned (OpenSpec.ofChange leafChangedSpec)

/-- ITS FALSE NEIGHBOUR: 'it returns false'. Refute it at one input. -/
def leafChangedWrong : ChangeSpec := { name := "leafChanged", fn := fun _ => fun
  | [d1, d2, d3, d4] => { results := [.lit (.bool false)], args := [d1, d2, d3, d4] }
  | _ => none }
def LeafChangedWrongFalsely : Prop := leafChangedRow.holds Try.pinned (OpenSpec.ofChange leafChangedWrong)

/-- 'emulsionlaw15.LeafBack': WHATEVER THE INPUT: true; the input reads as it did. -/
def leafBackSpec : ChangeSpec := { name := "leafBack", fn := fun _ => fun
  | [d] => { results := [.lit (.bool true)], args := [d] }
  | _ => none }
def leafBackRow : OpenClaim := { program := "ytgigpohfkppplaa", sum := "f7c93b30056a7daf7e79d4e5bc9b8d75217dc8f861ea1d95f95582d444321655", func := "emulsion/emulsionlaw15.LeafBack", spec := "leafBack", apart := false }
def LeafBackSaid : Prop := leafBackRow.holds Try.pinned (OpenSpec.ofChange leafBackSpec)

/-- ITS FALSE NEIGHBOUR: 'it returns false'. Refute it at one input. -/
def leafBackWrong : ChangeSpec := { name := "leafBack", fn := fun _ => fun
  | [d] => { results := [.lit (.bool false)], args := [d] }
  | _ => none }
def LeafBackWrongFalsely : Prop := leafBackRow.holds Try.pinned (OpenSpec.ofChange leafBackWrong)

/-- 'emulsionlaw15.LeafApart': WHATEVER THE INPUT: true; the input reads as it did. -/
def leafApartSpec : ChangeSpec := { name := "leafApart", fn := fun _ => fun
  | [d1, d2] => { results := [.lit (.bool true)], args := [d1, d2] }
  | _ => none }
def leafApartRow : OpenClaim := { program := "ytgigpohfkppplaa", sum := "f7c93b30056a7daf7e79d4e5bc9b8d75217dc8f861ea1d95f95582d444321655", func := "emulsion/emulsionlaw15.LeafApart", spec := "leafApart", apart := false }
def LeafApartSaid : Prop := leafApartRow.holds Try.pinned (OpenSpec.ofChange leafApartSpec)

/-- ITS FALSE NEIGHBOUR: 'it returns false'. Refute it at one input. -/
def leafApartWrong : ChangeSpec := { name := "leafApart", fn := fun _ => fun
  | [d1, d2] => { results := [.lit (.bool false)], args := [d1, d2] }
  | _ => none }
def LeafApartWrongFalsely : Prop := leafApartRow.holds Try.pinned (OpenSpec.ofChange leafApartWrong)

/-- 'emulsionlaw15.LeafParts': WHATEVER THE INPUT: true; the input reads as it did. -/
def leafPartsSpec : ChangeSpec := { name := "leafParts", fn := fun _ => fun
  | [d] => { results := [.lit (.bool true)], args := [d] }
  | _ => none }
def leafPartsRow : OpenClaim := { program := "ytgigpohfkppplaa", sum := "f7c93b30056a7daf7e79d4e5bc9b8d75217dc8f861ea1d95f95582d444321655", func := "emulsion/emulsionlaw15.LeafParts", spec := "leafParts", apart := false }
def LeafPartsSaid : Prop := leafPartsRow.holds Try.pinned (OpenSpec.ofChange leafPartsSpec)

/-- ITS FALSE NEIGHBOUR: 'it returns false'. Refute it at one input. -/
def leafPartsWrong : ChangeSpec := { name := "leafParts", fn := fun _ => fun
  | [d] => { results := [.lit (.bool false)], args := [d] }
  | _ => none }
def LeafPartsWrongFalsely : Prop := leafPartsRow.holds Try.pinned (OpenSpec.ofChange leafPartsWrong)

/- THE SECOND FORM. 'bulk': how many values and letters a reading holds, each counted each time it is reached (what is shared counts as often as it is met; a slice's spare places count too). A statement '..UptoSaid' is the law's where the arguments, and the package variables that the reading takes, are together of bulk at most 1048576: NARROWER than '..Said'. Prove '..Said' where nothing that the law and all that it calls make is longer than what came in: it says more and counts as full. Else prove '..UptoSaid'. A law counts once. -/
mutual
def uptoBulk {H : Type} : DataW H → Nat
  | .lit (.string bytes) => bytes.length + 1
  | .lit _ => 1
  | .nil => 1
  | .ptr d => uptoBulk d + 1
  | .slice elems spare => uptoBulkAll elems + uptoBulkAll spare + 1
  | .agg parts => uptoBulkAll parts + 1
  | .iface _ d => uptoBulk d + 1
  | .map entries => uptoBulkEntries entries + 1
  | .held _ => 1
def uptoBulkAll {H : Type} : List (DataW H) → Nat
  | [] => 0
  | d :: r => uptoBulk d + uptoBulkAll r
def uptoBulkEntries {H : Type} : List (Lit × DataW H) → Nat
  | [] => 0
  | x :: r => uptoBulkEntry x + uptoBulkEntries r
def uptoBulkEntry {H : Type} : Lit × DataW H → Nat
  | (.string bytes, d) => bytes.length + uptoBulk d + 1
  | (_, d) => uptoBulk d + 1
 end
def uptoSmall : (H : Type) → List (DataW H) → Bool := fun _ ds => decide (uptoBulkAll ds ≤ 1048576)
def OpenSpec.upto (s : _root_.Go.ChangeSpec) : _root_.Go.OpenSpec := { _root_.Go.OpenSpec.ofChange s with cond := some uptoSmall }

/-- 'emulsionlaw15.LeafTells', WHERE WHAT IT READS IS OF BULK AT MOST 1048576: true; the input reads as it did. -/
def leafTellsUptoRow : OpenClaim := { program := "ytgigpohfkppplaa", sum := "f7c93b30056a7daf7e79d4e5bc9b8d75217dc8f861ea1d95f95582d444321655", func := "emulsion/emulsionlaw15.LeafTells", spec := "leafTells", apart := false, narrowed := true }
def LeafTellsUptoSaid : Prop := leafTellsUptoRow.holds Try.pinned (OpenSpec.upto leafTellsSpec)

/-- 'emulsionlaw15.LeafSlots', WHERE WHAT IT READS IS OF BULK AT MOST 1048576: true; the input reads as it did. -/
def leafSlotsUptoRow : OpenClaim := { program := "ytgigpohfkppplaa", sum := "f7c93b30056a7daf7e79d4e5bc9b8d75217dc8f861ea1d95f95582d444321655", func := "emulsion/emulsionlaw15.LeafSlots", spec := "leafSlots", apart := false, narrowed := true }
def LeafSlotsUptoSaid : Prop := leafSlotsUptoRow.holds Try.pinned (OpenSpec.upto leafSlotsSpec)

/-- 'emulsionlaw15.LeafChanged', WHERE WHAT IT READS IS OF BULK AT MOST 1048576: true; the input reads as it did. -/
def leafChangedUptoRow : OpenClaim := { program := "ytgigpohfkppplaa", sum := "f7c93b30056a7daf7e79d4e5bc9b8d75217dc8f861ea1d95f95582d444321655", func := "emulsion/emulsionlaw15.LeafChanged", spec := "leafChanged", apart := false, narrowed := true }
def LeafChangedUptoSaid : Prop := leafChangedUptoRow.holds Try.pinned (OpenSpec.upto leafChangedSpec)

/-- 'emulsionlaw15.LeafBack', WHERE WHAT IT READS IS OF BULK AT MOST 1048576: true; the input reads as it did. -/
def leafBackUptoRow : OpenClaim := { program := "ytgigpohfkppplaa", sum := "f7c93b30056a7daf7e79d4e5bc9b8d75217dc8f861ea1d95f95582d444321655", func := "emulsion/emulsionlaw15.LeafBack", spec := "leafBack", apart := false, narrowed := true }
def LeafBackUptoSaid : Prop := leafBackUptoRow.holds Try.pinned (OpenSpec.upto leafBackSpec)

/-- 'emulsionlaw15.LeafApart', WHERE WHAT IT READS IS OF BULK AT MOST 1048576: true; the input reads as it did. -/
def leafApartUptoRow : OpenClaim := { program := "ytgigpohfkppplaa", sum := "f7c93b30056a7daf7e79d4e5bc9b8d75217dc8f861ea1d95f95582d444321655", func := "emulsion/emulsionlaw15.LeafApart", spec := "leafApart", apart := false, narrowed := true }
def LeafApartUptoSaid : Prop := leafApartUptoRow.holds Try.pinned (OpenSpec.upto leafApartSpec)

/-- 'emulsionlaw15.LeafParts', WHERE WHAT IT READS IS OF BULK AT MOST 1048576: true; the input reads as it did. -/
def leafPartsUptoRow : OpenClaim := { program := "ytgigpohfkppplaa", sum := "f7c93b30056a7daf7e79d4e5bc9b8d75217dc8f861ea1d95f95582d444321655", func := "emulsion/emulsionlaw15.LeafParts", spec := "leafParts", apart := false, narrowed := true }
def LeafPartsUptoSaid : Prop := leafPartsUptoRow.holds Try.pinned (OpenSpec.upto leafPartsSpec)

end Rows
end Go.Proofs.Ytgigpohfkppplaa
