/-
  No cell of these rows narrows 'for every input' (looked for: loops, veiled, ifaces, maps, wideKeys, modest, calm, conditions, laid).
  DERIVED. THE GIVEN ROWS OF THIS SEAT. 4 by the template 'for every input the law returns true; each argument reads behind the call as it read before'; 0 by the template 'total and deterministic' (their statements: YtjjfdkgnagfbcaaTotals.lean).
  GIVEN WITH THE SEED: the statements are not yours to turn. If you find one false, say at which input.
  Laid BY PROGRAM, IN A SANDBOX (cutbox-rows.mjs): the forced cells as the released guide's own fill.sh prints them over the translation bfc3a99995fc5f57… (all of the seat's roots in one cut). By AI agents, Wed Nov 11 2026. No macro, syntax, notation, axiom, sorry.
-/
import Derived.Test.YtjjfdkgnagfbcaaChecked
import GoSem.Claim
import GoSem.ClaimJoined
import GoSem.ClaimMapViews
import Derived.JoinedTies
import Derived.KernelRfl
namespace Go.Proofs.Ytjjfdkgnagfbcaa
/- THE CELL 'sum', in the pinned program and in every row, IS THE sha256 OF THE DUMP (.gsa) THAT YtjjfdkgnagfbcaaProg.lean LOADS. Nothing in Lean hashes anything: it is a label: what it is worth is what the hold of that sum in a sandbox is worth. -/
noncomputable def Try.pinned : Pinned := { name := "ytjjfdkgnagfbcaa", sum := "bfc3a99995fc5f571f5fe78475c422727ab13a9e465449c298ebb83e816addca", checked := Try.checked }
namespace Rows
def none {H : Type} : Left H := { results := [], args := [] }

/-- 'emulsionlaw14.PlatePlays': WHATEVER THE INPUT: true; the input reads as it did. -/
def platePlaysSpec : ChangeSpec := { name := "platePlays", fn := fun _ => fun
  | [d1, d2] => { results := [.lit (.bool true)], args := [d1, d2] }
  | _ => none }
def platePlaysRow : OpenClaim := { program := "ytjjfdkgnagfbcaa", sum := "bfc3a99995fc5f571f5fe78475c422727ab13a9e465449c298ebb83e816addca", func := "emulsion/emulsionlaw14.PlatePlays", spec := "platePlays", apart := false }
def PlatePlaysSaid : Prop := platePlaysRow.holds Try.pinned (OpenSpec.ofChange platePlaysSpec)

/-- ITS FALSE NEIGHBOUR: 'it returns false'. Refute it at one input. -/
def platePlaysWrong : ChangeSpec := { name := "platePlays", fn := fun _ => fun
  | [d1, d2] => { results := [.lit (.bool false)], args := [d1, d2] }
  | _ => none }
def PlatePlaysWrongFalsely : Prop := platePlaysRow.holds Try.pinned (OpenSpec.ofChange platePlaysWrong)

/-- 'emulsionlaw14.PlateLasts': WHATEVER THE INPUT: true; the input reads as it did. -/
def plateLastsSpec : ChangeSpec := { name := "plateLasts", fn := fun _ => fun
  | [d1, d2, d3] => { results := [.lit (.bool true)], args := [d1, d2, d3] }
  | _ => none }
def plateLastsRow : OpenClaim := { program := "ytjjfdkgnagfbcaa", sum := "bfc3a99995fc5f571f5fe78475c422727ab13a9e465449c298ebb83e816addca", func := "emulsion/emulsionlaw14.PlateLasts", spec := "plateLasts", apart := false }
def PlateLastsSaid : Prop := plateLastsRow.holds Try.pinned (OpenSpec.ofChange plateLastsSpec)

/-- ITS FALSE NEIGHBOUR: 'it returns false'. Refute it at one input. -/
def plateLastsWrong : ChangeSpec := { name := "plateLasts", fn := fun _ => fun
  | [d1, d2, d3] => { results := [.lit (.bool false)], args := [d1, d2, d3] }
  | _ => none }
def PlateLastsWrongFalsely : Prop := plateLastsRow.holds Try.pinned (OpenSpec.ofChange plateLastsWrong)

/-- 'emulsionlaw14.PlateSnags': WHATEVER THE INPUT: true; the input reads as it did. -/
def plateSnagsSpec : ChangeSpec := { name := "plateSnags", fn := fun _ => fun
  | [d1, d2] => { results := [.lit (.bool true)], args := [d1, d2] }
  | _ => none }
def plateSnagsRow : OpenClaim := { program := "ytjjfdkgnagfbcaa", sum := "bfc3a99995fc5f571f5fe78475c422727ab13a9e465449c298ebb83e816addca", func := "emulsion/emulsionlaw14.PlateSnags", spec := "plateSnags", apart := false }
def PlateSnagsSaid : Prop := plateSnagsRow.holds Try.pinned (OpenSpec.ofChange plateSnagsSpec)

/-- ITS FALSE NEIGHBOUR: 'it returns false'. Refute it at one input. -/
def plateSnagsWrong : ChangeSpec := { name := "plateSnags", fn := fun _ => fun
  | [d1, d2] => { results := [.lit (.bool false)], args := [d1, d2] }
  | _ => none }
def PlateSnagsWrongFalsely : Prop := plateSnagsRow.holds Try.pinned (OpenSpec.ofChange plateSnagsWrong)

/-- 'emulsionlaw14.PlateRots': WHATEVER THE INPUT: true; the input reads as it did. -/
def plateRotsSpec : ChangeSpec := { name := "plateRots", fn := fun _ => fun
  | [d1, d2, d3] => { results := [.lit (.bool true)], args := [d1, d2, d3] }
  | _ => none }
def plateRotsRow : OpenClaim := { program := "ytjjfdkgnagfbcaa", sum := "bfc3a99995fc5f571f5fe78475c422727ab13a9e465449c298ebb83e816addca", func := "emulsion/emulsionlaw14.PlateRots", spec := "plateRots", apart := false }
def PlateRotsSaid : Prop := plateRotsRow.holds Try.pinned (OpenSpec.ofChange plateRotsSpec)

/-- ITS FALSE NEIGHBOUR: 'it returns false'. Refute it at one input. -/
def plateRotsWrong : ChangeSpec := { name := "plateRots", fn := fun _ => fun
  | [d1, d2, d3] => { results := [.lit (.bool false)], args := [d1, d2, d3] }
  | _ => none }
def PlateRotsWrongFalsely : Prop := plateRotsRow.holds Try.pinned (OpenSpec.ofChange plateRotsWrong)

/- THE SECOND FORM. 'bulk': how many values and letters a reading holds, each counted each time it is reached (what is shared counts as often as it is met; a slice's spare places count too). A statement '..UptoSaid' is the law's where the arguments, and the package variables that the reading takes, are together of bulk at most 1048576: NARROWER than '..Said'. Prove '..Said' where nothing that the law and all that it calls make is longer than what came in: it says more and counts as full. Else prove '..UptoSaid'. A law counts once. -/
mutual
def uptoBulk {H : Type} : DataW H → Nat
  | .lit (.string bytes) => bytes.length + 1
  | .lit _ => 1
  | .nil => 1
  | .ptr d => uptoBulk d + 1
  | .slice elems spare => uptoBulkAll elems + uptoBulkAll spare + 1
  | .agg parts => uptoBulkAll parts + 1
  | .iface _ d => uptoBulk d + 1
  | .map entries => uptoBulkEntries entries + 1
  | .held _ => 1
def uptoBulkAll {H : Type} : List (DataW H) → Nat
  | [] => 0
  | d :: r => uptoBulk d + uptoBulkAll r
def uptoBulkEntries {H : Type} : List (Lit × DataW H) → Nat
  | [] => 0
  | x :: r => uptoBulkEntry x + uptoBulkEntries r
def uptoBulkEntry {H : Type} : Lit × DataW H → Nat
  | (.string bytes, d) => bytes.length + uptoBulk d + 1
  | (_, d) => uptoBulk d + 1
 end
def uptoSmall : (H : Type) → List (DataW H) → Bool := fun _ ds => decide (uptoBulkAll ds ≤ 1048576)
def OpenSpec.upto (s : _root_.Go.ChangeSpec) : _root_.Go.OpenSpec := { _root_.Go.OpenSpec.ofChange s with cond := some uptoSmall }

/-- 'emulsionlaw14.PlatePlays', WHERE WHAT IT READS IS OF BULK AT MOST 1048576: true; the input reads as it did. -/
def platePlaysUptoRow : OpenClaim := { program := "ytjjfdkgnagfbcaa", sum := "bfc3a99995fc5f571f5fe78475c422727ab13a9e465449c298ebb83e816addca", func := "emulsion/emulsionlaw14.PlatePlays", spec := "platePlays", apart := false, narrowed := true }
def PlatePlaysUptoSaid : Prop := platePlaysUptoRow.holds Try.pinned (OpenSpec.upto platePlaysSpec)

/-- 'emulsionlaw14.PlateLasts', WHERE WHAT IT READS IS OF BULK AT MOST 1048576: true; the input reads as it did. -/
def plateLastsUptoRow : OpenClaim := { program := "ytjjfdkgnagfbcaa", sum := "bfc3a99995fc5f571f5fe78475c422727ab13a9e465449c298ebb83e816addca", func := "emulsion/emulsionlaw14.PlateLasts", spec := "plateLasts", apart := false, narrowed := true }
def PlateLastsUptoSaid : Prop := plateLastsUptoRow.holds Try.pinned (OpenSpec.upto plateLastsSpec)

/-- 'emulsionlaw14.PlateSnags', WHERE WHAT IT READS IS OF BULK AT MOST 1048576: true; the input reads as it did. -/
def plateSnagsUptoRow : OpenClaim := { program := "ytjjfdkgnagfbcaa", sum := "bfc3a99995fc5f571f5fe78475c422727ab13a9e465449c298ebb83e816addca", func := "emulsion/emulsionlaw14.PlateSnags", spec := "plateSnags", apart := false, narrowed := true }
def PlateSnagsUptoSaid : Prop := plateSnagsUptoRow.holds Try.pinned (OpenSpec.upto plateSnagsSpec)

/-- 'emulsionlaw14.PlateRots', WHERE WHAT IT READS IS OF BULK AT MOST 1048576: true; the input reads as it did. -/
def plateRotsUptoRow : OpenClaim := { program := "ytjjfdkgnagfbcaa", sum := "bfc3a99995fc5f571f5fe78475c422727ab13a9e465449c298ebb83e816addca", func := "emulsion/emulsionlaw14.PlateRots", spec := "plateRots", apart := false, narrowed := true }
def PlateRotsUptoSaid : Prop := plateRotsUptoRow.holds Try.pinned (OpenSpec.upto plateRotsSpec)

end Rows
end Go.Proofs.Ytjjfdkgnagfbcaa
