/-
  No cell of these rows narrows 'for every input' (looked for: loops, veiled, ifaces, maps, wideKeys, modest, calm, conditions, laid).
  DERIVED. THE GIVEN ROWS OF THIS SEAT. 5 by the template 'for every input the law returns true; each argument reads behind the call as it read before'; 0 by the template 'total and deterministic' (their statements: YtgephcacmakjhaaTotals.lean).
  GIVEN WITH THE SEED: the statements are not yours to turn. If you find one false, say at which input.
  Laid BY PROGRAM, IN A SANDBOX (cutbox-rows.mjs): the forced cells as the released guide's own fill.sh prints them over the translation 25919e770e51671f… (all of the seat's roots in one cut). By AI agents, Wed Nov 11 2026. No macro, syntax, notation, axiom, sorry.
-/
import Derived.Test.YtgephcacmakjhaaChecked
import GoSem.Claim
import GoSem.ClaimJoined
import GoSem.ClaimMapViews
import Derived.JoinedTies
import Derived.KernelRfl
namespace Go.Proofs.Ytgephcacmakjhaa
/- THE CELL 'sum', in the pinned program and in every row, IS THE sha256 OF THE DUMP (.gsa) THAT YtgephcacmakjhaaProg.lean LOADS. Nothing in Lean hashes anything: it is a label: what it is worth is what the hold of that sum in a sandbox is worth. -/
noncomputable def Try.pinned : Pinned := { name := "ytgephcacmakjhaa", sum := "25919e770e51671f80e348dfd8079ce071ca2c10022c7120850277dc8955afec", checked := Try.checked }
namespace Rows
def none {H : Type} : Left H := { results := [], args := [] }

/-- 'emulsionlaw12.TallyTells': WHATEVER THE INPUT: true; the input reads as it did. -/
def tallyTellsSpec : ChangeSpec := { name := "tallyTells", fn := fun _ => fun
  | [d1, d2] => { results := [.lit (.bool true)], args := [d1, d2] }
  | _ => none }
def tallyTellsRow : OpenClaim := { program := "ytgephcacmakjhaa", sum := "25919e770e51671f80e348dfd8079ce071ca2c10022c7120850277dc8955afec", func := "emulsion/emulsionlaw12.TallyTells", spec := "tallyTells", apart := false }
def TallyTellsSaid : Prop := tallyTellsRow.holds Try.pinned (OpenSpec.ofChange tallyTellsSpec)

/-- ITS FALSE NEIGHBOUR: 'it returns false'. Refute it at one input. -/
def tallyTellsWrong : ChangeSpec := { name := "tallyTells", fn := fun _ => fun
  | [d1, d2] => { results := [.lit (.bool false)], args := [d1, d2] }
  | _ => none }
def TallyTellsWrongFalsely : Prop := tallyTellsRow.holds Try.pinned (OpenSpec.ofChange tallyTellsWrong)

/-- 'emulsionlaw12.TallyChanged': WHATEVER THE INPUT: true; the input reads as it did. -/
def tallyChangedSpec : ChangeSpec := { name := "tallyChanged", fn := fun _ => fun
  | [d1, d2, d3] => { results := [.lit (.bool true)], args := [d1, d2, d3] }
  | _ => none }
def tallyChangedRow : OpenClaim := { program := "ytgephcacmakjhaa", sum := "25919e770e51671f80e348dfd8079ce071ca2c10022c7120850277dc8955afec", func := "emulsion/emulsionlaw12.TallyChanged", spec := "tallyChanged", apart := false }
def TallyChangedSaid : Prop := tallyChangedRow.holds Try.pinned (OpenSpec.ofChange tallyChangedSpec)

/-- ITS FALSE NEIGHBOUR: 'it returns false'. Refute it at one input. -/
def tallyChangedWrong : ChangeSpec := { name := "tallyChanged", fn := fun _ => fun
  | [d1, d2, d3] => { results := [.lit (.bool false)], args := [d1, d2, d3] }
  | _ => none }
def TallyChangedWrongFalsely : Prop := tallyChangedRow.holds Try.pinned (OpenSpec.ofChange tallyChangedWrong)

/-- 'emulsionlaw12.TallyParts': WHATEVER THE INPUT: true; the input reads as it did. -/
def tallyPartsSpec : ChangeSpec := { name := "tallyParts", fn := fun _ => fun
  | [d1, d2, d3] => { results := [.lit (.bool true)], args := [d1, d2, d3] }
  | _ => none }
def tallyPartsRow : OpenClaim := { program := "ytgephcacmakjhaa", sum := "25919e770e51671f80e348dfd8079ce071ca2c10022c7120850277dc8955afec", func := "emulsion/emulsionlaw12.TallyParts", spec := "tallyParts", apart := false }
def TallyPartsSaid : Prop := tallyPartsRow.holds Try.pinned (OpenSpec.ofChange tallyPartsSpec)

/-- ITS FALSE NEIGHBOUR: 'it returns false'. Refute it at one input. -/
def tallyPartsWrong : ChangeSpec := { name := "tallyParts", fn := fun _ => fun
  | [d1, d2, d3] => { results := [.lit (.bool false)], args := [d1, d2, d3] }
  | _ => none }
def TallyPartsWrongFalsely : Prop := tallyPartsRow.holds Try.pinned (OpenSpec.ofChange tallyPartsWrong)

/-- 'emulsionlaw12.TallySeals': WHATEVER THE INPUT: true; the input reads as it did. -/
def tallySealsSpec : ChangeSpec := { name := "tallySeals", fn := fun _ => fun
  | [d1, d2] => { results := [.lit (.bool true)], args := [d1, d2] }
  | _ => none }
def tallySealsRow : OpenClaim := { program := "ytgephcacmakjhaa", sum := "25919e770e51671f80e348dfd8079ce071ca2c10022c7120850277dc8955afec", func := "emulsion/emulsionlaw12.TallySeals", spec := "tallySeals", apart := false }
def TallySealsSaid : Prop := tallySealsRow.holds Try.pinned (OpenSpec.ofChange tallySealsSpec)

/-- ITS FALSE NEIGHBOUR: 'it returns false'. Refute it at one input. -/
def tallySealsWrong : ChangeSpec := { name := "tallySeals", fn := fun _ => fun
  | [d1, d2] => { results := [.lit (.bool false)], args := [d1, d2] }
  | _ => none }
def TallySealsWrongFalsely : Prop := tallySealsRow.holds Try.pinned (OpenSpec.ofChange tallySealsWrong)

/-- 'emulsionlaw12.TallyHalves': WHATEVER THE INPUT: true; the input reads as it did. -/
def tallyHalvesSpec : ChangeSpec := { name := "tallyHalves", fn := fun _ => fun
  | [d] => { results := [.lit (.bool true)], args := [d] }
  | _ => none }
def tallyHalvesRow : OpenClaim := { program := "ytgephcacmakjhaa", sum := "25919e770e51671f80e348dfd8079ce071ca2c10022c7120850277dc8955afec", func := "emulsion/emulsionlaw12.TallyHalves", spec := "tallyHalves", apart := false }
def TallyHalvesSaid : Prop := tallyHalvesRow.holds Try.pinned (OpenSpec.ofChange tallyHalvesSpec)

/-- ITS FALSE NEIGHBOUR: 'it returns false'. Refute it at one input. -/
def tallyHalvesWrong : ChangeSpec := { name := "tallyHalves", fn := fun _ => fun
  | [d] => { results := [.lit (.bool false)], args := [d] }
  | _ => none }
def TallyHalvesWrongFalsely : Prop := tallyHalvesRow.holds Try.pinned (OpenSpec.ofChange tallyHalvesWrong)

/- THE SECOND FORM. 'bulk': how many values and letters a reading holds, each counted each time it is reached (what is shared counts as often as it is met; a slice's spare places count too). A statement '..UptoSaid' is the law's where the arguments, and the package variables that the reading takes, are together of bulk at most 1048576: NARROWER than '..Said'. Prove '..Said' where nothing that the law and all that it calls make is longer than what came in: it says more and counts as full. Else prove '..UptoSaid'. A law counts once. -/
mutual
def uptoBulk {H : Type} : DataW H → Nat
  | .lit (.string bytes) => bytes.length + 1
  | .lit _ => 1
  | .nil => 1
  | .ptr d => uptoBulk d + 1
  | .slice elems spare => uptoBulkAll elems + uptoBulkAll spare + 1
  | .agg parts => uptoBulkAll parts + 1
  | .iface _ d => uptoBulk d + 1
  | .map entries => uptoBulkEntries entries + 1
  | .held _ => 1
def uptoBulkAll {H : Type} : List (DataW H) → Nat
  | [] => 0
  | d :: r => uptoBulk d + uptoBulkAll r
def uptoBulkEntries {H : Type} : List (Lit × DataW H) → Nat
  | [] => 0
  | x :: r => uptoBulkEntry x + uptoBulkEntries r
def uptoBulkEntry {H : Type} : Lit × DataW H → Nat
  | (.string bytes, d) => bytes.length + uptoBulk d + 1
  | (_, d) => uptoBulk d + 1
 end
def uptoSmall : (H : Type) → List (DataW H) → Bool := fun _ ds => decide (uptoBulkAll ds ≤ 1048576)
def OpenSpec.upto (s : _root_.Go.ChangeSpec) : _root_.Go.OpenSpec := { _root_.Go.OpenSpec.ofChange s with cond := some uptoSmall }

/-- 'emulsionlaw12.TallyTells', WHERE WHAT IT READS IS OF BULK AT MOST 1048576: true; the input reads as it did. -/
def tallyTellsUptoRow : OpenClaim := { program := "ytgephcacmakjhaa", sum := "25919e770e51671f80e348dfd8079ce071ca2c10022c7120850277dc8955afec", func := "emulsion/emulsionlaw12.TallyTells", spec := "tallyTells", apart := false, narrowed := true }
def TallyTellsUptoSaid : Prop := tallyTellsUptoRow.holds Try.pinned (OpenSpec.upto tallyTellsSpec)

/-- 'emulsionlaw12.TallyChanged', WHERE WHAT IT READS IS OF BULK AT MOST 1048576: true; the input reads as it did. -/
def tallyChangedUptoRow : OpenClaim := { program := "ytgephcacmakjhaa", sum := "25919e770e51671f80e348dfd8079ce071ca2c10022c7120850277dc8955afec", func := "emulsion/emulsionlaw12.TallyChanged", spec := "tallyChanged", apart := false, narrowed := true }
def TallyChangedUptoSaid : Prop := tallyChangedUptoRow.holds Try.pinned (OpenSpec.upto tallyChangedSpec)

/-- 'emulsionlaw12.TallyParts', WHERE WHAT IT READS IS OF BULK AT MOST 1048576: true; the input reads as it did. -/
def tallyPartsUptoRow : OpenClaim := { program := "ytgephcacmakjhaa", sum := "25919e770e51671f80e348dfd8079ce071ca2c10022c7120850277dc8955afec", func := "emulsion/emulsionlaw12.TallyParts", spec := "tallyParts", apart := false, narrowed := true }
def TallyPartsUptoSaid : Prop := tallyPartsUptoRow.holds Try.pinned (OpenSpec.upto tallyPartsSpec)

/-- 'emulsionlaw12.TallySeals', WHERE WHAT IT READS IS OF BULK AT MOST 1048576: true; the input reads as it did. -/
def tallySealsUptoRow : OpenClaim := { program := "ytgephcacmakjhaa", sum := "25919e770e51671f80e348dfd8079ce071ca2c10022c7120850277dc8955afec", func := "emulsion/emulsionlaw12.TallySeals", spec := "tallySeals", apart := false, narrowed := true }
def TallySealsUptoSaid : Prop := tallySealsUptoRow.holds Try.pinned (OpenSpec.upto tallySealsSpec)

/-- 'emulsionlaw12.TallyHalves', WHERE WHAT IT READS IS OF BULK AT MOST 1048576: true; the input reads as it did. -/
def tallyHalvesUptoRow : OpenClaim := { program := "ytgephcacmakjhaa", sum := "25919e770e51671f80e348dfd8079ce071ca2c10022c7120850277dc8955afec", func := "emulsion/emulsionlaw12.TallyHalves", spec := "tallyHalves", apart := false, narrowed := true }
def TallyHalvesUptoSaid : Prop := tallyHalvesUptoRow.holds Try.pinned (OpenSpec.upto tallyHalvesSpec)

end Rows
end Go.Proofs.Ytgephcacmakjhaa
